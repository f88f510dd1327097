/-
  Plain mathematics of layer 2: SHA-256 over lists of numbers. Nothing of the program stands here.
-/
import Derived.WalkKit
namespace Go.Proofs.YtajfmhiejipaoaaDoor.Sha

def M : Nat := 4294967296
def K : List Nat := [1116352408, 1899447441, 3049323471, 3921009573, 961987163, 1508970993, 2453635748, 2870763221, 3624381080, 310598401, 607225278, 1426881987, 1925078388, 2162078206, 2614888103, 3248222580, 3835390401, 4022224774, 264347078, 604807628, 770255983, 1249150122, 1555081692, 1996064986, 2554220882, 2821834349, 2952996808, 3210313671, 3336571891, 3584528711, 113926993, 338241895, 666307205, 773529912, 1294757372, 1396182291, 1695183700, 1986661051, 2177026350, 2456956037, 2730485921, 2820302411, 3259730800, 3345764771, 3516065817, 3600352804, 4094571909, 275423344, 430227734, 506948616, 659060556, 883997877, 958139571, 1322822218, 1537002063, 1747873779, 1955562222, 2024104815, 2227730452, 2361852424, 2428436474, 2756734187, 3204031479, 3329325298]
def H0 : List Nat := [1779033703, 3144134277, 1013904242, 2773480762, 1359893119, 2600822924, 528734635, 1541459225]
/-- rotated right -/
def rot (x n : Nat) : Nat := x / 2 ^ n ||| x * 2 ^ (32 - n) % M
def s0 (x : Nat) : Nat := rot x 7 ^^^ rot x 18 ^^^ x / 8
def s1 (x : Nat) : Nat := rot x 17 ^^^ rot x 19 ^^^ x / 1024
def e1 (x : Nat) : Nat := rot x 6 ^^^ rot x 11 ^^^ rot x 25
def e0 (x : Nat) : Nat := rot x 2 ^^^ rot x 13 ^^^ rot x 22
def ch (e f g : Nat) : Nat := (e &&& f) ^^^ ((M - 1 - e) &&& g)
def maj (a b c : Nat) : Nat := (a &&& b) ^^^ (a &&& c) ^^^ (b &&& c)
/-- the word at i -/
def at_ (l : List Nat) (i : Nat) : Nat := l.getD i 0
/-- the next word behind w -/
def next (w : List Nat) (i : Nat) : Nat := (at_ w (i - 16) + s0 (at_ w (i - 15)) + at_ w (i - 7) + s1 (at_ w (i - 2))) % M
def grow : Nat → List Nat → List Nat
  | 0, w => w
  | k + 1, w => grow k (w ++ [next w w.length])
/-- a word of four bytes -/
def word (b : List Nat) (i : Nat) : Nat := at_ b (4 * i) * 16777216 + at_ b (4 * i + 1) * 65536 + at_ b (4 * i + 2) * 256 + at_ b (4 * i + 3)
def words (b : List Nat) : List Nat := (List.range 16).map (word b)
def sched (b : List Nat) : List Nat := grow 48 (words b)
def t1 (v : List Nat) (k w : Nat) : Nat := (at_ v 7 + e1 (at_ v 4) + ch (at_ v 4) (at_ v 5) (at_ v 6) + k + w) % M
def t2 (v : List Nat) : Nat := (e0 (at_ v 0) + maj (at_ v 0) (at_ v 1) (at_ v 2)) % M
def rnd (v : List Nat) (k w : Nat) : List Nat :=
  [(t1 v k w + t2 v) % M, at_ v 0, at_ v 1, at_ v 2, (at_ v 3 + t1 v k w) % M, at_ v 4, at_ v 5, at_ v 6]
/-- the state after i rounds -/
def rnds (w : List Nat) (v : List Nat) : Nat → List Nat
  | 0 => v
  | i + 1 => rnd (rnds w v i) (at_ K i) (at_ w i)
def add8 (h v : List Nat) : List Nat := (List.range 8).map fun i => (at_ h i + at_ v i) % M
def block (h b : List Nat) : List Nat := add8 h (rnds (sched b) h 64)
/-- how many zero bytes are added to n bytes -/
def zeros (n : Nat) : Nat := (119 - n % 64) % 64
def be8 (n : Nat) : List Nat := (List.range 8).map fun i => n / 2 ^ (8 * (7 - i)) % 256
def pad (l : List Nat) : List Nat := l ++ [128] ++ List.replicate (zeros l.length) 0 ++ be8 (8 * l.length)
/-- all blocks, the first k -/
def blocks (h b : List Nat) : Nat → List Nat
  | 0 => h
  | k + 1 => block (blocks h b k) ((b.drop (64 * k)).take 64)
def bytes4 (x : Nat) : List Nat := [x / 16777216 % 256, x / 65536 % 256, x / 256 % 256, x % 256]
def out (h : List Nat) : List Nat := (List.range 8).flatMap fun i => bytes4 (at_ h i)
def sha (l : List Nat) : List Nat := out (blocks H0 (pad l) ((pad l).length / 64))

theorem sha_empty : sha [] = [227, 176, 196, 66, 152, 252, 28, 20, 154, 251, 244, 200, 153, 111, 185, 36, 39, 174, 65, 228, 100, 155, 147, 76, 164, 149, 153, 27, 120, 82, 184, 85] := by decide +kernel
theorem sha_abc : sha [97, 98, 99] = [186, 120, 22, 191, 143, 1, 207, 234, 65, 65, 64, 222, 93, 174, 34, 35, 176, 3, 97, 163, 150, 23, 122, 156, 180, 16, 255, 97, 242, 0, 21, 173] := by decide +kernel

end Go.Proofs.YtajfmhiejipaoaaDoor.Sha
