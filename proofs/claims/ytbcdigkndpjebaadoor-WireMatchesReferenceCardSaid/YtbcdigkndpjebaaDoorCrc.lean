/-
  Plain mathematics of layer 1: CRC-32C over lists of numbers: by half bytes with a table, bit by bit, linear, and what a short burst does. Nothing of the program stands here.
-/
import Derived.WalkKit
namespace Go.Proofs.YtbcdigkndpjebaaDoor.Crc

def P : Nat := 2197175160
def T : List Nat := [0, 274646895, 549293790, 820201905, 1098587580, 1361435347, 1640403810, 1905808397, 2197175160, 2460548119, 2722870694, 2987750089, 3280807620, 3553878443, 3811616794, 4084100981]
def tab (i : Nat) : Nat := T.getD i 0
/-- one bit -/
def bit1 (r : Nat) : Nat := r / 2 ^^^ (if r % 2 = 1 then P else 0)
/-- k bits -/
def bitk : Nat → Nat → Nat
  | 0, r => r
  | k + 1, r => bitk k (bit1 r)
/-- a half byte, by the table -/
def hstep (r : Nat) : Nat := r / 16 ^^^ tab (r % 16)
/-- a byte -/
def bstep (r b : Nat) : Nat := hstep (hstep (r ^^^ b))
/-- a list of bytes -/
def crc (r : Nat) (l : List Nat) : Nat := l.foldl bstep r
/-- the checksum -/
def sum (l : List Nat) : Nat := 4294967295 - crc 4294967295 l

theorem tab_lt (i : Nat) : tab i < 4294967296 := by
  unfold tab
  rcases Nat.lt_or_ge i 16 with h | h
  · have : ∀ i : Fin 16, T.getD i.val 0 < 4294967296 := by decide
    exact this ⟨i, h⟩
  · rw [List.getD_eq_getElem?_getD, List.getElem?_eq_none (by simp [T]; omega)]; simp

theorem xor_div (a b k : Nat) : (a ^^^ b) / 2 ^ k = a / 2 ^ k ^^^ b / 2 ^ k := by
  rw [← Nat.shiftRight_eq_div_pow, ← Nat.shiftRight_eq_div_pow, ← Nat.shiftRight_eq_div_pow, Nat.shiftRight_xor_distrib]
theorem xor_mod (a b k : Nat) : (a ^^^ b) % 2 ^ k = a % 2 ^ k ^^^ b % 2 ^ k := Nat.xor_mod_two_pow

theorem xor_lt32 {a b : Nat} (ha : a < 4294967296) (hb : b < 4294967296) : a ^^^ b < 4294967296 := Nat.xor_lt_two_pow (n := 32) ha hb
theorem xor4 (a b c d : Nat) : (a ^^^ b) ^^^ (c ^^^ d) = (a ^^^ c) ^^^ (b ^^^ d) := by
  rw [Nat.xor_assoc, Nat.xor_assoc, ← Nat.xor_assoc b c d, Nat.xor_comm b c, Nat.xor_assoc c b d]

theorem hstep_lt {r : Nat} (h : r < 4294967296) : hstep r < 4294967296 := xor_lt32 (by omega) (tab_lt _)
theorem bstep_lt {r b : Nat} (h : r < 4294967296) (hb : b < 256) : bstep r b < 4294967296 := hstep_lt (hstep_lt (xor_lt32 h (by omega)))
theorem crc_lt {r : Nat} {l : List Nat} (h : r < 4294967296) (hl : ∀ b ∈ l, b < 256) : crc r l < 4294967296 := by
  induction l generalizing r with
  | nil => exact h
  | cons b t ih => exact ih (bstep_lt h (hl b (by simp))) (fun x hx => hl x (by simp [hx]))

theorem crc_snoc (r : Nat) (l : List Nat) (b : Nat) : crc r (l ++ [b]) = bstep (crc r l) b := by simp [crc]
theorem crc_append (r : Nat) (l m : List Nat) : crc r (l ++ m) = crc (crc r l) m := by simp [crc]

/-! linear -/
theorem tab_xor (i j : Nat) (hi : i < 16) (hj : j < 16) : tab (i ^^^ j) = tab i ^^^ tab j := by
  have : ∀ i j : Fin 16, tab (i.val ^^^ j.val) = tab i.val ^^^ tab j.val := by decide +kernel
  exact this ⟨i, hi⟩ ⟨j, hj⟩
theorem hstep_xor (a b : Nat) : hstep (a ^^^ b) = hstep a ^^^ hstep b := by
  unfold hstep
  have h1 := xor_div a b 4
  have h2 := xor_mod a b 4
  rw [show (2 : Nat) ^ 4 = 16 from rfl] at h1 h2
  rw [h1, h2, tab_xor _ _ (by omega) (by omega), xor4]
theorem bstep_xor (a b x y : Nat) : bstep (a ^^^ b) (x ^^^ y) = bstep a x ^^^ bstep b y := by
  unfold bstep
  rw [xor4, hstep_xor, hstep_xor]
theorem crc_xor (a b : Nat) (l m : List Nat) (h : l.length = m.length) : crc (a ^^^ b) (List.zipWith (· ^^^ ·) l m) = crc a l ^^^ crc b m := by
  induction l generalizing a b m with
  | nil => cases m with
    | nil => rfl
    | cons _ _ => simp at h
  | cons x l ih => cases m with
    | nil => simp at h
    | cons y m =>
      show crc (bstep (a ^^^ b) (x ^^^ y)) _ = crc (bstep a x) l ^^^ crc (bstep b y) m
      rw [bstep_xor, ih _ _ _ (by simpa using h)]

/-! bit by bit -/
theorem bit1_xor (a b : Nat) : bit1 (a ^^^ b) = bit1 a ^^^ bit1 b := by
  unfold bit1
  have h1 := xor_div a b 1
  have h2 := xor_mod a b 1
  rw [show (2 : Nat) ^ 1 = 2 from rfl] at h1 h2
  rw [h1, h2, xor4]
  congr 1
  rcases Nat.mod_two_eq_zero_or_one a with ha | ha <;> rcases Nat.mod_two_eq_zero_or_one b with hb | hb <;> simp [ha, hb]
theorem bitk_xor (k a b : Nat) : bitk k (a ^^^ b) = bitk k a ^^^ bitk k b := by
  induction k generalizing a b with
  | zero => rfl
  | succ k ih => simp only [bitk]; rw [bit1_xor, ih]
theorem bitk_add (j k r : Nat) : bitk (j + k) r = bitk k (bitk j r) := by
  induction j generalizing r with
  | zero => simp [bitk]
  | succ j ih => rw [show j + 1 + k = (j + k) + 1 from by omega]; simp only [bitk]; rw [ih]
theorem bit1_zero : bit1 0 = 0 := rfl
theorem bitk_zero (k : Nat) : bitk k 0 = 0 := by
  induction k with
  | zero => rfl
  | succ k ih => simp only [bitk]; rw [bit1_zero, ih]
/-- what stands above is shifted down -/
theorem bitk_shl (k h : Nat) : bitk k (h * 2 ^ k) = h := by
  induction k with
  | zero => simp [bitk]
  | succ k ih =>
    simp only [bitk]
    have : bit1 (h * 2 ^ (k + 1)) = h * 2 ^ k := by
      unfold bit1
      rw [if_neg (by rw [Nat.pow_succ, ← Nat.mul_assoc, Nat.mul_mod_left]; omega), Nat.pow_succ, ← Nat.mul_assoc, Nat.mul_div_cancel _ (by omega), Nat.xor_zero]
    rw [this, ih]
theorem split_bits (k r : Nat) : r = (r / 2 ^ k) * 2 ^ k ^^^ r % 2 ^ k := by
  apply Nat.eq_of_testBit_eq
  intro i
  rw [Nat.testBit_xor, Nat.testBit_mul_two_pow, Nat.testBit_div_two_pow, Nat.testBit_mod_two_pow]
  rcases Nat.lt_or_ge i k with h | h
  · simp [h, Nat.not_le.2 h]
  · rw [show i - k + k = i from by omega]
    simp [h, Nat.not_lt.2 h]
theorem hstep_bits (r : Nat) : hstep r = bitk 4 r := by
  have h : ∀ i : Fin 16, bitk 4 i.val = tab i.val := by decide +kernel
  conv => rhs; rw [split_bits 4 r]
  rw [bitk_xor, bitk_shl, h ⟨r % 2 ^ 4, by omega⟩]
  rfl
theorem bstep_bits (r b : Nat) : bstep r b = bitk 8 (r ^^^ b) := by
  unfold bstep; rw [hstep_bits, hstep_bits, ← bitk_add]

/-! one bit step loses nothing -/
theorem half_top {r : Nat} (h : r < 4294967296) : (bit1 r).testBit 31 = decide (r % 2 = 1) := by
  unfold bit1
  rw [Nat.testBit_xor, Nat.testBit_lt_two_pow (show r / 2 < 2 ^ 31 by omega), Bool.false_xor]
  split
  · rename_i h1; rw [decide_eq_true h1]; decide +kernel
  · rename_i h1; rw [decide_eq_false h1]; simp
theorem bit1_lt {r : Nat} (h : r < 4294967296) : bit1 r < 4294967296 := by
  unfold bit1; apply xor_lt32 (by omega); unfold P; split <;> omega
theorem bit1_ne {r : Nat} (h : r < 4294967296) (h0 : r ≠ 0) : bit1 r ≠ 0 := by
  intro e
  have ht := half_top h
  rw [e, Nat.zero_testBit] at ht
  have h2 : ¬ r % 2 = 1 := of_decide_eq_false ht.symm
  unfold bit1 at e
  rw [if_neg h2, Nat.xor_zero] at e
  omega
theorem bitk_ne (k : Nat) {r : Nat} (h : r < 4294967296) (h0 : r ≠ 0) : bitk k r ≠ 0 := by
  induction k generalizing r with
  | zero => exact h0
  | succ k ih => exact ih (bit1_lt h) (bit1_ne h h0)
theorem bitk_lt (k : Nat) {r : Nat} (h : r < 4294967296) : bitk k r < 4294967296 := by
  induction k generalizing r with
  | zero => exact h
  | succ k ih => exact ih (bit1_lt h)

/-! a list of bytes as one number: the first byte the lowest -/
def num : List Nat → Nat
  | [] => 0
  | b :: t => b + 256 * num t
theorem num_xor (b n : Nat) (hb : b < 256) : b + 256 * n = b ^^^ n * 2 ^ 8 := by
  have h := split_bits 8 (b + 256 * n)
  rw [show (b + 256 * n) / 2 ^ 8 = n from by omega, show (b + 256 * n) % 2 ^ 8 = b from by omega, Nat.xor_comm] at h
  exact h
/-- the checksum of a list: its number, shifted through bit by bit -/
theorem crc_num (r : Nat) (l : List Nat) (hl : ∀ b ∈ l, b < 256) : crc r l = bitk (8 * l.length) (r ^^^ num l) := by
  induction l generalizing r with
  | nil => simp [crc, num, bitk]
  | cons b t ih =>
    show crc (bstep r b) t = _
    rw [ih _ (fun x hx => hl x (by simp [hx])), bstep_bits]
    simp only [num, List.length_cons]
    rw [num_xor b _ (hl b (by simp)), ← Nat.xor_assoc, show 8 * (t.length + 1) = 8 + 8 * t.length from by omega, bitk_add, bitk_xor 8 (r ^^^ b), bitk_shl]
/-- lower bits that are zero only wait -/
theorem bitk_low (k j h : Nat) : bitk (j + k) (h * 2 ^ j) = bitk k h := by rw [bitk_add, bitk_shl]
/-- a burst: a number that is 2^j times a number below 2^32, not zero, ahead of the end -/
theorem burst (n j h : Nat) (hj : j ≤ n) (h1 : h < 4294967296) (h0 : h ≠ 0) : bitk n (h * 2 ^ j) ≠ 0 := by
  rw [show n = j + (n - j) from by omega, bitk_low]
  exact bitk_ne _ h1 h0

end Go.Proofs.YtbcdigkndpjebaaDoor.Crc
