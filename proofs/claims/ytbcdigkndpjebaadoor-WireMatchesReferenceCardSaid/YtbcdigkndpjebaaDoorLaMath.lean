/-
  What Int and String return at an encoding, wherever it is embedded; and what they accept.
-/
import Derived.Test.YtbcdigkndpjebaaDoorWaSane
namespace Go.Proofs.YtbcdigkndpjebaaDoor
open Go.RowKit

theorem toList_loop (b : ByteArray) (n i : Nat) (r : List UInt8) (h : b.size - i = n) (hi : i ≤ b.size) : ByteArray.toList.loop b i r = r.reverse ++ b.data.toList.drop i := by
  induction n generalizing i r with
  | zero =>
    unfold ByteArray.toList.loop
    rw [if_neg (by omega), List.drop_of_length_le (by show b.size ≤ i; omega), List.append_nil]
  | succ n ih =>
    have hlt : i < b.size := by omega
    unfold ByteArray.toList.loop
    rw [if_pos hlt, ih (i + 1) _ (by omega) (by omega), List.drop_eq_getElem_cons (i := i) (by show i < b.size; exact hlt)]
    simp [ByteArray.get!, hlt]
theorem toList_eq (b : ByteArray) : b.toList = b.data.toList := by
  unfold ByteArray.toList
  rw [toList_loop b b.size 0 [] (by omega) (by omega)]
  rfl
theorem bs_toList (l : List UInt8) : (bs l).toList = l := toList_eq (bs l)
theorem nb_append (l m : List UInt8) : nb (l ++ m) = nb l ++ nb m := by simp [nb]
theorem nb_lebU (z : Nat) : nb (lebU z) = M1.leb 9 z := by
  unfold nb lebU
  rw [List.map_map]
  conv => rhs; rw [← List.map_id (M1.leb 9 z)]
  apply List.map_congr_left
  intro b hb
  have := M1.leb_bytes 9 z b hb
  simp; omega
theorem fo_nat {n : Int} (h1 : -4611686018427387903 ≤ n) (h2 : n ≤ 4611686018427387903) : fo n = ((fo n).toNat : Int) ∧ (fo n).toNat ≤ 9223372036854775806 := by
  have := fo_bd h1 h2; omega
theorem pow128_9 : (128 : Nat) ^ 9 = 9223372036854775808 := by decide

theorem numB_enc {n : Int} (h1 : -4611686018427387903 ≤ n) (h2 : n ≤ 4611686018427387903) (q : List UInt8) :
    numB (nb (encI n ++ q)) = ((fo n).toNat, (encI n).length) := by
  obtain ⟨_, h4⟩ := fo_nat h1 h2
  unfold numB
  rw [nb_append]
  unfold encI
  rw [nb_lebU, M1.dec_leb true 9 _ (by rw [pow128_9]; omega) (by omega) (by simp)]
  simp [lebU]

theorem nb_drop_app (p r : List UInt8) : (nb (p ++ r)).drop p.length = nb r := by
  rw [nb_append, List.drop_append_of_le_length (by simp [nb]), List.drop_of_length_le (by simp [nb])]; rfl

theorem intB_enc {n : Int} (h1 : -4611686018427387903 ≤ n) (h2 : n ≤ 4611686018427387903) (p q : List UInt8) :
    intB (nb (p ++ (encI n ++ q))) (p.length : Int) = (n, (p.length : Int) + (encI n).length, 0) := by
  obtain ⟨h3, h4⟩ := fo_nat h1 h2
  have l1 := (encI_length n).1
  unfold intB
  rw [if_neg (by rw [nb_length]; simp; omega), Int.toNat_natCast, nb_drop_app, numB_enc h1 h2]
  simp only
  rw [if_neg (by omega), ← h3, un_fo]

theorem strB_enc (t : List UInt8) (ht : t.length ≤ 65536) (p q : List UInt8) :
    strB (p ++ (encI t.length ++ (t ++ q))) (p.length : Int) = (t, (p.length : Int) + (encI t.length).length + t.length, 0) := by
  unfold strB
  rw [intB_enc (by omega) (by omega)]
  simp only
  rw [if_neg (by simp), if_neg (by simp; omega)]
  rw [show ((p.length : Int) + (encI t.length).length).toNat = (p ++ encI t.length).length from by simp; omega, Int.toNat_natCast, ← List.append_assoc, List.drop_left, List.take_left]

/-- a string's first m bytes -/
theorem cut_string (s : ByteArray) (k : Nat) : ∃ (m : Nat) (t : List UInt8), (m ≤ s.size ∧ m ≤ k) ∧ s.extract 0 m = bs t ∧ t.length = m ∧ m = min s.size k ∧ t = s.data.toList.take m := by
  refine ⟨min s.size k, s.data.toList.take (min s.size k), ⟨by omega, by omega⟩, ?_, ?_, rfl, rfl⟩
  · have h := bs_extract s.data.toList 0 (min s.size k)
    rw [bs_bytes, List.drop_zero, Nat.sub_zero] at h
    exact h
  · rw [List.length_take]
    have : s.data.toList.length = s.size := rfl
    omega
theorem min_run {P : Program} (s k m : Nat) (h : m = min s k) (K : Int) (hK : K = k) (w : World) (ts : Array TypeId) (t : TypeId) :
    (Builtin.min_ ts t #[.int .i64 (s : Int), .int .i64 K]).run P w = .ok (.int .i64 (m : Int)) w := by
  rw [run_min_int2]
  subst hK
  congr 2
  subst h
  split <;> omega

theorem Int_at {n : Int} (h1 : -4611686018427387903 ≤ n) (h2 : n ≤ 4611686018427387903) (p q : List UInt8) (w : World) (hs : (p ++ (encI n ++ q)).length ≤ 9223372036854775807) :
    Calls Tryd.prog 15 #[.string (bs (p ++ (encI n ++ q))), .int .i64 (p.length : Int)] w fun x w' => x = .returned (.tuple #[.int .i64 n, .int .i64 ((p.length : Int) + (encI n).length), .int .i64 0]) ∧ w = w' :=
  Int_is _ _ _ _ _ (intB_enc h1 h2 p q) w (by unfold maxLen; omega) (by omega) (by simp at hs; omega)
theorem String_at (t : List UInt8) (ht : t.length ≤ 65536) (p q : List UInt8) (w : World) (hs : (p ++ (encI t.length ++ (t ++ q))).length ≤ 9223372036854775807) :
    Calls Tryd.prog 17 #[.string (bs (p ++ (encI t.length ++ (t ++ q)))), .int .i64 (p.length : Int)] w fun x w' => x = .returned (.tuple #[.string (bs t), .int .i64 ((p.length : Int) + ((encI t.length).length + t.length)), .int .i64 0]) ∧ w = w' :=
  (String_any _ _ w (by unfold maxLen; omega) (by omega) (by simp at hs; omega)).mono fun e w' ⟨he, hw⟩ => ⟨by rw [he, strB_enc t ht, Int.add_assoc]; rfl, hw⟩
theorem PutString_at (t : List UInt8) (ht : t.length ≤ 65536) (w : World) :
    Calls Tryd.prog 19 #[.string (bs t)] w fun e w' => e = .returned (.tuple #[.string (bs (encI t.length ++ t)), .int .i64 0]) ∧ Below w.heap.size w w' :=
  (PutString_any t w (by omega)).mono fun e w' ⟨he, hw⟩ => ⟨by rw [he, show putS t = (encI t.length ++ t, 0) from if_pos ht]; rfl, hw⟩

theorem PutInt_at (n : Int) (w : World) (h1 : -4611686018427387903 ≤ n) (h2 : n ≤ 4611686018427387903) :
    Calls Tryd.prog 12 #[.int .i64 n] w fun e w' => e = .returned (.tuple #[.string (bs (encI n)), .int .i64 0]) ∧ Below w.heap.size w w' := PutInt_ok n w h1 h2
theorem below_on {n : Nat} {w w1 w2 : World} (h1 : Below n w w1) (h2 : Below w1.heap.size w1 w2) (hn : n ≤ w1.heap.size) : Below n w w2 := h1.trans (h2.mono hn)

end Go.Proofs.YtbcdigkndpjebaaDoor
