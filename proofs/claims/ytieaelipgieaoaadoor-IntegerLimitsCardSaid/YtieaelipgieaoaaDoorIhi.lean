/-
  Layer 3: strings to numbers of a machine.
-/
import Derived.Test.YtieaelipgieaoaaDoorIhh
namespace Go.Proofs.YtieaelipgieaoaaDoor
open Go.RowKit Bs Ig

theorem parse_full (l : List UInt8) (a : Nat) (h : ∀ c ∈ l, isDig c) (ha : a < 18446744073709551616) : Lib.parseUint10 a l = if numA a l < 18446744073709551616 then .ok (numA a l) else .range := by
  induction l generalizing a with
  | nil =>
    show Lib.NumEnd.ok a = if a < 18446744073709551616 then .ok a else .range
    rw [if_pos ha]
  | cons c r ih =>
    have hc := h c (List.mem_cons_self ..)
    have hle : a * 10 + (c.toNat - 48) ≤ numA (a * 10 + (c.toNat - 48)) r := by
      rw [numA_eq]
      have : 1 ≤ 10 ^ r.length := Nat.pow_pos (by omega)
      have := Nat.mul_le_mul_left (a * 10 + (c.toNat - 48)) this
      omega
    show Lib.parseUint10 a (c :: r) = if numA (a * 10 + (c.toNat - 48)) r < 18446744073709551616 then .ok (numA (a * 10 + (c.toNat - 48)) r) else .range
    unfold Lib.parseUint10
    rw [if_pos (show 48 ≤ c.toNat ∧ c.toNat ≤ 57 from hc)]
    by_cases h1 : 1844674407370955162 ≤ a
    · rw [if_pos h1, if_neg (by omega)]
    · rw [if_neg h1]
      by_cases h2 : 18446744073709551616 ≤ a * 10 + (c.toNat - 48)
      · rw [if_pos h2, if_neg (by omega)]
      · rw [if_neg h2]
        exact ih _ (fun y hy => h y (List.mem_cons_of_mem _ hy)) (by omega)
theorem parse_dec (n : Nat) : Lib.parseMag (Lib.decDigits n) = if n < 18446744073709551616 then .ok n else .range := by
  unfold Lib.parseMag
  rw [if_neg (dec_ne n), parse_full _ 0 (dec_dig n) (by omega), show numA 0 (Lib.decDigits n) = n from num_dec n]
/-- a number that an int holds -/
def isInt (z : Int) : Prop := -9223372036854775808 ≤ z ∧ z ≤ 9223372036854775807
instance (z : Int) : Decidable (isInt z) := inferInstanceAs (Decidable (_ ∧ _))
theorem atoi_itoa (z : Int) : Lib.atoiAll (Lib.itoa z) = if isInt z then .ok z else .range := by
  rcases int_cases z with ⟨n, rfl⟩ | ⟨n, hn, rfl⟩
  · have hp := parse_dec n
    rw [itoa_nat]
    cases hd : Lib.decDigits n with
    | nil => exact absurd hd (dec_ne n)
    | cons c r =>
      rw [hd] at hp
      have hc := dec_dig n c (by rw [hd]; exact List.mem_cons_self ..)
      have hc1 := hc.1
      unfold Lib.atoiAll
      simp only
      rw [if_neg (by omega), hp]
      have hI : isInt (n : Int) ↔ -9223372036854775808 ≤ (n : Int) ∧ (n : Int) ≤ 9223372036854775807 := Iff.rfl
      by_cases h1 : n < 18446744073709551616
      · rw [if_pos h1]
        simp only
        by_cases h2 : 9223372036854775808 ≤ n
        · rw [if_pos ⟨by omega, h2⟩, if_neg (mt hI.1 (by omega))]
        · rw [if_neg (by omega), if_neg (by omega), if_neg (by omega), if_pos (hI.2 (by omega))]
      · rw [if_neg h1]
        simp only
        rw [if_neg (mt hI.1 (by omega))]
  · have hp := parse_dec n
    rw [itoa_neg _ hn]
    unfold Lib.atoiAll
    simp only
    rw [if_pos (by decide), hp]
    have hI : isInt (-(n : Int)) ↔ -9223372036854775808 ≤ -(n : Int) ∧ -(n : Int) ≤ 9223372036854775807 := Iff.rfl
    by_cases h1 : n < 18446744073709551616
    · rw [if_pos h1]
      simp only
      rw [if_neg (fun h => h.1 (by decide))]
      by_cases h2 : 9223372036854775808 < n
      · rw [if_pos ⟨by decide, h2⟩, if_neg (mt hI.1 (by omega))]
      · rw [if_neg (fun h => h2 h.2), if_pos (by decide), if_pos (hI.2 (by omega))]
    · rw [if_neg h1]
      simp only
      rw [if_neg (mt hI.1 (by omega))]
/-- the cell of an error -/
def ErrP (W : World) : Prop := ∃ ev, W.cell? ⟨1, 0, none⟩ = some ev ∧ (ev = .nilIface ∨ ∃ te pe, ev = .iface te pe)
theorem ErrP.later {W W' : World} (h : ErrP W) (hb : Below W.heap.size W W') : ErrP W' := by
  obtain ⟨ev, h1, h2⟩ := h
  exact ⟨ev, (hb.cell (p := ⟨1, 0, none⟩) (block_lt_of_cell h1)).trans h1, h2⟩
theorem itoa_len {z : Int} (hz : z.natAbs < big) : (Lib.itoa z).length ≤ 201 := by
  have h := (dec_length_le z.natAbs 200 (by omega)).2 hz
  rcases int_cases z with ⟨n, rfl⟩ | ⟨n, hn, rfl⟩
  · rw [itoa_nat]
    rw [Int.natAbs_natCast] at h
    omega
  · rw [itoa_neg _ hn, List.length_cons]
    rw [Int.natAbs_neg, Int.natAbs_natCast] at h
    omega

set_option maxRecDepth 100000 in
set_option maxHeartbeats 1000000 in
theorem ToInt_ok (z : Int) (hz : z.natAbs < big) (hi : isInt z) (w : World) :
    Calls Tryd.prog 13 #[.string (bs (Lib.itoa z))] w fun e w' => e = .returned (.tuple #[.int .i64 z, .int .i64 0]) ∧ Below w.heap.size w w' := by
  have hA : ∀ W, Calls Tryd.prog 26 #[.string (bs (Lib.itoa z))] W fun e w' => e = .returned (.tuple #[.int .i64 z, .nilIface]) ∧ Below W.heap.size W w' := fun W => by
    refine (Tryd.strconv_Atoi_ok (bs (Lib.itoa z)) (by rw [bs_size]; have := itoa_len hz; omega) z (by rw [show (bs (Lib.itoa z)).data.toList = Lib.itoa z from rfl, atoi_itoa, if_pos hi]) W).mono ?_
    rintro e w' ⟨rfl, rfl | ⟨t, rfl⟩⟩
    · exact ⟨rfl, Below.refl _ _⟩
    · exact ⟨rfl, Lib.bytesWorld_below _ _ _⟩
  have HA := Lib.hid hA
  have HV := Lib.hid (Valid_yes z hz)
  generalize bs (Lib.itoa z) = S at *
  clear hA hz hi
  go_enter Tryd.func13, Tryd.ntmps13
  go_wp2_with (first
    | (go_at_call 19; (with_reducible refine (HV.out _).mono ?_); rintro e w1 ⟨rfl, rfl⟩)
    | (go_at_call 26; (with_reducible refine (HA.out _).mono ?_); rintro e w1 ⟨rfl, B1⟩))
  go_ret2
  exact ⟨rfl, B1⟩

set_option maxRecDepth 100000 in
set_option maxHeartbeats 1000000 in
theorem ToInt_far (z : Int) (hz : z.natAbs < big) (hi : ¬ isInt z) (w : World) (he : ErrP w) :
    Calls Tryd.prog 13 #[.string (bs (Lib.itoa z))] w fun e w' => e = .returned (.tuple #[.int .i64 0, .int .i64 30]) ∧ Below w.heap.size w w' := by
  have hA : ∀ W, Below w.heap.size w W → Calls Tryd.prog 26 #[.string (bs (Lib.itoa z))] W fun e w' => (∃ v p, e = .returned (.tuple #[.int .i64 v, .iface 82 p])) ∧ Below W.heap.size W w' := fun W hb => by
    obtain ⟨ev, h1, h2⟩ := he.later hb
    refine (Tryd.strconv_Atoi_range (bs (Lib.itoa z)) (by rw [bs_size]; have := itoa_len hz; omega) (by rw [show (bs (Lib.itoa z)).data.toList = Lib.itoa z from rfl, atoi_itoa, if_neg hi]) ev W h1 h2).mono ?_
    rintro e w' ⟨N, rfl, h3, h4, h5⟩
    exact ⟨⟨_, _, rfl⟩, h5⟩
  have HA := Lib.hid hA
  have HV := Lib.hid (Valid_yes z hz)
  generalize bs (Lib.itoa z) = S at *
  clear hA hz hi he
  go_enter Tryd.func13, Tryd.ntmps13
  go_wp2_with (first
    | (go_at_call 19; (with_reducible refine (HV.out _).mono ?_); rintro e w1 ⟨rfl, rfl⟩)
    | (go_at_call 26; (with_reducible refine (HA.out _ (Below.refl _ _)).mono ?_); rintro e w1 ⟨⟨v, p, rfl⟩, B1⟩))
  go_ret2
  exact ⟨rfl, B1⟩

set_option maxRecDepth 100000 in
set_option maxHeartbeats 1000000 in
theorem ToInt_no (l : List UInt8) (hl : ¬ IsI l) (w : World) :
    Calls Tryd.prog 13 #[.string (bs l)] w fun e w' => e = .returned (.tuple #[.int .i64 0, .int .i64 30]) ∧ Below w.heap.size w w' := by
  have HV := Lib.hid (Valid_no l hl)
  generalize bs l = S at *
  clear hl
  go_enter Tryd.func13, Tryd.ntmps13
  go_wp2_with (first
    | (go_at_call 19; (with_reducible refine (HV.out _).mono ?_); rintro e w1 ⟨rfl, rfl⟩))
  go_ret2
  exact ⟨rfl, Below.refl _ _⟩

end Go.Proofs.YtieaelipgieaoaaDoor
