/-
  Put together by program out of these texts, in this order: Rny, Rrm, Rti, Rtj, Qmx, Qpk.
-/
import Derived.Test.YtjkklgpbblkhaaaGreatDoorZCaRMa18
import Derived.Test.YtjkklgpbblkhaaaGreatDoorZCaRMa08
import Derived.Test.YtjkklgpbblkhaaaGreatDoorZCaRMa14

/-
  Layer 3, the reference: sums, differences, products, divisors, quotients and the order at whatever strings.
-/
namespace Go.Proofs.YtjkklgpbblkhaaaGreatDoor
open Go.RowKit Bs Ig

theorem rvalid_no {a : ByteArray} (ha : a.size ≤ 9223372036854775807) (h : rd a = none) (W : World) : Calls Tryz.prog 61 #[.string a] W fun e w' => e = .returned (.bool false) ∧ w' = W := by
  have h2 := rvalid_rd a ha W
  rw [h] at h2; exact h2
theorem rvalid_yes {a : ByteArray} {z : Int} (ha : a.size ≤ 9223372036854775807) (h : rd a = some z) (W : World) : Calls Tryz.prog 61 #[.string a] W fun e w' => e = .returned (.bool true) ∧ w' = W := by
  have h2 := rvalid_rd a ha W
  rw [h] at h2; exact h2

set_option maxRecDepth 100000 in
theorem rAdd_no1 (a b : ByteArray) (ha : a.size ≤ 9223372036854775807) (hb : b.size ≤ 9223372036854775807) (h : rd a = none) (w : World) :
    Calls Tryz.prog 48 #[.string a, .string b] w fun e w' => e = .returned (.tuple #[.string ⟨#[]⟩, .int .i64 30]) ∧ Below w.heap.size w w' := by
  have HV1 := Lib.hid (rvalid_no ha h)
  clear ha h hb
  go_enter Tryz.func48, Tryz.ntmps48
  go_wp2_with (first | (go_at_call 61; (with_reducible refine (HV1.out _).mono ?_); rintro e w1 ⟨rfl, hww⟩; rw [hww]; clear hww w1))
  go_ret2
  exact ⟨rfl, Below.refl _ _⟩

set_option maxRecDepth 100000 in
theorem rAdd_no2 (a b : ByteArray) (ha : a.size ≤ 9223372036854775807) (hb : b.size ≤ 9223372036854775807) {z : Int} (hz : rd a = some z) (h : rd b = none) (w : World) :
    Calls Tryz.prog 48 #[.string a, .string b] w fun e w' => e = .returned (.tuple #[.string ⟨#[]⟩, .int .i64 30]) ∧ Below w.heap.size w w' := by
  have HV1 := Lib.hid (rvalid_yes ha hz)
  have HV2 := Lib.hid (rvalid_no hb h)
  clear ha hz hb h
  go_enter Tryz.func48, Tryz.ntmps48
  go_wp2_with (first | (go_at_call 61; (with_reducible refine (HV1.out _).mono ?_); rintro e w1 ⟨rfl, hww⟩; rw [hww]; clear hww w1) | (go_at_call 61; (with_reducible refine (HV2.out _).mono ?_); rintro e w1 ⟨rfl, hww⟩; rw [hww]; clear hww w1))
  go_ret2
  exact ⟨rfl, Below.refl _ _⟩

set_option maxRecDepth 100000 in
theorem rSub_no1 (a b : ByteArray) (ha : a.size ≤ 9223372036854775807) (hb : b.size ≤ 9223372036854775807) (h : rd a = none) (w : World) :
    Calls Tryz.prog 49 #[.string a, .string b] w fun e w' => e = .returned (.tuple #[.string ⟨#[]⟩, .int .i64 30]) ∧ Below w.heap.size w w' := by
  have HV1 := Lib.hid (rvalid_no ha h)
  clear ha h hb
  go_enter Tryz.func49, Tryz.ntmps49
  go_wp2_with (first | (go_at_call 61; (with_reducible refine (HV1.out _).mono ?_); rintro e w1 ⟨rfl, hww⟩; rw [hww]; clear hww w1))
  go_ret2
  exact ⟨rfl, Below.refl _ _⟩

set_option maxRecDepth 100000 in
theorem rSub_no2 (a b : ByteArray) (ha : a.size ≤ 9223372036854775807) (hb : b.size ≤ 9223372036854775807) {z : Int} (hz : rd a = some z) (h : rd b = none) (w : World) :
    Calls Tryz.prog 49 #[.string a, .string b] w fun e w' => e = .returned (.tuple #[.string ⟨#[]⟩, .int .i64 30]) ∧ Below w.heap.size w w' := by
  have HV1 := Lib.hid (rvalid_yes ha hz)
  have HV2 := Lib.hid (rvalid_no hb h)
  clear ha hz hb h
  go_enter Tryz.func49, Tryz.ntmps49
  go_wp2_with (first | (go_at_call 61; (with_reducible refine (HV1.out _).mono ?_); rintro e w1 ⟨rfl, hww⟩; rw [hww]; clear hww w1) | (go_at_call 61; (with_reducible refine (HV2.out _).mono ?_); rintro e w1 ⟨rfl, hww⟩; rw [hww]; clear hww w1))
  go_ret2
  exact ⟨rfl, Below.refl _ _⟩

set_option maxRecDepth 100000 in
theorem rMul_no1 (a b : ByteArray) (ha : a.size ≤ 9223372036854775807) (hb : b.size ≤ 9223372036854775807) (h : rd a = none) (w : World) :
    Calls Tryz.prog 44 #[.string a, .string b] w fun e w' => e = .returned (.tuple #[.string ⟨#[]⟩, .int .i64 30]) ∧ Below w.heap.size w w' := by
  have HV1 := Lib.hid (rvalid_no ha h)
  clear ha h hb
  go_enter Tryz.func44, Tryz.ntmps44
  go_wp2_with (first | (go_at_call 61; (with_reducible refine (HV1.out _).mono ?_); rintro e w1 ⟨rfl, hww⟩; rw [hww]; clear hww w1))
  go_ret2
  exact ⟨rfl, Below.refl _ _⟩

set_option maxRecDepth 100000 in
theorem rMul_no2 (a b : ByteArray) (ha : a.size ≤ 9223372036854775807) (hb : b.size ≤ 9223372036854775807) {z : Int} (hz : rd a = some z) (h : rd b = none) (w : World) :
    Calls Tryz.prog 44 #[.string a, .string b] w fun e w' => e = .returned (.tuple #[.string ⟨#[]⟩, .int .i64 30]) ∧ Below w.heap.size w w' := by
  have HV1 := Lib.hid (rvalid_yes ha hz)
  have HV2 := Lib.hid (rvalid_no hb h)
  clear ha hz hb h
  go_enter Tryz.func44, Tryz.ntmps44
  go_wp2_with (first | (go_at_call 61; (with_reducible refine (HV1.out _).mono ?_); rintro e w1 ⟨rfl, hww⟩; rw [hww]; clear hww w1) | (go_at_call 61; (with_reducible refine (HV2.out _).mono ?_); rintro e w1 ⟨rfl, hww⟩; rw [hww]; clear hww w1))
  go_ret2
  exact ⟨rfl, Below.refl _ _⟩

set_option maxRecDepth 100000 in
theorem rGcd_no1 (a b : ByteArray) (ha : a.size ≤ 9223372036854775807) (hb : b.size ≤ 9223372036854775807) (h : rd a = none) (w : World) :
    Calls Tryz.prog 62 #[.string a, .string b] w fun e w' => e = .returned (.tuple #[.string ⟨#[]⟩, .int .i64 30]) ∧ Below w.heap.size w w' := by
  have HV1 := Lib.hid (rvalid_no ha h)
  clear ha h hb
  go_enter Tryz.func62, Tryz.ntmps62
  go_wp2_with (first | (go_at_call 61; (with_reducible refine (HV1.out _).mono ?_); rintro e w1 ⟨rfl, hww⟩; rw [hww]; clear hww w1))
  go_ret2
  exact ⟨rfl, Below.refl _ _⟩

set_option maxRecDepth 100000 in
theorem rGcd_no2 (a b : ByteArray) (ha : a.size ≤ 9223372036854775807) (hb : b.size ≤ 9223372036854775807) {z : Int} (hz : rd a = some z) (h : rd b = none) (w : World) :
    Calls Tryz.prog 62 #[.string a, .string b] w fun e w' => e = .returned (.tuple #[.string ⟨#[]⟩, .int .i64 30]) ∧ Below w.heap.size w w' := by
  have HV1 := Lib.hid (rvalid_yes ha hz)
  have HV2 := Lib.hid (rvalid_no hb h)
  clear ha hz hb h
  go_enter Tryz.func62, Tryz.ntmps62
  go_wp2_with (first | (go_at_call 61; (with_reducible refine (HV1.out _).mono ?_); rintro e w1 ⟨rfl, hww⟩; rw [hww]; clear hww w1) | (go_at_call 61; (with_reducible refine (HV2.out _).mono ?_); rintro e w1 ⟨rfl, hww⟩; rw [hww]; clear hww w1))
  go_ret2
  exact ⟨rfl, Below.refl _ _⟩

set_option maxRecDepth 100000 in
theorem rCompare_no1 (a b : ByteArray) (ha : a.size ≤ 9223372036854775807) (hb : b.size ≤ 9223372036854775807) (h : rd a = none) (w : World) :
    Calls Tryz.prog 53 #[.string a, .string b] w fun e w' => e = .returned (.int .i64 0) ∧ Below w.heap.size w w' := by
  have HV1 := Lib.hid (rvalid_no ha h)
  clear ha h hb
  go_enter Tryz.func53, Tryz.ntmps53
  go_wp2_with (first | (go_at_call 61; (with_reducible refine (HV1.out _).mono ?_); rintro e w1 ⟨rfl, hww⟩; rw [hww]; clear hww w1))
  go_ret
  exact ⟨rfl, Below.refl _ _⟩

set_option maxRecDepth 100000 in
theorem rCompare_no2 (a b : ByteArray) (ha : a.size ≤ 9223372036854775807) (hb : b.size ≤ 9223372036854775807) {z : Int} (hz : rd a = some z) (h : rd b = none) (w : World) :
    Calls Tryz.prog 53 #[.string a, .string b] w fun e w' => e = .returned (.int .i64 0) ∧ Below w.heap.size w w' := by
  have HV1 := Lib.hid (rvalid_yes ha hz)
  have HV2 := Lib.hid (rvalid_no hb h)
  clear ha hz hb h
  go_enter Tryz.func53, Tryz.ntmps53
  go_wp2_with (first | (go_at_call 61; (with_reducible refine (HV1.out _).mono ?_); rintro e w1 ⟨rfl, hww⟩; rw [hww]; clear hww w1) | (go_at_call 61; (with_reducible refine (HV2.out _).mono ?_); rintro e w1 ⟨rfl, hww⟩; rw [hww]; clear hww w1))
  go_ret
  exact ⟨rfl, Below.refl _ _⟩

set_option maxRecDepth 100000 in
theorem rDiv_no1 (a b : ByteArray) (ha : a.size ≤ 9223372036854775807) (hb : b.size ≤ 9223372036854775807) (h : rd a = none) (w : World) :
    Calls Tryz.prog 52 #[.string a, .string b] w fun e w' => e = .returned (.tuple #[.string ⟨#[]⟩, .string ⟨#[]⟩, .int .i64 30]) ∧ Below w.heap.size w w' := by
  have HV1 := Lib.hid (rvalid_no ha h)
  clear ha h hb
  go_enter Tryz.func52, Tryz.ntmps52
  go_wp2_with (first | (go_at_call 61; (with_reducible refine (HV1.out _).mono ?_); rintro e w1 ⟨rfl, hww⟩; rw [hww]; clear hww w1))
  go_ret3
  exact ⟨rfl, Below.refl _ _⟩

set_option maxRecDepth 100000 in
theorem rDiv_no2 (a b : ByteArray) (ha : a.size ≤ 9223372036854775807) (hb : b.size ≤ 9223372036854775807) {z : Int} (hz : rd a = some z) (h : rd b = none) (w : World) :
    Calls Tryz.prog 52 #[.string a, .string b] w fun e w' => e = .returned (.tuple #[.string ⟨#[]⟩, .string ⟨#[]⟩, .int .i64 30]) ∧ Below w.heap.size w w' := by
  have HV1 := Lib.hid (rvalid_yes ha hz)
  have HV2 := Lib.hid (rvalid_no hb h)
  clear ha hz hb h
  go_enter Tryz.func52, Tryz.ntmps52
  go_wp2_with (first | (go_at_call 61; (with_reducible refine (HV1.out _).mono ?_); rintro e w1 ⟨rfl, hww⟩; rw [hww]; clear hww w1) | (go_at_call 61; (with_reducible refine (HV2.out _).mono ?_); rintro e w1 ⟨rfl, hww⟩; rw [hww]; clear hww w1))
  go_ret3
  exact ⟨rfl, Below.refl _ _⟩

theorem rAdd_S (a b : ByteArray) (ha : a.size ≤ 9223372036854775807) (hb : b.size ≤ 9223372036854775807) (w : World) : Gives 48 a b (addS a b) w := by
  unfold Gives addS onS
  cases h1 : rd a with
  | none => exact rAdd_no1 a b ha hb h1 w
  | some x =>
    cases h2 : rd b with
    | none => exact rAdd_no2 a b ha hb h1 h2 w
    | some y =>
      obtain ⟨hx, rfl⟩ := rd_eq h1
      obtain ⟨hy, rfl⟩ := rd_eq h2
      exact rAdd_T x y hx hy w

theorem rSub_S (a b : ByteArray) (ha : a.size ≤ 9223372036854775807) (hb : b.size ≤ 9223372036854775807) (w : World) : Gives 49 a b (subS a b) w := by
  unfold Gives subS onS
  cases h1 : rd a with
  | none => exact rSub_no1 a b ha hb h1 w
  | some x =>
    cases h2 : rd b with
    | none => exact rSub_no2 a b ha hb h1 h2 w
    | some y =>
      obtain ⟨hx, rfl⟩ := rd_eq h1
      obtain ⟨hy, rfl⟩ := rd_eq h2
      exact rSub_T x y hx hy w

theorem rMul_S (a b : ByteArray) (ha : a.size ≤ 9223372036854775807) (hb : b.size ≤ 9223372036854775807) (w : World) : Gives 44 a b (mulS a b) w := by
  unfold Gives mulS onS
  cases h1 : rd a with
  | none => exact rMul_no1 a b ha hb h1 w
  | some x =>
    cases h2 : rd b with
    | none => exact rMul_no2 a b ha hb h1 h2 w
    | some y =>
      obtain ⟨hx, rfl⟩ := rd_eq h1
      obtain ⟨hy, rfl⟩ := rd_eq h2
      exact rMul_T x y hx hy w

theorem rGcd_S (a b : ByteArray) (ha : a.size ≤ 9223372036854775807) (hb : b.size ≤ 9223372036854775807) (w : World) : Gives 62 a b (gcdS a b) w := by
  unfold Gives gcdS onS
  cases h1 : rd a with
  | none => exact rGcd_no1 a b ha hb h1 w
  | some x =>
    cases h2 : rd b with
    | none => exact rGcd_no2 a b ha hb h1 h2 w
    | some y =>
      obtain ⟨hx, rfl⟩ := rd_eq h1
      obtain ⟨hy, rfl⟩ := rd_eq h2
      have h := rGcd_T x y hx hy w
      have hg : ((Int.gcd x y : Nat) : Int).natAbs < big := by rw [Int.natAbs_natCast]; exact gcd_big4 hx hy
      simp only [wrS, txt, err, if_pos hg]
      exact h

theorem rCompare_S (a b : ByteArray) (ha : a.size ≤ 9223372036854775807) (hb : b.size ≤ 9223372036854775807) (w : World) :
    Calls Tryz.prog 53 #[.string a, .string b] w fun e w' => e = .returned (.int .i64 (cmpS a b)) ∧ Below w.heap.size w w' := by
  unfold cmpS
  cases h1 : rd a with
  | none => exact rCompare_no1 a b ha hb h1 w
  | some x =>
    cases h2 : rd b with
    | none => exact rCompare_no2 a b ha hb h1 h2 w
    | some y =>
      obtain ⟨hx, rfl⟩ := rd_eq h1
      obtain ⟨hy, rfl⟩ := rd_eq h2
      exact rCompare_T x y hx hy w

set_option maxRecDepth 100000 in
theorem rDiv_0 (a : ByteArray) (ha : a.size ≤ 9223372036854775807) {z : Int} (hz : rd a = some z) (w : World) :
    Calls Tryz.prog 52 #[.string a, .string ⟨#[48]⟩] w fun e w' => e = .returned (.tuple #[.string ⟨#[]⟩, .string ⟨#[]⟩, .int .i64 30]) ∧ Below w.heap.size w w' := by
  have h0 : rd ⟨#[48]⟩ = some 0 := by
    have h := rd_some (z := 0) (Nat.pow_pos (by omega))
    rwa [show bs (Lib.itoa 0) = ⟨#[48]⟩ from by rw [show Lib.itoa 0 = [48] from by rw [show (0 : Int) = ((0 : Nat) : Int) from rfl, itoa_nat, dec_small (by omega)]; rfl]; rfl] at h
  have HV1 := Lib.hid (rvalid_yes ha hz)
  have HV2 := Lib.hid (rvalid_yes (a := ⟨#[48]⟩) (by decide) h0)
  clear ha hz h0
  go_enter Tryz.func52, Tryz.ntmps52
  go_wp2_with (first | (go_at_call 61; (with_reducible refine (HV1.out _).mono ?_); rintro e w1 ⟨rfl, hww⟩; rw [hww]; clear hww w1) | (go_at_call 61; (with_reducible refine (HV2.out _).mono ?_); rintro e w1 ⟨rfl, hww⟩; rw [hww]; clear hww w1))
  go_ret3
  exact ⟨rfl, Below.refl _ _⟩

theorem rDiv_S (a b : ByteArray) (ha : a.size ≤ 9223372036854775807) (hb : b.size ≤ 9223372036854775807) (w : World) :
    Calls Tryz.prog 52 #[.string a, .string b] w fun e w' => e = .returned (.tuple #[.string (divS a b).1, .string (divS a b).2.1, .int .i64 (divS a b).2.2]) ∧ Below w.heap.size w w' := by
  unfold divS
  cases h1 : rd a with
  | none => exact rDiv_no1 a b ha hb h1 w
  | some x =>
    cases h2 : rd b with
    | none => exact rDiv_no2 a b ha hb h1 h2 w
    | some y =>
      by_cases h0 : y = 0
      · subst h0
        obtain ⟨-, rfl⟩ := rd_eq h2
        rw [show bs (Lib.itoa 0) = ⟨#[48]⟩ from by rw [show Lib.itoa 0 = [48] from by rw [show (0 : Int) = ((0 : Nat) : Int) from rfl, itoa_nat, dec_small (by omega)]; rfl]; rfl]
        exact rDiv_0 a ha h1 w
      · obtain ⟨hx, rfl⟩ := rd_eq h1
        obtain ⟨hy, rfl⟩ := rd_eq h2
        simp only [if_neg h0]
        exact rDiv_T x y hx hy h0 w

end Go.Proofs.YtjkklgpbblkhaaaGreatDoor

/-
  Layer 3, the reference: the mathematics of a root that is found digit by digit from above.
-/
namespace Go.Proofs.YtjkklgpbblkhaaaGreatDoor
open Go.RowKit Bs Ig

/-- the digits from i on are those of the root V -/
structure Ro (N m : Nat) (O : List Nat) (i V : Nat) : Prop where
  len : O.length = m
  lt : ∀ z ∈ O, z < 10
  val : Ig.val 10 O = V
  low : ∀ k, k < i → O.getD k 0 = 0
  sq : V * V ≤ N
  up : N < (V + 10 ^ i) * (V + 10 ^ i)
/-- the digit i is tried with c -/
structure Ri (N m : Nat) (O : List Nat) (i c V : Nat) : Prop where
  len : O.length = m
  lt : ∀ z ∈ O, z < 10
  val : Ig.val 10 O = V + c * 10 ^ i
  dig : O.getD i 0 = c
  low : ∀ k, k < i → O.getD k 0 = 0
  sq : V * V ≤ N
  up : N < (V + (c + 1) * 10 ^ i) * (V + (c + 1) * 10 ^ i)
theorem Ro.start {N n m : Nat} (hN : N < 10 ^ n) (hm : n ≤ 2 * m) : Ro N m (List.replicate m 0) m 0 := by
  have hz : ∀ k, Ig.val 10 (List.replicate k 0) = 0 := by
    intro k
    induction k with
    | zero => rfl
    | succ k ih => rw [List.replicate_succ]; show 0 + 10 * Ig.val 10 (List.replicate k 0) = 0; rw [ih]
  refine ⟨by simp, fun z hz => by rw [List.eq_of_mem_replicate hz]; omega, hz m, fun k hk => ?_, by omega, ?_⟩
  · rw [List.getD_eq_getElem?_getD, List.getElem?_replicate_of_lt hk]; rfl
  · rw [Nat.zero_add, ← Nat.pow_add]
    exact Nat.lt_of_lt_of_le hN (Nat.pow_le_pow_right (by omega) (by omega))
theorem getD_set_same (O : List Nat) (i v : Nat) (h : i < O.length) : (O.set i v).getD i 0 = v := by
  rw [List.getD_eq_getElem?_getD, List.getElem?_set_self h]; rfl
theorem getD_set_far (O : List Nat) (i v k : Nat) (h : k ≠ i) : (O.set i v).getD k 0 = O.getD k 0 := by
  rw [List.getD_eq_getElem?_getD, List.getD_eq_getElem?_getD, List.getElem?_set_ne (by omega)]
theorem mem_set_lt {O : List Nat} {i v : Nat} (hv : v < 10) (h : ∀ z ∈ O, z < 10) : ∀ z ∈ O.set i v, z < 10 := fun z hz => by
  rcases List.mem_or_eq_of_mem_set hz with h1 | h1
  · exact h z h1
  · omega
theorem Ro.inner {N m : Nat} {O : List Nat} {i V : Nat} (h : Ro N m O (i + 1) V) (hi : i < m) : Ri N m (O.set i 9) i 9 V := by
  have hv := val_setN 10 O i 9 (by rw [h.len]; exact hi)
  rw [h.low i (by omega), h.val] at hv
  refine ⟨by rw [List.length_set]; exact h.len, mem_set_lt (by omega) h.lt, ?_, getD_set_same _ _ _ (by rw [h.len]; exact hi), fun k hk => ?_, h.sq, ?_⟩
  · rw [Nat.mul_zero, Nat.add_zero] at hv
    rw [hv, Nat.mul_comm]
  · rw [getD_set_far _ _ _ _ (by omega)]; exact h.low k (by omega)
  · have := h.up
    rw [Nat.pow_succ, Nat.mul_comm] at this
    rw [show (9 + 1) * 10 ^ i = 10 ^ i * 10 by omega, Nat.mul_comm]
    exact this
theorem Ri.next {N m : Nat} {O : List Nat} {i c V : Nat} (h : Ri N m O i (c + 1) V) (hi : i < m) (hc : c + 1 < 10) (hup : N < Ig.val 10 O * Ig.val 10 O) : Ri N m (O.set i c) i c V := by
  have hv := val_setN 10 O i c (by rw [h.len]; exact hi)
  rw [h.dig, h.val] at hv
  rw [h.val] at hup
  refine ⟨by rw [List.length_set]; exact h.len, mem_set_lt (by omega) h.lt, ?_, getD_set_same _ _ _ (by rw [h.len]; exact hi), fun k hk => ?_, h.sq, hup⟩
  · rw [Nat.mul_comm (10 ^ i) (c + 1), Nat.mul_comm (10 ^ i) c] at hv
    omega
  · rw [getD_set_far _ _ _ _ (by omega)]; exact h.low k (by omega)
theorem Ri.outer {N m : Nat} {O : List Nat} {i c V : Nat} (h : Ri N m O i c V) (hs : c = 0 ∨ Ig.val 10 O * Ig.val 10 O ≤ N) : Ro N m O i (Ig.val 10 O) := by
  refine ⟨h.len, h.lt, rfl, h.low, ?_, ?_⟩
  · rcases hs with rfl | hs
    · rw [h.val, Nat.zero_mul, Nat.add_zero]; exact h.sq
    · exact hs
  · have := h.up
    rw [h.val, Nat.add_assoc, show c * 10 ^ i + 10 ^ i = (c + 1) * 10 ^ i from (Nat.succ_mul c (10 ^ i)).symm]
    exact this
theorem Ro.done {N m : Nat} {O : List Nat} {V : Nat} (h : Ro N m O 0 V) : V = rt N := rt_unique N V h.sq h.up
theorem val_lt_pow (O : List Nat) (h : ∀ z ∈ O, z < 10) : Ig.val 10 O < 10 ^ O.length := by
  induction O with
  | nil => decide
  | cons x O ih =>
    have h1 := h x (by simp)
    have h2 := ih (fun z hz => h z (by simp [hz]))
    show x + 10 * Ig.val 10 O < 10 ^ (O.length + 1)
    rw [Nat.pow_succ]; omega

end Go.Proofs.YtjkklgpbblkhaaaGreatDoor

/-
  Layer 3, the reference: ToInt at whatever strings.
-/
namespace Go.Proofs.YtjkklgpbblkhaaaGreatDoor
open Go.RowKit Bs Ig

/-- a numeral's digits, behind so many other bytes -/
structure Dgt (B : ByteArray) (off n k : Nat) : Prop where
  size : B.size = off + k
  lt : n < 10 ^ k
  pos : 0 < k
  dig : ∀ i (h : i < B.size), off ≤ i → (B[i]'h).toNat = 48 + n / 10 ^ (off + k - 1 - i) % 10
theorem Dgt.nonneg (n : Nat) : ∃ k, Dgt (bs (Lib.decDigits n)) 0 n k := by
  rcases Nat.eq_zero_or_pos n with h0 | h0
  · subst h0
    rw [show Lib.decDigits 0 = [48] from dec_small (by omega)]
    refine ⟨1, rfl, by decide, by omega, fun i h _ => ?_⟩
    have h1 : i < 1 := h
    obtain rfl : i = 0 := by omega
    rfl
  · obtain ⟨hl, hb⟩ := byte_dl (B := bs (Lib.decDigits n)) h0 (by rw [← toList_eq, bs_toList])
    refine ⟨(D n).length, by omega, D_lt_pow rfl, by rw [D_pos h0]; simp, fun i h _ => ?_⟩
    have h2 := hb ((bs (Lib.decDigits n)).size - 1 - i) (by omega)
    rw [show (D n).getD ((bs (Lib.decDigits n)).size - 1 - i) 0 = n / 10 ^ ((bs (Lib.decDigits n)).size - 1 - i) % 10 from dgs_getD 8 n _] at h2
    rw [Nat.zero_add, ← hl, ← h2]
    congr 2; omega
theorem Dgt.neg (n : Nat) (h0 : 0 < n) : ∃ k, Dgt (bs (45 :: Lib.decDigits n)) 1 n k ∧ ∃ h : 0 < (bs (45 :: Lib.decDigits n)).size, ((bs (45 :: Lib.decDigits n))[0]'h).toNat = 45 := by
  obtain ⟨k, hd⟩ := Dgt.nonneg n
  have hsz : (bs (45 :: Lib.decDigits n)).size = 1 + k := by rw [bs_size, List.length_cons]; have := hd.size; rw [bs_size] at this; omega
  refine ⟨k, ⟨hsz, hd.lt, hd.pos, fun i h hi => ?_⟩, by omega, ?_⟩
  · obtain ⟨j, rfl⟩ : ∃ j, i = j + 1 := ⟨i - 1, by omega⟩
    have hj : j < (bs (Lib.decDigits n)).size := by rw [hd.size]; omega
    have h2 := hd.dig j hj (Nat.zero_le _)
    rw [← getD_str] at h2 ⊢
    rw [← toList_eq, bs_toList] at h2 ⊢
    rw [List.getD_cons_succ, h2, show 1 + k - 1 - (j + 1) = 0 + k - 1 - j by omega]
  · rw [← getD_str, ← toList_eq, bs_toList]; rfl
theorem pre_step (n m i : Nat) (h : i < m) : n / 10 ^ (m - 1 - i) = 10 * (n / 10 ^ (m - i)) + n / 10 ^ (m - 1 - i) % 10 := by
  have h2 := div_step n (m - 1 - i)
  rwa [show m - 1 - i + 1 = m - i by omega] at h2
/-- what ToInt answers -/
def toiZ (z : Int) : Int × Int := if isInt z then (z, 0) else (0, 30)
noncomputable def toiS (a : ByteArray) : Int × Int := match rd a with
  | some z => toiZ z
  | none => (0, 30)
def minZ : ByteArray := ⟨#[45, 57, 50, 50, 51, 51, 55, 50, 48, 51, 54, 56, 53, 52, 55, 55, 53, 56, 48, 56]⟩
def maxZ : ByteArray := ⟨#[57, 50, 50, 51, 51, 55, 50, 48, 51, 54, 56, 53, 52, 55, 55, 53, 56, 48, 55]⟩
theorem minZ_is : minZ = bs (Lib.itoa (-9223372036854775808)) := by
  rw [show Lib.itoa (-9223372036854775808) = 45 :: [57, 50, 50, 51, 51, 55, 50, 48, 51, 54, 56, 53, 52, 55, 55, 53, 56, 48, 56] from lit_neg _ 9223372036854775808 rfl (by decide) (by decide)]; rfl
theorem maxZ_is : maxZ = bs (Lib.itoa 9223372036854775807) := by
  rw [show Lib.itoa 9223372036854775807 = [57, 50, 50, 51, 51, 55, 50, 48, 51, 54, 56, 53, 52, 55, 55, 53, 56, 48, 55] from lit_pos _ 9223372036854775807 rfl (by decide) (by decide)]; rfl
theorem lt_big19 (z : Int) (h : z.natAbs < 10 ^ 19) : z.natAbs < big := Nat.lt_of_lt_of_le h (Nat.pow_le_pow_right (by omega) (by omega))
theorem rcmp_min (x : Int) (hx : x.natAbs < big) (W : World) : Calls Tryz.prog 53 #[.string (bs (Lib.itoa x)), .string minZ] W fun e w' => e = .returned (.int .i64 (cmpZ x (-9223372036854775808))) ∧ Below W.heap.size W w' := by
  rw [minZ_is]; exact rCompare_T x _ hx (lt_big19 _ (by decide)) W
theorem rcmp_max (x : Int) (hx : x.natAbs < big) (W : World) : Calls Tryz.prog 53 #[.string (bs (Lib.itoa x)), .string maxZ] W fun e w' => e = .returned (.int .i64 (cmpZ x 9223372036854775807)) ∧ Below W.heap.size W w' := by
  rw [maxZ_is]; exact rCompare_T x _ hx (lt_big19 _ (by decide)) W
theorem cmpZ_lt {x y : Int} : cmpZ x y < 0 ↔ x < y := by unfold cmpZ; repeat' split
                                                         all_goals omega
theorem cmpZ_gt {x y : Int} : 0 < cmpZ x y ↔ y < x := by unfold cmpZ; repeat' split
                                                         all_goals omega

end Go.Proofs.YtjkklgpbblkhaaaGreatDoor

/-
  Layer 3, the reference: ToInt, the walk.
-/
namespace Go.Proofs.YtjkklgpbblkhaaaGreatDoor
open Go.RowKit Bs Ig

set_option maxRecDepth 100000 in
set_option maxHeartbeats 4000000 in
theorem toint_pos (B : ByteArray) (n k : Nat) (hd : Dgt B 0 n k) (hbs : B.size ≤ 1000000) (hn : n ≤ 9223372036854775807) (c1 c2 : Int) (h1 : 0 ≤ c1) (h2 : c2 ≤ 0) (w : World)
    (hV : ∀ W, Calls Tryz.prog 61 #[.string B] W fun e w' => e = .returned (.bool true) ∧ w' = W)
    (hC1 : ∀ W, Calls Tryz.prog 53 #[.string B, .string minZ] W fun e w' => e = .returned (.int .i64 c1) ∧ Below W.heap.size W w')
    (hC2 : ∀ W, Calls Tryz.prog 53 #[.string B, .string maxZ] W fun e w' => e = .returned (.int .i64 c2) ∧ Below W.heap.size W w') :
    Calls Tryz.prog 37 #[.string B] w fun e w' => e = .returned (.tuple #[.int .i64 (n : Int), .int .i64 0]) ∧ Below w.heap.size w w' := by
  unfold minZ at hC1
  unfold maxZ at hC2
  have hsz := hd.size
  rw [Nat.zero_add] at hsz
  have g0 : 0 < B.size := by have := hd.pos; omega
  obtain ⟨q, hq, hq48⟩ : ∃ q, (B[0]'g0).toNat = q ∧ 48 ≤ q := ⟨_, rfl, by rw [hd.dig 0 g0 (Nat.le_refl _)]; omega⟩
  have g2 : ((q : Int) == 45) = false := beq_false_of_ne (by omega)
  have g3 : (q == 45) = false := beq_false_of_ne (by omega)
  have g4 : decide (0 < (B.size : Int)) = true := decide_eq_true (by omega)
  have e1 : decide (c1 < 0) = false := decide_eq_false (by omega)
  have e2 : decide (0 < c2) = false := decide_eq_false (by omega)
  have e1' : ¬ c1 < 0 := by omega
  have e2' : ¬ 0 < c2 := by omega
  have HV := Lib.hid hV
  have HC1 := Lib.hid hC1
  have HC2 := Lib.hid hC2
  have HD := Lib.hid hd
  have HK := Lib.hid hsz
  clear hV hC1 hC2 hd hsz
  go_enter Tryz.func37, Tryz.ntmps37
  go_wp2_with (first
    | (go_at_call 61; (with_reducible refine (HV.out _).mono ?_); rintro e w1 ⟨rfl, hww⟩; rw [hww]; clear hww w1)
    | (go_at_call 53; (with_reducible refine (HC1.out _).mono ?_); rintro e w1 ⟨rfl, B1⟩)
    | (go_at_call 53; (with_reducible refine (HC2.out _).mono ?_); rintro e w2 ⟨rfl, B2⟩; have B12 := below_on B1 B2 B1.size))
  have HB := Lib.hid B12
  clear B1 B2 B12
  go_loopw [4, 5] (fun u v wr => ∃ i : Nat, u = .int .i64 ((n / 10 ^ (k - i) : Nat) : Int) ∧ v = .int .i64 (i : Int) ∧ i ≤ k ∧ Below w.heap.size w wr) (fun _ v _ => (k - intOf v).toNat)
  case atStart => exact ⟨0, by rw [Nat.sub_zero, Nat.div_eq_of_lt HD.out.lt]; rfl, rfl, Nat.zero_le _, HB.out⟩
  case round =>
    obtain ⟨i, rfl, rfl, hi, hw⟩ := hrel
    rcases Nat.lt_or_ge i k with h | h
    · have hilt : i < B.size := by have := HK.out; omega
      have hb := HD.out.dig i hilt (Nat.zero_le _)
      rw [Nat.zero_add] at hb
      have hs := pre_step n k i h
      have hle : n / 10 ^ (k - 1 - i) ≤ n := Nat.div_le_self _ _
      obtain ⟨N, hN⟩ : ∃ N, n / 10 ^ (k - i) = N := ⟨_, rfl⟩
      obtain ⟨N2, hN2⟩ : ∃ N2, n / 10 ^ (k - 1 - i) = N2 := ⟨_, rfl⟩
      rw [hN, hN2] at hs
      rw [hN2] at hle hb
      rw [hN]
      obtain ⟨r, hr⟩ : ∃ r, N2 % 10 = r := ⟨_, rfl⟩
      have hr9 : r < 10 := by omega
      rw [hr] at hs hb
      have e3 := u8_sub r hr9
      obtain ⟨b, hbk⟩ : ∃ b, 48 + r = b := ⟨_, rfl⟩
      rw [hbk] at hb e3
      have g5 : ((b : Int) == 45) = false := beq_false_of_ne (by omega)
      have g6 : (b == 45) = false := beq_false_of_ne (by omega)
      have e4 : decide (i < B.size) = true := decide_eq_true hilt
      have e5 : decide ((i : Int) < (B.size : Int)) = true := decide_eq_true (by omega)
      have hb1 : 10 * (N : Int) + (r : Int) ≤ 9223372036854775807 := by omega
      have HN2 := Lib.hid hN2
      have HS := Lib.hid hs
      have Hw := Lib.hid hw
      clear hN hN2 hr hbk hs hle hw
      go_wp2_with fail
      go_roundw
      case rel => exact ⟨i + 1, by rw [show k - (i + 1) = k - 1 - i by omega, HN2.out, HS.out]; go_num, by go_num, h, Hw.out⟩
      case measure => simp [intOf]; omega
    · obtain rfl : i = k := by omega
      have e4 : decide (i < B.size) = false := decide_eq_false (by have := HK.out; omega)
      have e5 : decide ((i : Int) < (B.size : Int)) = false := decide_eq_false (by have := HK.out; omega)
      rw [Nat.sub_self, Nat.pow_zero, Nat.div_one]
      go_wp2_with fail
      go_ret2
      exact ⟨rfl, hw⟩

set_option maxRecDepth 100000 in
set_option maxHeartbeats 4000000 in
theorem toint_neg (B : ByteArray) (n k : Nat) (hd : Dgt B 1 n k) (g0 : 0 < B.size) (hq : (B[0]'g0).toNat = 45) (hbs : B.size ≤ 1000000) (hn : n ≤ 9223372036854775808) (c1 c2 : Int) (h1 : 0 ≤ c1) (h2 : c2 ≤ 0) (w : World)
    (hV : ∀ W, Calls Tryz.prog 61 #[.string B] W fun e w' => e = .returned (.bool true) ∧ w' = W)
    (hC1 : ∀ W, Calls Tryz.prog 53 #[.string B, .string minZ] W fun e w' => e = .returned (.int .i64 c1) ∧ Below W.heap.size W w')
    (hC2 : ∀ W, Calls Tryz.prog 53 #[.string B, .string maxZ] W fun e w' => e = .returned (.int .i64 c2) ∧ Below W.heap.size W w') :
    Calls Tryz.prog 37 #[.string B] w fun e w' => e = .returned (.tuple #[.int .i64 (-(n : Int)), .int .i64 0]) ∧ Below w.heap.size w w' := by
  unfold minZ at hC1
  unfold maxZ at hC2
  have hsz := hd.size
  have g4 : decide (0 < (B.size : Int)) = true := decide_eq_true (by omega)
  have e1 : decide (c1 < 0) = false := decide_eq_false (by omega)
  have e2 : decide (0 < c2) = false := decide_eq_false (by omega)
  have e1' : ¬ c1 < 0 := by omega
  have e2' : ¬ 0 < c2 := by omega
  have HV := Lib.hid hV
  have HC1 := Lib.hid hC1
  have HC2 := Lib.hid hC2
  have HD := Lib.hid hd
  have HK := Lib.hid hsz
  clear hV hC1 hC2 hd hsz
  go_enter Tryz.func37, Tryz.ntmps37
  go_wp2_with (first
    | (go_at_call 61; (with_reducible refine (HV.out _).mono ?_); rintro e w1 ⟨rfl, hww⟩; rw [hww]; clear hww w1)
    | (go_at_call 53; (with_reducible refine (HC1.out _).mono ?_); rintro e w1 ⟨rfl, B1⟩)
    | (go_at_call 53; (with_reducible refine (HC2.out _).mono ?_); rintro e w2 ⟨rfl, B2⟩; have B12 := below_on B1 B2 B1.size))
  have HB := Lib.hid B12
  clear B1 B2 B12
  go_loopw [4, 5] (fun u v wr => ∃ i : Nat, u = .int .i64 (-((n / 10 ^ (k + 1 - i) : Nat) : Int)) ∧ v = .int .i64 (i : Int) ∧ i ≤ k + 1 ∧ Below w.heap.size w wr) (fun _ v _ => (k + 1 - intOf v).toNat)
  case atStart => exact ⟨0, by rw [Nat.sub_zero, Nat.div_eq_of_lt (Nat.lt_of_lt_of_le HD.out.lt (Nat.pow_le_pow_right (by omega) (by omega)))]; rfl, rfl, Nat.zero_le _, HB.out⟩
  case round =>
    obtain ⟨i, rfl, rfl, hi, hw⟩ := hrel
    rcases Nat.lt_or_ge i (k + 1) with h | h
    · have hilt : i < B.size := by have := HK.out; omega
      have e4 : decide (i < B.size) = true := decide_eq_true hilt
      have e5 : decide ((i : Int) < (B.size : Int)) = true := decide_eq_true (by omega)
      rcases Nat.eq_zero_or_pos i with h0 | h0
      · subst h0
        have z1 : n / 10 ^ (k + 1 - 0) = 0 := Nat.div_eq_of_lt (Nat.lt_of_lt_of_le HD.out.lt (Nat.pow_le_pow_right (by omega) (by omega)))
        have z2 : n / 10 ^ (k + 1 - (0 + 1)) = 0 := Nat.div_eq_of_lt (Nat.lt_of_lt_of_le HD.out.lt (Nat.pow_le_pow_right (by omega) (by omega)))
        rw [z1]
        have Z2 := Lib.hid z2
        have Hw := Lib.hid hw
        clear z1 z2 hw
        go_wp2_with fail
        go_roundw
        case rel => exact ⟨0 + 1, by rw [Z2.out], by go_num, h, Hw.out⟩
        case measure => simp [intOf]
      · have hb := HD.out.dig i hilt h0
        rw [Nat.add_comm 1 k] at hb
        have hs := pre_step n (k + 1) i h
        have hle : n / 10 ^ (k + 1 - 1 - i) ≤ n := Nat.div_le_self _ _
        obtain ⟨N, hN⟩ : ∃ N, n / 10 ^ (k + 1 - i) = N := ⟨_, rfl⟩
        obtain ⟨N2, hN2⟩ : ∃ N2, n / 10 ^ (k + 1 - 1 - i) = N2 := ⟨_, rfl⟩
        rw [hN, hN2] at hs
        rw [hN2] at hle hb
        rw [hN]
        obtain ⟨r, hr⟩ : ∃ r, N2 % 10 = r := ⟨_, rfl⟩
        have hr9 : r < 10 := by omega
        rw [hr] at hs hb
        have e3 := u8_sub r hr9
        obtain ⟨b, hbk⟩ : ∃ b, 48 + r = b := ⟨_, rfl⟩
        rw [hbk] at hb e3
        have g5 : ((b : Int) == 45) = false := beq_false_of_ne (by omega)
        have g6 : (b == 45) = false := beq_false_of_ne (by omega)
        have hb1 : 10 * (N : Int) + (r : Int) ≤ 9223372036854775808 := by omega
        have HN2 := Lib.hid hN2
        have HS := Lib.hid hs
        have Hw := Lib.hid hw
        clear hN hN2 hr hbk hs hle hw
        go_wp2_with fail
        go_roundw
        case rel => exact ⟨i + 1, by rw [show k + 1 - (i + 1) = k + 1 - 1 - i by omega, HN2.out, HS.out]; go_num, by go_num, h, Hw.out⟩
        case measure => simp [intOf]; omega
    · obtain rfl : i = k + 1 := by omega
      have e4 : decide (k + 1 < B.size) = false := decide_eq_false (by have := HK.out; omega)
      have e5 : decide (((k + 1 : Nat) : Int) < (B.size : Int)) = false := decide_eq_false (by have := HK.out; omega)
      have e6 : decide ((k : Int) + 1 < (B.size : Int)) = false := decide_eq_false (by have := HK.out; omega)
      have e7 : ¬ (k : Int) + 1 < (B.size : Int) := by have := HK.out; omega
      rw [Nat.sub_self, Nat.pow_zero, Nat.div_one]
      go_wp2_with fail
      go_ret2
      exact ⟨rfl, hw⟩

set_option maxRecDepth 100000 in
theorem rToInt_no (a : ByteArray) (ha : a.size ≤ 9223372036854775807) (h : rd a = none) (w : World) :
    Calls Tryz.prog 37 #[.string a] w fun e w' => e = .returned (.tuple #[.int .i64 0, .int .i64 30]) ∧ Below w.heap.size w w' := by
  have HV := Lib.hid (rvalid_no ha h)
  clear ha h
  go_enter Tryz.func37, Tryz.ntmps37
  go_wp2_with (go_at_call 61; (with_reducible refine (HV.out _).mono ?_); rintro e w1 ⟨rfl, hww⟩; rw [hww]; clear hww w1)
  go_ret2
  exact ⟨rfl, Below.refl _ _⟩

set_option maxRecDepth 100000 in
theorem rToInt_low (x : Int) (hx : x.natAbs < big) (h : x < -9223372036854775808) (w : World) :
    Calls Tryz.prog 37 #[.string (bs (Lib.itoa x))] w fun e w' => e = .returned (.tuple #[.int .i64 0, .int .i64 30]) ∧ Below w.heap.size w w' := by
  have HV := Lib.hid (rValid_T x hx)
  have hC := rcmp_min x hx
  unfold minZ at hC
  obtain ⟨c, hc⟩ : ∃ c, cmpZ x (-9223372036854775808) = c := ⟨_, rfl⟩
  have e0 : c < 0 := by rw [← hc]; exact cmpZ_lt.2 h
  have e1 : decide (c < 0) = true := decide_eq_true e0
  rw [hc] at hC
  have HC := Lib.hid hC
  generalize bs (Lib.itoa x) = X at *
  clear hx h hc hC
  go_enter Tryz.func37, Tryz.ntmps37
  go_wp2_with (first
    | (go_at_call 61; (with_reducible refine (HV.out _).mono ?_); rintro e w1 ⟨rfl, hww⟩; rw [hww]; clear hww w1)
    | (go_at_call 53; (with_reducible refine (HC.out _).mono ?_); rintro e w1 ⟨rfl, B1⟩))
  go_ret2
  exact ⟨rfl, B1⟩

set_option maxRecDepth 100000 in
theorem rToInt_high (x : Int) (hx : x.natAbs < big) (h : 9223372036854775807 < x) (w : World) :
    Calls Tryz.prog 37 #[.string (bs (Lib.itoa x))] w fun e w' => e = .returned (.tuple #[.int .i64 0, .int .i64 30]) ∧ Below w.heap.size w w' := by
  have HV := Lib.hid (rValid_T x hx)
  have hC := rcmp_min x hx
  have hD := rcmp_max x hx
  unfold minZ at hC
  unfold maxZ at hD
  obtain ⟨c, hc⟩ : ∃ c, cmpZ x (-9223372036854775808) = c := ⟨_, rfl⟩
  obtain ⟨d, hd⟩ : ∃ d, cmpZ x 9223372036854775807 = d := ⟨_, rfl⟩
  have e0 : ¬ c < 0 := by rw [← hc, cmpZ_lt]; omega
  have e1 : decide (c < 0) = false := decide_eq_false e0
  have e2 : 0 < d := by rw [← hd]; exact cmpZ_gt.2 h
  have e3 : decide (0 < d) = true := decide_eq_true e2
  rw [hc] at hC
  rw [hd] at hD
  have HC := Lib.hid hC
  have HD := Lib.hid hD
  generalize bs (Lib.itoa x) = X at *
  clear hx h hc hd hC hD
  go_enter Tryz.func37, Tryz.ntmps37
  go_wp2_with (first
    | (go_at_call 61; (with_reducible refine (HV.out _).mono ?_); rintro e w1 ⟨rfl, hww⟩; rw [hww]; clear hww w1)
    | (go_at_call 53; (with_reducible refine (HC.out _).mono ?_); rintro e w1 ⟨rfl, B1⟩)
    | (go_at_call 53; (with_reducible refine (HD.out _).mono ?_); rintro e w2 ⟨rfl, B2⟩; have B12 := below_on B1 B2 B1.size))
  go_ret2
  exact ⟨rfl, B12⟩

theorem rToInt_S (a : ByteArray) (ha : a.size ≤ 9223372036854775807) (w : World) :
    Calls Tryz.prog 37 #[.string a] w fun e w' => e = .returned (.tuple #[.int .i64 (toiS a).1, .int .i64 (toiS a).2]) ∧ Below w.heap.size w w' := by
  unfold toiS
  cases hr : rd a with
  | none => exact rToInt_no a ha hr w
  | some x =>
    obtain ⟨hx, rfl⟩ := rd_eq hr
    by_cases h : isInt x
    · simp only [toiZ, if_pos h]
      obtain ⟨hl, hh⟩ := h
      have c1 : 0 ≤ cmpZ x (-9223372036854775808) := by have : ¬ cmpZ x (-9223372036854775808) < 0 := by rw [cmpZ_lt]; omega
                                                        omega
      have c2 : cmpZ x 9223372036854775807 ≤ 0 := by have : ¬ 0 < cmpZ x 9223372036854775807 := by rw [cmpZ_gt]; omega
                                                     omega
      have hV := rValid_T x hx
      have hbz : (bs (Lib.itoa x)).size ≤ 1000000 := by rw [bs_size]; have := itoa_len hx; omega
      have hC := rcmp_min x hx
      have hD := rcmp_max x hx
      rcases int_cases x with ⟨n, rfl⟩ | ⟨n, hn, rfl⟩
      · obtain ⟨k, hd⟩ := Dgt.nonneg n
        rw [itoa_nat] at hV hC hD hbz ⊢
        exact toint_pos _ n k hd hbz (by omega) _ _ c1 c2 w hV hC hD
      · obtain ⟨k, hd, g0, hq⟩ := Dgt.neg n hn
        rw [itoa_neg n hn] at hV hC hD hbz ⊢
        exact toint_neg _ n k hd g0 hq hbz (by omega) _ _ c1 c2 w hV hC hD
    · simp only [toiZ, if_neg h]
      rcases Int.lt_or_le x (-9223372036854775808) with h1 | h1
      · exact rToInt_low x hx h1 w
      · exact rToInt_high x hx (by unfold isInt at h; omega) w

end Go.Proofs.YtjkklgpbblkhaaaGreatDoor

/-
  RationalMachine: the mathematics.
-/
namespace Go.Proofs.YtjkklgpbblkhaaaGreatDoor
open Go.RowKit Bs Ig Qq

/-- the answer is a fraction of small integers with the value x / y -/
def OkM (r : ByteArray × ByteArray × Int) (x y : Int) : Prop := ∃ z : Int × Int, r = (T z.1, T z.2, 0) ∧ FV z ∧ z.1.natAbs ≤ 2000000000 ∧ 1 ≤ z.2 ∧ z.2 ≤ 2000000000 ∧ z.1 * y = x * z.2
theorem mul_le9 {a b : Int} (ha : a.natAbs ≤ 30000) (hb : b.natAbs ≤ 30000) : (a * b).natAbs ≤ 900000000 := by
  rw [Int.natAbs_mul]
  exact Nat.mul_le_mul ha hb
theorem small_b {z : Int} (h : z.natAbs ≤ 2000000000) : z.natAbs < big := lt_big19 z (by omega)
theorem red_ok {X Y x y : Int} (hY : Y ≠ 0) (hX2 : X.natAbs ≤ 2000000000) (hY2 : Y.natAbs ≤ 2000000000) (hv : Val (red X Y) x y) : OkM (okA (red X Y)) x y := by
  have hl := red_le (n := X) (d := Y)
  have hf := red_isF (n := X) hY
  refine ⟨red X Y, rfl, red_FV hY (small_b hX2) (small_b hY2), by omega, by have := hf.pos; omega, by have := hf.pos; omega, hv.2⟩
theorem makeQ_T' {n d : Int} (hn : n.natAbs < big) (hd : d.natAbs < big) (h : d ≠ 0) : makeQ (T n) (T d) = okA (red n d) := by
  unfold makeQ
  refine buildS_ok ?_
  rw [runS_ok (N' := T (red n d).1) (D' := T (red n d).2) (reduceS_T hn hd h)]
  rfl
theorem mach_facts {n d m c : Int} (hn : n.natAbs ≤ 30000) (hm : m.natAbs ≤ 30000) (hd : 1 ≤ d) (hd2 : d ≤ 30000) (hc : 1 ≤ c) (hc2 : c ≤ 30000) :
    ∃ p q : Int × Int, makeQ (T n) (T d) = okA p ∧ makeQ (T m) (T c) = okA q ∧ FV p ∧ FV q ∧
      OkM (addQ (T p.1) (T p.2) (T q.1) (T q.2)) (n * c + m * d) (d * c) ∧ OkM (subQ (T p.1) (T p.2) (T q.1) (T q.2)) (n * c - m * d) (d * c) ∧ OkM (mulQ (T p.1) (T p.2) (T q.1) (T q.2)) (n * m) (d * c) ∧
      (m = 0 ∧ divQ (T p.1) (T p.2) (T q.1) (T q.2) = noA ∨ m ≠ 0 ∧ OkM (divQ (T p.1) (T p.2) (T q.1) (T q.2)) (n * c) (d * m)) ∧ cmpF p q = Int.sign (n * c - m * d) := by
  have hp := red_FV (n := n) (d := d) (by omega) (small_b (by omega)) (small_b (by omega))
  have hq := red_FV (n := m) (d := c) (by omega) (small_b (by omega)) (small_b (by omega))
  have vp := red_val (n := n) (d := d) (by omega)
  have vq := red_val (n := m) (d := c) (by omega)
  obtain ⟨lp1, lp2⟩ := red_le (n := n) (d := d)
  obtain ⟨lq1, lq2⟩ := red_le (n := m) (d := c)
  have e1 := makeQ_T' (n := n) (d := d) (small_b (by omega)) (small_b (by omega)) (by omega)
  have e2 := makeQ_T' (n := m) (d := c) (small_b (by omega)) (small_b (by omega)) (by omega)
  refine ⟨red n d, red m c, e1, e2, hp, hq, ?_⟩
  have h0 : (red m c).1 = 0 ↔ m = 0 := Val.num0 hq.isF vq
  have va := Val.add hp.isF hq.isF vp vq
  have vs := Val.sub hp.isF hq.isF vp vq
  have vm := Val.mul hp.isF hq.isF vp vq
  have vd := fun h => Val.div hp.isF hq.isF vp vq h
  have vc := cmp_val hp.isF hq.isF vp vq (by omega) (by omega)
  generalize red n d = p at *
  generalize red m c = q at *
  have b1 : (p.1 * q.2).natAbs ≤ 900000000 := mul_le9 (by omega) (by omega)
  have b2 : (q.1 * p.2).natAbs ≤ 900000000 := mul_le9 (by omega) (by omega)
  have b3 : (p.2 * q.2).natAbs ≤ 900000000 := mul_le9 (by omega) (by omega)
  have b4 : (p.1 * q.1).natAbs ≤ 900000000 := mul_le9 (by omega) (by omega)
  have b5 : (p.2 * q.1).natAbs ≤ 900000000 := mul_le9 (by omega) (by omega)
  have hden := den_ne hp.isF hq.isF
  refine ⟨?_, ?_, ?_, ?_, vc⟩
  · rw [addQ_ok hp hq (small_b (by omega)) (small_b (by omega)) (small_b (by omega)) (small_b (by omega))]
    exact red_ok hden (by omega) (by omega) va
  · rw [subQ_ok hp hq (small_b (by omega)) (small_b (by omega)) (small_b (by omega)) (small_b (by omega))]
    exact red_ok hden (by omega) (by omega) vs
  · rw [mulQ_ok hp hq (small_b (by omega)) (small_b (by omega))]
    exact red_ok hden (by omega) (by omega) vm
  · by_cases h : m = 0
    · exact .inl ⟨h, divQ_no hp hq (fun hh => hh.1 (h0.2 h))⟩
    · refine .inr ⟨h, ?_⟩
      have hq0 : q.1 ≠ 0 := fun hh => h (h0.1 hh)
      rw [divQ_ok hp hq hq0 (small_b (by omega)) (small_b (by omega))]
      exact red_ok (Int.mul_ne_zero (by have := hp.isF.pos; omega) hq0) (by omega) (by omega) (vd h)
theorem toi_T {z : Int} (h : z.natAbs ≤ 2000000000) : toiS (T z) = (z, 0) := by
  unfold toiS
  rw [rd_T (small_b h)]
  unfold toiZ
  exact if_pos ⟨by omega, by omega⟩
/-- an answer that is small: its integers, and what is checked of them -/
theorem ok_rows {r : ByteArray × ByteArray × Int} {x y : Int} (h : OkM r x y) : ∃ (N D : ByteArray) (z1 z2 k : Int), r = (N, D, 0) ∧ toiS N = (z1, 0) ∧ toiS D = (z2, 0) ∧ 1 ≤ z2 ∧ z1 * y = k ∧ x * z2 = k ∧ validB N D = true ∧ N.size ≤ 1000 ∧ D.size ≤ 1000 ∧ z1.natAbs ≤ 2000000000 ∧ z2 ≤ 2000000000 := by
  obtain ⟨z, rfl, hF, h1, h2, h3, h4⟩ := h
  refine ⟨T z.1, T z.2, z.1, z.2, _, rfl, toi_T h1, toi_T (by omega), h2, h4, rfl, validB_T hF, ?_, ?_, h1, h3⟩
  · unfold T; rw [bs_size]; have := itoa_len hF.b1; omega
  · unfold T; rw [bs_size]; have := itoa_len hF.b2; omega

end Go.Proofs.YtjkklgpbblkhaaaGreatDoor

/-
  Layer 4: pick; powers of ten that a loop writes.
-/
namespace Go.Proofs.YtjkklgpbblkhaaaGreatDoor
open Go.RowKit Bs Ig Qq

set_option maxRecDepth 100000 in
set_option maxHeartbeats 4000000 in
theorem pick4_any (c : Int) (h0 : -9223372036854775808 ≤ c) (h1 : c ≤ 9223372036854775807) (m : Nat) (M : Int) (hM : M = (m : Int)) (hm : 0 < m) (w : World) :
    Calls Tryz.prog 22 #[.int .i64 c, .int .i64 M] w fun e w' => ∃ k : Nat, k < m ∧ e = .returned (.int .i64 (k : Int)) ∧ w' = w := by
  subst hM
  have hm0 : ((m : Int) == 0) = false := beq_false_of_ne (by omega)
  have hm1 : decide ((m : Int) = 0) = false := decide_eq_false (by omega)
  rcases Int.lt_or_le c 0 with h | h
  · obtain ⟨d, he⟩ : ∃ d : Nat, -(c + 1) = (d : Int) := ⟨(-(c + 1)).toNat, by omega⟩
    have hd : decide (c < 0) = true := decide_eq_true h
    have ht : (d : Int).tmod (m : Int) = ((d % m : Nat) : Int) := (Int.ofNat_tmod d m).symm
    have hlt := Nat.mod_lt d hm
    obtain ⟨k, hk⟩ : ∃ k, d % m = k := ⟨_, rfl⟩
    rw [hk] at ht hlt
    clear hk
    go_enter Tryz.func22, Tryz.ntmps22
    go_wp2_with fail
    go_ret
    exact ⟨k, hlt, rfl, rfl⟩
  · obtain ⟨d, rfl⟩ : ∃ d : Nat, c = (d : Int) := ⟨c.toNat, by omega⟩
    have ht : (d : Int).tmod (m : Int) = ((d % m : Nat) : Int) := (Int.ofNat_tmod d m).symm
    have hlt := Nat.mod_lt d hm
    obtain ⟨k, hk⟩ : ∃ k, d % m = k := ⟨_, rfl⟩
    rw [hk] at ht hlt
    clear hk h
    go_enter Tryz.func22, Tryz.ntmps22
    go_wp2_with fail
    go_ret
    exact ⟨k, hlt, rfl, rfl⟩
theorem tq_zero : tq 0 = ⟨#[49]⟩ := rfl
theorem tq_succ (i : Nat) : tq i ++ ⟨#[48]⟩ = tq (i + 1) := by
  unfold tq zb
  rw [show (⟨#[49]⟩ : ByteArray) = bs [49] from rfl, show (⟨#[48]⟩ : ByteArray) = bs [48] from rfl, bs_append, bs_append, bs_append, List.append_assoc]
  congr 2
  rw [List.replicate_succ']
theorem tq_size (i : Nat) : (tq i).size = i + 1 := by
  unfold tq zb
  rw [show (⟨#[49]⟩ : ByteArray) = bs [49] from rfl, bs_append, bs_size, List.length_append, List.length_replicate]
  show 1 + i = i + 1
  omega

end Go.Proofs.YtjkklgpbblkhaaaGreatDoor
