/-
  IntegerDivided: for every two strings, and in every memory in which the table of the decimal powers holds its numbers, the law returns true.
-/
import Derived.Test.YtieaelipgieaoaaDoorJbb
namespace Go.Proofs.YtieaelipgieaoaaDoor
open Go.RowKit Bs Ig

theorem mod_bounds (x y : Int) (hy : y ≠ 0) {u : Int} (hu : u = if y < 0 then -y else y) : decide (0 ≤ cmpZ (x % y) 0) = true ∧ decide (cmpZ (x % y) u < 0) = true := by
  have h0 := Int.emod_nonneg x hy
  have h1 := Int.emod_lt x hy
  unfold cmpZ
  constructor
  · rw [if_neg (by omega)]; split <;> rfl
  · rw [if_pos (by split at hu <;> omega)]; rfl
theorem div_lt {x : Int} {i : Nat} (hx : x.natAbs < 10 ^ i) (y : Int) : (x / y).natAbs < 10 ^ i := Nat.lt_of_le_of_lt (Int.natAbs_ediv_le_natAbs x y) hx
theorem mod_lt {y : Int} {i : Nat} (hy : y.natAbs < 10 ^ i) (x : Int) (h0 : y ≠ 0) : (x % y).natAbs < 10 ^ i := by
  have := Int.emod_nonneg x h0
  have := Int.emod_lt x h0
  omega

set_option maxRecDepth 100000 in
set_option maxHeartbeats 8000000 in
theorem IntegerDivided_any (a b : ByteArray) (ha : a.size ≤ 9223372036854775807) (hb : b.size ≤ 9223372036854775807) (w : World) (ht : TabP w) :
    Calls Tryd.prog 6 #[.string a, .string b] w fun e w' => e = .returned (.bool true) ∧ Below w.heap.size w w' := by
  obtain ⟨T, HO⟩ := opm
  have HN := Lib.hid (Now.start ht)
  have Ma := Lib.hid (HO.made a ha 90 90 rfl (by omega))
  have Mb := Lib.hid (HO.made b hb 60 60 rfl (by omega))
  have H := Lib.hid HO
  clear HO ha hb ht
  go_enter Tryd.func6, Tryd.ntmps6
  go_wp2_with (first
      | (go_at_call 11; (with_reducible refine (sane_any _ HN.out.tab).mono ?_); rintro e ww ⟨rfl, hB⟩; have HN := Lib.hid (HN.out.step hB); clear hB)
      | (go_at_call 20; (with_reducible refine (Ma.out _).mono ?_); rintro e ww ⟨x, hx, rfl, hB⟩; have HN := Lib.hid (HN.out.step hB); clear hB)
      | (go_at_call 20; (with_reducible refine (Mb.out _).mono ?_); rintro e ww ⟨y, hy, rfl, hB⟩; have HN := Lib.hid (HN.out.step hB); clear hB))
  have HO := H.out.ops
  have hy0 := HO.eq0 y
  rcases Decidable.em (y = 0) with h0 | h0
  · rw [decide_eq_true h0] at hy0
    have D1 := Lib.hid (HO.divz x y (lt_big hx (by omega)) h0)
    generalize T x = X at *
    generalize T y = Y at *
    clear hx hy HO H h0
    go_wp2_with (first
        | (go_at_call 18; (with_reducible refine (D1.out _).mono ?_); rintro e ww ⟨rfl, hB⟩; have HN := Lib.hid (HN.out.step hB); clear hB))
    go_ret
    exact ⟨rfl, HN.out.below⟩
  · rw [decide_eq_false h0] at hy0
    have D1 := Lib.hid (HO.div x y _ _ (lt_big hx (by omega)) (lt_big hy (by omega)) h0 rfl rfl)
    have M1 := Lib.hid (HO.mul (x / y) y _ (lt_big (div_lt hx y) (by omega)) (lt_big hy (by omega)) rfl (lt_big (mul_lt (div_lt hx y) hy) (by omega)))
    have A1 := Lib.hid (HO.add (x / y * y) (x % y) x (lt_big (mul_lt (div_lt hx y) hy) (by omega)) (lt_big (mod_lt hy x h0) (by omega)) (by rw [Int.mul_comm]; exact Int.mul_ediv_add_emod x y) (lt_big hx (by omega)))
    have m2 := HO.mul y 1 y (lt_big hy (by omega)) one_big (Int.mul_one y) (lt_big hy (by omega))
    rw [HO.one] at m2
    have M2 := Lib.hid m2
    have c1 := HO.cmp y 0 _ (lt_big hy (by omega)) zero_big rfl
    rw [HO.zero] at c1
    have C1 := Lib.hid c1
    have s1 := HO.sub 0 y (-y) zero_big (lt_big hy (by omega)) (Int.zero_sub y) (by rw [Int.natAbs_neg]; exact lt_big hy (by omega))
    rw [HO.zero] at s1
    have S1 := Lib.hid s1
    have M3 := Lib.hid (HO.mul x y _ (lt_big hx (by omega)) (lt_big hy (by omega)) rfl (lt_big (mul_lt hx hy) (by omega)))
    have D2 := Lib.hid (HO.div (x * y) y x 0 (lt_big (mul_lt hx hy) (by omega)) (lt_big hy (by omega)) h0 (Int.mul_ediv_cancel x h0) (Int.mul_emod_left x y))
    have c2 := HO.cmp (x % y) 0 _ (lt_big (mod_lt hy x h0) (by omega)) zero_big rfl
    rw [HO.zero] at c2
    have C2 := Lib.hid c2
    have V1 := Lib.hid (HO.valid (x % y) (lt_big (mod_lt hy x h0) (by omega)))
    have hz0 : ((T 0).toList == [48]) = true := by rw [HO.eq0]; rfl
    rcases Int.lt_or_lt_of_ne h0 with hs | hs
    · obtain ⟨b1, b2⟩ := mod_bounds x y h0 (u := -y) (by rw [if_pos hs])
      have C3 := Lib.hid (HO.cmp (x % y) (-y) _ (lt_big (mod_lt hy x h0) (by omega)) (by rw [Int.natAbs_neg]; exact lt_big hy (by omega)) rfl)
      have hsg : decide (cmpZ y 0 < 0) = true := by unfold cmpZ; rw [if_pos hs]; rfl
      generalize cmpZ (x % y) (-y) = v1 at *
      generalize cmpZ (x % y) 0 = v2 at *
      generalize cmpZ y 0 = v3 at *
      generalize T x = X at *
      generalize T y = Y at *
      generalize T (x / y) = Q at *
      generalize T (x % y) = R at *
      generalize T (x / y * y) = P at *
      generalize T (-y) = N at *
      generalize T (x * y) = XY at *
      generalize T 0 = Z at *
      clear hx hy HO H h0 m2 c1 s1 c2 hs
      go_wp2_with (first
          | (go_at_call 17; (with_reducible refine (C1.out _).mono ?_); rintro e ww ⟨rfl, hB⟩; have HN := Lib.hid (HN.out.step hB); clear hB)
          | (go_at_call 17; (with_reducible refine (C2.out _).mono ?_); rintro e ww ⟨rfl, hB⟩; have HN := Lib.hid (HN.out.step hB); clear hB)
          | (go_at_call 17; (with_reducible refine (C3.out _).mono ?_); rintro e ww ⟨rfl, hB⟩; have HN := Lib.hid (HN.out.step hB); clear hB)
          | (go_at_call 14; (with_reducible refine (A1.out _ HN.out.tab).mono ?_); rintro e ww ⟨rfl, hB⟩; have HN := Lib.hid (HN.out.step hB); clear hB)
          | (go_at_call 15; (with_reducible refine (S1.out _ HN.out.tab).mono ?_); rintro e ww ⟨rfl, hB⟩; have HN := Lib.hid (HN.out.step hB); clear hB)
          | (go_at_call 16; (with_reducible refine (M1.out _ HN.out.tab).mono ?_); rintro e ww ⟨rfl, hB⟩; have HN := Lib.hid (HN.out.step hB); clear hB)
          | (go_at_call 16; (with_reducible refine (M2.out _ HN.out.tab).mono ?_); rintro e ww ⟨rfl, hB⟩; have HN := Lib.hid (HN.out.step hB); clear hB)
          | (go_at_call 16; (with_reducible refine (M3.out _ HN.out.tab).mono ?_); rintro e ww ⟨rfl, hB⟩; have HN := Lib.hid (HN.out.step hB); clear hB)
          | (go_at_call 18; (with_reducible refine (D1.out _ HN.out.tab).mono ?_); rintro e ww ⟨rfl, hB⟩; have HN := Lib.hid (HN.out.step hB); clear hB)
          | (go_at_call 18; (with_reducible refine (D2.out _ HN.out.tab).mono ?_); rintro e ww ⟨rfl, hB⟩; have HN := Lib.hid (HN.out.step hB); clear hB)
          | (go_at_call 19; (with_reducible refine (V1.out _).mono ?_); rintro e ww ⟨rfl, rfl⟩))
      go_ret
      exact ⟨rfl, HN.out.below⟩
    · obtain ⟨b1, b2⟩ := mod_bounds x y h0 (u := y) (by rw [if_neg (by omega)])
      have C3 := Lib.hid (HO.cmp (x % y) y _ (lt_big (mod_lt hy x h0) (by omega)) (lt_big hy (by omega)) rfl)
      have hsg : decide (cmpZ y 0 < 0) = false := by unfold cmpZ; rw [if_neg (by omega), if_pos hs]; rfl
      generalize cmpZ (x % y) y = v1 at *
      generalize cmpZ (x % y) 0 = v2 at *
      generalize cmpZ y 0 = v3 at *
      generalize T x = X at *
      generalize T y = Y at *
      generalize T (x / y) = Q at *
      generalize T (x % y) = R at *
      generalize T (x / y * y) = P at *
      generalize T (-y) = N at *
      generalize T (x * y) = XY at *
      generalize T 0 = Z at *
      clear hx hy HO H h0 m2 c1 s1 c2 hs
      go_wp2_with (first
          | (go_at_call 17; (with_reducible refine (C1.out _).mono ?_); rintro e ww ⟨rfl, hB⟩; have HN := Lib.hid (HN.out.step hB); clear hB)
          | (go_at_call 17; (with_reducible refine (C2.out _).mono ?_); rintro e ww ⟨rfl, hB⟩; have HN := Lib.hid (HN.out.step hB); clear hB)
          | (go_at_call 17; (with_reducible refine (C3.out _).mono ?_); rintro e ww ⟨rfl, hB⟩; have HN := Lib.hid (HN.out.step hB); clear hB)
          | (go_at_call 14; (with_reducible refine (A1.out _ HN.out.tab).mono ?_); rintro e ww ⟨rfl, hB⟩; have HN := Lib.hid (HN.out.step hB); clear hB)
          | (go_at_call 15; (with_reducible refine (S1.out _ HN.out.tab).mono ?_); rintro e ww ⟨rfl, hB⟩; have HN := Lib.hid (HN.out.step hB); clear hB)
          | (go_at_call 16; (with_reducible refine (M1.out _ HN.out.tab).mono ?_); rintro e ww ⟨rfl, hB⟩; have HN := Lib.hid (HN.out.step hB); clear hB)
          | (go_at_call 16; (with_reducible refine (M2.out _ HN.out.tab).mono ?_); rintro e ww ⟨rfl, hB⟩; have HN := Lib.hid (HN.out.step hB); clear hB)
          | (go_at_call 16; (with_reducible refine (M3.out _ HN.out.tab).mono ?_); rintro e ww ⟨rfl, hB⟩; have HN := Lib.hid (HN.out.step hB); clear hB)
          | (go_at_call 18; (with_reducible refine (D1.out _ HN.out.tab).mono ?_); rintro e ww ⟨rfl, hB⟩; have HN := Lib.hid (HN.out.step hB); clear hB)
          | (go_at_call 18; (with_reducible refine (D2.out _ HN.out.tab).mono ?_); rintro e ww ⟨rfl, hB⟩; have HN := Lib.hid (HN.out.step hB); clear hB)
          | (go_at_call 19; (with_reducible refine (V1.out _).mono ?_); rintro e ww ⟨rfl, rfl⟩))
      go_ret
      exact ⟨rfl, HN.out.below⟩

end Go.Proofs.YtieaelipgieaoaaDoor
