/-
  IntegerRoot: for every string, and in every memory in which the table of the decimal powers holds its numbers, the law returns true.
-/
import Derived.Test.YtieaelipgieaoaaDoorJbb
namespace Go.Proofs.YtieaelipgieaoaaDoor
open Go.RowKit Bs Ig

theorem rt_lt {x : Int} {i : Nat} (hx : x.natAbs < 10 ^ i) : ((rt x.natAbs : Nat) : Int).natAbs < 10 ^ i := by rw [Int.natAbs_natCast]; exact Nat.lt_of_le_of_lt (rt_le _) hx
theorem rt_square (x : Int) : ((rt (x * x).natAbs : Nat) : Int) = if x < 0 then -x else x := by
  rw [Int.natAbs_mul, rt_sq]
  split <;> omega

set_option maxRecDepth 100000 in
set_option maxHeartbeats 8000000 in
theorem IntegerRoot_any (a : ByteArray) (ha : a.size ≤ 9223372036854775807) (w : World) (ht : TabP w) :
    Calls Tryd.prog 8 #[.string a] w fun e w' => e = .returned (.bool true) ∧ Below w.heap.size w w' := by
  obtain ⟨T, HO⟩ := opm
  have HN := Lib.hid (Now.start ht)
  have Ma := Lib.hid (HO.made a ha 80 80 rfl (by omega))
  have H := Lib.hid HO
  clear HO ha ht
  go_enter Tryd.func8, Tryd.ntmps8
  go_wp2_with (first
      | (go_at_call 11; (with_reducible refine (sane_any _ HN.out.tab).mono ?_); rintro e ww ⟨rfl, hB⟩; have HN := Lib.hid (HN.out.step hB); clear hB)
      | (go_at_call 20; (with_reducible refine (Ma.out _).mono ?_); rintro e ww ⟨x, hx, rfl, hB⟩; have HN := Lib.hid (HN.out.step hB); clear hB))
  have HO := H.out.ops
  have M1 := Lib.hid (HO.mul x x _ (lt_big hx (by omega)) (lt_big hx (by omega)) rfl (lt_big (mul_lt hx hx) (by omega)))
  have hsq := rt_square x
  have hsq0 : 0 ≤ x * x := by
    rcases Int.le_total 0 x with h | h
    · exact Int.mul_nonneg h h
    · exact Int.mul_nonneg_of_nonpos_of_nonpos h h
  have c1 := HO.cmp x 0 _ (lt_big hx (by omega)) zero_big rfl
  rw [HO.zero] at c1
  have C1 := Lib.hid c1
  rcases Int.lt_or_le x 0 with hs | hs
  · rw [if_pos hs] at hsq
    have R1 := Lib.hid (HO.rootn x (lt_big hx (by omega)) hs)
    have R2 := Lib.hid (HO.root (x * x) (-x) (lt_big (mul_lt hx hx) (by omega)) hsq0 hsq)
    have A1 := Lib.hid (HO.add (-x) x 0 (by rw [Int.natAbs_neg]; exact lt_big hx (by omega)) (lt_big hx (by omega)) (by omega) zero_big)
    have hz0 : ((T 0).toList == [48]) = true := by rw [HO.eq0]; rfl
    have hne : ((T (-x)).toList == (T x).toList) = false := by rw [HO.eq]; exact decide_eq_false (by omega)
    have hsg : decide (cmpZ x 0 < 0) = true := by unfold cmpZ; rw [if_pos hs]; rfl
    generalize cmpZ x 0 = v3 at *
    generalize T x = X at *
    generalize T (x * x) = XX at *
    generalize T (-x) = N at *
    generalize T 0 = Z at *
    clear hx HO H c1 hs hsq hsq0
    go_wp2_with (first
        | (go_at_call 17; (with_reducible refine (C1.out _).mono ?_); rintro e ww ⟨rfl, hB⟩; have HN := Lib.hid (HN.out.step hB); clear hB)
        | (go_at_call 14; (with_reducible refine (A1.out _ HN.out.tab).mono ?_); rintro e ww ⟨rfl, hB⟩; have HN := Lib.hid (HN.out.step hB); clear hB)
        | (go_at_call 16; (with_reducible refine (M1.out _ HN.out.tab).mono ?_); rintro e ww ⟨rfl, hB⟩; have HN := Lib.hid (HN.out.step hB); clear hB)
        | (go_at_call 22; (with_reducible refine (R1.out _).mono ?_); rintro e ww ⟨rfl, hB⟩; have HN := Lib.hid (HN.out.step hB); clear hB)
        | (go_at_call 22; (with_reducible refine (R2.out _ HN.out.tab).mono ?_); rintro e ww ⟨rfl, hB⟩; have HN := Lib.hid (HN.out.step hB); clear hB))
    go_ret
    exact ⟨rfl, HN.out.below⟩
  · rw [if_neg (by omega)] at hsq
    have hsp := rt_spec x.natAbs
    have hrl := rt_lt hx
    have R1 := Lib.hid (HO.root x _ (lt_big hx (by omega)) hs rfl)
    have R2 := Lib.hid (HO.root (x * x) x (lt_big (mul_lt hx hx) (by omega)) hsq0 hsq)
    have A1 := Lib.hid (HO.add x x _ (lt_big hx (by omega)) (lt_big hx (by omega)) rfl (lt_big (add_lt hx hx) (by omega)))
    have hxx : x = (x.natAbs : Int) := by omega
    obtain ⟨n, hn⟩ : ∃ n, x.natAbs = n := ⟨_, rfl⟩
    rw [hn] at hxx hsp hrl R1
    obtain ⟨r, hr⟩ : ∃ r, rt n = r := ⟨_, rfl⟩
    rw [hr] at hsp hrl R1
    have M2 := Lib.hid (HO.mul (r : Int) (r : Int) _ (lt_big hrl (by omega)) (lt_big hrl (by omega)) rfl (lt_big (mul_lt hrl hrl) (by omega)))
    have hr1 : ((r : Int) + 1).natAbs < 10 ^ (80 + 1) := add_lt hrl (show (1 : Int).natAbs < 10 ^ 80 from Nat.lt_of_lt_of_le (show (1 : Int).natAbs < 10 ^ 1 by decide) (Nat.pow_le_pow_right (by omega) (by omega)))
    have a2 := HO.add (r : Int) 1 _ (lt_big hrl (by omega)) one_big rfl (lt_big hr1 (by omega))
    rw [HO.one] at a2
    have A2 := Lib.hid a2
    have M3 := Lib.hid (HO.mul ((r : Int) + 1) ((r : Int) + 1) _ (lt_big hr1 (by omega)) (lt_big hr1 (by omega)) rfl (lt_big (mul_lt hr1 hr1) (by omega)))
    have C2 := Lib.hid (HO.cmp ((r : Int) * r) x _ (lt_big (mul_lt hrl hrl) (by omega)) (lt_big hx (by omega)) rfl)
    have C3 := Lib.hid (HO.cmp (((r : Int) + 1) * ((r : Int) + 1)) x _ (lt_big (mul_lt hr1 hr1) (by omega)) (lt_big hx (by omega)) rfl)
    have b1 : (r : Int) * r ≤ x := by rw [hxx]; exact_mod_cast hsp.1
    have b2 : x < ((r : Int) + 1) * ((r : Int) + 1) := by rw [hxx]; exact_mod_cast hsp.2
    have hsg : decide (cmpZ x 0 < 0) = false := by unfold cmpZ; rw [if_neg (by omega)]; split <;> rfl
    have hsl : decide (cmpZ ((r : Int) * r) x ≤ 0) = true := by
      unfold cmpZ
      by_cases h : (r : Int) * r < x
      · rw [if_pos h]; rfl
      · rw [if_neg h, if_neg (by omega)]; rfl
    have hsh : decide (0 < cmpZ (((r : Int) + 1) * ((r : Int) + 1)) x) = true := by unfold cmpZ; rw [if_neg (by omega), if_pos b2]; rfl
    generalize cmpZ x 0 = v3 at *
    generalize cmpZ ((r : Int) * r) x = v1 at *
    generalize cmpZ (((r : Int) + 1) * ((r : Int) + 1)) x = v2 at *
    generalize T (((r : Int) + 1) * ((r : Int) + 1)) = HI at *
    generalize T ((r : Int) * r) = LO at *
    generalize T ((r : Int) + 1) = NX at *
    generalize T (r : Int) = R at *
    generalize T (x + x) = D at *
    generalize T (x * x) = XX at *
    generalize T x = X at *
    clear hx HO H c1 hs hsq hsq0 hsp hrl hxx hn hr hr1 a2 b1 b2
    go_wp2_with (first
        | (go_at_call 17; (with_reducible refine (C1.out _).mono ?_); rintro e ww ⟨rfl, hB⟩; have HN := Lib.hid (HN.out.step hB); clear hB)
        | (go_at_call 17; (with_reducible refine (C2.out _).mono ?_); rintro e ww ⟨rfl, hB⟩; have HN := Lib.hid (HN.out.step hB); clear hB)
        | (go_at_call 17; (with_reducible refine (C3.out _).mono ?_); rintro e ww ⟨rfl, hB⟩; have HN := Lib.hid (HN.out.step hB); clear hB)
        | (go_at_call 14; (with_reducible refine (A1.out _ HN.out.tab).mono ?_); rintro e ww ⟨rfl, hB⟩; have HN := Lib.hid (HN.out.step hB); clear hB)
        | (go_at_call 14; (with_reducible refine (A2.out _ HN.out.tab).mono ?_); rintro e ww ⟨rfl, hB⟩; have HN := Lib.hid (HN.out.step hB); clear hB)
        | (go_at_call 16; (with_reducible refine (M1.out _ HN.out.tab).mono ?_); rintro e ww ⟨rfl, hB⟩; have HN := Lib.hid (HN.out.step hB); clear hB)
        | (go_at_call 16; (with_reducible refine (M2.out _ HN.out.tab).mono ?_); rintro e ww ⟨rfl, hB⟩; have HN := Lib.hid (HN.out.step hB); clear hB)
        | (go_at_call 16; (with_reducible refine (M3.out _ HN.out.tab).mono ?_); rintro e ww ⟨rfl, hB⟩; have HN := Lib.hid (HN.out.step hB); clear hB)
        | (go_at_call 22; (with_reducible refine (R1.out _ HN.out.tab).mono ?_); rintro e ww ⟨rfl, hB⟩; have HN := Lib.hid (HN.out.step hB); clear hB)
        | (go_at_call 22; (with_reducible refine (R2.out _ HN.out.tab).mono ?_); rintro e ww ⟨rfl, hB⟩; have HN := Lib.hid (HN.out.step hB); clear hB))
    go_ret
    exact ⟨rfl, HN.out.below⟩

end Go.Proofs.YtieaelipgieaoaaDoor
