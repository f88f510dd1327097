/-
  IntegerCommon: for every three strings, and in every memory in which the table of the decimal powers holds its numbers, the law returns true.
-/
import Derived.Test.YtieaelipgieaoaaDoorJbb
namespace Go.Proofs.YtieaelipgieaoaaDoor
open Go.RowKit Bs Ig

theorem gcd_lt {x y : Int} {i : Nat} (hx : x.natAbs < 10 ^ i) (hy : y.natAbs < 10 ^ i) : ((Int.gcd x y : Nat) : Int).natAbs < 10 ^ i := by
  rw [Int.natAbs_natCast]
  rcases Nat.eq_zero_or_pos y.natAbs with h | h
  · unfold Int.gcd; rw [h, Nat.gcd_zero_right]; exact hx
  · exact Nat.lt_of_le_of_lt (Nat.gcd_le_right _ h) hy
theorem div_lt' {x : Int} {i : Nat} (hx : x.natAbs < 10 ^ i) (y : Int) : (x / y).natAbs < 10 ^ i := Nat.lt_of_le_of_lt (Int.natAbs_ediv_le_natAbs x y) hx
theorem gcd_parts (x y : Int) (h : 0 < Int.gcd x y) : ((Int.gcd (x / (Int.gcd x y : Nat)) (y / (Int.gcd x y : Nat)) : Nat) : Int) = 1 ∧ x % (Int.gcd x y : Nat) = 0 ∧ y % (Int.gcd x y : Nat) = 0 :=
  ⟨by rw [Int.gcd_ediv_gcd_ediv_gcd h]; rfl, Int.emod_eq_zero_of_dvd (Int.gcd_dvd_left ..), Int.emod_eq_zero_of_dvd (Int.gcd_dvd_right ..)⟩
theorem gcd_scaled (x y z : Int) : ((Int.gcd (x * z) (y * z) : Nat) : Int) = if (Int.gcd x y : Nat) * z < 0 then -((Int.gcd x y : Nat) * z) else (Int.gcd x y : Nat) * z := by
  rw [Int.gcd_mul_right, Int.natCast_mul]
  generalize Int.gcd x y = g
  rcases Int.le_total 0 z with h | h
  · rw [if_neg (by have := Int.mul_nonneg (Int.natCast_nonneg g) h; omega), Int.natAbs_of_nonneg h]
  · obtain ⟨u, rfl⟩ : ∃ u : Nat, z = -(u : Int) := ⟨z.natAbs, by omega⟩
    rw [Int.natAbs_neg, Int.natAbs_natCast, Int.mul_neg]
    rcases Nat.eq_zero_or_pos (g * u) with h0 | h0
    · have e : (g : Int) * u = 0 := by exact_mod_cast h0
      rw [e]; rfl
    · have e : 0 < (g : Int) * u := by exact_mod_cast h0
      rw [if_pos (by omega), Int.neg_neg]

set_option maxRecDepth 100000 in
set_option maxHeartbeats 8000000 in
theorem IntegerCommon_any (a b c : ByteArray) (ha : a.size ≤ 9223372036854775807) (hb : b.size ≤ 9223372036854775807) (hc : c.size ≤ 9223372036854775807) (w : World) (ht : TabP w) :
    Calls Tryd.prog 7 #[.string a, .string b, .string c] w fun e w' => e = .returned (.bool true) ∧ Below w.heap.size w w' := by
  obtain ⟨T, HO⟩ := opm
  have HN := Lib.hid (Now.start ht)
  have Ma := Lib.hid (HO.made a ha 40 40 rfl (by omega))
  have Mb := Lib.hid (HO.made b hb 40 40 rfl (by omega))
  have Mc := Lib.hid (HO.made c hc 40 40 rfl (by omega))
  have H := Lib.hid HO
  clear HO ha hb hc ht
  go_enter Tryd.func7, Tryd.ntmps7
  go_wp2_with (first
      | (go_at_call 11; (with_reducible refine (sane_any _ HN.out.tab).mono ?_); rintro e ww ⟨rfl, hB⟩; have HN := Lib.hid (HN.out.step hB); clear hB)
      | (go_at_call 20; (with_reducible refine (Ma.out _).mono ?_); rintro e ww ⟨x, hx, rfl, hB⟩; have HN := Lib.hid (HN.out.step hB); clear hB)
      | (go_at_call 20; (with_reducible refine (Mb.out _).mono ?_); rintro e ww ⟨y, hy, rfl, hB⟩; have HN := Lib.hid (HN.out.step hB); clear hB)
      | (go_at_call 20; (with_reducible refine (Mc.out _).mono ?_); rintro e ww ⟨z, hz, rfl, hB⟩; have HN := Lib.hid (HN.out.step hB); clear hB))
  have HO := H.out.ops
  have hgl := gcd_lt hx hy
  have G1 := Lib.hid (HO.gcd x y _ (lt_big hx (by omega)) (lt_big hy (by omega)) rfl)
  have G2 := Lib.hid (HO.gcd y x ((Int.gcd x y : Nat) : Int) (lt_big hy (by omega)) (lt_big hx (by omega)) (by rw [Int.gcd_comm]))
  have c1 := HO.cmp ((Int.gcd x y : Nat) : Int) 0 _ (lt_big hgl (by omega)) zero_big rfl
  rw [HO.zero] at c1
  have C1 := Lib.hid c1
  have hsg : decide (cmpZ ((Int.gcd x y : Nat) : Int) 0 < 0) = false := by unfold cmpZ; rw [if_neg (by omega)]; split <;> rfl
  have hx0 := HO.eq0 x
  have hy0 := HO.eq0 y
  have hg0 := HO.eq0 ((Int.gcd x y : Nat) : Int)
  generalize cmpZ ((Int.gcd x y : Nat) : Int) 0 = v1 at *
  rcases Decidable.em (x = 0 ∧ y = 0) with ⟨h1, h2⟩ | h0
  · rw [decide_eq_true h1] at hx0
    rw [decide_eq_true h2] at hy0
    rw [decide_eq_true (by rw [h1, h2]; rfl)] at hg0
    generalize T ((Int.gcd x y : Nat) : Int) = GG at *
    generalize T x = X at *
    generalize T y = Y at *
    clear hx hy hz HO H h1 h2 hgl c1
    go_wp2_with (first
        | (go_at_call 21; (with_reducible refine (G1.out _ HN.out.tab).mono ?_); rintro e ww ⟨rfl, hB⟩; have HN := Lib.hid (HN.out.step hB); clear hB)
        | (go_at_call 21; (with_reducible refine (G2.out _ HN.out.tab).mono ?_); rintro e ww ⟨rfl, hB⟩; have HN := Lib.hid (HN.out.step hB); clear hB)
        | (go_at_call 17; (with_reducible refine (C1.out _).mono ?_); rintro e ww ⟨rfl, hB⟩; have HN := Lib.hid (HN.out.step hB); clear hB))
    go_ret
    exact ⟨rfl, HN.out.below⟩
  · have hgp : 0 < Int.gcd x y := Nat.pos_of_ne_zero fun h => h0 ((Int.gcd_eq_zero_iff).1 h)
    obtain ⟨p1, p2, p3⟩ := gcd_parts x y hgp
    have hgs := gcd_scaled x y z
    have hgn : ((Int.gcd x y : Nat) : Int) ≠ 0 := by omega
    have hsp : decide (x = 0) = false ∨ (decide (x = 0) = true ∧ decide (y = 0) = false) := by
      by_cases h : x = 0
      · exact .inr ⟨decide_eq_true h, decide_eq_false fun h' => h0 ⟨h, h'⟩⟩
      · exact .inl (decide_eq_false h)
    have D1 := Lib.hid (HO.div x _ _ 0 (lt_big hx (by omega)) (lt_big hgl (by omega)) hgn rfl p2)
    have D2 := Lib.hid (HO.div y _ _ 0 (lt_big hy (by omega)) (lt_big hgl (by omega)) hgn rfl p3)
    have G3 := Lib.hid (HO.gcd _ _ 1 (lt_big (div_lt' hx _) (by omega)) (lt_big (div_lt' hy _) (by omega)) p1)
    have M1 := Lib.hid (HO.mul x z _ (lt_big hx (by omega)) (lt_big hz (by omega)) rfl (lt_big (mul_lt hx hz) (by omega)))
    have M2 := Lib.hid (HO.mul y z _ (lt_big hy (by omega)) (lt_big hz (by omega)) rfl (lt_big (mul_lt hy hz) (by omega)))
    have hglz := mul_lt hgl hz
    have M3 := Lib.hid (HO.mul _ z _ (lt_big hgl (by omega)) (lt_big hz (by omega)) rfl (lt_big hglz (by omega)))
    have c2 := HO.cmp ((Int.gcd x y : Nat) * z) 0 _ (lt_big hglz (by omega)) zero_big rfl
    rw [HO.zero] at c2
    have C2 := Lib.hid c2
    have hz0 : ((T 0).toList == [48]) = true := by rw [HO.eq0]; rfl
    have h10 : ((T 1).toList == [49]) = true := by rw [HO.one]; decide +kernel
    rcases Int.lt_or_le ((Int.gcd x y : Nat) * z) 0 with hs | hs
    · rw [if_pos hs] at hgs
      have G4 := Lib.hid (HO.gcd (x * z) (y * z) _ (lt_big (mul_lt hx hz) (by omega)) (lt_big (mul_lt hy hz) (by omega)) hgs)
      have s1 := HO.sub 0 ((Int.gcd x y : Nat) * z) (-((Int.gcd x y : Nat) * z)) zero_big (lt_big hglz (by omega)) (Int.zero_sub _) (by rw [Int.natAbs_neg]; exact lt_big hglz (by omega))
      rw [HO.zero] at s1
      have S1 := Lib.hid s1
      have hs2 : decide (cmpZ ((Int.gcd x y : Nat) * z) 0 < 0) = true := by unfold cmpZ; rw [if_pos hs]; rfl
      generalize cmpZ ((Int.gcd x y : Nat) * z) 0 = v2 at *
      generalize T (-((Int.gcd x y : Nat) * z)) = NG at *
      generalize T ((Int.gcd x y : Nat) * z) = GZ at *
      generalize T (x / (Int.gcd x y : Nat)) = P at *
      generalize T (y / (Int.gcd x y : Nat)) = Q at *
      generalize T ((Int.gcd x y : Nat) : Int) = GG at *
      generalize T (x * z) = XZ at *
      generalize T (y * z) = YZ at *
      generalize T x = X at *
      generalize T y = Y at *
      generalize T z = Z at *
      generalize T 0 = O at *
      generalize T 1 = I at *
      generalize decide (x = 0) = dx at *
      generalize decide (y = 0) = dy at *
      clear hx hy hz HO H h0 hgl c1 c2 s1 hs hglz hgs hgn p1 p2 p3 hgp hg0
      rcases hsp with rfl | ⟨rfl, rfl⟩
      all_goals
        go_wp2_with (first
            | (go_at_call 21; (with_reducible refine (G1.out _ HN.out.tab).mono ?_); rintro e ww ⟨rfl, hB⟩; have HN := Lib.hid (HN.out.step hB); clear hB)
            | (go_at_call 21; (with_reducible refine (G2.out _ HN.out.tab).mono ?_); rintro e ww ⟨rfl, hB⟩; have HN := Lib.hid (HN.out.step hB); clear hB)
            | (go_at_call 21; (with_reducible refine (G3.out _ HN.out.tab).mono ?_); rintro e ww ⟨rfl, hB⟩; have HN := Lib.hid (HN.out.step hB); clear hB)
            | (go_at_call 21; (with_reducible refine (G4.out _ HN.out.tab).mono ?_); rintro e ww ⟨rfl, hB⟩; have HN := Lib.hid (HN.out.step hB); clear hB)
            | (go_at_call 17; (with_reducible refine (C1.out _).mono ?_); rintro e ww ⟨rfl, hB⟩; have HN := Lib.hid (HN.out.step hB); clear hB)
            | (go_at_call 17; (with_reducible refine (C2.out _).mono ?_); rintro e ww ⟨rfl, hB⟩; have HN := Lib.hid (HN.out.step hB); clear hB)
            | (go_at_call 18; (with_reducible refine (D1.out _ HN.out.tab).mono ?_); rintro e ww ⟨rfl, hB⟩; have HN := Lib.hid (HN.out.step hB); clear hB)
            | (go_at_call 18; (with_reducible refine (D2.out _ HN.out.tab).mono ?_); rintro e ww ⟨rfl, hB⟩; have HN := Lib.hid (HN.out.step hB); clear hB)
            | (go_at_call 16; (with_reducible refine (M1.out _ HN.out.tab).mono ?_); rintro e ww ⟨rfl, hB⟩; have HN := Lib.hid (HN.out.step hB); clear hB)
            | (go_at_call 16; (with_reducible refine (M2.out _ HN.out.tab).mono ?_); rintro e ww ⟨rfl, hB⟩; have HN := Lib.hid (HN.out.step hB); clear hB)
            | (go_at_call 16; (with_reducible refine (M3.out _ HN.out.tab).mono ?_); rintro e ww ⟨rfl, hB⟩; have HN := Lib.hid (HN.out.step hB); clear hB)
            | (go_at_call 15; (with_reducible refine (S1.out _ HN.out.tab).mono ?_); rintro e ww ⟨rfl, hB⟩; have HN := Lib.hid (HN.out.step hB); clear hB))
        go_ret
        exact ⟨rfl, HN.out.below⟩
    · rw [if_neg (by omega)] at hgs
      have G4 := Lib.hid (HO.gcd (x * z) (y * z) _ (lt_big (mul_lt hx hz) (by omega)) (lt_big (mul_lt hy hz) (by omega)) hgs)
      have hs2 : decide (cmpZ ((Int.gcd x y : Nat) * z) 0 < 0) = false := by unfold cmpZ; rw [if_neg (by omega)]; split <;> rfl
      generalize cmpZ ((Int.gcd x y : Nat) * z) 0 = v2 at *
      generalize T ((Int.gcd x y : Nat) * z) = GZ at *
      generalize T (x / (Int.gcd x y : Nat)) = P at *
      generalize T (y / (Int.gcd x y : Nat)) = Q at *
      generalize T ((Int.gcd x y : Nat) : Int) = GG at *
      generalize T (x * z) = XZ at *
      generalize T (y * z) = YZ at *
      generalize T x = X at *
      generalize T y = Y at *
      generalize T z = Z at *
      generalize T 0 = O at *
      generalize T 1 = I at *
      generalize decide (x = 0) = dx at *
      generalize decide (y = 0) = dy at *
      clear hx hy hz HO H h0 hgl c1 c2 hs hglz hgs hgn p1 p2 p3 hgp hg0
      rcases hsp with rfl | ⟨rfl, rfl⟩
      all_goals
        go_wp2_with (first
            | (go_at_call 21; (with_reducible refine (G1.out _ HN.out.tab).mono ?_); rintro e ww ⟨rfl, hB⟩; have HN := Lib.hid (HN.out.step hB); clear hB)
            | (go_at_call 21; (with_reducible refine (G2.out _ HN.out.tab).mono ?_); rintro e ww ⟨rfl, hB⟩; have HN := Lib.hid (HN.out.step hB); clear hB)
            | (go_at_call 21; (with_reducible refine (G3.out _ HN.out.tab).mono ?_); rintro e ww ⟨rfl, hB⟩; have HN := Lib.hid (HN.out.step hB); clear hB)
            | (go_at_call 21; (with_reducible refine (G4.out _ HN.out.tab).mono ?_); rintro e ww ⟨rfl, hB⟩; have HN := Lib.hid (HN.out.step hB); clear hB)
            | (go_at_call 17; (with_reducible refine (C1.out _).mono ?_); rintro e ww ⟨rfl, hB⟩; have HN := Lib.hid (HN.out.step hB); clear hB)
            | (go_at_call 17; (with_reducible refine (C2.out _).mono ?_); rintro e ww ⟨rfl, hB⟩; have HN := Lib.hid (HN.out.step hB); clear hB)
            | (go_at_call 18; (with_reducible refine (D1.out _ HN.out.tab).mono ?_); rintro e ww ⟨rfl, hB⟩; have HN := Lib.hid (HN.out.step hB); clear hB)
            | (go_at_call 18; (with_reducible refine (D2.out _ HN.out.tab).mono ?_); rintro e ww ⟨rfl, hB⟩; have HN := Lib.hid (HN.out.step hB); clear hB)
            | (go_at_call 16; (with_reducible refine (M1.out _ HN.out.tab).mono ?_); rintro e ww ⟨rfl, hB⟩; have HN := Lib.hid (HN.out.step hB); clear hB)
            | (go_at_call 16; (with_reducible refine (M2.out _ HN.out.tab).mono ?_); rintro e ww ⟨rfl, hB⟩; have HN := Lib.hid (HN.out.step hB); clear hB)
            | (go_at_call 16; (with_reducible refine (M3.out _ HN.out.tab).mono ?_); rintro e ww ⟨rfl, hB⟩; have HN := Lib.hid (HN.out.step hB); clear hB))
        go_ret
        exact ⟨rfl, HN.out.below⟩

end Go.Proofs.YtieaelipgieaoaaDoor
