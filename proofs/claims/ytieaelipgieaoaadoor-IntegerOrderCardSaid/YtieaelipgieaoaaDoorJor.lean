/-
  IntegerOrder: for every three strings, and in every memory in which the table of the decimal powers holds its numbers, the law returns true.
-/
import Derived.Test.YtieaelipgieaoaaDoorJbb
namespace Go.Proofs.YtieaelipgieaoaaDoor
open Go.RowKit Bs Ig

theorem cmpZ_three (x y : Int) : (cmpZ x y = -1 ∧ x < y) ∨ (cmpZ x y = 0 ∧ x = y) ∨ (cmpZ x y = 1 ∧ y < x) := by
  unfold cmpZ
  rcases Int.lt_trichotomy x y with h | h | h
  · exact .inl ⟨by rw [if_pos h], h⟩
  · exact .inr (.inl ⟨by rw [if_neg (by omega), if_neg (by omega)], h⟩)
  · exact .inr (.inr ⟨by rw [if_neg (by omega), if_pos h], h⟩)
theorem cmpZ_eq {x y u v : Int} (h1 : x < y ↔ u < v) (h2 : y < x ↔ v < u) : cmpZ u v = cmpZ x y := by
  unfold cmpZ
  by_cases h : x < y
  · rw [if_pos h, if_pos (h1.1 h)]
  · rw [if_neg h, if_neg (mt h1.2 h)]
    by_cases h' : y < x
    · rw [if_pos h', if_pos (h2.1 h')]
    · rw [if_neg h', if_neg (mt h2.2 h')]

set_option maxRecDepth 100000 in
set_option maxHeartbeats 8000000 in
theorem IntegerOrder_any (a b c : ByteArray) (ha : a.size ≤ 9223372036854775807) (hb : b.size ≤ 9223372036854775807) (hc : c.size ≤ 9223372036854775807) (w : World) (ht : TabP w) :
    Calls Tryd.prog 9 #[.string a, .string b, .string c] w fun e w' => e = .returned (.bool true) ∧ Below w.heap.size w w' := by
  obtain ⟨T, HO⟩ := opm
  have HN := Lib.hid (Now.start ht)
  have Ma := Lib.hid (HO.made a ha 60 60 rfl (by omega))
  have Mb := Lib.hid (HO.made b hb 60 60 rfl (by omega))
  have Mc := Lib.hid (HO.made c hc 60 60 rfl (by omega))
  have H := Lib.hid HO
  clear HO ha hb hc ht
  go_enter Tryd.func9, Tryd.ntmps9
  go_wp2_with (first
      | (go_at_call 11; (with_reducible refine (sane_any _ HN.out.tab).mono ?_); rintro e ww ⟨rfl, hB⟩; have HN := Lib.hid (HN.out.step hB); clear hB)
      | (go_at_call 20; (with_reducible refine (Ma.out _).mono ?_); rintro e ww ⟨x, hx, rfl, hB⟩; have HN := Lib.hid (HN.out.step hB); clear hB)
      | (go_at_call 20; (with_reducible refine (Mb.out _).mono ?_); rintro e ww ⟨y, hy, rfl, hB⟩; have HN := Lib.hid (HN.out.step hB); clear hB)
      | (go_at_call 20; (with_reducible refine (Mc.out _).mono ?_); rintro e ww ⟨z, hz, rfl, hB⟩; have HN := Lib.hid (HN.out.step hB); clear hB))
  have HO := H.out.ops
  have S1 := Lib.hid (HO.sub x y _ (lt_big hx (by omega)) (lt_big hy (by omega)) rfl (lt_big (sub_lt hx hy) (by omega)))
  have A1 := Lib.hid (HO.add x z _ (lt_big hx (by omega)) (lt_big hz (by omega)) rfl (lt_big (add_lt hx hz) (by omega)))
  have A2 := Lib.hid (HO.add y z _ (lt_big hy (by omega)) (lt_big hz (by omega)) rfl (lt_big (add_lt hy hz) (by omega)))
  have c1 := HO.cmp x y _ (lt_big hx (by omega)) (lt_big hy (by omega)) rfl
  have c2 := HO.cmp y x (-(cmpZ x y)) (lt_big hy (by omega)) (lt_big hx (by omega)) (by
    unfold cmpZ
    rcases Int.lt_trichotomy x y with h | h | h
    · rw [if_neg (by omega), if_pos h, if_pos h]; rfl
    · rw [if_neg (by omega), if_neg (by omega), if_neg (by omega), if_neg (by omega)]; rfl
    · rw [if_pos h, if_neg (by omega), if_pos h])
  have c3 := HO.cmp (x - y) 0 (cmpZ x y) (lt_big (sub_lt hx hy) (by omega)) zero_big (cmpZ_eq (by omega) (by omega))
  rw [HO.zero] at c3
  have c4 := HO.cmp (x + z) (y + z) (cmpZ x y) (lt_big (add_lt hx hz) (by omega)) (lt_big (add_lt hy hz) (by omega)) (cmpZ_eq (by omega) (by omega))
  have C5 := Lib.hid (HO.cmp y z _ (lt_big hy (by omega)) (lt_big hz (by omega)) rfl)
  have C6 := Lib.hid (HO.cmp x z _ (lt_big hx (by omega)) (lt_big hz (by omega)) rfl)
  have hq := HO.eq x y
  have h3 := cmpZ_three x y
  have h4 := cmpZ_three y z
  have h5 := cmpZ_three x z
  have hcs : (cmpZ x y = 1 ∧ decide (x = y) = false) ∨ ((cmpZ x y = 0 ∧ decide (x = y) = true ∨ cmpZ x y = -1 ∧ decide (x = y) = false) ∧ (decide (0 < cmpZ y z) = true ∨ decide (0 < cmpZ y z) = false ∧ decide (cmpZ x z ≤ 0) = true)) := by
    rcases h3 with ⟨e, h⟩ | ⟨e, h⟩ | ⟨e, h⟩
    · refine .inr ⟨.inr ⟨e, decide_eq_false (by omega)⟩, ?_⟩
      rcases h4 with ⟨e4, h'⟩ | ⟨e4, h'⟩ | ⟨e4, h'⟩
      · refine .inr ⟨decide_eq_false (by omega), decide_eq_true ?_⟩
        rcases h5 with ⟨e5, h''⟩ | ⟨e5, h''⟩ | ⟨e5, h''⟩ <;> omega
      · refine .inr ⟨decide_eq_false (by omega), decide_eq_true ?_⟩
        rcases h5 with ⟨e5, h''⟩ | ⟨e5, h''⟩ | ⟨e5, h''⟩ <;> omega
      · exact .inl (decide_eq_true (by omega))
    · refine .inr ⟨.inl ⟨e, decide_eq_true h⟩, ?_⟩
      rcases h4 with ⟨e4, h'⟩ | ⟨e4, h'⟩ | ⟨e4, h'⟩
      · refine .inr ⟨decide_eq_false (by omega), decide_eq_true ?_⟩
        rcases h5 with ⟨e5, h''⟩ | ⟨e5, h''⟩ | ⟨e5, h''⟩ <;> omega
      · refine .inr ⟨decide_eq_false (by omega), decide_eq_true ?_⟩
        rcases h5 with ⟨e5, h''⟩ | ⟨e5, h''⟩ | ⟨e5, h''⟩ <;> omega
      · exact .inl (decide_eq_true (by omega))
    · exact .inl ⟨e, decide_eq_false (by omega)⟩
  obtain ⟨v2, hv2⟩ : ∃ v2, cmpZ y z = v2 := ⟨_, rfl⟩
  obtain ⟨v3, hv3⟩ : ∃ v3, cmpZ x z = v3 := ⟨_, rfl⟩
  rw [hv2] at C5 hcs
  rw [hv3] at C6 hcs
  generalize cmpZ x y = v at *
  obtain ⟨dq, hdq⟩ : ∃ dq, decide (x = y) = dq := ⟨_, rfl⟩
  rw [hdq] at hcs hq
  clear h3 h4 h5 hv2 hv3 hdq
  generalize T x = X at *
  generalize T y = Y at *
  generalize T z = Z at *
  generalize T (x - y) = D at *
  generalize T (x + z) = XZ at *
  generalize T (y + z) = YZ at *
  clear hx hy hz HO H
  rcases hcs with ⟨rfl, rfl⟩ | ⟨⟨rfl, rfl⟩ | ⟨rfl, rfl⟩, g1 | ⟨g1, g2⟩⟩
  all_goals
    have C1 := Lib.hid c1
    have C2 := Lib.hid c2
    have C3 := Lib.hid c3
    have C4 := Lib.hid c4
    clear c1 c2 c3 c4
    go_wp2_with (first
        | (go_at_call 14; (with_reducible refine (A1.out _ HN.out.tab).mono ?_); rintro e ww ⟨rfl, hB⟩; have HN := Lib.hid (HN.out.step hB); clear hB)
        | (go_at_call 14; (with_reducible refine (A2.out _ HN.out.tab).mono ?_); rintro e ww ⟨rfl, hB⟩; have HN := Lib.hid (HN.out.step hB); clear hB)
        | (go_at_call 15; (with_reducible refine (S1.out _ HN.out.tab).mono ?_); rintro e ww ⟨rfl, hB⟩; have HN := Lib.hid (HN.out.step hB); clear hB)
        | (go_at_call 17; (with_reducible refine (C1.out _).mono ?_); rintro e ww ⟨rfl, hB⟩; have HN := Lib.hid (HN.out.step hB); clear hB)
        | (go_at_call 17; (with_reducible refine (C2.out _).mono ?_); rintro e ww ⟨rfl, hB⟩; have HN := Lib.hid (HN.out.step hB); clear hB)
        | (go_at_call 17; (with_reducible refine (C3.out _).mono ?_); rintro e ww ⟨rfl, hB⟩; have HN := Lib.hid (HN.out.step hB); clear hB)
        | (go_at_call 17; (with_reducible refine (C4.out _).mono ?_); rintro e ww ⟨rfl, hB⟩; have HN := Lib.hid (HN.out.step hB); clear hB)
        | (go_at_call 17; (with_reducible refine (C5.out _).mono ?_); rintro e ww ⟨rfl, hB⟩; have HN := Lib.hid (HN.out.step hB); clear hB)
        | (go_at_call 17; (with_reducible refine (C6.out _).mono ?_); rintro e ww ⟨rfl, hB⟩; have HN := Lib.hid (HN.out.step hB); clear hB))
    go_ret
    exact ⟨rfl, HN.out.below⟩

end Go.Proofs.YtieaelipgieaoaaDoor
