/-
  IntegerMachine: for every two numbers of 32 bits, and in every memory in which the table of the decimal powers holds its numbers, the law returns true.
-/
import Derived.Test.YtieaelipgieaoaaDoorJba
namespace Go.Proofs.YtieaelipgieaoaaDoor
open Go.RowKit Bs Ig

theorem ediv_uniq (a b q r : Int) (hb : b ≠ 0) (h : r + b * q = a) (h0 : 0 ≤ r) (h1 : r < b.natAbs) : a / b = q ∧ a % b = r := by
  rcases Int.lt_or_lt_of_ne hb with h2 | h2
  · obtain ⟨c, rfl⟩ : ∃ c, b = -c := ⟨-b, by omega⟩
    rw [Int.ediv_neg, Int.emod_neg]
    have := (Int.ediv_emod_unique (a := a) (b := c) (r := r) (q := -q) (by omega)).2 ⟨by rw [Int.mul_neg, ← Int.neg_mul]; exact h, h0, by omega⟩
    omega
  · exact (Int.ediv_emod_unique h2).2 ⟨h, h0, by omega⟩
theorem mach_div (a b q r : Int) (hb : b ≠ 0) (hq : a.tdiv b = q) (hr : a.tmod b = r) :
    (0 ≤ r → a / b = q ∧ a % b = r) ∧ (r < 0 → 0 < b → a / b = q - 1 ∧ a % b = r + b) ∧ (r < 0 → b < 0 → a / b = q + 1 ∧ a % b = r - b) ∧ q.natAbs ≤ a.natAbs ∧ r.natAbs < b.natAbs := by
  have h : b * q + r = a := by rw [← hq, ← hr]; exact Int.mul_tdiv_add_tmod a b
  have h1 : q.natAbs ≤ a.natAbs := by rw [← hq, Int.natAbs_tdiv]; exact Nat.div_le_self _ _
  have h2 : r.natAbs < b.natAbs := by rw [← hr, Int.natAbs_tmod]; exact Nat.mod_lt _ (by omega)
  refine ⟨fun h3 => ediv_uniq a b q r hb (by omega) h3 (by omega), fun h3 h4 => ediv_uniq a b _ _ hb (by rw [Int.mul_sub]; omega) (by omega) (by omega), fun h3 h4 => ediv_uniq a b _ _ hb (by rw [Int.mul_add]; omega) (by omega) (by omega), h1, h2⟩
theorem mul_bound (a b : Int) (ha : a.natAbs ≤ 2147483648) (hb : b.natAbs ≤ 2147483648) : -4611686018427387904 ≤ a * b ∧ a * b ≤ 4611686018427387904 := by
  have h := Nat.mul_le_mul ha hb
  rw [← Int.natAbs_mul] at h
  omega
theorem mid_big (n : Int) (h0 : -9223372036854775808 ≤ n) (h1 : n ≤ 9223372036854775807) : n.natAbs < big := int_bigs ⟨h0, h1⟩
theorem cmpZ_cases (a b : Int) : (decide (a < b) = true ∧ decide (b < a) = false ∧ cmpZ a b = -1) ∨ (decide (a < b) = false ∧ decide (b < a) = true ∧ cmpZ a b = 1) ∨ (decide (a < b) = false ∧ decide (b < a) = false ∧ cmpZ a b = 0) := by
  unfold cmpZ
  rcases Int.lt_trichotomy a b with h | h | h
  · exact .inl ⟨by simpa using h, by simp; omega, by rw [if_pos h]⟩
  · exact .inr (.inr ⟨by simp; omega, by simp; omega, by rw [if_neg (by omega), if_neg (by omega)]⟩)
  · exact .inr (.inl ⟨by simp; omega, by simpa using h, by rw [if_neg (by omega), if_pos h]⟩)

set_option maxRecDepth 100000 in
set_option maxHeartbeats 8000000 in
theorem IntegerMachine_any (a b : Int) (ha0 : -2147483648 ≤ a) (ha1 : a ≤ 2147483647) (hb0 : -2147483648 ≤ b) (hb1 : b ≤ 2147483647) (w : World) (ht : TabP w) :
    Calls Tryd.prog 3 #[.int .i32 a, .int .i32 b] w fun e w' => e = .returned (.bool true) ∧ Below w.heap.size w w' := by
  obtain ⟨T, -, HO⟩ := ops
  have hp := mul_bound a b (by omega) (by omega)
  obtain ⟨p, hpp⟩ : ∃ p, a * b = p := ⟨_, rfl⟩
  rw [hpp] at hp
  obtain ⟨hp0, hp1⟩ := hp
  have H := Lib.hid HO
  have HA := Lib.hid (HO.add a b (a + b) (mid_big a (by omega) (by omega)) (mid_big b (by omega) (by omega)) rfl (mid_big _ (by omega) (by omega)))
  have HS := Lib.hid (HO.sub a b (a - b) (mid_big a (by omega) (by omega)) (mid_big b (by omega) (by omega)) rfl (mid_big _ (by omega) (by omega)))
  have HM := Lib.hid (HO.mul a b p (mid_big a (by omega) (by omega)) (mid_big b (by omega) (by omega)) hpp (mid_big _ (by omega) (by omega)))
  have HT := Lib.hid (HO.toInt a ⟨by omega, by omega⟩)
  have HF := Lib.hid HO.fromInt
  have hN := Now.start ht
  have HN := Lib.hid hN
  clear hN
  rcases Decidable.em (b = 0) with hz | hz
  · have HD := Lib.hid (HO.divz a b (mid_big a (by omega) (by omega)) hz)
    have hbz : (b == 0) = true := beq_of_eq hz
    rcases cmpZ_cases a b with ⟨d1, d2, hc⟩ | ⟨d1, d2, hc⟩ | ⟨d1, d2, hc⟩
    all_goals
      have HC := Lib.hid (HO.cmp a b _ (mid_big a (by omega) (by omega)) (mid_big b (by omega) (by omega)) hc)
      clear hz hc HO ht
      go_enter Tryd.func3, Tryd.ntmps3
      go_wp2_with (first
        | (go_at_call 11; (with_reducible refine (sane_any _ HN.out.tab).mono ?_); rintro e ww ⟨rfl, hB⟩; have HN := Lib.hid (HN.out.step hB); clear hB)
        | (go_at_call 12; (with_reducible refine (HF.out _ (by omega) (by omega) _ HN.out.tab).mono ?_); rintro e ww ⟨rfl, hB⟩; have HN := Lib.hid (HN.out.step hB); clear hB)
        | (go_at_call 13; (with_reducible refine (HT.out _).mono ?_); rintro e ww ⟨rfl, hB⟩; have HN := Lib.hid (HN.out.step hB); clear hB)
        | (go_at_call 14; (with_reducible refine (HA.out _ HN.out.tab).mono ?_); rintro e ww ⟨rfl, hB⟩; have HN := Lib.hid (HN.out.step hB); clear hB)
        | (go_at_call 15; (with_reducible refine (HS.out _ HN.out.tab).mono ?_); rintro e ww ⟨rfl, hB⟩; have HN := Lib.hid (HN.out.step hB); clear hB)
        | (go_at_call 16; (with_reducible refine (HM.out _ HN.out.tab).mono ?_); rintro e ww ⟨rfl, hB⟩; have HN := Lib.hid (HN.out.step hB); clear hB)
        | (go_at_call 17; (with_reducible refine (HC.out _).mono ?_); rintro e ww ⟨rfl, hB⟩; have HN := Lib.hid (HN.out.step hB); clear hB)
        | (go_at_call 18; (with_reducible refine (HD.out _).mono ?_); rintro e ww ⟨rfl, hB⟩; have HN := Lib.hid (HN.out.step hB); clear hB))
      go_ret
      exact ⟨rfl, HN.out.below⟩
  · obtain ⟨q, hq⟩ : ∃ q, a.tdiv b = q := ⟨_, rfl⟩
    obtain ⟨r, hr⟩ : ∃ r, a.tmod b = r := ⟨_, rfl⟩
    obtain ⟨m1, m2, m3, m4, m5⟩ := mach_div a b q r hz hq hr
    have hbz : (b == 0) = false := beq_false_of_ne hz
    have hQ : ∃ Q R : Int, a / b = Q ∧ a % b = R ∧ ((decide (r < 0) = false ∧ Q = q ∧ R = r) ∨ (decide (r < 0) = true ∧ decide (0 < b) = true ∧ decide (r + b < 0) = false ∧ Q = q - 1 ∧ R = r + b) ∨ (decide (r < 0) = true ∧ decide (0 < b) = false ∧ Q = q + 1 ∧ R = r - b)) := by
      rcases Int.lt_or_le r 0 with h | h
      · rcases Int.lt_or_lt_of_ne hz with h2 | h2
        · obtain ⟨x1, x2⟩ := m3 h h2
          exact ⟨_, _, x1, x2, .inr (.inr ⟨by simpa using h, by simp; omega, rfl, rfl⟩)⟩
        · obtain ⟨x1, x2⟩ := m2 h h2
          exact ⟨_, _, x1, x2, .inr (.inl ⟨by simpa using h, by simpa using h2, by simp; omega, rfl, rfl⟩)⟩
      · obtain ⟨x1, x2⟩ := m1 h
        exact ⟨_, _, x1, x2, .inl ⟨by simp; omega, rfl, rfl⟩⟩
    obtain ⟨Q, R, hQ1, hR1, hcs⟩ := hQ
    have HD := Lib.hid (HO.div a b Q R (mid_big a (by omega) (by omega)) (mid_big b (by omega) (by omega)) hz hQ1 hR1)
    have hq0 : -2147483648 ≤ q := by omega
    have hq1 : q ≤ 2147483648 := by omega
    have hr0 : -2147483648 ≤ r := by omega
    have hr1 : r ≤ 2147483648 := by omega
    clear m1 m2 m3 m4 m5 hQ1 hR1
    rcases cmpZ_cases a b with ⟨d1, d2, hc⟩ | ⟨d1, d2, hc⟩ | ⟨d1, d2, hc⟩ <;> rcases hcs with ⟨c1, rfl, rfl⟩ | ⟨c1, c2, c3, rfl, rfl⟩ | ⟨c1, c2, rfl, rfl⟩
    all_goals
      have HC := Lib.hid (HO.cmp a b _ (mid_big a (by omega) (by omega)) (mid_big b (by omega) (by omega)) hc)
      clear hc HO ht
      go_enter Tryd.func3, Tryd.ntmps3
      go_wp2_with (first
        | (go_at_call 11; (with_reducible refine (sane_any _ HN.out.tab).mono ?_); rintro e ww ⟨rfl, hB⟩; have HN := Lib.hid (HN.out.step hB); clear hB)
        | (go_at_call 12; (with_reducible refine (HF.out _ (by omega) (by omega) _ HN.out.tab).mono ?_); rintro e ww ⟨rfl, hB⟩; have HN := Lib.hid (HN.out.step hB); clear hB)
        | (go_at_call 13; (with_reducible refine (HT.out _).mono ?_); rintro e ww ⟨rfl, hB⟩; have HN := Lib.hid (HN.out.step hB); clear hB)
        | (go_at_call 14; (with_reducible refine (HA.out _ HN.out.tab).mono ?_); rintro e ww ⟨rfl, hB⟩; have HN := Lib.hid (HN.out.step hB); clear hB)
        | (go_at_call 15; (with_reducible refine (HS.out _ HN.out.tab).mono ?_); rintro e ww ⟨rfl, hB⟩; have HN := Lib.hid (HN.out.step hB); clear hB)
        | (go_at_call 16; (with_reducible refine (HM.out _ HN.out.tab).mono ?_); rintro e ww ⟨rfl, hB⟩; have HN := Lib.hid (HN.out.step hB); clear hB)
        | (go_at_call 17; (with_reducible refine (HC.out _).mono ?_); rintro e ww ⟨rfl, hB⟩; have HN := Lib.hid (HN.out.step hB); clear hB)
        | (go_at_call 18; (with_reducible refine (HD.out _ HN.out.tab).mono ?_); rintro e ww ⟨rfl, hB⟩; have HN := Lib.hid (HN.out.step hB); clear hB))
      go_ret
      exact ⟨rfl, HN.out.below⟩

end Go.Proofs.YtieaelipgieaoaaDoor
