/-
  ErasureField: for every four integers, and in every memory in which the table of SHA-256 holds its numbers, the law returns true.
-/
import Derived.Test.YtajfmhiejipaoaaDoorEro
namespace Go.Proofs.YtajfmhiejipaoaaDoor
open Go.RowKit Bs Ef

theorem qu_val (a b : G) : (qu a b).val = gq a.val b.val := by unfold qu; exact rfl
theorem el_g (x : G) : el ((x.val : Nat) : Int) = x.val := el_nat x.2
theorem mul_g (x y r : G) (h : mu x y = r) (W : World) : Calls Tryd.prog 17 #[.int .i64 (x.val : Nat), .int .i64 (y.val : Nat)] W fun e w' => e = .returned (.int .i64 (r.val : Nat)) ∧ Below W.heap.size W w' := by
  have k := Mul_any (x.val : Nat) (y.val : Nat) W
  rw [el_g, el_g, show gm x.val y.val = r.val from congrArg Fin.val h] at k
  exact k
theorem add_g (x y r : G) (h : ga x y = r) (W : World) : Calls Tryd.prog 15 #[.int .i64 (x.val : Nat), .int .i64 (y.val : Nat)] W fun e w' => e = .returned (.int .i64 (r.val : Nat)) ∧ w' = W := by
  have k := Add_any (x.val : Nat) (y.val : Nat) W
  rw [el_g, el_g, show x.val ^^^ y.val = r.val from congrArg Fin.val h] at k
  exact k
theorem inv_g (x : G) : ∃ i e : Int, (x = z0 ∧ i = 0 ∧ e = 60 ∨ x ≠ z0 ∧ e = 0 ∧ i = ((qu o1 x).val : Nat)) ∧ ∀ W : World, Calls Tryd.prog 13 #[.int .i64 (x.val : Nat)] W fun ee w' => ee = .returned (.tuple #[.int .i64 i, .int .i64 e]) ∧ Below W.heap.size W w' := by
  have hx := x.2
  by_cases h : x = z0
  · refine ⟨0, 60, .inl ⟨h, rfl, rfl⟩, fun W => ?_⟩
    have hz : x.val = 0 := by rw [h]; rfl
    have k := Inverse_any (x.val : Nat) W
    rw [if_neg (by omega)] at k
    exact k
  · have h0 := val_ne h
    have hq : gq 1 x.val = (qu o1 x).val := by rw [qu_val]; exact congrArg (fun k => gq k x.val) (show 1 = o1.val from rfl)
    refine ⟨((qu o1 x).val : Nat), 0, .inr ⟨h, rfl, rfl⟩, fun W => ?_⟩
    have k := Inverse_any (x.val : Nat) W
    rw [if_pos (by omega), el_g, hq] at k
    exact k

set_option maxRecDepth 100000 in
set_option maxHeartbeats 16000000 in
theorem ErasureField_any (a0 b0 c0 d0 : Int) (ha0 : -9223372036854775808 ≤ a0) (ha1 : a0 ≤ 9223372036854775807) (hb0 : -9223372036854775808 ≤ b0) (hb1 : b0 ≤ 9223372036854775807) (hc0 : -9223372036854775808 ≤ c0) (hc1 : c0 ≤ 9223372036854775807) (hd0 : -9223372036854775808 ≤ d0) (hd1 : d0 ≤ 9223372036854775807) (w : World) (hT : KAt w) :
    Calls Tryd.prog 4 #[.int .i64 a0, .int .i64 b0, .int .i64 c0, .int .i64 d0] w fun e w' => e = .returned (.bool true) ∧ Below w.heap.size w w' := by
  obtain ⟨a, ha, PA⟩ := epick_any a0 ha0 ha1 256 256 rfl (by omega)
  obtain ⟨b, hb, PB⟩ := epick_any b0 hb0 hb1 256 256 rfl (by omega)
  obtain ⟨c, hc, PC⟩ := epick_any c0 hc0 hc1 256 256 rfl (by omega)
  obtain ⟨d, hd, PD⟩ := epick_any d0 hd0 hd1 256 256 rfl (by omega)
  obtain ⟨x, hx⟩ : ∃ x : G, x.val = a := ⟨⟨a, ha⟩, rfl⟩
  obtain ⟨y, hy⟩ : ∃ x : G, x.val = b := ⟨⟨b, hb⟩, rfl⟩
  obtain ⟨z, hz⟩ : ∃ x : G, x.val = c := ⟨⟨c, hc⟩, rfl⟩
  obtain ⟨u, hu⟩ : ∃ x : G, x.val = d := ⟨⟨d, hd⟩, rfl⟩
  have C1 := mul_g x y (mu x y) (rfl)
  have C2 := mul_g y z (mu y z) (rfl)
  have C3 := mul_g y x (mu x y) (mu_comm y x)
  have C4 := mul_g (mu x y) z (mu (mu x y) z) (rfl)
  have C5 := mul_g x (mu y z) (mu (mu x y) z) ((mu_assoc x y z).symm)
  have C6 := add_g y z (ga y z) (rfl)
  have C7 := mul_g x (ga y z) (mu x (ga y z)) (rfl)
  have C8 := mul_g x z (mu x z) (rfl)
  have C9 := add_g (mu x y) (mu x z) (mu x (ga y z)) ((mu_ga x y z).symm)
  have C10 := add_g x y (ga x y) (rfl)
  have C11 := add_g y x (ga x y) (ga_comm y x)
  have C13 := add_g (ga x y) z (ga (ga x y) z) (rfl)
  have C15 := add_g x (ga y z) (ga (ga x y) z) ((ga_assoc x y z).symm)
  have C16 := add_g x x z0 (ga_self x)
  have C17 := add_g x z0 x (ga_zero x)
  have C18 := mul_g x o1 x (mu_one x)
  have C21 := mul_g x u (mu x u) rfl
  obtain ⟨iv, ie, hcase, C19⟩ := inv_g x
  have hAB : (mu x y).val = 0 ↔ (x = z0 ∨ y = z0) := ⟨fun h => mu_eq0 (Fin.ext h), fun h => by rcases h with rfl | rfl <;> first | rw [zero_mu]; rfl | rw [mu_zero]; rfl⟩
  have hABl := (mu x y).2
  have hC20 : x ≠ z0 → mu x (qu o1 x) = o1 := fun h => by rw [mu_comm]; exact qu_mu o1 h
  have hAD : x ≠ z0 → ((mu x u).val = 1 ↔ u.val = (qu o1 x).val) := fun h => ⟨fun h2 => congrArg Fin.val (mu_cancel h (by rw [mu_comm u, mu_comm (qu o1 x), hC20 h]; exact Fin.ext h2)), fun h2 => by
    have h3 : u = qu o1 x := Fin.ext h2
    rw [h3, hC20 h]; rfl⟩
  have C20 : x ≠ z0 → ∀ W : World, Calls Tryd.prog 17 #[.int .i64 (x.val : Nat), .int .i64 ((qu o1 x).val : Nat)] W fun e w' => e = .returned (.int .i64 1) ∧ Below W.heap.size W w' := fun h W => mul_g x (qu o1 x) o1 (hC20 h) W
  have hx0 : x = z0 ↔ x.val = 0 := ⟨fun h => by rw [h]; rfl, fun h => Fin.ext h⟩
  have hy0 : y = z0 ↔ y.val = 0 := ⟨fun h => by rw [h]; rfl, fun h => Fin.ext h⟩
  replace C16 : ∀ W : World, Calls Tryd.prog 15 #[.int .i64 (x.val : Nat), .int .i64 (x.val : Nat)] W fun e w' => e = .returned (.int .i64 0) ∧ w' = W := C16
  replace C17 : ∀ W : World, Calls Tryd.prog 15 #[.int .i64 (x.val : Nat), .int .i64 0] W fun e w' => e = .returned (.int .i64 (x.val : Nat)) ∧ w' = W := C17
  replace C18 : ∀ W : World, Calls Tryd.prog 17 #[.int .i64 (x.val : Nat), .int .i64 1] W fun e w' => e = .returned (.int .i64 (x.val : Nat)) ∧ Below W.heap.size W w' := C18
  generalize (mu x y).val = AB at *
  generalize (mu y z).val = BC at *
  generalize (mu (mu x y) z).val = ABC at *
  generalize (ga y z).val = SBC at *
  generalize (mu x (ga y z)).val = D1 at *
  generalize (mu x z).val = AC at *
  generalize (ga x y).val = SAB at *
  generalize (ga (ga x y) z).val = TT at *
  generalize (mu x u).val = AD at *
  generalize (qu o1 x).val = QI at *
  rw [hx0] at hcase hAB
  rw [hy0] at hAB
  have hne : x ≠ z0 ↔ x.val ≠ 0 := not_congr hx0
  rw [hne] at hcase C20 hAD
  clear hC20 hx0 hy0 hne
  rw [hx] at *
  rw [hy] at *
  rw [hz] at *
  rw [hu] at *
  clear hx hy hz hu x y z u
  replace C1 := Lib.hid C1
  replace C2 := Lib.hid C2
  replace C3 := Lib.hid C3
  replace C4 := Lib.hid C4
  replace C5 := Lib.hid C5
  replace C6 := Lib.hid C6
  replace C7 := Lib.hid C7
  replace C8 := Lib.hid C8
  replace C9 := Lib.hid C9
  replace C10 := Lib.hid C10
  replace C11 := Lib.hid C11
  replace C13 := Lib.hid C13
  replace C15 := Lib.hid C15
  replace C16 := Lib.hid C16
  replace C17 := Lib.hid C17
  replace C18 := Lib.hid C18
  replace C19 := Lib.hid C19
  replace C21 := Lib.hid C21
  replace PA := Lib.hid PA
  replace PB := Lib.hid PB
  replace PC := Lib.hid PC
  replace PD := Lib.hid PD
  have HS := Lib.hid esane_any
  have HB := Lib.hid (Below.refl w.heap.size w)
  have HF := Lib.hid (And.intro hcase (And.intro hAB (And.intro hAD (And.intro C20 hABl))))
  clear hcase hAB hAD C20 hABl ha0 ha1 hb0 hb1 hc0 hc1 hd0 hd1
  go_enter Tryd.func4, Tryd.ntmps4
  go_upto_region 8 with (first
    | (go_at_call 11; (with_reducible refine (HS.out _ (hT.below HB.out)).mono ?_); rintro e w0 ⟨rfl, hB⟩; replace HB := Lib.hid (below_on HB.out hB HB.out.size); clear hB)
    | (go_at_call 26; (with_reducible refine (PA.out _).mono ?_); rintro e ww ⟨rfl, hww⟩; rw [hww]; clear hww ww)
    | (go_at_call 26; (with_reducible refine (PB.out _).mono ?_); rintro e ww ⟨rfl, hww⟩; rw [hww]; clear hww ww)
    | (go_at_call 26; (with_reducible refine (PC.out _).mono ?_); rintro e ww ⟨rfl, hww⟩; rw [hww]; clear hww ww)
    | (go_at_call 26; (with_reducible refine (PD.out _).mono ?_); rintro e ww ⟨rfl, hww⟩; rw [hww]; clear hww ww)
    | (go_at_call 17; (with_reducible refine (C1.out _).mono ?_); rintro e w1 ⟨rfl, hB⟩; replace HB := Lib.hid (below_on HB.out hB HB.out.size); clear hB)
    | (go_at_call 17; (with_reducible refine (C2.out _).mono ?_); rintro e w2 ⟨rfl, hB⟩; replace HB := Lib.hid (below_on HB.out hB HB.out.size); clear hB))
  go_upto_region 10 with (first
    | (go_at_call 17; (with_reducible refine (C1.out _).mono ?_); rintro e w1 ⟨rfl, hB⟩; replace HB := Lib.hid (below_on HB.out hB HB.out.size); clear hB)
    | (go_at_call 17; (with_reducible refine (C3.out _).mono ?_); rintro e w3 ⟨rfl, hB⟩; replace HB := Lib.hid (below_on HB.out hB HB.out.size); clear hB)
    | (go_at_call 17; (with_reducible refine (C4.out _).mono ?_); rintro e w4 ⟨rfl, hB⟩; replace HB := Lib.hid (below_on HB.out hB HB.out.size); clear hB)
    | (go_at_call 17; (with_reducible refine (C5.out _).mono ?_); rintro e w5 ⟨rfl, hB⟩; replace HB := Lib.hid (below_on HB.out hB HB.out.size); clear hB)
    | (go_at_call 15; (with_reducible refine (C6.out _).mono ?_); rintro e ww ⟨rfl, hww⟩; rw [hww]; clear hww ww)
    | (go_at_call 17; (with_reducible refine (C7.out _).mono ?_); rintro e w7 ⟨rfl, hB⟩; replace HB := Lib.hid (below_on HB.out hB HB.out.size); clear hB)
    | (go_at_call 17; (with_reducible refine (C8.out _).mono ?_); rintro e w8 ⟨rfl, hB⟩; replace HB := Lib.hid (below_on HB.out hB HB.out.size); clear hB)
    | (go_at_call 15; (with_reducible refine (C9.out _).mono ?_); rintro e ww ⟨rfl, hww⟩; rw [hww]; clear hww ww)
    | (go_at_call 15; (with_reducible refine (C10.out _).mono ?_); rintro e ww ⟨rfl, hww⟩; rw [hww]; clear hww ww)
    | (go_at_call 15; (with_reducible refine (C11.out _).mono ?_); rintro e ww ⟨rfl, hww⟩; rw [hww]; clear hww ww)
    | (go_at_call 15; (with_reducible refine (C13.out _).mono ?_); rintro e ww ⟨rfl, hww⟩; rw [hww]; clear hww ww)
    | (go_at_call 15; (with_reducible refine (C15.out _).mono ?_); rintro e ww ⟨rfl, hww⟩; rw [hww]; clear hww ww)
    | (go_at_call 15; (with_reducible refine (C16.out _).mono ?_); rintro e ww ⟨rfl, hww⟩; rw [hww]; clear hww ww)
    | (go_at_call 15; (with_reducible refine (C17.out _).mono ?_); rintro e ww ⟨rfl, hww⟩; rw [hww]; clear hww ww)
    | (go_at_call 17; (with_reducible refine (C18.out _).mono ?_); rintro e w18 ⟨rfl, hB⟩; replace HB := Lib.hid (below_on HB.out hB HB.out.size); clear hB)
    | (go_at_call 13; (with_reducible refine (C19.out _).mono ?_); rintro e w19 ⟨rfl, hB⟩; replace HB := Lib.hid (below_on HB.out hB HB.out.size); clear hB))
  obtain ⟨hcase, hAB, hAD, C20, hABl⟩ := HF.out
  clear HF
  rcases hcase with ⟨ha0, rfl, rfl⟩ | ⟨hane, rfl, rfl⟩
  · have k0 : ((a : Int) == 0) = true := by rw [ha0]; rfl
    have k1 : ((AB : Int) == 0) = true := by rw [hAB.2 (.inl ha0)]; rfl
    clear hAB hAD C20 ha0
    go_wp2_with fail
    go_ret
    exact ⟨by simp, HB.out⟩
  · replace C20 := Lib.hid (C20 hane)
    have n0 : ((a : Int) == 0) = false := beq_false_of_ne (by omega)
    have n1 : decide ((a : Int) = 0) = false := decide_eq_false (by omega)
    have g0 : decide (0 ≤ (AB : Int)) = true := decide_eq_true (by omega)
    have g1 : decide (AB < 256) = true := decide_eq_true hABl
    have HAB := Lib.hid (show AB = 0 ↔ b = 0 from ⟨fun h => (hAB.1 h).resolve_left hane, fun h => hAB.2 (.inr h)⟩)
    have HAD := Lib.hid (hAD hane)
    clear hAB hAD hABl hane
    by_cases hdi : d = QI
    · by_cases hb0 : b = 0
      · skip
        have p0 : (AD : Int) = 1 := by have := (HAD.out.2 hdi); omega
        have p1 : ((AD : Int) == 1) = true := by rw [p0]; exact beq_self_eq_true _
        clear p0
        have q0 : (d : Int) = (QI : Int) := by have := hdi; omega
        have q1 : ((d : Int) == (QI : Int)) = true := by rw [q0]; exact beq_self_eq_true _
        clear q0
        have r0 : (AB : Int) = 0 := by have := (HAB.out.2 hb0); omega
        have r1 : ((AB : Int) == 0) = true := by rw [r0]; exact beq_self_eq_true _
        clear r0
        have s0 : (b : Int) = 0 := by have := hb0; omega
        have s1 : ((b : Int) == 0) = true := by rw [s0]; exact beq_self_eq_true _
        clear s0
        clear hdi hb0
        go_wp2_with (first
          | (go_at_call 17; (with_reducible refine (C20.out _).mono ?_); rintro e w20 ⟨rfl, hB⟩; replace HB := Lib.hid (below_on HB.out hB HB.out.size); clear hB)
          | (go_at_call 17; (with_reducible refine (C21.out _).mono ?_); rintro e w21 ⟨rfl, hB⟩; replace HB := Lib.hid (below_on HB.out hB HB.out.size); clear hB))
        go_ret
        exact ⟨by simp; have := of_decide_eq_true g1; omega, HB.out⟩
      · skip
        have p0 : (AD : Int) = 1 := by have := (HAD.out.2 hdi); omega
        have p1 : ((AD : Int) == 1) = true := by rw [p0]; exact beq_self_eq_true _
        clear p0
        have q0 : (d : Int) = (QI : Int) := by have := hdi; omega
        have q1 : ((d : Int) == (QI : Int)) = true := by rw [q0]; exact beq_self_eq_true _
        clear q0
        have r1 : ((AB : Int) == 0) = false := beq_false_of_ne (fun h => hb0 (HAB.out.1 (by omega)))
        have s1 : ((b : Int) == 0) = false := beq_false_of_ne (fun h => hb0 (by omega))
        clear hdi hb0
        go_wp2_with (first
          | (go_at_call 17; (with_reducible refine (C20.out _).mono ?_); rintro e w20 ⟨rfl, hB⟩; replace HB := Lib.hid (below_on HB.out hB HB.out.size); clear hB)
          | (go_at_call 17; (with_reducible refine (C21.out _).mono ?_); rintro e w21 ⟨rfl, hB⟩; replace HB := Lib.hid (below_on HB.out hB HB.out.size); clear hB))
        go_ret
        exact ⟨by simp; have := of_decide_eq_true g1; omega, HB.out⟩
    · by_cases hb0 : b = 0
      · skip
        have p1 : ((AD : Int) == 1) = false := beq_false_of_ne (fun h => hdi (HAD.out.1 (by omega)))
        have q1 : ((d : Int) == (QI : Int)) = false := beq_false_of_ne (fun h => hdi (by omega))
        have r0 : (AB : Int) = 0 := by have := (HAB.out.2 hb0); omega
        have r1 : ((AB : Int) == 0) = true := by rw [r0]; exact beq_self_eq_true _
        clear r0
        have s0 : (b : Int) = 0 := by have := hb0; omega
        have s1 : ((b : Int) == 0) = true := by rw [s0]; exact beq_self_eq_true _
        clear s0
        clear hdi hb0
        go_wp2_with (first
          | (go_at_call 17; (with_reducible refine (C20.out _).mono ?_); rintro e w20 ⟨rfl, hB⟩; replace HB := Lib.hid (below_on HB.out hB HB.out.size); clear hB)
          | (go_at_call 17; (with_reducible refine (C21.out _).mono ?_); rintro e w21 ⟨rfl, hB⟩; replace HB := Lib.hid (below_on HB.out hB HB.out.size); clear hB))
        go_ret
        exact ⟨by simp; have := of_decide_eq_true g1; omega, HB.out⟩
      · skip
        have p1 : ((AD : Int) == 1) = false := beq_false_of_ne (fun h => hdi (HAD.out.1 (by omega)))
        have q1 : ((d : Int) == (QI : Int)) = false := beq_false_of_ne (fun h => hdi (by omega))
        have r1 : ((AB : Int) == 0) = false := beq_false_of_ne (fun h => hb0 (HAB.out.1 (by omega)))
        have s1 : ((b : Int) == 0) = false := beq_false_of_ne (fun h => hb0 (by omega))
        clear hdi hb0
        go_wp2_with (first
          | (go_at_call 17; (with_reducible refine (C20.out _).mono ?_); rintro e w20 ⟨rfl, hB⟩; replace HB := Lib.hid (below_on HB.out hB HB.out.size); clear hB)
          | (go_at_call 17; (with_reducible refine (C21.out _).mono ?_); rintro e w21 ⟨rfl, hB⟩; replace HB := Lib.hid (below_on HB.out hB HB.out.size); clear hB))
        go_ret
        exact ⟨by simp; have := of_decide_eq_true g1; omega, HB.out⟩

end Go.Proofs.YtajfmhiejipaoaaDoor
