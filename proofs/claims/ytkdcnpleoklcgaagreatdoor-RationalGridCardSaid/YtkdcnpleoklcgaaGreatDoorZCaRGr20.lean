/-
  Put together by program out of these texts, in this order: Qgr, CaRGr.
-/
import Derived.Test.YtkdcnpleoklcgaaGreatDoorZCaRGr19
import Derived.Test.YtkdcnpleoklcgaaGreatDoorCards
import Derived.Test.YtkdcnpleoklcgaaGreatDoorTie
import Derived.Test.YtkdcnpleoklcgaaGreatDoorZCaRGr04

/-
  RationalGrid: for every four integers and every number of places, and in every memory in which the table of the decimal powers holds its numbers, the law returns true.
-/
namespace Go.Proofs.YtkdcnpleoklcgaaGreatDoor
open Go.RowKit Bs Ig Qq

theorem row4 {W : World} {g : Nat} {x0 x1 x2 x3 : Int} (h : W.heap[g]? = some (.cells #[.int .i64 x0, .int .i64 x1, .int .i64 x2, .int .i64 x3] 24 (0, 0))) :
    W.cell? ⟨g, 0, none⟩ = some (.int .i64 x0) ∧ W.cell? ⟨g, 1, none⟩ = some (.int .i64 x1) ∧ W.cell? ⟨g, 2, none⟩ = some (.int .i64 x2) ∧ W.cell? ⟨g, 3, none⟩ = some (.int .i64 x3) :=
  ⟨by rw [cell_of_row _ _ 0 _ _ _ h]; rfl, by rw [cell_of_row _ _ 1 _ _ _ h]; rfl, by rw [cell_of_row _ _ 2 _ _ _ h]; rfl, by rw [cell_of_row _ _ 3 _ _ _ h]; rfl⟩

theorem St.cells4 {w W : World} {g1 : Nat} {a1 b1 : ByteArray} {g2 : Nat} {a2 b2 : ByteArray} {g3 : Nat} {a3 b3 : ByteArray} {g4 : Nat} {a4 b4 : ByteArray} (h : St w W [(g1, a1, b1), (g2, a2, b2), (g3, a3, b3), (g4, a4, b4)]) :
    W.cell? ⟨g1, 0, none⟩ = some (.string a1) ∧ W.cell? ⟨g1, 1, none⟩ = some (.string b1) ∧ W.cell? ⟨g2, 0, none⟩ = some (.string a2) ∧ W.cell? ⟨g2, 1, none⟩ = some (.string b2) ∧ W.cell? ⟨g3, 0, none⟩ = some (.string a3) ∧ W.cell? ⟨g3, 1, none⟩ = some (.string b3) ∧ W.cell? ⟨g4, 0, none⟩ = some (.string a4) ∧ W.cell? ⟨g4, 1, none⟩ = some (.string b4) :=
  ⟨h.head.c0, h.head.c1, h.tail.head.c0, h.tail.head.c1, h.tail.tail.head.c0, h.tail.tail.head.c1, h.tail.tail.tail.head.c0, h.tail.tail.tail.head.c1⟩

theorem St.cells6 {w W : World} {g1 : Nat} {a1 b1 : ByteArray} {g2 : Nat} {a2 b2 : ByteArray} {g3 : Nat} {a3 b3 : ByteArray} {g4 : Nat} {a4 b4 : ByteArray} {g5 : Nat} {a5 b5 : ByteArray} {g6 : Nat} {a6 b6 : ByteArray} (h : St w W [(g1, a1, b1), (g2, a2, b2), (g3, a3, b3), (g4, a4, b4), (g5, a5, b5), (g6, a6, b6)]) :
    W.cell? ⟨g1, 0, none⟩ = some (.string a1) ∧ W.cell? ⟨g1, 1, none⟩ = some (.string b1) ∧ W.cell? ⟨g2, 0, none⟩ = some (.string a2) ∧ W.cell? ⟨g2, 1, none⟩ = some (.string b2) ∧ W.cell? ⟨g3, 0, none⟩ = some (.string a3) ∧ W.cell? ⟨g3, 1, none⟩ = some (.string b3) ∧ W.cell? ⟨g4, 0, none⟩ = some (.string a4) ∧ W.cell? ⟨g4, 1, none⟩ = some (.string b4) ∧ W.cell? ⟨g5, 0, none⟩ = some (.string a5) ∧ W.cell? ⟨g5, 1, none⟩ = some (.string b5) ∧ W.cell? ⟨g6, 0, none⟩ = some (.string a6) ∧ W.cell? ⟨g6, 1, none⟩ = some (.string b6) :=
  ⟨h.head.c0, h.head.c1, h.tail.head.c0, h.tail.head.c1, h.tail.tail.head.c0, h.tail.tail.head.c1, h.tail.tail.tail.head.c0, h.tail.tail.tail.head.c1, h.tail.tail.tail.tail.head.c0, h.tail.tail.tail.tail.head.c1, h.tail.tail.tail.tail.tail.head.c0, h.tail.tail.tail.tail.tail.head.c1⟩

theorem St.cells9 {w W : World} {g1 : Nat} {a1 b1 : ByteArray} {g2 : Nat} {a2 b2 : ByteArray} {g3 : Nat} {a3 b3 : ByteArray} {g4 : Nat} {a4 b4 : ByteArray} {g5 : Nat} {a5 b5 : ByteArray} {g6 : Nat} {a6 b6 : ByteArray} {g7 : Nat} {a7 b7 : ByteArray} {g8 : Nat} {a8 b8 : ByteArray} {g9 : Nat} {a9 b9 : ByteArray} (h : St w W [(g1, a1, b1), (g2, a2, b2), (g3, a3, b3), (g4, a4, b4), (g5, a5, b5), (g6, a6, b6), (g7, a7, b7), (g8, a8, b8), (g9, a9, b9)]) :
    W.cell? ⟨g1, 0, none⟩ = some (.string a1) ∧ W.cell? ⟨g1, 1, none⟩ = some (.string b1) ∧ W.cell? ⟨g2, 0, none⟩ = some (.string a2) ∧ W.cell? ⟨g2, 1, none⟩ = some (.string b2) ∧ W.cell? ⟨g3, 0, none⟩ = some (.string a3) ∧ W.cell? ⟨g3, 1, none⟩ = some (.string b3) ∧ W.cell? ⟨g4, 0, none⟩ = some (.string a4) ∧ W.cell? ⟨g4, 1, none⟩ = some (.string b4) ∧ W.cell? ⟨g5, 0, none⟩ = some (.string a5) ∧ W.cell? ⟨g5, 1, none⟩ = some (.string b5) ∧ W.cell? ⟨g6, 0, none⟩ = some (.string a6) ∧ W.cell? ⟨g6, 1, none⟩ = some (.string b6) ∧ W.cell? ⟨g7, 0, none⟩ = some (.string a7) ∧ W.cell? ⟨g7, 1, none⟩ = some (.string b7) ∧ W.cell? ⟨g8, 0, none⟩ = some (.string a8) ∧ W.cell? ⟨g8, 1, none⟩ = some (.string b8) ∧ W.cell? ⟨g9, 0, none⟩ = some (.string a9) ∧ W.cell? ⟨g9, 1, none⟩ = some (.string b9) :=
  ⟨h.head.c0, h.head.c1, h.tail.head.c0, h.tail.head.c1, h.tail.tail.head.c0, h.tail.tail.head.c1, h.tail.tail.tail.head.c0, h.tail.tail.tail.head.c1, h.tail.tail.tail.tail.head.c0, h.tail.tail.tail.tail.head.c1, h.tail.tail.tail.tail.tail.head.c0, h.tail.tail.tail.tail.tail.head.c1, h.tail.tail.tail.tail.tail.tail.head.c0, h.tail.tail.tail.tail.tail.tail.head.c1, h.tail.tail.tail.tail.tail.tail.tail.head.c0, h.tail.tail.tail.tail.tail.tail.tail.head.c1, h.tail.tail.tail.tail.tail.tail.tail.tail.head.c0, h.tail.tail.tail.tail.tail.tail.tail.tail.head.c1⟩

theorem St.drew {w W : World} {L} (h : St w W L) : St w W.drew L := h.step ((Below.refl _ W).drew)

set_option maxRecDepth 100000 in
set_option maxHeartbeats 16000000 in
theorem RationalGrid_any (x0 x1 x2 x3 : Int) (h0 : -9223372036854775808 ≤ x0) (k0 : x0 ≤ 9223372036854775807) (h1 : -9223372036854775808 ≤ x1) (k1 : x1 ≤ 9223372036854775807) (h2 : -9223372036854775808 ≤ x2) (k2 : x2 ≤ 9223372036854775807) (h3 : -9223372036854775808 ≤ x3) (k3 : x3 ≤ 9223372036854775807)
    (c : Int) (hc0 : -9223372036854775808 ≤ c) (hc1 : c ≤ 9223372036854775807) (w : World) (ht : TabP w) :
    Calls Tryz.prog 8 #[.agg #[.int .i64 x0, .int .i64 x1, .int .i64 x2, .int .i64 x3], .int .i64 c] w fun e w' => e = .returned (.bool true) ∧ Below w.heap.size w w' := by
  have hA0 : Below w.heap.size w (w.alloc (.cells #[.int .i64 x0, .int .i64 x1, .int .i64 x2, .int .i64 x3] 24)) := (Below.refl _ w).alloc (Nat.le_refl _) _
  have HN := Lib.hid ((St.start ht).step ((Below.refl _ w).alloc (Nat.le_refl _) (.cells #[.int .i64 x0, .int .i64 x1, .int .i64 x2, .int .i64 x3] 24)))
  have H4 := Lib.hid (heap_alloc_new w (.cells #[.int .i64 x0, .int .i64 x1, .int .i64 x2, .int .i64 x3] 24))
  have HI := Lib.hid is_any
  have HS := Lib.hid qsane_any
  have HLg := Lib.hid (rLong_any x0 x1 x2 x3 h0 k0 h1 k1 h2 k2 h3 k3)
  have K1 := Lib.hid (fun W => pick4_any c hc0 hc1 31 31 rfl (by omega) W)
  clear ht hA0 h0 k0 h1 k1 h2 k2 h3 k3 hc0 hc1
  go_enter Tryz.func8, Tryz.ntmps8
  go_wp2_with (first
      | (go_at_call 9; (with_reducible refine (HS.out _ HN.out.tab).mono ?_); rintro e w0 ⟨rfl, hB⟩; have HN := Lib.hid (HN.out.step hB); obtain ⟨q0, q1, q2, q3⟩ := row4 ((hB.block _ (by simp)).trans H4.out); clear hB)
      | (go_at_call 11; (with_reducible refine (HLg.out _).mono ?_); rintro e w1 ⟨p, hp, hp1, hp2, rfl, hB⟩; have HN := Lib.hid (HN.out.step hB); clear hB q0 q1 q2 q3)
      | (go_at_call 20; (with_reducible refine (K1.out _).mono ?_); rintro e ww ⟨m, hm, rfl, hww⟩; rw [hww]; clear hww ww))
  have HN := Lib.hid (HN.out.add (T p.1) (T p.2))
  obtain ⟨A1, A2, B1, B2, C1, C2, N1, V1, V2, M1, v1, v2, d1, u1, n1, d2, n2, d3, u3, m1, s1, hv1, hv2, hv, c1, c2⟩ := grid_ans hp hp1 (show m ≤ 30 by omega)
  generalize T p.1 = R1 at *
  generalize T p.2 = R2 at *
  go_loopw [7, 8] (fun s p wr => ∃ i : Nat, s = .string (tq i) ∧ p = .int .i64 (i : Int) ∧ i ≤ m ∧ St w wr [(w1.heap.size, R1, R2)]) (fun _ p _ => (m - intOf p).toNat)
  case atStart => exact ⟨0, by rw [tq_zero], by go_num, Nat.zero_le _, HN.out⟩
  case round =>
    obtain ⟨i, rfl, rfl, hi, hst⟩ := hrel
    have HN := Lib.hid hst
    clear hst
    have hsz := tq_size i
    have hsu := tq_succ i
    rcases Nat.lt_or_ge i m with h1 | h1
    · have e1 : decide (i < m) = true := decide_eq_true h1
      have e2 : decide ((i : Int) < (m : Int)) = true := decide_eq_true (by omega)
      obtain ⟨A, hA⟩ : ∃ A, tq i = A := ⟨_, rfl⟩
      rw [hA] at hsz hsu ⊢
      have f1 : ¬ 9223372036854775807 < A.size + 1 := by omega
      have Hsu := Lib.hid hsu
      clear hsu hA
      clear hv d1 u1 n1 d2 n2 d3 u3 m1 s1 hv1 hv2 c1 c2
      go_wp2_with fail
      go_roundw
      case rel => exact ⟨i + 1, by rw [← Hsu.out], by go_num, h1, HN.out⟩
      case measure => simp [intOf]; omega
    · obtain rfl : i = m := by omega
      have e1 : decide (i < i) = false := decide_eq_false (by omega)
      have e2 : decide ((i : Int) < (i : Int)) = false := decide_eq_false (by omega)
      have hzero : i = 0 → tq i = ⟨#[49]⟩ := fun h => by rw [h, tq_zero]
      clear hsz hsu
      obtain ⟨X, hX⟩ : ∃ X, tq i = X := ⟨_, rfl⟩
      rw [hX] at m1 hv hzero ⊢
      have tD := fun (a b : ByteArray) (W : World) (h : TabP W) => qDown_any a b (i : Int) W h
      have tU := fun (a b : ByteArray) (W : World) (h : TabP W) => qUp_any a b (i : Int) W h
      have D1 := tD R1 R2
      have D2 := tD M1 R2
      have D3 := tD B1 B2
      have U1 := tU R1 R2
      have U3 := tU A1 A2
      have Mu := fun (W : World) (h : TabP W) => qMul_any A1 A2 X ⟨#[49]⟩ W h
      have Su := fun (W : World) (h : TabP W) => qSub_any B1 B2 A1 A2 W h
      have Mi1 := fun (W : World) (h : TabP W) => qminus_any R1 R2 _ _ _ W h n1
      have Mi2 := fun (W : World) (h : TabP W) => qminus_any C1 C2 _ _ _ W h n2
      simp only [d1, d2, d3, u1, u3, m1, s1] at D1 D2 D3 U1 U3 Mu Su
      unfold Answers at D1 D2 D3 U1 U3 Mu Su
      simp only at D1 D2 D3 U1 U3 Mu Su
      have D1 := Lib.hid D1
      have D2 := Lib.hid D2
      have D3 := Lib.hid D3
      have U1 := Lib.hid U1
      have U3 := Lib.hid U3
      have Mu := Lib.hid Mu
      have Su := Lib.hid Su
      have Mi1 := Lib.hid Mi1
      have Mi2 := Lib.hid Mi2
      have C1' := Lib.hid c1
      have C2' := Lib.hid c2
      have HV := Lib.hid (And.intro hv (And.intro hzero hi))
      have o1 : decide (0 < v1) = false := decide_eq_false (by omega)
      have o2 : decide (v2 < 0) = false := decide_eq_false (by omega)
      have y0 := HN.out.head.c0
      have y1 := HN.out.head.c1
      clear d1 d2 d3 u1 u3 m1 s1 n1 n2 c1 c2 hv hzero hX hi h1 tD tU hv1 hv2
      go_wp2_with (first
        | (go_at_call 21; (with_reducible refine (D1.out _ HN.out.tab).mono ?_); rintro e w3 ⟨rfl, hB⟩; clear y0 y1; have HN := Lib.hid ((HN.out.step hB).add A1 A2); clear hB; have y0 := HN.out.tail.head.c0; have y1 := HN.out.tail.head.c1)
        | (go_at_call 23; (with_reducible refine (U1.out _ HN.out.tab).mono ?_); rintro e w4 ⟨rfl, hB⟩; clear y0 y1; have HN := Lib.hid ((HN.out.step hB).add B1 B2); clear hB; have y0 := HN.out.tail.tail.head.c0; have y1 := HN.out.tail.tail.head.c1)
        | (go_at_call 40; (with_reducible refine (Mi1.out _ HN.out.tab).mono ?_); rintro e w5 ⟨rfl, hB⟩; clear y0 y1; have HN := Lib.hid (HN.out.step hB); clear hB)
        | (go_at_call 21; (with_reducible refine (D2.out _ HN.out.tab).mono ?_); rintro e w6 ⟨rfl, hB⟩; have HN := Lib.hid ((HN.out.step hB).add C1 C2); clear hB; have y0 := HN.out.head.c0; have y1 := HN.out.head.c1; have y2 := HN.out.tail.head.c0; have y3 := HN.out.tail.head.c1; have y4 := HN.out.tail.tail.head.c0; have y5 := HN.out.tail.tail.head.c1; have y6 := HN.out.tail.tail.tail.head.c0; have y7 := HN.out.tail.tail.tail.head.c1))
      clear y0 y1 y2 y3 y4 y5 y6 y7
      refine wp_world fun W hW => ?_
      rw [← hW] at HN
      clear hW
      obtain ⟨y0, y1, y2, y3, y4, y5, y6, y7⟩ := HN.out.cells4
      go_region_held3 (fun w' => w'.cell? ⟨w6.heap.size, 0, none⟩ = some (.string C1) ∧ w'.cell? ⟨w6.heap.size, 1, none⟩ = some (.string C2) ∧ w'.cell? ⟨w4.heap.size, 0, none⟩ = some (.string B1) ∧ w'.cell? ⟨w4.heap.size, 1, none⟩ = some (.string B2) ∧ w'.cell? ⟨w3.heap.size, 0, none⟩ = some (.string A1) ∧ w'.cell? ⟨w3.heap.size, 1, none⟩ = some (.string A2) ∧ w'.cell? ⟨w1.heap.size, 0, none⟩ = some (.string R1) ∧ w'.cell? ⟨w1.heap.size, 1, none⟩ = some (.string R2)) (first | exact HN.out.cells4 | go_keep)
        (first
          | (go_at_call 40; ((with_reducible first | refine (Mi2.out _ HN.out.tab).mono ?_ | refine (Mi2.out _ HN.out.drew.tab).mono ?_); rintro e ww ⟨rfl, hB⟩; (first | have HN := Lib.hid (HN.out.step hB) | have HN := Lib.hid (HN.out.step (below_undrew hB))); clear hB))
          | (go_at_call 18; (with_reducible refine (C1'.out _ HN.out.tab).mono ?_); rintro e ww ⟨rfl, hB⟩; (first | have HN := Lib.hid (HN.out.step hB) | have HN := Lib.hid (HN.out.step (below_undrew hB))); clear hB)
          | (go_at_call 18; (with_reducible refine (C2'.out _ HN.out.tab).mono ?_); rintro e ww ⟨rfl, hB⟩; (first | have HN := Lib.hid (HN.out.step hB) | have HN := Lib.hid (HN.out.step (below_undrew hB))); clear hB))
      have y0 := HN.out.tail.head.c0
      have y1 := HN.out.tail.head.c1
      go_wp2_with (first
        | (go_at_call 21; (with_reducible refine (D3.out _ HN.out.tab).mono ?_); rintro e w10 ⟨rfl, hB⟩; clear y0 y1; have HN := Lib.hid ((HN.out.step hB).add B1 B2); clear hB; have y0 := HN.out.tail.tail.tail.head.c0; have y1 := HN.out.tail.tail.tail.head.c1)
        | (go_at_call 23; (with_reducible refine (U3.out _ HN.out.tab).mono ?_); rintro e w11 ⟨rfl, hB⟩; clear y0 y1; have HN := Lib.hid ((HN.out.step hB).add A1 A2); clear hB))
      refine wp_world fun W hW => ?_
      rw [← hW] at HN
      clear hW
      have y0 := HN.out.tail.tail.tail.tail.head.c0
      have y1 := HN.out.tail.tail.tail.tail.head.c1
      go_region_held3 (fun w' => w'.cell? ⟨w3.heap.size, 0, none⟩ = some (.string A1) ∧ w'.cell? ⟨w3.heap.size, 1, none⟩ = some (.string A2)) (first | exact ⟨HN.out.tail.tail.tail.tail.head.c0, HN.out.tail.tail.tail.tail.head.c1⟩ | exact ⟨(HN.out.add _ _).tail.tail.tail.tail.tail.head.c0, (HN.out.add _ _).tail.tail.tail.tail.tail.head.c1⟩ | exact ⟨HN.out.tail.tail.tail.tail.tail.head.c0, HN.out.tail.tail.tail.tail.tail.head.c1⟩ | exact ⟨(HN.out.put HL.out _ _).tail.tail.tail.tail.tail.head.c0, (HN.out.put HL.out _ _).tail.tail.tail.tail.tail.head.c1⟩ | go_keep)
        (first
          | (go_at_call 39; (with_reducible refine (HI.out _ _ _).mono ?_); rintro e w12 ⟨rfl, hB⟩; (first | have HN := Lib.hid (HN.out.step (below_undrew hB)) | (have HL := Lib.hid HN.out.lts; have HN := Lib.hid ((HN.out.add _ _).step (below_undrew hB)); have x0 := HN.out.head.f0; have x1 := HN.out.head.f1; have x2 := HN.out.head.c0; have x3 := HN.out.head.c1)); clear hB)
          | (go_at_call 37; (with_reducible refine (Mu.out _ HN.out.tab).mono ?_); rintro e w13 ⟨rfl, hB⟩; clear x0 x1 x2 x3; have HN := Lib.hid (HN.out.step hB); clear hB; have x0 := HN.out.head.f0; have x1 := HN.out.head.f1; have x2 := HN.out.head.c0; have x3 := HN.out.head.c1)
          | (go_at_call 37; have HL := Lib.hid HN.out.lts; (with_reducible refine (Mu.out _ (HN.out.add _ _).tab).mono ?_); rintro e w13 ⟨rfl, hB⟩; have HN := Lib.hid ((HN.out.add _ _).step hB); clear hB; have x0 := HN.out.head.f0; have x1 := HN.out.head.f1; have x2 := HN.out.head.c0; have x3 := HN.out.head.c1)
          | (go_at_call 37; (with_reducible refine (Mu.out _ HN.out.tab).mono ?_); rintro e w13 ⟨rfl, hB⟩; have HN := Lib.hid (HN.out.step hB); clear hB))
      all_goals first | have HN := Lib.hid (HN.out.put HL.out N1 ⟨#[49]⟩) | have HN := Lib.hid (HN.out.add N1 ⟨#[49]⟩)
      all_goals try clear x0 x1 x2 x3
      all_goals clear y0 y1
      all_goals
        obtain ⟨hv, hzero, hi⟩ := HV.out
        rcases hv with ⟨rfl, rfl, rfl, rfl⟩ | ⟨hv1, hv2, rfl, hV2⟩
        · rcases Nat.eq_zero_or_pos i with hz | hz
          · skip
            have o5 : ((i : Int) == 0) = true := beq_of_eq (by omega)
            have o6 : (i == 0) = true := beq_of_eq hz
            have hx := hzero hz
            subst hx
            clear hzero hi HV hz
            have y0 := HN.out.tail.tail.tail.tail.head.c0
            have y1 := HN.out.tail.tail.tail.tail.head.c1
            have y2 := HN.out.tail.tail.tail.tail.tail.head.c0
            have y3 := HN.out.tail.tail.tail.tail.tail.head.c1
            go_wp2_with (first
              | (go_at_call 38; (with_reducible refine (Su.out _ HN.out.tab).mono ?_); rintro e w14 ⟨rfl, hB⟩; clear y0 y1 y2 y3; have HN := Lib.hid ((HN.out.step hB).add ⟨#[48]⟩ ⟨#[49]⟩); clear hB; have y0 := HN.out.tail.tail.tail.tail.tail.tail.head.c0; have y1 := HN.out.tail.tail.tail.tail.tail.tail.head.c1; have y2 := HN.out.tail.tail.tail.tail.tail.tail.tail.head.c0; have y3 := HN.out.tail.tail.tail.tail.tail.tail.tail.head.c1)
              | (go_at_call 18; (with_reducible refine (C1'.out _ HN.out.tab).mono ?_); rintro e w15 ⟨rfl, hB⟩; clear y0 y1 y2 y3; have HN := Lib.hid (HN.out.step hB); clear hB)
              | (go_at_call 39; (with_reducible refine (HI.out _ _ _).mono ?_); rintro e w16 ⟨rfl, hB⟩; have HN := Lib.hid (HN.out.step hB); clear hB)
              | (go_at_call 39; have HL := Lib.hid HN.out.lts; (with_reducible refine (HI.out _ _ _).mono ?_); rintro e w17 ⟨rfl, hB⟩; have HN := Lib.hid ((HN.out.add ⟨#[49]⟩ ⟨#[49]⟩).step hB); clear hB; have z0 := HN.out.head.f0; have z1 := HN.out.head.f1; have z2 := HN.out.head.c0; have z3 := HN.out.head.c1)
              | (go_at_call 39; (with_reducible refine (HI.out _ _ _).mono ?_); rintro e w18 ⟨rfl, hB⟩; clear z0 z1 z2 z3; have HN := Lib.hid ((HN.out.put HL.out ⟨#[49]⟩ ⟨#[49]⟩).step hB); clear hB; have z0 := HN.out.head.f0; have z1 := HN.out.head.f1; have z2 := HN.out.head.c0; have z3 := HN.out.head.c1; have HN := Lib.hid (HN.out.put HL.out ⟨#[48]⟩ ⟨#[49]⟩); obtain ⟨y0, y1, y2, y3, y4, y5, y6, y7, y8, y9, ya, yb, yc, yd, ye, yf, yg, yh⟩ := HN.out.cells9)
              | (go_at_call 18; (with_reducible refine (C2'.out _ HN.out.tab).mono ?_); rintro e w19 ⟨rfl, hB⟩; have HN := Lib.hid (HN.out.step hB); clear hB))
            go_ret
            exact ⟨rfl, HN.out.below⟩
          · skip
            have o5 : ((i : Int) == 0) = false := beq_false_of_ne (by omega)
            have o6 : (i == 0) = false := beq_false_of_ne (by omega)
            clear hzero hi HV hz
            have y0 := HN.out.tail.tail.tail.tail.head.c0
            have y1 := HN.out.tail.tail.tail.tail.head.c1
            have y2 := HN.out.tail.tail.tail.tail.tail.head.c0
            have y3 := HN.out.tail.tail.tail.tail.tail.head.c1
            go_wp2_with (first
              | (go_at_call 38; (with_reducible refine (Su.out _ HN.out.tab).mono ?_); rintro e w14 ⟨rfl, hB⟩; clear y0 y1 y2 y3; have HN := Lib.hid ((HN.out.step hB).add ⟨#[48]⟩ ⟨#[49]⟩); clear hB; have y0 := HN.out.tail.tail.tail.tail.tail.tail.head.c0; have y1 := HN.out.tail.tail.tail.tail.tail.tail.head.c1; have y2 := HN.out.tail.tail.tail.tail.tail.tail.tail.head.c0; have y3 := HN.out.tail.tail.tail.tail.tail.tail.tail.head.c1)
              | (go_at_call 18; (with_reducible refine (C1'.out _ HN.out.tab).mono ?_); rintro e w15 ⟨rfl, hB⟩; clear y0 y1 y2 y3; have HN := Lib.hid (HN.out.step hB); clear hB)
              | (go_at_call 39; (with_reducible refine (HI.out _ _ _).mono ?_); rintro e w16 ⟨rfl, hB⟩; have HN := Lib.hid (HN.out.step hB); clear hB)
              | (go_at_call 39; have HL := Lib.hid HN.out.lts; (with_reducible refine (HI.out _ _ _).mono ?_); rintro e w17 ⟨rfl, hB⟩; have HN := Lib.hid ((HN.out.add ⟨#[49]⟩ X).step hB); clear hB; have z0 := HN.out.head.f0; have z1 := HN.out.head.f1; have z2 := HN.out.head.c0; have z3 := HN.out.head.c1; have HN := Lib.hid (HN.out.put HL.out ⟨#[48]⟩ ⟨#[49]⟩); obtain ⟨y0, y1, y2, y3, y4, y5, y6, y7, y8, y9, ya, yb, yc, yd, ye, yf, yg, yh⟩ := HN.out.cells9)
              | (go_at_call 39; (with_reducible refine (HI.out _ _ _).mono ?_); rintro e w18 ⟨rfl, hB⟩; clear z0 z1 z2 z3; have HN := Lib.hid ((HN.out.put HL.out ⟨#[49]⟩ ⟨#[49]⟩).step hB); clear hB; have z0 := HN.out.head.f0; have z1 := HN.out.head.f1; have z2 := HN.out.head.c0; have z3 := HN.out.head.c1; have HN := Lib.hid (HN.out.put HL.out ⟨#[48]⟩ ⟨#[49]⟩); obtain ⟨y0, y1, y2, y3, y4, y5, y6, y7, y8, y9, ya, yb, yc, yd, ye, yf, yg, yh⟩ := HN.out.cells9)
              | (go_at_call 18; (with_reducible refine (C2'.out _ HN.out.tab).mono ?_); rintro e w19 ⟨rfl, hB⟩; have HN := Lib.hid (HN.out.step hB); clear hB))
            go_ret
            exact ⟨rfl, HN.out.below⟩
        · have hV2 := hV2.symm
          subst hV2
          have o7 : (v1 == 0) = false := beq_false_of_ne hv1
          have o8 : (v2 == 0) = false := beq_false_of_ne hv2
          clear hv1 hv2
          rcases Nat.eq_zero_or_pos i with hz | hz
          · skip
            have o5 : ((i : Int) == 0) = true := beq_of_eq (by omega)
            have o6 : (i == 0) = true := beq_of_eq hz
            have hx := hzero hz
            subst hx
            clear hzero hi HV hz
            have y0 := HN.out.tail.tail.tail.tail.head.c0
            have y1 := HN.out.tail.tail.tail.tail.head.c1
            have y2 := HN.out.tail.tail.tail.tail.tail.head.c0
            have y3 := HN.out.tail.tail.tail.tail.tail.head.c1
            go_wp2_with (first
              | (go_at_call 38; (with_reducible refine (Su.out _ HN.out.tab).mono ?_); rintro e w14 ⟨rfl, hB⟩; clear y0 y1 y2 y3; have HN := Lib.hid ((HN.out.step hB).add ⟨#[49]⟩ ⟨#[49]⟩); clear hB; have y0 := HN.out.tail.tail.tail.tail.tail.tail.head.c0; have y1 := HN.out.tail.tail.tail.tail.tail.tail.head.c1; have y2 := HN.out.tail.tail.tail.tail.tail.tail.tail.head.c0; have y3 := HN.out.tail.tail.tail.tail.tail.tail.tail.head.c1)
              | (go_at_call 18; (with_reducible refine (C1'.out _ HN.out.tab).mono ?_); rintro e w15 ⟨rfl, hB⟩; clear y0 y1 y2 y3; have HN := Lib.hid (HN.out.step hB); clear hB)
              | (go_at_call 39; (with_reducible refine (HI.out _ _ _).mono ?_); rintro e w16 ⟨rfl, hB⟩; have HN := Lib.hid (HN.out.step hB); clear hB)
              | (go_at_call 39; have HL := Lib.hid HN.out.lts; (with_reducible refine (HI.out _ _ _).mono ?_); rintro e w17 ⟨rfl, hB⟩; have HN := Lib.hid ((HN.out.add ⟨#[49]⟩ ⟨#[49]⟩).step hB); clear hB; have z0 := HN.out.head.f0; have z1 := HN.out.head.f1; have z2 := HN.out.head.c0; have z3 := HN.out.head.c1; have HN := Lib.hid (HN.out.put HL.out ⟨#[49]⟩ ⟨#[49]⟩); obtain ⟨y0, y1, y2, y3, y4, y5, y6, y7, y8, y9, ya, yb, yc, yd, ye, yf, yg, yh⟩ := HN.out.cells9)
              | (go_at_call 39; (with_reducible refine (HI.out _ _ _).mono ?_); rintro e w18 ⟨rfl, hB⟩; clear z0 z1 z2 z3; have HN := Lib.hid ((HN.out.put HL.out ⟨#[49]⟩ ⟨#[49]⟩).step hB); clear hB; have z0 := HN.out.head.f0; have z1 := HN.out.head.f1; have z2 := HN.out.head.c0; have z3 := HN.out.head.c1; have HN := Lib.hid (HN.out.put HL.out ⟨#[48]⟩ ⟨#[49]⟩); obtain ⟨y0, y1, y2, y3, y4, y5, y6, y7, y8, y9, ya, yb, yc, yd, ye, yf, yg, yh⟩ := HN.out.cells9)
              | (go_at_call 18; (with_reducible refine (C2'.out _ HN.out.tab).mono ?_); rintro e w19 ⟨rfl, hB⟩; have HN := Lib.hid (HN.out.step hB); clear hB))
            go_ret
            exact ⟨rfl, HN.out.below⟩
          · skip
            have o5 : ((i : Int) == 0) = false := beq_false_of_ne (by omega)
            have o6 : (i == 0) = false := beq_false_of_ne (by omega)
            clear hzero hi HV hz
            have y0 := HN.out.tail.tail.tail.tail.head.c0
            have y1 := HN.out.tail.tail.tail.tail.head.c1
            have y2 := HN.out.tail.tail.tail.tail.tail.head.c0
            have y3 := HN.out.tail.tail.tail.tail.tail.head.c1
            go_wp2_with (first
              | (go_at_call 38; (with_reducible refine (Su.out _ HN.out.tab).mono ?_); rintro e w14 ⟨rfl, hB⟩; clear y0 y1 y2 y3; have HN := Lib.hid ((HN.out.step hB).add ⟨#[49]⟩ X); clear hB; have y0 := HN.out.tail.tail.tail.tail.tail.tail.head.c0; have y1 := HN.out.tail.tail.tail.tail.tail.tail.head.c1; have y2 := HN.out.tail.tail.tail.tail.tail.tail.tail.head.c0; have y3 := HN.out.tail.tail.tail.tail.tail.tail.tail.head.c1)
              | (go_at_call 18; (with_reducible refine (C1'.out _ HN.out.tab).mono ?_); rintro e w15 ⟨rfl, hB⟩; clear y0 y1 y2 y3; have HN := Lib.hid (HN.out.step hB); clear hB)
              | (go_at_call 39; (with_reducible refine (HI.out _ _ _).mono ?_); rintro e w16 ⟨rfl, hB⟩; have HN := Lib.hid (HN.out.step hB); clear hB; have HN := Lib.hid (HN.out.add ⟨#[49]⟩ X); obtain ⟨y0, y1, y2, y3, y4, y5, y6, y7, y8, y9, ya, yb, yc, yd, ye, yf, yg, yh⟩ := HN.out.cells9)
              | (go_at_call 39; have HL := Lib.hid HN.out.lts; (with_reducible refine (HI.out _ _ _).mono ?_); rintro e w17 ⟨rfl, hB⟩; have HN := Lib.hid ((HN.out.add ⟨#[49]⟩ X).step hB); clear hB; have z0 := HN.out.head.f0; have z1 := HN.out.head.f1; have z2 := HN.out.head.c0; have z3 := HN.out.head.c1)
              | (go_at_call 39; (with_reducible refine (HI.out _ _ _).mono ?_); rintro e w18 ⟨rfl, hB⟩; clear z0 z1 z2 z3; have HN := Lib.hid ((HN.out.put HL.out ⟨#[49]⟩ ⟨#[49]⟩).step hB); clear hB; have z0 := HN.out.head.f0; have z1 := HN.out.head.f1; have z2 := HN.out.head.c0; have z3 := HN.out.head.c1; have HN := Lib.hid (HN.out.put HL.out ⟨#[48]⟩ ⟨#[49]⟩); obtain ⟨y0, y1, y2, y3, y4, y5, y6, y7, y8, y9, ya, yb, yc, yd, ye, yf, yg, yh⟩ := HN.out.cells9)
              | (go_at_call 18; (with_reducible refine (C2'.out _ HN.out.tab).mono ?_); rintro e w19 ⟨rfl, hB⟩; have HN := Lib.hid (HN.out.step hB); clear hB))
            go_ret
            exact ⟨rfl, HN.out.below⟩

end Go.Proofs.YtkdcnpleoklcgaaGreatDoor

/-
  RationalGrid: for every input the law returns true, and each argument reads afterwards as it read before.
  Conditions: the variables (the tables of the decimal powers and of the bit counts, and the errors of strconv) hold what the program's own text lays there, which the card ties to that text. The card's set-up speaks of the pruned copy of the project.
-/
namespace Go.Proofs.YtkdcnpleoklcgaaGreatDoor.rationalGrid
open Go.ChangeShapes Go.WideShapes Go.ChangeAt Go.RowKit
open Go.ChangeMaps (open_string shut_string)

theorem list4 {α : Type} (l : List α) (h : (⟨l⟩ : Array α).size = 4) : ∃ a b c d, l = [a, b, c, d] := by
  match l, h with
  | [a, b, c, d], _ => exact ⟨a, b, c, d, rfl⟩
theorem params_ok : ∀ t ∈ Tryz.f8.params.toList, Tryz.prog.readableRec t = true ∧ t < Tryz.prog.types.size := by
  rw [Tryz.params8]
  intro t ht
  simp only [List.mem_cons, List.not_mem_nil, or_false] at ht
  rcases ht with rfl | rfl <;> exact ⟨by kernel_rfl, of_decide_eq_true (by kernel_rfl)⟩

set_option maxRecDepth 100000 in
theorem walk_args {H : Type} {enc : TypeId × Value → H} {W : World} {base : Nat} {args : Array Value} {ds : List (DataW H)} {p : List MemPlace}
    (hval : ∀ (j : Nat) t v, Tryz.f8.params[j]? = some t → args[j]? = some v → Value.okWide Tryz.prog W .any base t v)
    (hA : DataW.TrodAll enc Tryz.prog W 0 (fun _ => true) true Tryz.f8.params.toList args.toList ds p) (ht : TabP W) :
    ds.length = 2 ∧ Calls Tryz.prog 8 args W fun e W' => e = .returned (.bool true) ∧ Below W.heap.size W W' := by
  rw [Tryz.params8] at hA hval
  obtain ⟨v0, vs0, d0, ds0, p0, q0, hargs, rfl, rfl, h0, r0⟩ := trodAll_cons hA
  obtain ⟨v1, vs1, d1, ds1, p1, q1, rfl, rfl, rfl, h1, r1⟩ := trodAll_cons r0
  obtain ⟨rfl, rfl, rfl⟩ := trodAll_nil r1
  obtain rfl : args = #[v0, v1] := by cases args; simp_all
  refine ⟨rfl, ?_⟩
  obtain ⟨cs0, rfl, hsz0, _⟩ : ∃ cs, v0 = .agg cs ∧ cs.size = Tryz.prog.cellsOf 24 ∧ Row.okWide Tryz.prog W .any base 24 cs := by
    have := hval 0 24 v0 rfl rfl
    simpa [Value.okWide, Tryz.underlying24] using this
  rw [show Tryz.prog.cellsOf 24 = 4 from by kernel_rfl] at hsz0
  obtain ⟨cl0⟩ := cs0
  obtain ⟨c00, c01, c02, c03, rfl⟩ := list4 cl0 hsz0
  obtain ⟨fuel0, hf0⟩ := h0
  obtain ⟨xs0, m0, rfl, -, -, hxl0, hxs0⟩ := DataW.trod_array Tryz.underlying24 hf0
  have e00 := hxs0 0 (by omega)
  have e01 := hxs0 1 (by omega)
  have e02 := hxs0 2 (by omega)
  have e03 := hxs0 3 (by omega)
  rw [List.getElem?_eq_getElem (by omega), show Tryz.prog.cellsOf 3 = 1 from by kernel_rfl] at e00 e01 e02 e03
  obtain ⟨b00, x00, -, z00⟩ := DataW.trod_int Tryz.underlying3 e00
  obtain ⟨b01, x01, -, z01⟩ := DataW.trod_int Tryz.underlying3 e01
  obtain ⟨b02, x02, -, z02⟩ := DataW.trod_int Tryz.underlying3 e02
  obtain ⟨b03, x03, -, z03⟩ := DataW.trod_int Tryz.underlying3 e03
  simp [Value.cells] at x00 x01 x02 x03
  subst x00 x01 x02 x03
  obtain ⟨l00, u00⟩ := bounds_i64 z00
  obtain ⟨l01, u01⟩ := bounds_i64 z01
  obtain ⟨l02, u02⟩ := bounds_i64 z02
  obtain ⟨l03, u03⟩ := bounds_i64 z03
  obtain ⟨a1, rfl, rfl, rfl, w1⟩ := open_int Tryz.underlying3 (hval 1 3 v1 rfl rfl) h1
  obtain ⟨l1, u1⟩ := bounds_i64 w1
  exact RationalGrid_any b00 b01 b02 b03 l00 u00 l01 u01 l02 u02 l03 u03 a1 l1 u1 W ht

def wargs : Array Value := #[.agg #[.int .i64 0, .int .i64 0, .int .i64 0, .int .i64 0], .int .i64 0]
theorem laid_met (os : Os) : laidMet Tryz.prog Rows.rationalGridRow.laid ((Tab.laidWorld os).forCall (fun _ _ => 0) ⟨#[], wargs, []⟩).memory :=
  Tab.laid_met os wargs
theorem reads (os : Os) {H : Type} (enc : TypeId × Value → H) : ∃ ds places, DataW.whole enc Tryz.prog ((Tab.laidWorld os).forCall (fun _ _ => 0) ⟨#[], wargs, []⟩).memory Tryz.f8.params.toList Rows.rationalGridSpec.vars false wargs.toList 8 = some (ds, [], places) :=
  ⟨[.agg [.lit (.int .i64 0), .lit (.int .i64 0), .lit (.int .i64 0), .lit (.int .i64 0)], .lit (.int .i64 0)], [], by kernel_rfl⟩

set_option maxRecDepth 100000 in
theorem lifted (os : Os) (started : os.Started) (H : Type) (enc : TypeId × Value → H) (F : Stop.Interp) :
    ReturnsInHanded {} Tryz.checked os 8 .any ((OpenSpec.ofChange Rows.rationalGridSpec).preRow enc Tryz.prog Tryz.f8 Rows.rationalGridRow.domain false Rows.rationalGridRow.laid) (((OpenSpec.ofChange Rows.rationalGridSpec).at F).post enc Tryz.prog Tryz.f8 false true false false) := by
  obtain ⟨wd, places, hx⟩ := reads os enc
  refine returnsInHanded_of_row (C := Tryz.checked) (s := OpenSpec.ofChange Rows.rationalGridSpec) Tab.own started (by kernel_rfl) Tryz.func8
    (witness_row_at (enc := enc) (C := Tryz.checked) false (Tab.laidWorld os) wargs (Tab.laidWorld_os os) (by kernel_rfl) (by kernel_rfl) (by kernel_rfl)
      (OpenSpec.preRow_of_cond 8 hx (by kernel_rfl) (fun k hk => by cases hk) (by kernel_rfl) (laid_met os))) ?_
  intro W base args ds gs before hval hW _ _ _ hL _ _
  have hW' := hW
  obtain ⟨p, q, hA, -, -, -, -⟩ := hW'
  obtain ⟨h3, walk⟩ := walk_args hval hA (Tab.table hL)
  refine Fr.law_contract Tab.laidOut params_ok rfl (by kernel_rfl) Tryz.underlying4 hW ?_ walk
  match ds, h3 with
  | [_, _], _ => rfl

theorem said : Rows.RationalGridSaid :=
  OpenClaim.holds_of_cond 8 Tryz.f8 rfl rfl rfl rfl rfl rfl rfl ⟨rfl, rfl, rfl, rfl, rfl⟩ rfl rfl rfl rfl rfl (by kernel_rfl) Tryz.func8 (by kernel_rfl)
    (of_decide_eq_true (by kernel_rfl)) (by unfold Func.isWrapper; first | (rw [if_pos (by decide +kernel)]; kernel_rfl) | (rw [if_neg (by decide +kernel)]; exact ⟨rfl, rfl⟩))
    (fun os started H enc _ F => by rw [OpenClaim.pre_eq_preRow]; exact lifted os started H enc F)

theorem plain (f : FuncId) (fn : Func) (hf : Tryz.pinned.checked.prog.funcNamed "longliner/longlinerlaw04.RationalGrid" = some f) (hfn : Tryz.pinned.checked.prog.funcs[f]? = some fn) :
    true = Tryz.pinned.checked.prog.looks [] ∧ ∀ (j : Nat) t, fn.params[j]? = some t → Tryz.pinned.checked.prog.wantsStandIn t = false := by
  obtain rfl : f = 8 := Option.some.inj ((show Tryz.prog.funcNamed "longliner/longlinerlaw04.RationalGrid" = some 8 by kernel_rfl).symm.trans hf) |>.symm
  obtain rfl : fn = Tryz.f8 := (Option.some.inj (Tryz.func8.symm.trans hfn)).symm
  refine ⟨by kernel_rfl, fun j t ht => ?_⟩
  rw [Tryz.params8] at ht
  have hm := Array.mem_of_getElem? ht
  simp only [List.mem_toArray, List.mem_cons, List.not_mem_nil, or_false] at hm
  rcases hm with rfl | rfl
  all_goals (show Tryz.prog.wantsStandIn _ = false; kernel_rfl)

theorem card : Rows.RationalGridCardSaid :=
  Claim7.holds_tied_plain_at .later [] _ _ _ _ said (fun _ h => by cases h) (by kernel_rfl) (fun _ h => by cases h) rationalGrid_row_tie rfl ⟨rfl, rfl⟩ (by kernel_rfl) rfl plain (by kernel_rfl)
end Go.Proofs.YtkdcnpleoklcgaaGreatDoor.rationalGrid
