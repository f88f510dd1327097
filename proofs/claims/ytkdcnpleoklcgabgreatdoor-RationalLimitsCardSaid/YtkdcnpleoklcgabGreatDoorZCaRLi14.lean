/-
  Put together by program out of these texts, in this order: Qsq, Qpk, Qli.
-/
import Derived.Test.YtkdcnpleoklcgabGreatDoorZCaRLi13

/-
  Layer 4: the laws' fixed examples hold.
-/
namespace Go.Proofs.YtkdcnpleoklcgabGreatDoor
open Go.RowKit Bs Ig Qq

/-- where a law stands: what was there is as it was, the table lies where it lay, and boxes hold what they held -/
structure St (w W : World) (L : List (Nat × ByteArray × ByteArray)) : Prop where
  below : Below w.heap.size w W
  tab0 : TabP w
  box : ∀ x ∈ L, IsB W x.1 x.2.1 x.2.2
theorem St.tab {w W : World} {L} (h : St w W L) : TabP W := h.tab0.later h.below
theorem St.start {w : World} (h : TabP w) : St w w [] := ⟨Below.refl _ _, h, fun _ hx => (by cases hx)⟩
theorem St.step {w W W' : World} {L} (h : St w W L) (hb : Below W.heap.size W W') : St w W' L := ⟨below_on h.below hb h.below.size, h.tab0, fun x hx => (h.box x hx).later hb (h.box x hx).lt⟩
theorem St.add {w W : World} {L} (h : St w W L) (N D : ByteArray) : St w (W.alloc (.cells #[.string N, .string D] 25)) ((W.heap.size, N, D) :: L) := by
  have hb := (Below.refl _ W).alloc (Nat.le_refl _) (.cells #[.string N, .string D] 25)
  refine ⟨(h.step hb).below, h.tab0, fun x hx => ?_⟩
  rcases List.mem_cons.1 hx with rfl | hx
  · exact IsB.new W N D
  · exact (h.step hb).box x hx
theorem St.head {w W : World} {L} {g : Nat} {N D : ByteArray} (h : St w W ((g, N, D) :: L)) : IsB W g N D := h.box (g, N, D) (List.mem_cons_self ..)
theorem St.tail {w W : World} {L} {x} (h : St w W (x :: L)) : St w W L := ⟨h.below, h.tab0, fun y hy => h.box y (List.mem_cons_of_mem _ hy)⟩

theorem St.lts {w W : World} {L} (h : St w W L) : w.heap.size ≤ W.heap.size ∧ ∀ x ∈ L, x.1 < W.heap.size := ⟨h.below.size, fun x hx => (h.box x hx).lt⟩
theorem St.put {w W : World} {L} {g : Nat} {a b : ByteArray} (h : St w W ((g, a, b) :: L)) (hg : w.heap.size ≤ g ∧ ∀ x ∈ L, x.1 < g) (N D : ByteArray) : St w ((W.setCell ⟨g, 0, none⟩ (.string N)).setCell ⟨g, 1, none⟩ (.string D)) ((g, N, D) :: L) := by
  refine ⟨fin1 h.head h.below hg.1 N D, h.tab0, fun x hx => ?_⟩
  · rcases List.mem_cons.1 hx with rfl | hx
    · exact two_strs h.head N D
    · exact far_strs (h.box x (List.mem_cons_of_mem _ hx)) (by have := hg.2 x hx; omega) N D

theorem St.ten {w W : World} {x19 x11 x5 : Nat × ByteArray × ByteArray} {g17 : Nat} {a17 b17 : ByteArray} {g15 : Nat} {a15 b15 : ByteArray} {g13 : Nat} {a13 b13 : ByteArray} {g9 : Nat} {a9 b9 : ByteArray} {g7 : Nat} {a7 b7 : ByteArray} {g3 : Nat} {a3 b3 : ByteArray} {g1 : Nat} {a1 b1 : ByteArray} (h : St w W [x19, (g17, a17, b17), (g15, a15, b15), (g13, a13, b13), x11, (g9, a9, b9), (g7, a7, b7), x5, (g3, a3, b3), (g1, a1, b1)]) :
    W.cell? ⟨g17, 0, none⟩ = some (.string a17) ∧ W.cell? ⟨g17, 1, none⟩ = some (.string b17) ∧ W.cell? ⟨g15, 0, none⟩ = some (.string a15) ∧ W.cell? ⟨g15, 1, none⟩ = some (.string b15) ∧ W.cell? ⟨g13, 0, none⟩ = some (.string a13) ∧ W.cell? ⟨g13, 1, none⟩ = some (.string b13) ∧ W.cell? ⟨g9, 0, none⟩ = some (.string a9) ∧ W.cell? ⟨g9, 1, none⟩ = some (.string b9) ∧ W.cell? ⟨g7, 0, none⟩ = some (.string a7) ∧ W.cell? ⟨g7, 1, none⟩ = some (.string b7) ∧ W.cell? ⟨g3, 0, none⟩ = some (.string a3) ∧ W.cell? ⟨g3, 1, none⟩ = some (.string b3) ∧ W.cell? ⟨g1, 0, none⟩ = some (.string a1) ∧ W.cell? ⟨g1, 1, none⟩ = some (.string b1) := by
  have m := h.tail
  have h17 := m.head
  have h15 := m.tail.head
  have h13 := m.tail.tail.head
  have m9 := m.tail.tail.tail.tail
  have h9 := m9.head
  have h7 := m9.tail.head
  have h3 := m9.tail.tail.tail.head
  have h1 := m9.tail.tail.tail.tail.head
  exact ⟨h17.c0, h17.c1, h15.c0, h15.c1, h13.c0, h13.c1, h9.c0, h9.c1, h7.c0, h7.c1, h3.c0, h3.c1, h1.c0, h1.c1⟩

set_option maxRecDepth 100000 in
set_option maxHeartbeats 1000000 in
theorem is_any (a b : ByteArray) (w : World) : Calls Tryz.prog 13 #[.string a, .string b] w fun e w' => e = .returned (.agg #[.string a, .string b]) ∧ Below w.heap.size w w' := by
  go_enter Tryz.func13, Tryz.ntmps13
  go_wp2_with fail
  exact bodyPost_ret (results_cell_row rfl _ _ w.heap.size 25 #[.string a, .string b] _ _ rfl (IsB.new w a b) Tryz.underlying25 rfl (by kernel_rfl)) rfl ⟨rfl, (Below.refl _ w).alloc (Nat.le_refl _) _⟩

set_option maxRecDepth 100000 in
set_option maxHeartbeats 16000000 in
theorem qsane_any (w : World) (ht : TabP w) :
    Calls Tryz.prog 5 #[] w fun e w' => e = .returned (.bool true) ∧ Below w.heap.size w w' := by
  have HN := Lib.hid (St.start ht)
  have HI := Lib.hid is_any
  have HO1 := Lib.hid q_of1
  have HO2 := Lib.hid q_of2
  have HO3 := Lib.hid q_of3
  have HA := Lib.hid q_add
  have HD1 := Lib.hid q_div1
  have HD2 := Lib.hid q_div2
  have HDn := Lib.hid q_down
  have HUp := Lib.hid q_up
  have HP1 := Lib.hid q_parse1
  have HP2 := Lib.hid q_parse2
  have HPr := Lib.hid q_print
  have HC := Lib.hid q_cmp4
  have HV1 := Lib.hid q_val1
  have HV2 := Lib.hid q_val2
  unfold Answers noA at *
  simp only at HO1 HO2 HO3 HA HD1 HD2 HDn HUp HP1 HP2
  clear ht
  go_enter Tryz.func5, Tryz.ntmps5
  go_wp2_with (first
      | (go_at_call 13; (with_reducible refine (HI.out _ _ _).mono ?_); rintro e ww ⟨rfl, hB⟩; (first | have HN := Lib.hid (HN.out.step hB) | have HN := Lib.hid ((HN.out.add _ _).step hB)); clear hB)
      | (go_at_call 18; (with_reducible refine (HO1.out _ HN.out.tab).mono ?_); rintro e w1 ⟨rfl, hB⟩; have HN := Lib.hid (HN.out.step hB); clear hB)
      | (go_at_call 18; (with_reducible refine (HO1.out _ (HN.out.add _ _).tab).mono ?_); rintro e w1 ⟨rfl, hB⟩; have HN := Lib.hid ((HN.out.add _ _).step hB); clear hB)
      | (go_at_call 18; (with_reducible refine (HO2.out _ HN.out.tab).mono ?_); rintro e w2 ⟨rfl, hB⟩; have HN := Lib.hid (HN.out.step hB); clear hB)
      | (go_at_call 18; (with_reducible refine (HO2.out _ (HN.out.add _ _).tab).mono ?_); rintro e w2 ⟨rfl, hB⟩; have HN := Lib.hid ((HN.out.add _ _).step hB); clear hB)
      | (go_at_call 18; (with_reducible refine (HO3.out _ HN.out.tab).mono ?_); rintro e w3 ⟨rfl, hB⟩; have HN := Lib.hid (HN.out.step hB); clear hB)
      | (go_at_call 18; (with_reducible refine (HO3.out _ (HN.out.add _ _).tab).mono ?_); rintro e w3 ⟨rfl, hB⟩; have HN := Lib.hid ((HN.out.add _ _).step hB); clear hB)
      | (go_at_call 17; (with_reducible refine (HA.out _ HN.out.tab).mono ?_); rintro e w4 ⟨rfl, hB⟩; have HN := Lib.hid (HN.out.step hB); clear hB)
      | (go_at_call 17; (with_reducible refine (HA.out _ (HN.out.add _ _).tab).mono ?_); rintro e w4 ⟨rfl, hB⟩; have HN := Lib.hid ((HN.out.add _ _).step hB); clear hB)
      | (go_at_call 16; (with_reducible refine (HD1.out _ HN.out.tab).mono ?_); rintro e w5 ⟨rfl, hB⟩; have HN := Lib.hid (HN.out.step hB); clear hB)
      | (go_at_call 16; (with_reducible refine (HD1.out _ (HN.out.add _ _).tab).mono ?_); rintro e w5 ⟨rfl, hB⟩; have HN := Lib.hid ((HN.out.add _ _).step hB); clear hB)
      | (go_at_call 19; (with_reducible refine (HDn.out _ HN.out.tab).mono ?_); rintro e w7 ⟨rfl, hB⟩; have HN := Lib.hid (HN.out.step hB); clear hB)
      | (go_at_call 19; (with_reducible refine (HDn.out _ (HN.out.add _ _).tab).mono ?_); rintro e w7 ⟨rfl, hB⟩; have HN := Lib.hid ((HN.out.add _ _).step hB); clear hB)
      | (go_at_call 20; (with_reducible refine (HUp.out _ HN.out.tab).mono ?_); rintro e w8 ⟨rfl, hB⟩; have HN := Lib.hid (HN.out.step hB); clear hB)
      | (go_at_call 20; (with_reducible refine (HUp.out _ (HN.out.add _ _).tab).mono ?_); rintro e w8 ⟨rfl, hB⟩; have HN := Lib.hid ((HN.out.add _ _).step hB); clear hB)
      | (go_at_call 21; (with_reducible refine (HP1.out _ HN.out.tab).mono ?_); rintro e w9 ⟨rfl, hB⟩; have HN := Lib.hid (HN.out.step hB); clear hB)
      | (go_at_call 21; (with_reducible refine (HP1.out _ (HN.out.add _ _).tab).mono ?_); rintro e w9 ⟨rfl, hB⟩; have HN := Lib.hid ((HN.out.add _ _).step hB); clear hB)
      | (go_at_call 21; (with_reducible refine (HP2.out _ HN.out.tab).mono ?_); rintro e w10 ⟨rfl, hB⟩; have HN := Lib.hid (HN.out.step hB); clear hB)
      | (go_at_call 21; (with_reducible refine (HP2.out _ (HN.out.add _ _).tab).mono ?_); rintro e w10 ⟨rfl, hB⟩; have HN := Lib.hid ((HN.out.add _ _).step hB); clear hB))
  refine wp_world fun W hW => ?_
  have HN := Lib.hid (HN.out.add ⟨#[45, 50]⟩ ⟨#[49]⟩)
  rw [← hW] at HN
  clear hW
  have hb := HN.out.tail.tail.tail.head
  have c0 := hb.c0
  have c1 := hb.c1
  clear hb
  go_region_held3 (fun w' => w'.cell? ⟨w2.heap.size, 0, none⟩ = some (.string ⟨#[48]⟩) ∧ w'.cell? ⟨w2.heap.size, 1, none⟩ = some (.string ⟨#[49]⟩)) (first | exact ⟨HN.out.tail.tail.tail.head.c0, HN.out.tail.tail.tail.head.c1⟩ | exact ⟨(HN.out.add _ _).tail.tail.tail.tail.head.c0, (HN.out.add _ _).tail.tail.tail.tail.head.c1⟩ | exact ⟨HN.out.tail.tail.tail.tail.head.c0, HN.out.tail.tail.tail.tail.head.c1⟩ | exact ⟨(HN.out.put HL.out _ _).tail.tail.tail.tail.head.c0, (HN.out.put HL.out _ _).tail.tail.tail.tail.head.c1⟩ | go_keep)
    (first
      | (go_at_call 13; (with_reducible refine (HI.out _ _ _).mono ?_); rintro e ww ⟨rfl, hB⟩; (first | have HN := Lib.hid (HN.out.step (below_undrew hB)) | (have HL := Lib.hid HN.out.lts; have HN := Lib.hid ((HN.out.add _ _).step (below_undrew hB)); have x0 := HN.out.head.f0; have x1 := HN.out.head.f1; have x2 := HN.out.head.c0; have x3 := HN.out.head.c1)); clear hB)
      | (go_at_call 16; (with_reducible refine (HD2.out _ HN.out.tab).mono ?_); rintro e w6 ⟨rfl, hB⟩; clear x0 x1 x2 x3; have HN := Lib.hid (HN.out.step hB); clear hB; have x0 := HN.out.head.f0; have x1 := HN.out.head.f1; have x2 := HN.out.head.c0; have x3 := HN.out.head.c1)
      | (go_at_call 16; have HL := Lib.hid HN.out.lts; (with_reducible refine (HD2.out _ (HN.out.add _ _).tab).mono ?_); rintro e w6 ⟨rfl, hB⟩; have HN := Lib.hid ((HN.out.add _ _).step hB); clear hB; have x0 := HN.out.head.f0; have x1 := HN.out.head.f1; have x2 := HN.out.head.c0; have x3 := HN.out.head.c1)
      | (go_at_call 16; (with_reducible refine (HD2.out _ HN.out.tab).mono ?_); rintro e w6 ⟨rfl, hB⟩; have HN := Lib.hid (HN.out.step hB); clear hB))
  all_goals first | have HN := Lib.hid (HN.out.put HL.out ⟨#[]⟩ ⟨#[]⟩) | have HN := Lib.hid (HN.out.add ⟨#[]⟩ ⟨#[]⟩)

  go_wp2_with (first
      | (go_at_call 13; (with_reducible refine (HI.out _ _ _).mono ?_); rintro e ww ⟨rfl, hB⟩; (first | have HN := Lib.hid (HN.out.step hB) | have HN := Lib.hid ((HN.out.add _ _).step hB)); clear hB)
      | (go_at_call 18; (with_reducible refine (HO1.out _ HN.out.tab).mono ?_); rintro e w1 ⟨rfl, hB⟩; have HN := Lib.hid (HN.out.step hB); clear hB)
      | (go_at_call 18; (with_reducible refine (HO1.out _ (HN.out.add _ _).tab).mono ?_); rintro e w1 ⟨rfl, hB⟩; have HN := Lib.hid ((HN.out.add _ _).step hB); clear hB)
      | (go_at_call 18; (with_reducible refine (HO2.out _ HN.out.tab).mono ?_); rintro e w2 ⟨rfl, hB⟩; have HN := Lib.hid (HN.out.step hB); clear hB)
      | (go_at_call 18; (with_reducible refine (HO2.out _ (HN.out.add _ _).tab).mono ?_); rintro e w2 ⟨rfl, hB⟩; have HN := Lib.hid ((HN.out.add _ _).step hB); clear hB)
      | (go_at_call 18; (with_reducible refine (HO3.out _ HN.out.tab).mono ?_); rintro e w3 ⟨rfl, hB⟩; have HN := Lib.hid (HN.out.step hB); clear hB)
      | (go_at_call 18; (with_reducible refine (HO3.out _ (HN.out.add _ _).tab).mono ?_); rintro e w3 ⟨rfl, hB⟩; have HN := Lib.hid ((HN.out.add _ _).step hB); clear hB)
      | (go_at_call 17; (with_reducible refine (HA.out _ HN.out.tab).mono ?_); rintro e w4 ⟨rfl, hB⟩; have HN := Lib.hid (HN.out.step hB); clear hB)
      | (go_at_call 17; (with_reducible refine (HA.out _ (HN.out.add _ _).tab).mono ?_); rintro e w4 ⟨rfl, hB⟩; have HN := Lib.hid ((HN.out.add _ _).step hB); clear hB)
      | (go_at_call 16; (with_reducible refine (HD1.out _ HN.out.tab).mono ?_); rintro e w5 ⟨rfl, hB⟩; have HN := Lib.hid (HN.out.step hB); clear hB)
      | (go_at_call 16; (with_reducible refine (HD1.out _ (HN.out.add _ _).tab).mono ?_); rintro e w5 ⟨rfl, hB⟩; have HN := Lib.hid ((HN.out.add _ _).step hB); clear hB)
      | (go_at_call 19; (with_reducible refine (HDn.out _ HN.out.tab).mono ?_); rintro e w7 ⟨rfl, hB⟩; have HN := Lib.hid (HN.out.step hB); clear hB)
      | (go_at_call 19; (with_reducible refine (HDn.out _ (HN.out.add _ _).tab).mono ?_); rintro e w7 ⟨rfl, hB⟩; have HN := Lib.hid ((HN.out.add _ _).step hB); clear hB)
      | (go_at_call 20; (with_reducible refine (HUp.out _ HN.out.tab).mono ?_); rintro e w8 ⟨rfl, hB⟩; have HN := Lib.hid (HN.out.step hB); clear hB)
      | (go_at_call 20; (with_reducible refine (HUp.out _ (HN.out.add _ _).tab).mono ?_); rintro e w8 ⟨rfl, hB⟩; have HN := Lib.hid ((HN.out.add _ _).step hB); clear hB)
      | (go_at_call 21; (with_reducible refine (HP1.out _ HN.out.tab).mono ?_); rintro e w9 ⟨rfl, hB⟩; have HN := Lib.hid (HN.out.step hB); clear hB)
      | (go_at_call 21; (with_reducible refine (HP1.out _ (HN.out.add _ _).tab).mono ?_); rintro e w9 ⟨rfl, hB⟩; have HN := Lib.hid ((HN.out.add _ _).step hB); clear hB)
      | (go_at_call 21; (with_reducible refine (HP2.out _ HN.out.tab).mono ?_); rintro e w10 ⟨rfl, hB⟩; have HN := Lib.hid (HN.out.step hB); clear hB)
      | (go_at_call 21; (with_reducible refine (HP2.out _ (HN.out.add _ _).tab).mono ?_); rintro e w10 ⟨rfl, hB⟩; have HN := Lib.hid ((HN.out.add _ _).step hB); clear hB))
  all_goals
    refine wp_world fun W hW => ?_
    have HN := Lib.hid (HN.out.add ⟨#[]⟩ ⟨#[]⟩)
    rw [← hW] at HN
    clear hW
    obtain ⟨k1, k2, k3, k4, k5, k6, k7, k8, k9, k10, k11, k12, k13, k14⟩ := HN.out.ten
    go_region_held3 (fun w' => w'.cell? ⟨w9.heap.size, 0, none⟩ = some (.string ⟨#[45, 51]⟩) ∧ w'.cell? ⟨w9.heap.size, 1, none⟩ = some (.string ⟨#[50]⟩) ∧ w'.cell? ⟨w8.heap.size, 0, none⟩ = some (.string ⟨#[49, 55]⟩) ∧ w'.cell? ⟨w8.heap.size, 1, none⟩ = some (.string ⟨#[53, 48]⟩) ∧ w'.cell? ⟨w7.heap.size, 0, none⟩ = some (.string ⟨#[45, 49, 55]⟩) ∧ w'.cell? ⟨w7.heap.size, 1, none⟩ = some (.string ⟨#[53, 48]⟩) ∧ w'.cell? ⟨w5.heap.size, 0, none⟩ = some (.string ⟨#[45, 50]⟩) ∧ w'.cell? ⟨w5.heap.size, 1, none⟩ = some (.string ⟨#[49]⟩) ∧ w'.cell? ⟨w4.heap.size, 0, none⟩ = some (.string ⟨#[53]⟩) ∧ w'.cell? ⟨w4.heap.size, 1, none⟩ = some (.string ⟨#[54]⟩) ∧ w'.cell? ⟨w2.heap.size, 0, none⟩ = some (.string ⟨#[48]⟩) ∧ w'.cell? ⟨w2.heap.size, 1, none⟩ = some (.string ⟨#[49]⟩) ∧ w'.cell? ⟨w1.heap.size, 0, none⟩ = some (.string ⟨#[45, 51]⟩) ∧ w'.cell? ⟨w1.heap.size, 1, none⟩ = some (.string ⟨#[50]⟩)) (first | exact HN.out.ten | go_keep)
      (first
        | (go_at_call 13; (with_reducible refine (HI.out _ _ _).mono ?_); rintro e ww ⟨rfl, hB⟩; (first | have HN := Lib.hid (HN.out.step hB) | have HN := Lib.hid (HN.out.step (below_undrew hB))); clear hB)
        | (go_at_call 14; (with_reducible refine (HPr.out _ HN.out.tab).mono ?_); rintro e ww ⟨rfl, hB⟩; (first | have HN := Lib.hid (HN.out.step hB) | have HN := Lib.hid (HN.out.step (below_undrew hB))); clear hB)
        | (go_at_call 12; (with_reducible refine (HC.out _ HN.out.tab).mono ?_); rintro e ww ⟨rfl, hB⟩; (first | have HN := Lib.hid (HN.out.step hB) | have HN := Lib.hid (HN.out.step (below_undrew hB))); clear hB)
        | (go_at_call 11; (with_reducible refine (HV1.out _ HN.out.tab).mono ?_); rintro e ww ⟨rfl, hB⟩; (first | have HN := Lib.hid (HN.out.step hB) | have HN := Lib.hid (HN.out.step (below_undrew hB))); clear hB)
        | (go_at_call 11; (with_reducible refine (HV2.out _ HN.out.tab).mono ?_); rintro e ww ⟨rfl, hB⟩; (first | have HN := Lib.hid (HN.out.step hB) | have HN := Lib.hid (HN.out.step (below_undrew hB))); clear hB))
    go_wp2_with fail
    go_ret
    exact ⟨rfl, HN.out.below⟩

end Go.Proofs.YtkdcnpleoklcgabGreatDoor

/-
  Layer 4: pick; powers of ten that a loop writes.
-/
namespace Go.Proofs.YtkdcnpleoklcgabGreatDoor
open Go.RowKit Bs Ig Qq

set_option maxRecDepth 100000 in
set_option maxHeartbeats 4000000 in
theorem pick4_any (c : Int) (h0 : -9223372036854775808 ≤ c) (h1 : c ≤ 9223372036854775807) (m : Nat) (M : Int) (hM : M = (m : Int)) (hm : 0 < m) (w : World) :
    Calls Tryz.prog 7 #[.int .i64 c, .int .i64 M] w fun e w' => ∃ k : Nat, k < m ∧ e = .returned (.int .i64 (k : Int)) ∧ w' = w := by
  subst hM
  have hm0 : ((m : Int) == 0) = false := beq_false_of_ne (by omega)
  have hm1 : decide ((m : Int) = 0) = false := decide_eq_false (by omega)
  rcases Int.lt_or_le c 0 with h | h
  · obtain ⟨d, he⟩ : ∃ d : Nat, -(c + 1) = (d : Int) := ⟨(-(c + 1)).toNat, by omega⟩
    have hd : decide (c < 0) = true := decide_eq_true h
    have ht : (d : Int).tmod (m : Int) = ((d % m : Nat) : Int) := (Int.ofNat_tmod d m).symm
    have hlt := Nat.mod_lt d hm
    obtain ⟨k, hk⟩ : ∃ k, d % m = k := ⟨_, rfl⟩
    rw [hk] at ht hlt
    clear hk
    go_enter Tryz.func7, Tryz.ntmps7
    go_wp2_with fail
    go_ret
    exact ⟨k, hlt, rfl, rfl⟩
  · obtain ⟨d, rfl⟩ : ∃ d : Nat, c = (d : Int) := ⟨c.toNat, by omega⟩
    have ht : (d : Int).tmod (m : Int) = ((d % m : Nat) : Int) := (Int.ofNat_tmod d m).symm
    have hlt := Nat.mod_lt d hm
    obtain ⟨k, hk⟩ : ∃ k, d % m = k := ⟨_, rfl⟩
    rw [hk] at ht hlt
    clear hk h
    go_enter Tryz.func7, Tryz.ntmps7
    go_wp2_with fail
    go_ret
    exact ⟨k, hlt, rfl, rfl⟩
theorem tq_zero : tq 0 = ⟨#[49]⟩ := rfl
theorem tq_succ (i : Nat) : tq i ++ ⟨#[48]⟩ = tq (i + 1) := by
  unfold tq zb
  rw [show (⟨#[49]⟩ : ByteArray) = bs [49] from rfl, show (⟨#[48]⟩ : ByteArray) = bs [48] from rfl, bs_append, bs_append, bs_append, List.append_assoc]
  congr 2
  rw [List.replicate_succ']
theorem tq_size (i : Nat) : (tq i).size = i + 1 := by
  unfold tq zb
  rw [show (⟨#[49]⟩ : ByteArray) = bs [49] from rfl, bs_append, bs_size, List.length_append, List.length_replicate]
  show 1 + i = i + 1
  omega

end Go.Proofs.YtkdcnpleoklcgabGreatDoor

/-
  RationalLimits: for every two integers, and in every memory in which the table of the decimal powers holds its numbers, the law returns true.
-/
namespace Go.Proofs.YtkdcnpleoklcgabGreatDoor
open Go.RowKit Bs Ig Qq

theorem ten_lt {n : Nat} (h : n < 200) : ((10 ^ n : Nat) : Int).natAbs < big := by
  rw [Int.natAbs_natCast]; exact Nat.pow_lt_pow_right (by omega) h
theorem ten_add (n m : Nat) : ((10 ^ n : Nat) : Int) * ((10 ^ m : Nat) : Int) = ((10 ^ (n + m) : Nat) : Int) := by rw [← Int.natCast_mul, Nat.pow_add]
theorem ten_ge {k : Nat} (h : 200 ≤ k) : ¬ ((10 ^ k : Nat) : Int).natAbs < big := by
  rw [Int.natAbs_natCast]
  have h2 : 10 ^ 200 ≤ 10 ^ k := Nat.pow_le_pow_right (by omega) h
  show ¬ 10 ^ k < 10 ^ 200
  omega
theorem ten_FV {n : Nat} (h : n < 200) : FV (((10 ^ n : Nat) : Int), 1) := ⟨⟨Int.one_pos, by simp⟩, ten_lt h, one_bigQ⟩
theorem ten_FV' {n : Nat} (h : n < 200) : FV (1, ((10 ^ n : Nat) : Int)) := ⟨⟨ten_pos n, by simp⟩, one_bigQ, ten_lt h⟩
theorem one_FV : FV (1, 1) := ⟨⟨by decide, by decide⟩, one_bigQ, one_bigQ⟩
theorem ten_small {k : Nat} (h : k < 200) : (((10 ^ k : Nat) : Int) + 1).natAbs < big := by
  have h2 : 10 ^ k ≤ 10 ^ 199 := Nat.pow_le_pow_right (by omega) (by omega)
  have h3 : (10 : Nat) ^ 200 = 10 ^ 199 * 10 := Nat.pow_succ ..
  have h4 : 0 < (10 : Nat) ^ 199 := Nat.pow_pos (by omega)
  show (((10 ^ k : Nat) : Int) + 1).natAbs < 10 ^ 200
  generalize (10 : Nat) ^ 199 = A at *
  generalize (10 : Nat) ^ k = B at *
  omega
theorem ten_big1 {k : Nat} (h : 200 ≤ k) : ¬ (((10 ^ k : Nat) : Int) + 1).natAbs < big := by
  have := ten_ge h
  generalize 10 ^ k = B at *
  omega
/-- what the laws' calls answer -/
theorem lim_mul {A B : Int} {k : Nat} (hA : FV (A, 1)) (hB : FV (B, 1)) (h1 : k < 200 → (A * B).natAbs < big) (h2 : 200 ≤ k → ¬ (A * B).natAbs < big) : ∃ Z1 Z2 e, mulQ (T A) (T 1) (T B) (T 1) = (Z1, Z2, e) ∧ (k < 200 ∧ e = 0 ∨ 200 ≤ k ∧ e = 40 ∧ Z1 = ⟨#[]⟩ ∧ Z2 = ⟨#[]⟩) := by
  rcases Nat.lt_or_ge k 200 with h | h
  · exact ⟨T (times (A, 1) (B, 1)).1, T (times (A, 1) (B, 1)).2, 0, mulQ_ok (p := (A, 1)) (q := (B, 1)) hA hB (h1 h) one_bigQ, .inl ⟨h, rfl⟩⟩
  · exact ⟨⟨#[]⟩, ⟨#[]⟩, 40, mulQ_no (p := (A, 1)) (q := (B, 1)) hA hB (fun hh => h2 h hh.1), .inr ⟨h, rfl, rfl, rfl⟩⟩
theorem lim_div {B : Int} (hB : FV (B, 1)) (hB' : FV (1, B)) (h0 : 0 < B) : divQ (T 1) (T 1) (T B) (T 1) = (T 1, T B, 0) := by
  rw [divQ_ok (p := (1, 1)) (q := (B, 1)) one_FV hB (show B ≠ 0 by omega) one_bigQ (by show ((1 : Int) * B).natAbs < big; rw [Int.one_mul]; exact hB'.b2)]
  unfold okA over
  rw [show red (((1, 1) : Int × Int).1 * ((B, 1) : Int × Int).2) (((1, 1) : Int × Int).2 * ((B, 1) : Int × Int).1) = (1, B) from red_eq (by show (1 : Int) * B ≠ 0; omega) hB'.isF (by show (1 : Int) * (1 * B) = 1 * 1 * B; simp)]
theorem lim_add {A B : Int} {k : Nat} (hA : FV (A, 1)) (hB : FV (1, B)) (h1 : k < 200 → (A * B).natAbs < big ∧ (A * B + 1).natAbs < big) (h2 : 200 ≤ k → ¬ (A * B).natAbs < big) : ∃ Z1 Z2 e, addQ (T A) (T 1) (T 1) (T B) = (Z1, Z2, e) ∧ (k < 200 ∧ e = 0 ∨ 200 ≤ k ∧ e = 40) := by
  rcases Nat.lt_or_ge k 200 with h | h
  · exact ⟨T (plus (A, 1) (1, B)).1, T (plus (A, 1) (1, B)).2, 0, addQ_ok (p := (A, 1)) (q := (1, B)) hA hB (h1 h).1 one_bigQ (h1 h).2 (by show ((1 : Int) * B).natAbs < big; rw [Int.one_mul]; exact hB.b2), .inl ⟨h, rfl⟩⟩
  · exact ⟨⟨#[]⟩, ⟨#[]⟩, 40, addQ_no (p := (A, 1)) (q := (1, B)) hA hB (fun hh => h2 h hh.1), .inr ⟨h, rfl⟩⟩
theorem lim_cmp (n m : Nat) : cmpF (((10 ^ n : Nat) : Int), 1) (((10 ^ m : Nat) : Int), 1) = if n < m then -1 else if m < n then 1 else 0 := by
  unfold cmpF
  simp only [Int.mul_one]
  rcases Nat.lt_trichotomy n m with h | h | h
  · rw [if_pos h, Int.sign_eq_neg_one_of_neg]
    have := Nat.pow_lt_pow_right (a := 10) (by omega) h
    generalize 10 ^ n = A at *
    generalize 10 ^ m = B at *
    omega
  · subst h; rw [if_neg (by omega), if_neg (by omega), Int.sub_self]; rfl
  · rw [if_neg (by omega), if_pos h, Int.sign_eq_one_of_pos]
    have := Nat.pow_lt_pow_right (a := 10) (by omega) h
    generalize 10 ^ n = A at *
    generalize 10 ^ m = B at *
    omega
theorem lim_cmp2 (n m : Nat) : cmpF (((10 ^ n : Nat) : Int), 1) (1, ((10 ^ m : Nat) : Int)) = if n = 0 ∧ m = 0 then 0 else 1 := by
  unfold cmpF
  simp only [Int.mul_one, ten_add]
  split
  · rename_i h; obtain ⟨rfl, rfl⟩ := h; decide
  · rename_i h
    refine Int.sign_eq_one_of_pos ?_
    have := Nat.pow_lt_pow_right (a := 10) (by omega) (show 0 < n + m by omega)
    rw [Nat.pow_zero] at this
    generalize 10 ^ (n + m) = A at *
    omega

set_option maxRecDepth 100000 in
set_option maxHeartbeats 16000000 in
theorem RationalLimits_any (cn cm : Int) (hn0 : -9223372036854775808 ≤ cn) (hn1 : cn ≤ 9223372036854775807) (hm0 : -9223372036854775808 ≤ cm) (hm1 : cm ≤ 9223372036854775807) (w : World) (ht : TabP w) :
    Calls Tryz.prog 4 #[.int .i64 cn, .int .i64 cm] w fun e w' => e = .returned (.bool true) ∧ Below w.heap.size w w' := by
  have HN := Lib.hid (St.start ht)
  have HI := Lib.hid is_any
  have HS := Lib.hid qsane_any
  have K1 := Lib.hid (fun W => pick4_any cn hn0 hn1 200 200 rfl (by omega) W)
  have K2 := Lib.hid (fun W => pick4_any cm hm0 hm1 200 200 rfl (by omega) W)
  clear ht
  go_enter Tryz.func4, Tryz.ntmps4
  go_wp2_with (first
      | (go_at_call 5; (with_reducible refine (HS.out _ HN.out.tab).mono ?_); rintro e w0 ⟨rfl, hB⟩; have HN := Lib.hid (HN.out.step hB); clear hB)
      | (go_at_call 7; (with_reducible refine (K1.out _).mono ?_); rintro e ww ⟨n, hn, rfl, rfl⟩)
      | (go_at_call 7; (with_reducible refine (K2.out _).mono ?_); rintro e ww ⟨m, hm, rfl, rfl⟩))
  go_loopw [6, 7] (fun s p wr => ∃ i : Nat, s = .string (tq i) ∧ p = .int .i64 (i : Int) ∧ i ≤ n ∧ St w wr []) (fun _ p _ => (n - intOf p).toNat)
  case atStart => exact ⟨0, by rw [tq_zero], by go_num, Nat.zero_le _, HN.out⟩
  case round =>
    obtain ⟨i, rfl, rfl, hi, hst⟩ := hrel
    have HN := Lib.hid hst
    clear hst
    have hsz := tq_size i
    have hsu := tq_succ i
    rcases Nat.lt_or_ge i n with h1 | h1
    · have e1 : decide (i < n) = true := decide_eq_true h1
      have e2 : decide ((i : Int) < (n : Int)) = true := decide_eq_true (by omega)
      obtain ⟨A, hA⟩ : ∃ A, tq i = A := ⟨_, rfl⟩
      rw [hA] at hsz hsu ⊢
      have f1 : ¬ 9223372036854775807 < A.size + 1 := by omega
      have Hsu := Lib.hid hsu
      clear hsu hA
      go_wp2_with fail
      go_roundw
      case rel => exact ⟨i + 1, by rw [← Hsu.out], by go_num, h1, HN.out⟩
      case measure => simp [intOf]; omega
    · obtain rfl : i = n := by omega
      have e1 : decide (i < i) = false := decide_eq_false (by omega)
      have e2 : decide ((i : Int) < (i : Int)) = false := decide_eq_false (by omega)
      clear hsz hsu
      obtain ⟨X, hX⟩ : ∃ X, tq i = X := ⟨_, rfl⟩
      rw [hX]
      have HX := Lib.hid hX
      clear hX hi h1
      go_wp2_with fail
      go_loopw [8, 9] (fun s p wr => ∃ i : Nat, s = .string (tq i) ∧ p = .int .i64 (i : Int) ∧ i ≤ m ∧ St w wr []) (fun _ p _ => (m - intOf p).toNat)
      case atStart => exact ⟨0, by rw [tq_zero], by go_num, Nat.zero_le _, HN.out⟩
      case round =>
        obtain ⟨j, rfl, rfl, hi, hst⟩ := hrel
        have HN := Lib.hid hst
        clear hst
        have hsz := tq_size j
        have hsu := tq_succ j
        rcases Nat.lt_or_ge j m with h1 | h1
        · have e1 : decide (j < m) = true := decide_eq_true h1
          have e2 : decide ((j : Int) < (m : Int)) = true := decide_eq_true (by omega)
          obtain ⟨A, hA⟩ : ∃ A, tq j = A := ⟨_, rfl⟩
          rw [hA] at hsz hsu ⊢
          have f1 : ¬ 9223372036854775807 < A.size + 1 := by omega
          have Hsu := Lib.hid hsu
          clear hsu hA
          go_wp2_with fail
          go_roundw
          case rel => exact ⟨j + 1, by rw [← Hsu.out], by go_num, h1, HN.out⟩
          case measure => simp [intOf]; omega
        · obtain rfl : j = m := by omega
          have e1 : decide (j < j) = false := decide_eq_false (by omega)
          have e2 : decide ((j : Int) < (j : Int)) = false := decide_eq_false (by omega)
          clear hsz hsu
          obtain ⟨Y, hY⟩ : ∃ Y, tq j = Y := ⟨_, rfl⟩
          rw [hY]
          have hXT : T ((10 ^ i : Nat) : Int) = X := by rw [← tq_T]; exact HX.out
          have hYT : T ((10 ^ j : Nat) : Int) = Y := by rw [← tq_T]; exact hY
          obtain ⟨Z1, Z2, ez, hmul, hez⟩ := lim_mul (k := i + j) (ten_FV hn) (ten_FV hm) (fun h => by rw [ten_add]; exact ten_lt h) (fun h => by rw [ten_add]; exact ten_ge h)
          obtain ⟨A1, A2, ea, hadd, hea⟩ := lim_add (k := i + j) (ten_FV hn) (ten_FV' hm) (fun h => by rw [ten_add]; exact ⟨ten_lt h, ten_small h⟩) (fun h => by rw [ten_add]; exact ten_ge h)
          have hdiv := lim_div (ten_FV hm) (ten_FV' hm) (ten_pos j)
          have hc1 := fun (W : World) (h : TabP W) => qcompare (ten_FV hn) (ten_FV hm) W h
          have hc2 := fun (W : World) (h : TabP W) => qcompare (ten_FV hn) (ten_FV' hm) W h
          simp only [lim_cmp, lim_cmp2, hXT, hYT, T1] at hc1 hc2
          rw [hXT, hYT, T1] at hmul hadd
          rw [hYT, T1] at hdiv
          have hM := fun (W : World) (h : TabP W) => qMul_any X ⟨#[49]⟩ Y ⟨#[49]⟩ W h
          have hD := fun (W : World) (h : TabP W) => qDiv_any ⟨#[49]⟩ ⟨#[49]⟩ Y ⟨#[49]⟩ W h
          have hA := fun (W : World) (h : TabP W) => qAdd_any X ⟨#[49]⟩ ⟨#[49]⟩ Y W h
          simp only [hmul, hadd, hdiv] at hM hD hA
          unfold Answers at hM hD hA
          simp only at hM hD hA
          have HM := Lib.hid hM
          have HD := Lib.hid hD
          have HA := Lib.hid hA
          obtain ⟨sm, hsm⟩ : ∃ sm, decide (i + j < 200) = sm := ⟨_, rfl⟩
          have d1 : decide ((i : Int) + (j : Int) + 1 ≤ 200) = sm := by rw [← hsm]; exact decide_eq_decide.2 ⟨fun h => by omega, fun h => by omega⟩
          have d2 : decide (i + j + 1 ≤ 200) = sm := by rw [← hsm]; exact decide_eq_decide.2 ⟨fun h => by omega, fun h => by omega⟩
          have hez' : sm = true ∧ ez = 0 ∧ ea = 0 ∨ sm = false ∧ ez = 40 ∧ ea = 40 ∧ Z1 = ⟨#[]⟩ ∧ Z2 = ⟨#[]⟩ := by
            rcases hez with ⟨h, rfl⟩ | ⟨h, rfl, rfl, rfl⟩
            · rcases hea with ⟨_, rfl⟩ | ⟨h', _⟩
              · exact .inl ⟨by rw [← hsm]; exact decide_eq_true h, rfl, rfl⟩
              · omega
            · rcases hea with ⟨h', _⟩ | ⟨_, rfl⟩
              · omega
              · exact .inr ⟨by rw [← hsm]; exact decide_eq_false (by omega), rfl, rfl, rfl, rfl⟩
          have HE := Lib.hid hez'
          obtain ⟨v1, hv1⟩ : ∃ v : Int, (if i < j then -1 else if j < i then 1 else 0) = v := ⟨_, rfl⟩
          obtain ⟨v2, hv2⟩ : ∃ v : Int, (if i = 0 ∧ j = 0 then 0 else 1) = v := ⟨_, rfl⟩
          simp only [hv1] at hc1
          simp only [hv2] at hc2
          have HC1 := Lib.hid hc1
          have HC2 := Lib.hid hc2
          have HV := Lib.hid (And.intro hv1 hv2)
          clear hM hD hA hc1 hc2 hmul hadd hdiv hez hea hez' hXT hYT HX hY hv1 hv2 hi h1 hsm
          go_wp2_with (first
            | (go_at_call 13; (with_reducible refine (HI.out _ _ _).mono ?_); rintro e w1 ⟨rfl, hB⟩; have HN := Lib.hid (HN.out.step hB); clear hB)
            | (go_at_call 13; (with_reducible refine (HI.out _ _ _).mono ?_); rintro e w2 ⟨rfl, hB⟩; have HN := Lib.hid ((HN.out.add _ _).step hB); clear hB; have k0 := (HN.out.add Y ⟨#[49]⟩).tail.head.c0; have k1 := (HN.out.add Y ⟨#[49]⟩).tail.head.c1)
            | (go_at_call 15; (with_reducible refine (HM.out _ (HN.out.add _ _).tab).mono ?_); rintro e w3 ⟨rfl, hB⟩; have HN := Lib.hid ((HN.out.add _ _).step hB); clear hB))
          clear k0 k1
          refine wp_world fun W hW => ?_
          have HN := Lib.hid (HN.out.add Z1 Z2)
          rw [← hW] at HN
          clear hW
          have c0 := HN.out.tail.head.c0
          have c1 := HN.out.tail.head.c1
          go_region_held3 (fun w' => w'.cell? ⟨w2.heap.size, 0, none⟩ = some (.string Y) ∧ w'.cell? ⟨w2.heap.size, 1, none⟩ = some (.string ⟨#[49]⟩)) (first | exact ⟨HN.out.tail.head.c0, HN.out.tail.head.c1⟩ | exact ⟨(HN.out.add _ _).tail.tail.head.c0, (HN.out.add _ _).tail.tail.head.c1⟩ | exact ⟨HN.out.tail.tail.head.c0, HN.out.tail.tail.head.c1⟩ | exact ⟨(HN.out.put HL.out _ _).tail.tail.head.c0, (HN.out.put HL.out _ _).tail.tail.head.c1⟩ | go_keep)
            (first
              | (go_at_call 13; (with_reducible refine (HI.out _ _ _).mono ?_); rintro e w4 ⟨rfl, hB⟩; (first | have HN := Lib.hid (HN.out.step (below_undrew hB)) | (have HL := Lib.hid HN.out.lts; have HN := Lib.hid ((HN.out.add _ _).step (below_undrew hB)); have x0 := HN.out.head.f0; have x1 := HN.out.head.f1; have x2 := HN.out.head.c0; have x3 := HN.out.head.c1)); clear hB)
              | (go_at_call 16; (with_reducible refine (HD.out _ HN.out.tab).mono ?_); rintro e w5 ⟨rfl, hB⟩; clear x0 x1 x2 x3; have HN := Lib.hid (HN.out.step hB); clear hB; have x0 := HN.out.head.f0; have x1 := HN.out.head.f1; have x2 := HN.out.head.c0; have x3 := HN.out.head.c1)
              | (go_at_call 16; have HL := Lib.hid HN.out.lts; (with_reducible refine (HD.out _ (HN.out.add _ _).tab).mono ?_); rintro e w5 ⟨rfl, hB⟩; have HN := Lib.hid ((HN.out.add _ _).step hB); clear hB; have x0 := HN.out.head.f0; have x1 := HN.out.head.f1; have x2 := HN.out.head.c0; have x3 := HN.out.head.c1)
              | (go_at_call 16; (with_reducible refine (HD.out _ HN.out.tab).mono ?_); rintro e w5 ⟨rfl, hB⟩; have HN := Lib.hid (HN.out.step hB); clear hB))
          all_goals first | have HN := Lib.hid (HN.out.put HL.out ⟨#[49]⟩ Y) | have HN := Lib.hid (HN.out.add ⟨#[49]⟩ Y)
          all_goals try clear x0 x1 x2 x3
          all_goals clear c0 c1
          all_goals
            obtain ⟨hv1, hv2⟩ := HV.out
            rcases HE.out with ⟨rfl, rfl, rfl⟩ | ⟨rfl, rfl, rfl, rfl, rfl⟩
            all_goals
              rcases Nat.lt_trichotomy i j with h | h | h
              · rw [if_pos h] at hv1
                rw [if_neg (by omega)] at hv2
                subst hv1 hv2
                have o1 : decide ((i : Int) < (j : Int)) = true := decide_eq_true (by omega)
                have o2 : decide (i < j) = true := decide_eq_true h
                have o3 : ((j : Int) == 0) = false := beq_false_of_ne (by omega)
                have o4 : (j == 0) = false := beq_false_of_ne (by omega)
                rcases Nat.eq_zero_or_pos i with h0 | h0
                · have o5 : ((i : Int) == 0) = true := beq_of_eq (by omega)
                  have o6 : (i == 0) = true := beq_of_eq h0
                  clear h h0
                  have y0 := HN.out.head.c0
                  have y1 := HN.out.head.c1
                  have y2 := HN.out.tail.tail.tail.head.c0
                  have y3 := HN.out.tail.tail.tail.head.c1
                  go_wp2_with (first
                    | (go_at_call 17; (with_reducible refine (HA.out _ HN.out.tab).mono ?_); rintro e w6 ⟨rfl, hB⟩; clear y0 y1 y2 y3; have HN := Lib.hid ((HN.out.step hB).add A1 A2); clear hB; have y0 := HN.out.tail.head.c0; have y1 := HN.out.tail.head.c1; have y2 := HN.out.tail.tail.head.c0; have y3 := HN.out.tail.tail.head.c1; have y4 := HN.out.tail.tail.tail.head.c0; have y5 := HN.out.tail.tail.tail.head.c1; have y6 := HN.out.tail.tail.tail.tail.head.c0; have y7 := HN.out.tail.tail.tail.tail.head.c1)
                    | (go_at_call 12; (with_reducible refine (HC1.out _ HN.out.tab).mono ?_); rintro e w7 ⟨rfl, hB⟩; have HN := Lib.hid (HN.out.step hB); clear hB; have q0 := HN.out.tail.head.c0; have q1 := HN.out.tail.head.c1; have q6 := HN.out.tail.tail.tail.tail.head.c0; have q7 := HN.out.tail.tail.tail.tail.head.c1)
                    | (go_at_call 12; (with_reducible refine (HC2.out _ HN.out.tab).mono ?_); rintro e w8 ⟨rfl, hB⟩; have HN := Lib.hid (HN.out.step hB); clear hB))
                  go_ret
                  exact ⟨rfl, HN.out.below⟩
                · have o5 : ((i : Int) == 0) = false := beq_false_of_ne (by omega)
                  have o6 : (i == 0) = false := beq_false_of_ne (by omega)
                  clear h h0
                  have y0 := HN.out.head.c0
                  have y1 := HN.out.head.c1
                  have y2 := HN.out.tail.tail.tail.head.c0
                  have y3 := HN.out.tail.tail.tail.head.c1
                  go_wp2_with (first
                    | (go_at_call 17; (with_reducible refine (HA.out _ HN.out.tab).mono ?_); rintro e w6 ⟨rfl, hB⟩; clear y0 y1 y2 y3; have HN := Lib.hid ((HN.out.step hB).add A1 A2); clear hB; have y0 := HN.out.tail.head.c0; have y1 := HN.out.tail.head.c1; have y2 := HN.out.tail.tail.head.c0; have y3 := HN.out.tail.tail.head.c1; have y4 := HN.out.tail.tail.tail.head.c0; have y5 := HN.out.tail.tail.tail.head.c1; have y6 := HN.out.tail.tail.tail.tail.head.c0; have y7 := HN.out.tail.tail.tail.tail.head.c1)
                    | (go_at_call 12; (with_reducible refine (HC1.out _ HN.out.tab).mono ?_); rintro e w7 ⟨rfl, hB⟩; have HN := Lib.hid (HN.out.step hB); clear hB; have q0 := HN.out.tail.head.c0; have q1 := HN.out.tail.head.c1; have q6 := HN.out.tail.tail.tail.tail.head.c0; have q7 := HN.out.tail.tail.tail.tail.head.c1)
                    | (go_at_call 12; (with_reducible refine (HC2.out _ HN.out.tab).mono ?_); rintro e w8 ⟨rfl, hB⟩; have HN := Lib.hid (HN.out.step hB); clear hB))
                  go_ret
                  exact ⟨rfl, HN.out.below⟩
              · rw [if_neg (by omega), if_neg (by omega)] at hv1
                have o1 : decide ((i : Int) < (j : Int)) = false := decide_eq_false (by omega)
                have o2 : decide (i < j) = false := decide_eq_false (by omega)
                have o7 : decide ((j : Int) < (i : Int)) = false := decide_eq_false (by omega)
                have o8 : decide (j < i) = false := decide_eq_false (by omega)
                rcases Nat.eq_zero_or_pos i with h0 | h0
                · rw [if_pos (by omega)] at hv2
                  subst hv1 hv2
                  have o5 : ((i : Int) == 0) = true := beq_of_eq (by omega)
                  have o6 : (i == 0) = true := beq_of_eq h0
                  have o3 : ((j : Int) == 0) = true := beq_of_eq (by omega)
                  have o4 : (j == 0) = true := beq_of_eq (by omega)
                  clear h h0
                  have y0 := HN.out.head.c0
                  have y1 := HN.out.head.c1
                  have y2 := HN.out.tail.tail.tail.head.c0
                  have y3 := HN.out.tail.tail.tail.head.c1
                  go_wp2_with (first
                    | (go_at_call 17; (with_reducible refine (HA.out _ HN.out.tab).mono ?_); rintro e w6 ⟨rfl, hB⟩; clear y0 y1 y2 y3; have HN := Lib.hid ((HN.out.step hB).add A1 A2); clear hB; have y0 := HN.out.tail.head.c0; have y1 := HN.out.tail.head.c1; have y2 := HN.out.tail.tail.head.c0; have y3 := HN.out.tail.tail.head.c1; have y4 := HN.out.tail.tail.tail.head.c0; have y5 := HN.out.tail.tail.tail.head.c1; have y6 := HN.out.tail.tail.tail.tail.head.c0; have y7 := HN.out.tail.tail.tail.tail.head.c1)
                    | (go_at_call 12; (with_reducible refine (HC1.out _ HN.out.tab).mono ?_); rintro e w7 ⟨rfl, hB⟩; have HN := Lib.hid (HN.out.step hB); clear hB; have q0 := HN.out.tail.head.c0; have q1 := HN.out.tail.head.c1; have q6 := HN.out.tail.tail.tail.tail.head.c0; have q7 := HN.out.tail.tail.tail.tail.head.c1)
                    | (go_at_call 12; (with_reducible refine (HC2.out _ HN.out.tab).mono ?_); rintro e w8 ⟨rfl, hB⟩; have HN := Lib.hid (HN.out.step hB); clear hB))
                  go_ret
                  exact ⟨rfl, HN.out.below⟩
                · rw [if_neg (by omega)] at hv2
                  subst hv1 hv2
                  have o5 : ((i : Int) == 0) = false := beq_false_of_ne (by omega)
                  have o6 : (i == 0) = false := beq_false_of_ne (by omega)
                  clear h h0
                  have y0 := HN.out.head.c0
                  have y1 := HN.out.head.c1
                  have y2 := HN.out.tail.tail.tail.head.c0
                  have y3 := HN.out.tail.tail.tail.head.c1
                  go_wp2_with (first
                    | (go_at_call 17; (with_reducible refine (HA.out _ HN.out.tab).mono ?_); rintro e w6 ⟨rfl, hB⟩; clear y0 y1 y2 y3; have HN := Lib.hid ((HN.out.step hB).add A1 A2); clear hB; have y0 := HN.out.tail.head.c0; have y1 := HN.out.tail.head.c1; have y2 := HN.out.tail.tail.head.c0; have y3 := HN.out.tail.tail.head.c1; have y4 := HN.out.tail.tail.tail.head.c0; have y5 := HN.out.tail.tail.tail.head.c1; have y6 := HN.out.tail.tail.tail.tail.head.c0; have y7 := HN.out.tail.tail.tail.tail.head.c1)
                    | (go_at_call 12; (with_reducible refine (HC1.out _ HN.out.tab).mono ?_); rintro e w7 ⟨rfl, hB⟩; have HN := Lib.hid (HN.out.step hB); clear hB; have q0 := HN.out.tail.head.c0; have q1 := HN.out.tail.head.c1; have q6 := HN.out.tail.tail.tail.tail.head.c0; have q7 := HN.out.tail.tail.tail.tail.head.c1)
                    | (go_at_call 12; (with_reducible refine (HC2.out _ HN.out.tab).mono ?_); rintro e w8 ⟨rfl, hB⟩; have HN := Lib.hid (HN.out.step hB); clear hB))
                  go_ret
                  exact ⟨rfl, HN.out.below⟩
              · rw [if_neg (by omega), if_pos h] at hv1
                rw [if_neg (by omega)] at hv2
                subst hv1 hv2
                have o1 : decide ((i : Int) < (j : Int)) = false := decide_eq_false (by omega)
                have o2 : decide (i < j) = false := decide_eq_false (by omega)
                have o7 : decide ((j : Int) < (i : Int)) = true := decide_eq_true (by omega)
                have o8 : decide (j < i) = true := decide_eq_true h
                have o5 : ((i : Int) == 0) = false := beq_false_of_ne (by omega)
                have o6 : (i == 0) = false := beq_false_of_ne (by omega)
                clear h
                have y0 := HN.out.head.c0
                have y1 := HN.out.head.c1
                have y2 := HN.out.tail.tail.tail.head.c0
                have y3 := HN.out.tail.tail.tail.head.c1
                go_wp2_with (first
                  | (go_at_call 17; (with_reducible refine (HA.out _ HN.out.tab).mono ?_); rintro e w6 ⟨rfl, hB⟩; clear y0 y1 y2 y3; have HN := Lib.hid ((HN.out.step hB).add A1 A2); clear hB; have y0 := HN.out.tail.head.c0; have y1 := HN.out.tail.head.c1; have y2 := HN.out.tail.tail.head.c0; have y3 := HN.out.tail.tail.head.c1; have y4 := HN.out.tail.tail.tail.head.c0; have y5 := HN.out.tail.tail.tail.head.c1; have y6 := HN.out.tail.tail.tail.tail.head.c0; have y7 := HN.out.tail.tail.tail.tail.head.c1)
                  | (go_at_call 12; (with_reducible refine (HC1.out _ HN.out.tab).mono ?_); rintro e w7 ⟨rfl, hB⟩; have HN := Lib.hid (HN.out.step hB); clear hB; have q0 := HN.out.tail.head.c0; have q1 := HN.out.tail.head.c1; have q6 := HN.out.tail.tail.tail.tail.head.c0; have q7 := HN.out.tail.tail.tail.tail.head.c1)
                  | (go_at_call 12; (with_reducible refine (HC2.out _ HN.out.tab).mono ?_); rintro e w8 ⟨rfl, hB⟩; have HN := Lib.hid (HN.out.step hB); clear hB))
                go_ret
                exact ⟨rfl, HN.out.below⟩

end Go.Proofs.YtkdcnpleoklcgabGreatDoor
