/-
  Put together by program out of these texts, in this order: Qsq, Qfr.
-/
import Derived.Test.YtjkklgpbblkhaaaGreatDoorZCaRFd13
import Derived.Deep.DeepCutAuto

/-
  Layer 4: the laws' fixed examples hold.
-/
namespace Go.Proofs.YtjkklgpbblkhaaaGreatDoor
open Go.RowKit Bs Ig Qq

/-- where a law stands: what was there is as it was, the table lies where it lay, and boxes hold what they held -/
structure St (w W : World) (L : List (Nat × ByteArray × ByteArray)) : Prop where
  below : Below w.heap.size w W
  tab0 : TabP w
  box : ∀ x ∈ L, IsB W x.1 x.2.1 x.2.2
theorem St.tab {w W : World} {L} (h : St w W L) : TabP W := h.tab0.later h.below
theorem St.start {w : World} (h : TabP w) : St w w [] := ⟨Below.refl _ _, h, fun _ hx => (by cases hx)⟩
theorem St.step {w W W' : World} {L} (h : St w W L) (hb : Below W.heap.size W W') : St w W' L := ⟨below_on h.below hb h.below.size, h.tab0, fun x hx => (h.box x hx).later hb (h.box x hx).lt⟩
theorem St.add {w W : World} {L} (h : St w W L) (N D : ByteArray) : St w (W.alloc (.cells #[.string N, .string D] 23)) ((W.heap.size, N, D) :: L) := by
  have hb := (Below.refl _ W).alloc (Nat.le_refl _) (.cells #[.string N, .string D] 23)
  refine ⟨(h.step hb).below, h.tab0, fun x hx => ?_⟩
  rcases List.mem_cons.1 hx with rfl | hx
  · exact IsB.new W N D
  · exact (h.step hb).box x hx
theorem St.head {w W : World} {L} {g : Nat} {N D : ByteArray} (h : St w W ((g, N, D) :: L)) : IsB W g N D := h.box (g, N, D) (List.mem_cons_self ..)
theorem St.tail {w W : World} {L} {x} (h : St w W (x :: L)) : St w W L := ⟨h.below, h.tab0, fun y hy => h.box y (List.mem_cons_of_mem _ hy)⟩

theorem St.lts {w W : World} {L} (h : St w W L) : w.heap.size ≤ W.heap.size ∧ ∀ x ∈ L, x.1 < W.heap.size := ⟨h.below.size, fun x hx => (h.box x hx).lt⟩
theorem St.put {w W : World} {L} {g : Nat} {a b : ByteArray} (h : St w W ((g, a, b) :: L)) (hg : w.heap.size ≤ g ∧ ∀ x ∈ L, x.1 < g) (N D : ByteArray) : St w ((W.setCell ⟨g, 0, none⟩ (.string N)).setCell ⟨g, 1, none⟩ (.string D)) ((g, N, D) :: L) := by
  refine ⟨fin1 h.head h.below hg.1 N D, h.tab0, fun x hx => ?_⟩
  · rcases List.mem_cons.1 hx with rfl | hx
    · exact two_strs h.head N D
    · exact far_strs (h.box x (List.mem_cons_of_mem _ hx)) (by have := hg.2 x hx; omega) N D

theorem St.ten {w W : World} {x19 x11 x5 : Nat × ByteArray × ByteArray} {g17 : Nat} {a17 b17 : ByteArray} {g15 : Nat} {a15 b15 : ByteArray} {g13 : Nat} {a13 b13 : ByteArray} {g9 : Nat} {a9 b9 : ByteArray} {g7 : Nat} {a7 b7 : ByteArray} {g3 : Nat} {a3 b3 : ByteArray} {g1 : Nat} {a1 b1 : ByteArray} (h : St w W [x19, (g17, a17, b17), (g15, a15, b15), (g13, a13, b13), x11, (g9, a9, b9), (g7, a7, b7), x5, (g3, a3, b3), (g1, a1, b1)]) :
    W.cell? ⟨g17, 0, none⟩ = some (.string a17) ∧ W.cell? ⟨g17, 1, none⟩ = some (.string b17) ∧ W.cell? ⟨g15, 0, none⟩ = some (.string a15) ∧ W.cell? ⟨g15, 1, none⟩ = some (.string b15) ∧ W.cell? ⟨g13, 0, none⟩ = some (.string a13) ∧ W.cell? ⟨g13, 1, none⟩ = some (.string b13) ∧ W.cell? ⟨g9, 0, none⟩ = some (.string a9) ∧ W.cell? ⟨g9, 1, none⟩ = some (.string b9) ∧ W.cell? ⟨g7, 0, none⟩ = some (.string a7) ∧ W.cell? ⟨g7, 1, none⟩ = some (.string b7) ∧ W.cell? ⟨g3, 0, none⟩ = some (.string a3) ∧ W.cell? ⟨g3, 1, none⟩ = some (.string b3) ∧ W.cell? ⟨g1, 0, none⟩ = some (.string a1) ∧ W.cell? ⟨g1, 1, none⟩ = some (.string b1) := by
  have m := h.tail
  have h17 := m.head
  have h15 := m.tail.head
  have h13 := m.tail.tail.head
  have m9 := m.tail.tail.tail.tail
  have h9 := m9.head
  have h7 := m9.tail.head
  have h3 := m9.tail.tail.tail.head
  have h1 := m9.tail.tail.tail.tail.head
  exact ⟨h17.c0, h17.c1, h15.c0, h15.c1, h13.c0, h13.c1, h9.c0, h9.c1, h7.c0, h7.c1, h3.c0, h3.c1, h1.c0, h1.c1⟩

set_option maxRecDepth 100000 in
set_option maxHeartbeats 1000000 in
theorem is_any (a b : ByteArray) (w : World) : Calls Tryz.prog 41 #[.string a, .string b] w fun e w' => e = .returned (.agg #[.string a, .string b]) ∧ Below w.heap.size w w' := by
  go_enter Tryz.func41, Tryz.ntmps41
  go_wp2_with fail
  exact bodyPost_ret (results_cell_row rfl _ _ w.heap.size 23 #[.string a, .string b] _ _ rfl (IsB.new w a b) Tryz.underlying23 rfl (by kernel_rfl)) rfl ⟨rfl, (Below.refl _ w).alloc (Nat.le_refl _) _⟩

set_option maxRecDepth 100000 in
set_option maxHeartbeats 16000000 in
theorem qsane_any (w : World) (ht : TabP w) :
    Calls Tryz.prog 11 #[] w fun e w' => e = .returned (.bool true) ∧ Below w.heap.size w w' := by
  have HN := Lib.hid (St.start ht)
  have HI := Lib.hid is_any
  have HO1 := Lib.hid q_of1
  have HO2 := Lib.hid q_of2
  have HO3 := Lib.hid q_of3
  have HA := Lib.hid q_add
  have HD1 := Lib.hid q_div1
  have HD2 := Lib.hid q_div2
  have HDn := Lib.hid q_down
  have HUp := Lib.hid q_up
  have HP1 := Lib.hid q_parse1
  have HP2 := Lib.hid q_parse2
  have HPr := Lib.hid q_print
  have HC := Lib.hid q_cmp4
  have HV1 := Lib.hid q_val1
  have HV2 := Lib.hid q_val2
  unfold Answers noA at *
  simp only at HO1 HO2 HO3 HA HD1 HD2 HDn HUp HP1 HP2
  clear ht
  go_enter Tryz.func11, Tryz.ntmps11
  go_wp2_with (first
      | (go_at_call 41; (with_reducible refine (HI.out _ _ _).mono ?_); rintro e ww ⟨rfl, hB⟩; (first | have HN := Lib.hid (HN.out.step hB) | have HN := Lib.hid ((HN.out.add _ _).step hB)); clear hB)
      | (go_at_call 31; (with_reducible refine (HO1.out _ HN.out.tab).mono ?_); rintro e w1 ⟨rfl, hB⟩; have HN := Lib.hid (HN.out.step hB); clear hB)
      | (go_at_call 31; (with_reducible refine (HO1.out _ (HN.out.add _ _).tab).mono ?_); rintro e w1 ⟨rfl, hB⟩; have HN := Lib.hid ((HN.out.add _ _).step hB); clear hB)
      | (go_at_call 31; (with_reducible refine (HO2.out _ HN.out.tab).mono ?_); rintro e w2 ⟨rfl, hB⟩; have HN := Lib.hid (HN.out.step hB); clear hB)
      | (go_at_call 31; (with_reducible refine (HO2.out _ (HN.out.add _ _).tab).mono ?_); rintro e w2 ⟨rfl, hB⟩; have HN := Lib.hid ((HN.out.add _ _).step hB); clear hB)
      | (go_at_call 31; (with_reducible refine (HO3.out _ HN.out.tab).mono ?_); rintro e w3 ⟨rfl, hB⟩; have HN := Lib.hid (HN.out.step hB); clear hB)
      | (go_at_call 31; (with_reducible refine (HO3.out _ (HN.out.add _ _).tab).mono ?_); rintro e w3 ⟨rfl, hB⟩; have HN := Lib.hid ((HN.out.add _ _).step hB); clear hB)
      | (go_at_call 38; (with_reducible refine (HA.out _ HN.out.tab).mono ?_); rintro e w4 ⟨rfl, hB⟩; have HN := Lib.hid (HN.out.step hB); clear hB)
      | (go_at_call 38; (with_reducible refine (HA.out _ (HN.out.add _ _).tab).mono ?_); rintro e w4 ⟨rfl, hB⟩; have HN := Lib.hid ((HN.out.add _ _).step hB); clear hB)
      | (go_at_call 45; (with_reducible refine (HD1.out _ HN.out.tab).mono ?_); rintro e w5 ⟨rfl, hB⟩; have HN := Lib.hid (HN.out.step hB); clear hB)
      | (go_at_call 45; (with_reducible refine (HD1.out _ (HN.out.add _ _).tab).mono ?_); rintro e w5 ⟨rfl, hB⟩; have HN := Lib.hid ((HN.out.add _ _).step hB); clear hB)
      | (go_at_call 23; (with_reducible refine (HDn.out _ HN.out.tab).mono ?_); rintro e w7 ⟨rfl, hB⟩; have HN := Lib.hid (HN.out.step hB); clear hB)
      | (go_at_call 23; (with_reducible refine (HDn.out _ (HN.out.add _ _).tab).mono ?_); rintro e w7 ⟨rfl, hB⟩; have HN := Lib.hid ((HN.out.add _ _).step hB); clear hB)
      | (go_at_call 25; (with_reducible refine (HUp.out _ HN.out.tab).mono ?_); rintro e w8 ⟨rfl, hB⟩; have HN := Lib.hid (HN.out.step hB); clear hB)
      | (go_at_call 25; (with_reducible refine (HUp.out _ (HN.out.add _ _).tab).mono ?_); rintro e w8 ⟨rfl, hB⟩; have HN := Lib.hid ((HN.out.add _ _).step hB); clear hB)
      | (go_at_call 34; (with_reducible refine (HP1.out _ HN.out.tab).mono ?_); rintro e w9 ⟨rfl, hB⟩; have HN := Lib.hid (HN.out.step hB); clear hB)
      | (go_at_call 34; (with_reducible refine (HP1.out _ (HN.out.add _ _).tab).mono ?_); rintro e w9 ⟨rfl, hB⟩; have HN := Lib.hid ((HN.out.add _ _).step hB); clear hB)
      | (go_at_call 34; (with_reducible refine (HP2.out _ HN.out.tab).mono ?_); rintro e w10 ⟨rfl, hB⟩; have HN := Lib.hid (HN.out.step hB); clear hB)
      | (go_at_call 34; (with_reducible refine (HP2.out _ (HN.out.add _ _).tab).mono ?_); rintro e w10 ⟨rfl, hB⟩; have HN := Lib.hid ((HN.out.add _ _).step hB); clear hB))
  refine wp_world fun W hW => ?_
  have HN := Lib.hid (HN.out.add ⟨#[45, 50]⟩ ⟨#[49]⟩)
  rw [← hW] at HN
  clear hW
  have hb := HN.out.tail.tail.tail.head
  have c0 := hb.c0
  have c1 := hb.c1
  clear hb
  go_region_held3 (fun w' => w'.cell? ⟨w2.heap.size, 0, none⟩ = some (.string ⟨#[48]⟩) ∧ w'.cell? ⟨w2.heap.size, 1, none⟩ = some (.string ⟨#[49]⟩)) (first | exact ⟨HN.out.tail.tail.tail.head.c0, HN.out.tail.tail.tail.head.c1⟩ | exact ⟨(HN.out.add _ _).tail.tail.tail.tail.head.c0, (HN.out.add _ _).tail.tail.tail.tail.head.c1⟩ | exact ⟨HN.out.tail.tail.tail.tail.head.c0, HN.out.tail.tail.tail.tail.head.c1⟩ | exact ⟨(HN.out.put HL.out _ _).tail.tail.tail.tail.head.c0, (HN.out.put HL.out _ _).tail.tail.tail.tail.head.c1⟩ | go_keep)
    (first
      | (go_at_call 41; (with_reducible refine (HI.out _ _ _).mono ?_); rintro e ww ⟨rfl, hB⟩; (first | have HN := Lib.hid (HN.out.step (below_undrew hB)) | (have HL := Lib.hid HN.out.lts; have HN := Lib.hid ((HN.out.add _ _).step (below_undrew hB)); have x0 := HN.out.head.f0; have x1 := HN.out.head.f1; have x2 := HN.out.head.c0; have x3 := HN.out.head.c1)); clear hB)
      | (go_at_call 45; (with_reducible refine (HD2.out _ HN.out.tab).mono ?_); rintro e w6 ⟨rfl, hB⟩; clear x0 x1 x2 x3; have HN := Lib.hid (HN.out.step hB); clear hB; have x0 := HN.out.head.f0; have x1 := HN.out.head.f1; have x2 := HN.out.head.c0; have x3 := HN.out.head.c1)
      | (go_at_call 45; have HL := Lib.hid HN.out.lts; (with_reducible refine (HD2.out _ (HN.out.add _ _).tab).mono ?_); rintro e w6 ⟨rfl, hB⟩; have HN := Lib.hid ((HN.out.add _ _).step hB); clear hB; have x0 := HN.out.head.f0; have x1 := HN.out.head.f1; have x2 := HN.out.head.c0; have x3 := HN.out.head.c1)
      | (go_at_call 45; (with_reducible refine (HD2.out _ HN.out.tab).mono ?_); rintro e w6 ⟨rfl, hB⟩; have HN := Lib.hid (HN.out.step hB); clear hB))
  all_goals first | have HN := Lib.hid (HN.out.put HL.out ⟨#[]⟩ ⟨#[]⟩) | have HN := Lib.hid (HN.out.add ⟨#[]⟩ ⟨#[]⟩)

  go_wp2_with (first
      | (go_at_call 41; (with_reducible refine (HI.out _ _ _).mono ?_); rintro e ww ⟨rfl, hB⟩; (first | have HN := Lib.hid (HN.out.step hB) | have HN := Lib.hid ((HN.out.add _ _).step hB)); clear hB)
      | (go_at_call 31; (with_reducible refine (HO1.out _ HN.out.tab).mono ?_); rintro e w1 ⟨rfl, hB⟩; have HN := Lib.hid (HN.out.step hB); clear hB)
      | (go_at_call 31; (with_reducible refine (HO1.out _ (HN.out.add _ _).tab).mono ?_); rintro e w1 ⟨rfl, hB⟩; have HN := Lib.hid ((HN.out.add _ _).step hB); clear hB)
      | (go_at_call 31; (with_reducible refine (HO2.out _ HN.out.tab).mono ?_); rintro e w2 ⟨rfl, hB⟩; have HN := Lib.hid (HN.out.step hB); clear hB)
      | (go_at_call 31; (with_reducible refine (HO2.out _ (HN.out.add _ _).tab).mono ?_); rintro e w2 ⟨rfl, hB⟩; have HN := Lib.hid ((HN.out.add _ _).step hB); clear hB)
      | (go_at_call 31; (with_reducible refine (HO3.out _ HN.out.tab).mono ?_); rintro e w3 ⟨rfl, hB⟩; have HN := Lib.hid (HN.out.step hB); clear hB)
      | (go_at_call 31; (with_reducible refine (HO3.out _ (HN.out.add _ _).tab).mono ?_); rintro e w3 ⟨rfl, hB⟩; have HN := Lib.hid ((HN.out.add _ _).step hB); clear hB)
      | (go_at_call 38; (with_reducible refine (HA.out _ HN.out.tab).mono ?_); rintro e w4 ⟨rfl, hB⟩; have HN := Lib.hid (HN.out.step hB); clear hB)
      | (go_at_call 38; (with_reducible refine (HA.out _ (HN.out.add _ _).tab).mono ?_); rintro e w4 ⟨rfl, hB⟩; have HN := Lib.hid ((HN.out.add _ _).step hB); clear hB)
      | (go_at_call 45; (with_reducible refine (HD1.out _ HN.out.tab).mono ?_); rintro e w5 ⟨rfl, hB⟩; have HN := Lib.hid (HN.out.step hB); clear hB)
      | (go_at_call 45; (with_reducible refine (HD1.out _ (HN.out.add _ _).tab).mono ?_); rintro e w5 ⟨rfl, hB⟩; have HN := Lib.hid ((HN.out.add _ _).step hB); clear hB)
      | (go_at_call 23; (with_reducible refine (HDn.out _ HN.out.tab).mono ?_); rintro e w7 ⟨rfl, hB⟩; have HN := Lib.hid (HN.out.step hB); clear hB)
      | (go_at_call 23; (with_reducible refine (HDn.out _ (HN.out.add _ _).tab).mono ?_); rintro e w7 ⟨rfl, hB⟩; have HN := Lib.hid ((HN.out.add _ _).step hB); clear hB)
      | (go_at_call 25; (with_reducible refine (HUp.out _ HN.out.tab).mono ?_); rintro e w8 ⟨rfl, hB⟩; have HN := Lib.hid (HN.out.step hB); clear hB)
      | (go_at_call 25; (with_reducible refine (HUp.out _ (HN.out.add _ _).tab).mono ?_); rintro e w8 ⟨rfl, hB⟩; have HN := Lib.hid ((HN.out.add _ _).step hB); clear hB)
      | (go_at_call 34; (with_reducible refine (HP1.out _ HN.out.tab).mono ?_); rintro e w9 ⟨rfl, hB⟩; have HN := Lib.hid (HN.out.step hB); clear hB)
      | (go_at_call 34; (with_reducible refine (HP1.out _ (HN.out.add _ _).tab).mono ?_); rintro e w9 ⟨rfl, hB⟩; have HN := Lib.hid ((HN.out.add _ _).step hB); clear hB)
      | (go_at_call 34; (with_reducible refine (HP2.out _ HN.out.tab).mono ?_); rintro e w10 ⟨rfl, hB⟩; have HN := Lib.hid (HN.out.step hB); clear hB)
      | (go_at_call 34; (with_reducible refine (HP2.out _ (HN.out.add _ _).tab).mono ?_); rintro e w10 ⟨rfl, hB⟩; have HN := Lib.hid ((HN.out.add _ _).step hB); clear hB))
  all_goals
    refine wp_world fun W hW => ?_
    have HN := Lib.hid (HN.out.add ⟨#[]⟩ ⟨#[]⟩)
    rw [← hW] at HN
    clear hW
    obtain ⟨k1, k2, k3, k4, k5, k6, k7, k8, k9, k10, k11, k12, k13, k14⟩ := HN.out.ten
    go_region_held3 (fun w' => w'.cell? ⟨w9.heap.size, 0, none⟩ = some (.string ⟨#[45, 51]⟩) ∧ w'.cell? ⟨w9.heap.size, 1, none⟩ = some (.string ⟨#[50]⟩) ∧ w'.cell? ⟨w8.heap.size, 0, none⟩ = some (.string ⟨#[49, 55]⟩) ∧ w'.cell? ⟨w8.heap.size, 1, none⟩ = some (.string ⟨#[53, 48]⟩) ∧ w'.cell? ⟨w7.heap.size, 0, none⟩ = some (.string ⟨#[45, 49, 55]⟩) ∧ w'.cell? ⟨w7.heap.size, 1, none⟩ = some (.string ⟨#[53, 48]⟩) ∧ w'.cell? ⟨w5.heap.size, 0, none⟩ = some (.string ⟨#[45, 50]⟩) ∧ w'.cell? ⟨w5.heap.size, 1, none⟩ = some (.string ⟨#[49]⟩) ∧ w'.cell? ⟨w4.heap.size, 0, none⟩ = some (.string ⟨#[53]⟩) ∧ w'.cell? ⟨w4.heap.size, 1, none⟩ = some (.string ⟨#[54]⟩) ∧ w'.cell? ⟨w2.heap.size, 0, none⟩ = some (.string ⟨#[48]⟩) ∧ w'.cell? ⟨w2.heap.size, 1, none⟩ = some (.string ⟨#[49]⟩) ∧ w'.cell? ⟨w1.heap.size, 0, none⟩ = some (.string ⟨#[45, 51]⟩) ∧ w'.cell? ⟨w1.heap.size, 1, none⟩ = some (.string ⟨#[50]⟩)) (first | exact HN.out.ten | go_keep)
      (first
        | (go_at_call 41; (with_reducible refine (HI.out _ _ _).mono ?_); rintro e ww ⟨rfl, hB⟩; (first | have HN := Lib.hid (HN.out.step hB) | have HN := Lib.hid (HN.out.step (below_undrew hB))); clear hB)
        | (go_at_call 33; (with_reducible refine (HPr.out _ HN.out.tab).mono ?_); rintro e ww ⟨rfl, hB⟩; (first | have HN := Lib.hid (HN.out.step hB) | have HN := Lib.hid (HN.out.step (below_undrew hB))); clear hB)
        | (go_at_call 20; (with_reducible refine (HC.out _ HN.out.tab).mono ?_); rintro e ww ⟨rfl, hB⟩; (first | have HN := Lib.hid (HN.out.step hB) | have HN := Lib.hid (HN.out.step (below_undrew hB))); clear hB)
        | (go_at_call 29; (with_reducible refine (HV1.out _ HN.out.tab).mono ?_); rintro e ww ⟨rfl, hB⟩; (first | have HN := Lib.hid (HN.out.step hB) | have HN := Lib.hid (HN.out.step (below_undrew hB))); clear hB)
        | (go_at_call 29; (with_reducible refine (HV2.out _ HN.out.tab).mono ?_); rintro e ww ⟨rfl, hB⟩; (first | have HN := Lib.hid (HN.out.step hB) | have HN := Lib.hid (HN.out.step (below_undrew hB))); clear hB))
    go_wp2_with fail
    go_ret
    exact ⟨rfl, HN.out.below⟩

end Go.Proofs.YtjkklgpbblkhaaaGreatDoor

/-
  Layer 4's laws: the four operations at whatever strings.
-/
namespace Go.Proofs.YtjkklgpbblkhaaaGreatDoor
open Go.RowKit Bs Ig Qq

theorem results_cell_cell {fn : Func} {p u : Tmp} {ty ty2 : TypeId} (h : fn.results = #[.cell p ty, .cell u ty2]) (tmps : Array Value) (P : Program) (w : World) :
    (results fn tmps).run P w =
      ((asAddr (tmps.getD p undef)).run P w).andThen fun a w₁ => ((loadVar ty a).run P w₁).andThen fun v w₂ => ((asAddr (tmps.getD u undef)).run P w₂).andThen fun b w₃ => ((loadVar ty2 b).run P w₃).andThen fun v2 w₄ => .ok (.tuple #[v, v2]) w₄ := by
  simp only [results, h]
  simp [Sem.run_bind, Result.andThen]
theorem results_row_row {P : Program} {fn : Func} {p u : Tmp} {ty ty2 : TypeId} (h : fn.results = #[.cell p ty, .cell u ty2]) (tmps : Array Value) (w : World) (g g2 : Nat) (t t2 : TypeId) (cs cs2 : Array Value) (fr fr2 : Nat × Nat) (d d2 : TypeDesc)
    (hp : tmps.getD p undef = .pointer (some ⟨g, 0, none⟩)) (hp2 : tmps.getD u undef = .pointer (some ⟨g2, 0, none⟩)) (hg : w.heap[g]? = some (.cells cs t fr)) (hg2 : w.heap[g2]? = some (.cells cs2 t2 fr2))
    (hu : P.underlying ty = some d) (hd : (match d with | .struct _ | .array _ _ => true | _ => false) = true) (hi : (P.info? ty).map (·.size) = some cs.size)
    (hu2 : P.underlying ty2 = some d2) (hd2 : (match d2 with | .struct _ | .array _ _ => true | _ => false) = true) (hi2 : (P.info? ty2).map (·.size) = some cs2.size) :
    (results fn tmps).run P w = .ok (.tuple #[.agg cs, .agg cs2]) w := by
  rw [results_cell_cell h, hp, hp2]
  simp [asAddr, run_loadVar_row w g t ty cs fr d hg hu hd hi, run_loadVar_row w g2 t2 ty2 cs2 fr2 d2 hg2 hu2 hd2 hi2, Result.andThen]

/-- the boxes of four fractions -/
abbrev rz (a b c d e f g h : ByteArray) : Array Value := #[.string a, .string b, .string c, .string d, .string e, .string f, .string g, .string h]
/-- the boxes of four errors -/
abbrev ez (a b c d : Int) : Array Value := #[.int .i64 a, .int .i64 b, .int .i64 c, .int .i64 d]
def R8 (W : World) (g : Nat) (cs : Array Value) : Prop := W.heap[g]? = some (.cells cs 31 (0, 0))
def E4 (W : World) (g : Nat) (cs : Array Value) : Prop := W.heap[g]? = some (.cells cs 33 (0, 0))

structure Fo (w W : World) (A1 A2 B1 B2 : ByteArray) (r e : Array Value) : Prop where
  below : Below w.heap.size w W
  tab0 : TabP w
  a : IsB W (w.heap.size) A1 A2
  b : IsB W (w.heap.size + 1) B1 B2
  z : R8 W (w.heap.size + 1 + 1) (rz ⟨#[]⟩ ⟨#[]⟩ ⟨#[]⟩ ⟨#[]⟩ ⟨#[]⟩ ⟨#[]⟩ ⟨#[]⟩ ⟨#[]⟩)
  y : E4 W (w.heap.size + 1 + 1 + 1) (ez 0 0 0 0)
  r : R8 W (w.heap.size + 1 + 1 + 1 + 1) r
  e : E4 W (w.heap.size + 1 + 1 + 1 + 1 + 1) e
theorem Fo.tab {w W : World} {A1 A2 B1 B2 : ByteArray} {r e : Array Value} (h : Fo w W A1 A2 B1 B2 r e) : TabP W := h.tab0.later h.below
theorem row_kept {W W' : World} {g : Nat} {o : Obj} (h : W.heap[g]? = some o) (hb : Below W.heap.size W W') : W'.heap[g]? = some o := (hb.block _ (Array.getElem?_eq_some_iff.1 h).1).trans h
theorem Fo.step {w W W' : World} {A1 A2 B1 B2 : ByteArray} {r e : Array Value} (h : Fo w W A1 A2 B1 B2 r e) (hb : Below W.heap.size W W') : Fo w W' A1 A2 B1 B2 r e :=
  ⟨below_on h.below hb h.below.size, h.tab0, row_kept h.a hb, row_kept h.b hb, row_kept h.z hb, row_kept h.y hb, row_kept h.r hb, row_kept h.e hb⟩
theorem al_f (W : World) (o : Obj) : Below W.heap.size W (W.alloc o) := (Below.refl _ W).alloc (Nat.le_refl _) o
theorem new_f (W : World) (g : Nat) (cs : Array Value) (t : TypeId) (h : g = W.heap.size) : (W.alloc (.cells cs t)).heap[g]? = some (.cells cs t (0, 0)) := by subst h; exact heap_alloc_new _ _
theorem Fo.start {w : World} (ht : TabP w) (A1 A2 B1 B2 : ByteArray) :
    Fo w ((((((w.alloc (.cells #[.string A1, .string A2] 23)).alloc (.cells #[.string B1, .string B2] 23)).alloc (.cells (rz ⟨#[]⟩ ⟨#[]⟩ ⟨#[]⟩ ⟨#[]⟩ ⟨#[]⟩ ⟨#[]⟩ ⟨#[]⟩ ⟨#[]⟩) 31)).alloc (.cells (ez 0 0 0 0) 33)).alloc (.cells (rz ⟨#[]⟩ ⟨#[]⟩ ⟨#[]⟩ ⟨#[]⟩ ⟨#[]⟩ ⟨#[]⟩ ⟨#[]⟩ ⟨#[]⟩) 31)).alloc (.cells (ez 0 0 0 0) 33)) A1 A2 B1 B2 (rz ⟨#[]⟩ ⟨#[]⟩ ⟨#[]⟩ ⟨#[]⟩ ⟨#[]⟩ ⟨#[]⟩ ⟨#[]⟩ ⟨#[]⟩) (ez 0 0 0 0) := by
  refine ⟨?_, ht, ?_, ?_, ?_, ?_, ?_, ?_⟩
  · exact below_on (below_on (below_on (below_on (below_on (al_f _ _) (al_f _ _) (by simp)) (al_f _ _) (by simp; omega)) (al_f _ _) (by simp; omega)) (al_f _ _) (by simp; omega)) (al_f _ _) (by simp; omega)
  · exact row_kept (row_kept (row_kept (row_kept (row_kept (new_f _ _ _ _ rfl) (al_f _ _)) (al_f _ _)) (al_f _ _)) (al_f _ _)) (al_f _ _)
  · exact row_kept (row_kept (row_kept (row_kept (new_f _ _ _ _ (by simp)) (al_f _ _)) (al_f _ _)) (al_f _ _)) (al_f _ _)
  · exact row_kept (row_kept (row_kept (new_f _ _ _ _ (by simp)) (al_f _ _)) (al_f _ _)) (al_f _ _)
  · exact row_kept (row_kept (new_f _ _ _ _ (by simp)) (al_f _ _)) (al_f _ _)
  · exact row_kept (new_f _ _ _ _ (by simp)) (al_f _ _)
  · exact new_f _ _ _ _ (by simp)
theorem keep3 (W : World) (g k l i j m : Nat) (u v x : Value) (hk : g ≠ k) (hl : g ≠ l) : (((W.setCell ⟨k, i, none⟩ u).setCell ⟨k, j, none⟩ v).setCell ⟨l, m, none⟩ x).heap[g]? = W.heap[g]? :=
  (heap_setCell_other _ _ _ _ hl).trans ((heap_setCell_other _ _ _ _ hk).trans (heap_setCell_other _ _ _ _ hk))
theorem Fo.put0 {w W : World} {A1 A2 B1 B2 p0 q0 p1 q1 p2 q2 p3 q3 : ByteArray} {e0 e1 e2 e3 : Int} (h : Fo w W A1 A2 B1 B2 (rz p0 q0 p1 q1 p2 q2 p3 q3) (ez e0 e1 e2 e3)) (N D : ByteArray) (E : Int) :
    Fo w (((W.setCell ⟨w.heap.size + 1 + 1 + 1 + 1, 0, none⟩ (.string N)).setCell ⟨w.heap.size + 1 + 1 + 1 + 1, 1, none⟩ (.string D)).setCell ⟨w.heap.size + 1 + 1 + 1 + 1 + 1, 0, none⟩ (.int .i64 E)) A1 A2 B1 B2 (rz N D p1 q1 p2 q2 p3 q3) (ez E e1 e2 e3) :=
  ⟨((h.below.setCell (p := ⟨w.heap.size + 1 + 1 + 1 + 1, 0, none⟩) (by simp only; omega) _).setCell (p := ⟨w.heap.size + 1 + 1 + 1 + 1, 1, none⟩) (by simp only; omega) _).setCell (p := ⟨w.heap.size + 1 + 1 + 1 + 1 + 1, 0, none⟩) (by simp only; omega) _, h.tab0,
    (keep3 _ _ _ _ _ _ _ _ _ _ (by omega) (by omega)).trans h.a, (keep3 _ _ _ _ _ _ _ _ _ _ (by omega) (by omega)).trans h.b, (keep3 _ _ _ _ _ _ _ _ _ _ (by omega) (by omega)).trans h.z, (keep3 _ _ _ _ _ _ _ _ _ _ (by omega) (by omega)).trans h.y,
    (heap_setCell_other _ _ _ _ (by dsimp only; omega)).trans (heap_setCell_same _ _ 1 _ _ (.string D) (heap_setCell_same W _ 0 _ _ (.string N) h.r)),
    heap_setCell_same _ _ 0 _ _ (.int .i64 E) (((heap_setCell_other _ _ _ _ (by dsimp only; omega)).trans (heap_setCell_other _ _ _ _ (by dsimp only; omega))).trans h.e)⟩
theorem Fo.at0 {w W : World} {A1 A2 B1 B2 p0 q0 p1 q1 p2 q2 p3 q3 : ByteArray} {e0 e1 e2 e3 : Int} (h : Fo w W A1 A2 B1 B2 (rz p0 q0 p1 q1 p2 q2 p3 q3) (ez e0 e1 e2 e3)) :
    W.cell? ⟨w.heap.size + 1 + 1 + 1 + 1, 0, none⟩ = some (.string p0) ∧ W.frozen? ⟨w.heap.size + 1 + 1 + 1 + 1, 0, none⟩ = false ∧ W.cell? ⟨w.heap.size + 1 + 1 + 1 + 1, 1, none⟩ = some (.string q0) ∧ W.frozen? ⟨w.heap.size + 1 + 1 + 1 + 1, 1, none⟩ = false ∧ W.cell? ⟨w.heap.size + 1 + 1 + 1 + 1 + 1, 0, none⟩ = some (.int .i64 e0) ∧ W.frozen? ⟨w.heap.size + 1 + 1 + 1 + 1 + 1, 0, none⟩ = false :=
  ⟨by rw [cell_of_row _ _ 0 _ _ _ h.r]; rfl, frozen_of_row _ _ _ _ _ h.r, by rw [cell_of_row _ _ 1 _ _ _ h.r]; rfl, frozen_of_row _ _ _ _ _ h.r, by rw [cell_of_row _ _ 0 _ _ _ h.e]; rfl, frozen_of_row _ _ _ _ _ h.e⟩
theorem Fo.put1 {w W : World} {A1 A2 B1 B2 p0 q0 p1 q1 p2 q2 p3 q3 : ByteArray} {e0 e1 e2 e3 : Int} (h : Fo w W A1 A2 B1 B2 (rz p0 q0 p1 q1 p2 q2 p3 q3) (ez e0 e1 e2 e3)) (N D : ByteArray) (E : Int) :
    Fo w (((W.setCell ⟨w.heap.size + 1 + 1 + 1 + 1, 2, none⟩ (.string N)).setCell ⟨w.heap.size + 1 + 1 + 1 + 1, 3, none⟩ (.string D)).setCell ⟨w.heap.size + 1 + 1 + 1 + 1 + 1, 1, none⟩ (.int .i64 E)) A1 A2 B1 B2 (rz p0 q0 N D p2 q2 p3 q3) (ez e0 E e2 e3) :=
  ⟨((h.below.setCell (p := ⟨w.heap.size + 1 + 1 + 1 + 1, 2, none⟩) (by simp only; omega) _).setCell (p := ⟨w.heap.size + 1 + 1 + 1 + 1, 3, none⟩) (by simp only; omega) _).setCell (p := ⟨w.heap.size + 1 + 1 + 1 + 1 + 1, 1, none⟩) (by simp only; omega) _, h.tab0,
    (keep3 _ _ _ _ _ _ _ _ _ _ (by omega) (by omega)).trans h.a, (keep3 _ _ _ _ _ _ _ _ _ _ (by omega) (by omega)).trans h.b, (keep3 _ _ _ _ _ _ _ _ _ _ (by omega) (by omega)).trans h.z, (keep3 _ _ _ _ _ _ _ _ _ _ (by omega) (by omega)).trans h.y,
    (heap_setCell_other _ _ _ _ (by dsimp only; omega)).trans (heap_setCell_same _ _ 3 _ _ (.string D) (heap_setCell_same W _ 2 _ _ (.string N) h.r)),
    heap_setCell_same _ _ 1 _ _ (.int .i64 E) (((heap_setCell_other _ _ _ _ (by dsimp only; omega)).trans (heap_setCell_other _ _ _ _ (by dsimp only; omega))).trans h.e)⟩
theorem Fo.at1 {w W : World} {A1 A2 B1 B2 p0 q0 p1 q1 p2 q2 p3 q3 : ByteArray} {e0 e1 e2 e3 : Int} (h : Fo w W A1 A2 B1 B2 (rz p0 q0 p1 q1 p2 q2 p3 q3) (ez e0 e1 e2 e3)) :
    W.cell? ⟨w.heap.size + 1 + 1 + 1 + 1, 2, none⟩ = some (.string p1) ∧ W.frozen? ⟨w.heap.size + 1 + 1 + 1 + 1, 2, none⟩ = false ∧ W.cell? ⟨w.heap.size + 1 + 1 + 1 + 1, 3, none⟩ = some (.string q1) ∧ W.frozen? ⟨w.heap.size + 1 + 1 + 1 + 1, 3, none⟩ = false ∧ W.cell? ⟨w.heap.size + 1 + 1 + 1 + 1 + 1, 1, none⟩ = some (.int .i64 e1) ∧ W.frozen? ⟨w.heap.size + 1 + 1 + 1 + 1 + 1, 1, none⟩ = false :=
  ⟨by rw [cell_of_row _ _ 2 _ _ _ h.r]; rfl, frozen_of_row _ _ _ _ _ h.r, by rw [cell_of_row _ _ 3 _ _ _ h.r]; rfl, frozen_of_row _ _ _ _ _ h.r, by rw [cell_of_row _ _ 1 _ _ _ h.e]; rfl, frozen_of_row _ _ _ _ _ h.e⟩
theorem Fo.put2 {w W : World} {A1 A2 B1 B2 p0 q0 p1 q1 p2 q2 p3 q3 : ByteArray} {e0 e1 e2 e3 : Int} (h : Fo w W A1 A2 B1 B2 (rz p0 q0 p1 q1 p2 q2 p3 q3) (ez e0 e1 e2 e3)) (N D : ByteArray) (E : Int) :
    Fo w (((W.setCell ⟨w.heap.size + 1 + 1 + 1 + 1, 4, none⟩ (.string N)).setCell ⟨w.heap.size + 1 + 1 + 1 + 1, 5, none⟩ (.string D)).setCell ⟨w.heap.size + 1 + 1 + 1 + 1 + 1, 2, none⟩ (.int .i64 E)) A1 A2 B1 B2 (rz p0 q0 p1 q1 N D p3 q3) (ez e0 e1 E e3) :=
  ⟨((h.below.setCell (p := ⟨w.heap.size + 1 + 1 + 1 + 1, 4, none⟩) (by simp only; omega) _).setCell (p := ⟨w.heap.size + 1 + 1 + 1 + 1, 5, none⟩) (by simp only; omega) _).setCell (p := ⟨w.heap.size + 1 + 1 + 1 + 1 + 1, 2, none⟩) (by simp only; omega) _, h.tab0,
    (keep3 _ _ _ _ _ _ _ _ _ _ (by omega) (by omega)).trans h.a, (keep3 _ _ _ _ _ _ _ _ _ _ (by omega) (by omega)).trans h.b, (keep3 _ _ _ _ _ _ _ _ _ _ (by omega) (by omega)).trans h.z, (keep3 _ _ _ _ _ _ _ _ _ _ (by omega) (by omega)).trans h.y,
    (heap_setCell_other _ _ _ _ (by dsimp only; omega)).trans (heap_setCell_same _ _ 5 _ _ (.string D) (heap_setCell_same W _ 4 _ _ (.string N) h.r)),
    heap_setCell_same _ _ 2 _ _ (.int .i64 E) (((heap_setCell_other _ _ _ _ (by dsimp only; omega)).trans (heap_setCell_other _ _ _ _ (by dsimp only; omega))).trans h.e)⟩
theorem Fo.at2 {w W : World} {A1 A2 B1 B2 p0 q0 p1 q1 p2 q2 p3 q3 : ByteArray} {e0 e1 e2 e3 : Int} (h : Fo w W A1 A2 B1 B2 (rz p0 q0 p1 q1 p2 q2 p3 q3) (ez e0 e1 e2 e3)) :
    W.cell? ⟨w.heap.size + 1 + 1 + 1 + 1, 4, none⟩ = some (.string p2) ∧ W.frozen? ⟨w.heap.size + 1 + 1 + 1 + 1, 4, none⟩ = false ∧ W.cell? ⟨w.heap.size + 1 + 1 + 1 + 1, 5, none⟩ = some (.string q2) ∧ W.frozen? ⟨w.heap.size + 1 + 1 + 1 + 1, 5, none⟩ = false ∧ W.cell? ⟨w.heap.size + 1 + 1 + 1 + 1 + 1, 2, none⟩ = some (.int .i64 e2) ∧ W.frozen? ⟨w.heap.size + 1 + 1 + 1 + 1 + 1, 2, none⟩ = false :=
  ⟨by rw [cell_of_row _ _ 4 _ _ _ h.r]; rfl, frozen_of_row _ _ _ _ _ h.r, by rw [cell_of_row _ _ 5 _ _ _ h.r]; rfl, frozen_of_row _ _ _ _ _ h.r, by rw [cell_of_row _ _ 2 _ _ _ h.e]; rfl, frozen_of_row _ _ _ _ _ h.e⟩
theorem Fo.put3 {w W : World} {A1 A2 B1 B2 p0 q0 p1 q1 p2 q2 p3 q3 : ByteArray} {e0 e1 e2 e3 : Int} (h : Fo w W A1 A2 B1 B2 (rz p0 q0 p1 q1 p2 q2 p3 q3) (ez e0 e1 e2 e3)) (N D : ByteArray) (E : Int) :
    Fo w (((W.setCell ⟨w.heap.size + 1 + 1 + 1 + 1, 6, none⟩ (.string N)).setCell ⟨w.heap.size + 1 + 1 + 1 + 1, 7, none⟩ (.string D)).setCell ⟨w.heap.size + 1 + 1 + 1 + 1 + 1, 3, none⟩ (.int .i64 E)) A1 A2 B1 B2 (rz p0 q0 p1 q1 p2 q2 N D) (ez e0 e1 e2 E) :=
  ⟨((h.below.setCell (p := ⟨w.heap.size + 1 + 1 + 1 + 1, 6, none⟩) (by simp only; omega) _).setCell (p := ⟨w.heap.size + 1 + 1 + 1 + 1, 7, none⟩) (by simp only; omega) _).setCell (p := ⟨w.heap.size + 1 + 1 + 1 + 1 + 1, 3, none⟩) (by simp only; omega) _, h.tab0,
    (keep3 _ _ _ _ _ _ _ _ _ _ (by omega) (by omega)).trans h.a, (keep3 _ _ _ _ _ _ _ _ _ _ (by omega) (by omega)).trans h.b, (keep3 _ _ _ _ _ _ _ _ _ _ (by omega) (by omega)).trans h.z, (keep3 _ _ _ _ _ _ _ _ _ _ (by omega) (by omega)).trans h.y,
    (heap_setCell_other _ _ _ _ (by dsimp only; omega)).trans (heap_setCell_same _ _ 7 _ _ (.string D) (heap_setCell_same W _ 6 _ _ (.string N) h.r)),
    heap_setCell_same _ _ 3 _ _ (.int .i64 E) (((heap_setCell_other _ _ _ _ (by dsimp only; omega)).trans (heap_setCell_other _ _ _ _ (by dsimp only; omega))).trans h.e)⟩
theorem Fo.at3 {w W : World} {A1 A2 B1 B2 p0 q0 p1 q1 p2 q2 p3 q3 : ByteArray} {e0 e1 e2 e3 : Int} (h : Fo w W A1 A2 B1 B2 (rz p0 q0 p1 q1 p2 q2 p3 q3) (ez e0 e1 e2 e3)) :
    W.cell? ⟨w.heap.size + 1 + 1 + 1 + 1, 6, none⟩ = some (.string p3) ∧ W.frozen? ⟨w.heap.size + 1 + 1 + 1 + 1, 6, none⟩ = false ∧ W.cell? ⟨w.heap.size + 1 + 1 + 1 + 1, 7, none⟩ = some (.string q3) ∧ W.frozen? ⟨w.heap.size + 1 + 1 + 1 + 1, 7, none⟩ = false ∧ W.cell? ⟨w.heap.size + 1 + 1 + 1 + 1 + 1, 3, none⟩ = some (.int .i64 e3) ∧ W.frozen? ⟨w.heap.size + 1 + 1 + 1 + 1 + 1, 3, none⟩ = false :=
  ⟨by rw [cell_of_row _ _ 6 _ _ _ h.r]; rfl, frozen_of_row _ _ _ _ _ h.r, by rw [cell_of_row _ _ 7 _ _ _ h.r]; rfl, frozen_of_row _ _ _ _ _ h.r, by rw [cell_of_row _ _ 3 _ _ _ h.e]; rfl, frozen_of_row _ _ _ _ _ h.e⟩
theorem Fo.ab {w W : World} {A1 A2 B1 B2 : ByteArray} {r e : Array Value} (h : Fo w W A1 A2 B1 B2 r e) :
    W.cell? ⟨w.heap.size, 0, none⟩ = some (.string A1) ∧ W.cell? ⟨w.heap.size, 1, none⟩ = some (.string A2) ∧ W.cell? ⟨w.heap.size + 1, 0, none⟩ = some (.string B1) ∧ W.cell? ⟨w.heap.size + 1, 1, none⟩ = some (.string B2) :=
  ⟨h.a.c0, h.a.c1, h.b.c0, h.b.c1⟩

abbrev S8 (W : World) (k : Nat) (a b c d e f g h : ByteArray) : World :=
  (((((((W.setCell ⟨k, 0, none⟩ (.string a)).setCell ⟨k, 1, none⟩ (.string b)).setCell ⟨k, 2, none⟩ (.string c)).setCell ⟨k, 3, none⟩ (.string d)).setCell ⟨k, 4, none⟩ (.string e)).setCell ⟨k, 5, none⟩ (.string f)).setCell ⟨k, 6, none⟩ (.string g)).setCell ⟨k, 7, none⟩ (.string h)
abbrev S4 (W : World) (k : Nat) (a b c d : Int) : World :=
  (((W.setCell ⟨k, 0, none⟩ (.int .i64 a)).setCell ⟨k, 1, none⟩ (.int .i64 b)).setCell ⟨k, 2, none⟩ (.int .i64 c)).setCell ⟨k, 3, none⟩ (.int .i64 d)
theorem put8 {W : World} {k : Nat} {p0 q0 p1 q1 p2 q2 p3 q3 : ByteArray} (h : R8 W k (rz p0 q0 p1 q1 p2 q2 p3 q3)) (x0 x1 x2 x3 x4 x5 x6 x7 : ByteArray) : R8 (S8 W k x0 x1 x2 x3 x4 x5 x6 x7) k (rz x0 x1 x2 x3 x4 x5 x6 x7) := by
  have h0 : R8 (W.setCell ⟨k, 0, none⟩ (.string x0)) k (rz x0 q0 p1 q1 p2 q2 p3 q3) := heap_setCell_same _ _ 0 _ _ _ h
  have h1 : R8 ((W.setCell ⟨k, 0, none⟩ (.string x0)).setCell ⟨k, 1, none⟩ (.string x1)) k (rz x0 x1 p1 q1 p2 q2 p3 q3) := heap_setCell_same _ _ 1 _ _ _ h0
  have h2 : R8 (((W.setCell ⟨k, 0, none⟩ (.string x0)).setCell ⟨k, 1, none⟩ (.string x1)).setCell ⟨k, 2, none⟩ (.string x2)) k (rz x0 x1 x2 q1 p2 q2 p3 q3) := heap_setCell_same _ _ 2 _ _ _ h1
  have h3 : R8 ((((W.setCell ⟨k, 0, none⟩ (.string x0)).setCell ⟨k, 1, none⟩ (.string x1)).setCell ⟨k, 2, none⟩ (.string x2)).setCell ⟨k, 3, none⟩ (.string x3)) k (rz x0 x1 x2 x3 p2 q2 p3 q3) := heap_setCell_same _ _ 3 _ _ _ h2
  have h4 : R8 (((((W.setCell ⟨k, 0, none⟩ (.string x0)).setCell ⟨k, 1, none⟩ (.string x1)).setCell ⟨k, 2, none⟩ (.string x2)).setCell ⟨k, 3, none⟩ (.string x3)).setCell ⟨k, 4, none⟩ (.string x4)) k (rz x0 x1 x2 x3 x4 q2 p3 q3) := heap_setCell_same _ _ 4 _ _ _ h3
  have h5 : R8 ((((((W.setCell ⟨k, 0, none⟩ (.string x0)).setCell ⟨k, 1, none⟩ (.string x1)).setCell ⟨k, 2, none⟩ (.string x2)).setCell ⟨k, 3, none⟩ (.string x3)).setCell ⟨k, 4, none⟩ (.string x4)).setCell ⟨k, 5, none⟩ (.string x5)) k (rz x0 x1 x2 x3 x4 x5 p3 q3) := heap_setCell_same _ _ 5 _ _ _ h4
  have h6 : R8 (((((((W.setCell ⟨k, 0, none⟩ (.string x0)).setCell ⟨k, 1, none⟩ (.string x1)).setCell ⟨k, 2, none⟩ (.string x2)).setCell ⟨k, 3, none⟩ (.string x3)).setCell ⟨k, 4, none⟩ (.string x4)).setCell ⟨k, 5, none⟩ (.string x5)).setCell ⟨k, 6, none⟩ (.string x6)) k (rz x0 x1 x2 x3 x4 x5 x6 q3) := heap_setCell_same _ _ 6 _ _ _ h5
  have h7 : R8 ((((((((W.setCell ⟨k, 0, none⟩ (.string x0)).setCell ⟨k, 1, none⟩ (.string x1)).setCell ⟨k, 2, none⟩ (.string x2)).setCell ⟨k, 3, none⟩ (.string x3)).setCell ⟨k, 4, none⟩ (.string x4)).setCell ⟨k, 5, none⟩ (.string x5)).setCell ⟨k, 6, none⟩ (.string x6)).setCell ⟨k, 7, none⟩ (.string x7)) k (rz x0 x1 x2 x3 x4 x5 x6 x7) := heap_setCell_same _ _ 7 _ _ _ h6
  exact h7
theorem put4 {W : World} {k : Nat} {e0 e1 e2 e3 : Int} (h : E4 W k (ez e0 e1 e2 e3)) (x0 x1 x2 x3 : Int) : E4 (S4 W k x0 x1 x2 x3) k (ez x0 x1 x2 x3) :=
  heap_setCell_same _ _ 3 _ _ (.int .i64 x3) (heap_setCell_same _ _ 2 _ _ (.int .i64 x2) (heap_setCell_same _ _ 1 _ _ (.int .i64 x1) (heap_setCell_same _ _ 0 _ _ (.int .i64 x0) h)))
theorem keep8 (W : World) (g k : Nat) (x0 x1 x2 x3 x4 x5 x6 x7 : ByteArray) (hk : g ≠ k) : (S8 W k x0 x1 x2 x3 x4 x5 x6 x7).heap[g]? = W.heap[g]? :=
  (heap_setCell_other _ _ _ _ hk).trans ((heap_setCell_other _ _ _ _ hk).trans ((heap_setCell_other _ _ _ _ hk).trans ((heap_setCell_other _ _ _ _ hk).trans ((heap_setCell_other _ _ _ _ hk).trans ((heap_setCell_other _ _ _ _ hk).trans ((heap_setCell_other _ _ _ _ hk).trans (heap_setCell_other _ _ _ _ hk)))))))
theorem keep4 (W : World) (g k : Nat) (x0 x1 x2 x3 : Int) (hk : g ≠ k) : (S4 W k x0 x1 x2 x3).heap[g]? = W.heap[g]? :=
  (heap_setCell_other _ _ _ _ hk).trans ((heap_setCell_other _ _ _ _ hk).trans ((heap_setCell_other _ _ _ _ hk).trans (heap_setCell_other _ _ _ _ hk)))
theorem bel8 {w W : World} {k : Nat} (h : Below w.heap.size w W) (hk : w.heap.size ≤ k) (x0 x1 x2 x3 x4 x5 x6 x7 : ByteArray) : Below w.heap.size w (S8 W k x0 x1 x2 x3 x4 x5 x6 x7) :=
  (((((((h.setCell (p := ⟨k, 0, none⟩) hk _).setCell (p := ⟨k, 1, none⟩) hk _).setCell (p := ⟨k, 2, none⟩) hk _).setCell (p := ⟨k, 3, none⟩) hk _).setCell (p := ⟨k, 4, none⟩) hk _).setCell (p := ⟨k, 5, none⟩) hk _).setCell (p := ⟨k, 6, none⟩) hk _).setCell (p := ⟨k, 7, none⟩) hk _
theorem bel4 {w W : World} {k : Nat} (h : Below w.heap.size w W) (hk : w.heap.size ≤ k) (x0 x1 x2 x3 : Int) : Below w.heap.size w (S4 W k x0 x1 x2 x3) :=
  (((h.setCell (p := ⟨k, 0, none⟩) hk _).setCell (p := ⟨k, 1, none⟩) hk _).setCell (p := ⟨k, 2, none⟩) hk _).setCell (p := ⟨k, 3, none⟩) hk _
theorem R8.cells {W : World} {g : Nat} {p0 q0 p1 q1 p2 q2 p3 q3 : ByteArray} (h : R8 W g (rz p0 q0 p1 q1 p2 q2 p3 q3)) :
    W.cell? ⟨g, 0, none⟩ = some (.string p0) ∧ W.cell? ⟨g, 1, none⟩ = some (.string q0) ∧ W.cell? ⟨g, 2, none⟩ = some (.string p1) ∧ W.cell? ⟨g, 3, none⟩ = some (.string q1) ∧ W.cell? ⟨g, 4, none⟩ = some (.string p2) ∧ W.cell? ⟨g, 5, none⟩ = some (.string q2) ∧ W.cell? ⟨g, 6, none⟩ = some (.string p3) ∧ W.cell? ⟨g, 7, none⟩ = some (.string q3) :=
  ⟨by rw [cell_of_row _ _ 0 _ _ _ h]; rfl, by rw [cell_of_row _ _ 1 _ _ _ h]; rfl, by rw [cell_of_row _ _ 2 _ _ _ h]; rfl, by rw [cell_of_row _ _ 3 _ _ _ h]; rfl, by rw [cell_of_row _ _ 4 _ _ _ h]; rfl, by rw [cell_of_row _ _ 5 _ _ _ h]; rfl, by rw [cell_of_row _ _ 6 _ _ _ h]; rfl, by rw [cell_of_row _ _ 7 _ _ _ h]; rfl⟩
theorem E4.cells {W : World} {g : Nat} {e0 e1 e2 e3 : Int} (h : E4 W g (ez e0 e1 e2 e3)) :
    W.cell? ⟨g, 0, none⟩ = some (.int .i64 e0) ∧ W.cell? ⟨g, 1, none⟩ = some (.int .i64 e1) ∧ W.cell? ⟨g, 2, none⟩ = some (.int .i64 e2) ∧ W.cell? ⟨g, 3, none⟩ = some (.int .i64 e3) :=
  ⟨by rw [cell_of_row _ _ 0 _ _ _ h]; rfl, by rw [cell_of_row _ _ 1 _ _ _ h]; rfl, by rw [cell_of_row _ _ 2 _ _ _ h]; rfl, by rw [cell_of_row _ _ 3 _ _ _ h]; rfl⟩
theorem R8.froz {W : World} {g : Nat} {cs : Array Value} (h : R8 W g cs) (i : Nat) : W.frozen? ⟨g, i, none⟩ = false := frozen_of_row _ _ _ _ _ h
theorem E4.froz {W : World} {g : Nat} {cs : Array Value} (h : E4 W g cs) (i : Nat) : W.frozen? ⟨g, i, none⟩ = false := frozen_of_row _ _ _ _ _ h

set_option maxRecDepth 100000 in
set_option maxHeartbeats 8000000 in
theorem four_any (A1 A2 B1 B2 : ByteArray) (w : World) (ht : TabP w) (a0 b0 a1 b1 a2 b2 a3 b3 : ByteArray) (e0 e1 e2 e3 : Int)
    (h0 : addQ A1 A2 B1 B2 = (a0, b0, e0)) (h1 : subQ A1 A2 B1 B2 = (a1, b1, e1)) (h2 : mulQ A1 A2 B1 B2 = (a2, b2, e2)) (h3 : divQ A1 A2 B1 B2 = (a3, b3, e3)) :
    Calls Tryz.prog 15 #[.agg #[.string A1, .string A2], .agg #[.string B1, .string B2]] w fun e w' => e = .returned (.tuple #[.agg (rz a0 b0 a1 b1 a2 b2 a3 b3), .agg (ez e0 e1 e2 e3)]) ∧ Below w.heap.size w w' := by
  have ad := fun (W : World) (h : TabP W) => qAdd_any A1 A2 B1 B2 W h
  have su := fun (W : World) (h : TabP W) => qSub_any A1 A2 B1 B2 W h
  have mu := fun (W : World) (h : TabP W) => qMul_any A1 A2 B1 B2 W h
  have di := fun (W : World) (h : TabP W) => qDiv_any A1 A2 B1 B2 W h
  simp only [h0, h1, h2, h3] at ad su mu di
  unfold Answers at ad su mu di
  simp only at ad su mu di
  have AD := Lib.hid ad
  have SU := Lib.hid su
  have MU := Lib.hid mu
  have DI := Lib.hid di
  have HN := Lib.hid (Fo.start ht A1 A2 B1 B2)
  clear ad su mu di h0 h1 h2 h3 ht
  go_enter Tryz.func15, Tryz.ntmps15
  go_upto_region 3 with fail
  have ⟨y0, y1, y2, y3⟩ := HN.out.ab
  go_upto_region 7 with (first
    | (go_at_call 38; (with_reducible refine (AD.out _ HN.out.tab).mono ?_); rintro ee w1 ⟨rfl, hB⟩; replace HN := Lib.hid (HN.out.step hB); clear hB y0 y1 y2 y3; have ⟨x0, x1, x2, x3, x4, x5⟩ := HN.out.at0; replace HN := Lib.hid (HN.out.put0 a0 b0 e0); have ⟨y0, y1, y2, y3⟩ := HN.out.ab)
    | (go_at_call 40; (with_reducible refine (SU.out _ HN.out.tab).mono ?_); rintro ee w2 ⟨rfl, hB⟩; replace HN := Lib.hid (HN.out.step hB); clear hB y0 y1 y2 y3 x0 x1 x2 x3 x4 x5; have ⟨x0, x1, x2, x3, x4, x5⟩ := HN.out.at1; replace HN := Lib.hid (HN.out.put1 a1 b1 e1); have ⟨y0, y1, y2, y3⟩ := HN.out.ab)
    | (go_at_call 39; (with_reducible refine (MU.out _ HN.out.tab).mono ?_); rintro ee w3 ⟨rfl, hB⟩; replace HN := Lib.hid (HN.out.step hB); clear hB y0 y1 y2 y3 x0 x1 x2 x3 x4 x5; have ⟨x0, x1, x2, x3, x4, x5⟩ := HN.out.at2; replace HN := Lib.hid (HN.out.put2 a2 b2 e2); have ⟨y0, y1, y2, y3⟩ := HN.out.ab)
    | (go_at_call 45; (with_reducible refine (DI.out _ HN.out.tab).mono ?_); rintro ee w4 ⟨rfl, hB⟩; replace HN := Lib.hid (HN.out.step hB); clear hB y0 y1 y2 y3 x0 x1 x2 x3 x4 x5; have ⟨x0, x1, x2, x3, x4, x5⟩ := HN.out.at3; replace HN := Lib.hid (HN.out.put3 a3 b3 e3); have ⟨y0, y1, y2, y3⟩ := HN.out.ab))
  clear x0 x1 x2 x3 x4 x5 y0 y1 y2 y3 AD SU MU DI
  refine wp_world fun W hW => ?_
  rw [← hW] at HN
  clear hW
  obtain ⟨c0, c1, c2, c3, c4, c5, c6, c7⟩ := HN.out.r.cells
  obtain ⟨d0, d1, d2, d3⟩ := HN.out.e.cells
  obtain ⟨z0, z1, z2, z3, z4, z5, z6, z7⟩ := HN.out.z.cells
  obtain ⟨k0, k1, k2, k3⟩ := HN.out.y.cells
  have f0 := HN.out.z.froz 0
  have f1 := HN.out.z.froz 1
  have f2 := HN.out.z.froz 2
  have f3 := HN.out.z.froz 3
  have f4 := HN.out.z.froz 4
  have f5 := HN.out.z.froz 5
  have f6 := HN.out.z.froz 6
  have f7 := HN.out.z.froz 7
  have g0 := HN.out.y.froz 0
  have g1 := HN.out.y.froz 1
  have g2 := HN.out.y.froz 2
  have g3 := HN.out.y.froz 3
  go_region_held3 (fun w' => w'.cell? ⟨w.heap.size + 1 + 1 + 1 + 1, 0, none⟩ = some (.string a0) ∧ w'.cell? ⟨w.heap.size + 1 + 1 + 1 + 1, 1, none⟩ = some (.string b0) ∧ w'.cell? ⟨w.heap.size + 1 + 1 + 1 + 1, 2, none⟩ = some (.string a1) ∧ w'.cell? ⟨w.heap.size + 1 + 1 + 1 + 1, 3, none⟩ = some (.string b1) ∧ w'.cell? ⟨w.heap.size + 1 + 1 + 1 + 1, 4, none⟩ = some (.string a2) ∧ w'.cell? ⟨w.heap.size + 1 + 1 + 1 + 1, 5, none⟩ = some (.string b2) ∧ w'.cell? ⟨w.heap.size + 1 + 1 + 1 + 1, 6, none⟩ = some (.string a3) ∧ w'.cell? ⟨w.heap.size + 1 + 1 + 1 + 1, 7, none⟩ = some (.string b3) ∧ w'.cell? ⟨w.heap.size + 1 + 1 + 1 + 1 + 1, 0, none⟩ = some (.int .i64 e0) ∧ w'.cell? ⟨w.heap.size + 1 + 1 + 1 + 1 + 1, 1, none⟩ = some (.int .i64 e1) ∧ w'.cell? ⟨w.heap.size + 1 + 1 + 1 + 1 + 1, 2, none⟩ = some (.int .i64 e2) ∧ w'.cell? ⟨w.heap.size + 1 + 1 + 1 + 1 + 1, 3, none⟩ = some (.int .i64 e3)) (go_keep) (fail)
  all_goals (go_wp2_with fail)
  have hz : R8 (S4 (S8 W (w.heap.size + 1 + 1) a0 b0 a1 b1 a2 b2 a3 b3) (w.heap.size + 1 + 1 + 1) e0 e1 e2 e3) (w.heap.size + 1 + 1) (rz a0 b0 a1 b1 a2 b2 a3 b3) := (keep4 _ _ _ _ _ _ _ (by omega)).trans (put8 HN.out.z a0 b0 a1 b1 a2 b2 a3 b3)
  have hy : E4 (S4 (S8 W (w.heap.size + 1 + 1) a0 b0 a1 b1 a2 b2 a3 b3) (w.heap.size + 1 + 1 + 1) e0 e1 e2 e3) (w.heap.size + 1 + 1 + 1) (ez e0 e1 e2 e3) := put4 ((keep8 _ _ _ _ _ _ _ _ _ _ _ (by omega)).trans HN.out.y) e0 e1 e2 e3
  have hb := bel4 (bel8 HN.out.below (show w.heap.size ≤ w.heap.size + 1 + 1 by omega) a0 b0 a1 b1 a2 b2 a3 b3) (show w.heap.size ≤ w.heap.size + 1 + 1 + 1 by omega) e0 e1 e2 e3
  clear c0 c1 c2 c3 c4 c5 c6 c7 d0 d1 d2 d3 z0 z1 z2 z3 z4 z5 z6 z7 k0 k1 k2 k3 f0 f1 f2 f3 f4 f5 f6 f7 g0 g1 g2 g3 HN
  obtain ⟨WW, hWW⟩ : ∃ WW, S4 (S8 W (w.heap.size + 1 + 1) a0 b0 a1 b1 a2 b2 a3 b3) (w.heap.size + 1 + 1 + 1) e0 e1 e2 e3 = WW := ⟨_, rfl⟩
  rw [hWW] at hz hy hb
  rw [show (((((((((((((W.setCell { block := w.heap.size + 1 + 1, off := 0 } (Value.string a0)).setCell { block := w.heap.size + 1 + 1, off := 1 } (Value.string b0)).setCell { block := w.heap.size + 1 + 1, off := 2 } (Value.string a1)).setCell { block := w.heap.size + 1 + 1, off := 3 } (Value.string b1)).setCell { block := w.heap.size + 1 + 1, off := 4 } (Value.string a2)).setCell { block := w.heap.size + 1 + 1, off := 5 } (Value.string b2)).setCell { block := w.heap.size + 1 + 1, off := 6 } (Value.string a3)).setCell { block := w.heap.size + 1 + 1, off := 7 } (Value.string b3)).setCell { block := w.heap.size + 1 + 1 + 1, off := 0 } (Value.int IntKind.i64 e0)).setCell { block := w.heap.size + 1 + 1 + 1, off := 1 } (Value.int IntKind.i64 e1)).setCell { block := w.heap.size + 1 + 1 + 1, off := 2 } (Value.int IntKind.i64 e2)).setCell { block := w.heap.size + 1 + 1 + 1, off := 3 } (Value.int IntKind.i64 e3))) = WW from hWW]
  have hz2 := row_kept hz ((Below.refl _ WW).drew)
  have hy2 := row_kept hy ((Below.refl _ WW).drew)
  have hb2 := hb.drew
  generalize WW.drew = Wd at *
  exact bodyPost_ret (results_row_row rfl _ _ (w.heap.size + 1 + 1) (w.heap.size + 1 + 1 + 1) 31 33 (rz a0 b0 a1 b1 a2 b2 a3 b3) (ez e0 e1 e2 e3) _ _ _ _ rfl rfl hz2 hy2 Tryz.underlying31 rfl (by kernel_rfl) Tryz.underlying33 rfl (by kernel_rfl)) rfl ⟨rfl, hb2⟩

end Go.Proofs.YtjkklgpbblkhaaaGreatDoor
