/-
  Put together by program out of these texts, in this order: Qsq, Rlg.
-/
import Derived.Test.YtjkklgpbblkhaaaGreatDoorZCaRLo17
import Derived.Test.YtjkklgpbblkhaaaGreatDoorZCaRLo16

/-
  Layer 4: the laws' fixed examples hold.
-/
namespace Go.Proofs.YtjkklgpbblkhaaaGreatDoor
open Go.RowKit Bs Ig Qq

/-- where a law stands: what was there is as it was, the table lies where it lay, and boxes hold what they held -/
structure St (w W : World) (L : List (Nat × ByteArray × ByteArray)) : Prop where
  below : Below w.heap.size w W
  tab0 : TabP w
  box : ∀ x ∈ L, IsB W x.1 x.2.1 x.2.2
theorem St.tab {w W : World} {L} (h : St w W L) : TabP W := h.tab0.later h.below
theorem St.start {w : World} (h : TabP w) : St w w [] := ⟨Below.refl _ _, h, fun _ hx => (by cases hx)⟩
theorem St.step {w W W' : World} {L} (h : St w W L) (hb : Below W.heap.size W W') : St w W' L := ⟨below_on h.below hb h.below.size, h.tab0, fun x hx => (h.box x hx).later hb (h.box x hx).lt⟩
theorem St.add {w W : World} {L} (h : St w W L) (N D : ByteArray) : St w (W.alloc (.cells #[.string N, .string D] 23)) ((W.heap.size, N, D) :: L) := by
  have hb := (Below.refl _ W).alloc (Nat.le_refl _) (.cells #[.string N, .string D] 23)
  refine ⟨(h.step hb).below, h.tab0, fun x hx => ?_⟩
  rcases List.mem_cons.1 hx with rfl | hx
  · exact IsB.new W N D
  · exact (h.step hb).box x hx
theorem St.head {w W : World} {L} {g : Nat} {N D : ByteArray} (h : St w W ((g, N, D) :: L)) : IsB W g N D := h.box (g, N, D) (List.mem_cons_self ..)
theorem St.tail {w W : World} {L} {x} (h : St w W (x :: L)) : St w W L := ⟨h.below, h.tab0, fun y hy => h.box y (List.mem_cons_of_mem _ hy)⟩

theorem St.lts {w W : World} {L} (h : St w W L) : w.heap.size ≤ W.heap.size ∧ ∀ x ∈ L, x.1 < W.heap.size := ⟨h.below.size, fun x hx => (h.box x hx).lt⟩
theorem St.put {w W : World} {L} {g : Nat} {a b : ByteArray} (h : St w W ((g, a, b) :: L)) (hg : w.heap.size ≤ g ∧ ∀ x ∈ L, x.1 < g) (N D : ByteArray) : St w ((W.setCell ⟨g, 0, none⟩ (.string N)).setCell ⟨g, 1, none⟩ (.string D)) ((g, N, D) :: L) := by
  refine ⟨fin1 h.head h.below hg.1 N D, h.tab0, fun x hx => ?_⟩
  · rcases List.mem_cons.1 hx with rfl | hx
    · exact two_strs h.head N D
    · exact far_strs (h.box x (List.mem_cons_of_mem _ hx)) (by have := hg.2 x hx; omega) N D

theorem St.ten {w W : World} {x19 x11 x5 : Nat × ByteArray × ByteArray} {g17 : Nat} {a17 b17 : ByteArray} {g15 : Nat} {a15 b15 : ByteArray} {g13 : Nat} {a13 b13 : ByteArray} {g9 : Nat} {a9 b9 : ByteArray} {g7 : Nat} {a7 b7 : ByteArray} {g3 : Nat} {a3 b3 : ByteArray} {g1 : Nat} {a1 b1 : ByteArray} (h : St w W [x19, (g17, a17, b17), (g15, a15, b15), (g13, a13, b13), x11, (g9, a9, b9), (g7, a7, b7), x5, (g3, a3, b3), (g1, a1, b1)]) :
    W.cell? ⟨g17, 0, none⟩ = some (.string a17) ∧ W.cell? ⟨g17, 1, none⟩ = some (.string b17) ∧ W.cell? ⟨g15, 0, none⟩ = some (.string a15) ∧ W.cell? ⟨g15, 1, none⟩ = some (.string b15) ∧ W.cell? ⟨g13, 0, none⟩ = some (.string a13) ∧ W.cell? ⟨g13, 1, none⟩ = some (.string b13) ∧ W.cell? ⟨g9, 0, none⟩ = some (.string a9) ∧ W.cell? ⟨g9, 1, none⟩ = some (.string b9) ∧ W.cell? ⟨g7, 0, none⟩ = some (.string a7) ∧ W.cell? ⟨g7, 1, none⟩ = some (.string b7) ∧ W.cell? ⟨g3, 0, none⟩ = some (.string a3) ∧ W.cell? ⟨g3, 1, none⟩ = some (.string b3) ∧ W.cell? ⟨g1, 0, none⟩ = some (.string a1) ∧ W.cell? ⟨g1, 1, none⟩ = some (.string b1) := by
  have m := h.tail
  have h17 := m.head
  have h15 := m.tail.head
  have h13 := m.tail.tail.head
  have m9 := m.tail.tail.tail.tail
  have h9 := m9.head
  have h7 := m9.tail.head
  have h3 := m9.tail.tail.tail.head
  have h1 := m9.tail.tail.tail.tail.head
  exact ⟨h17.c0, h17.c1, h15.c0, h15.c1, h13.c0, h13.c1, h9.c0, h9.c1, h7.c0, h7.c1, h3.c0, h3.c1, h1.c0, h1.c1⟩

set_option maxRecDepth 100000 in
set_option maxHeartbeats 1000000 in
theorem is_any (a b : ByteArray) (w : World) : Calls Tryz.prog 41 #[.string a, .string b] w fun e w' => e = .returned (.agg #[.string a, .string b]) ∧ Below w.heap.size w w' := by
  go_enter Tryz.func41, Tryz.ntmps41
  go_wp2_with fail
  exact bodyPost_ret (results_cell_row rfl _ _ w.heap.size 23 #[.string a, .string b] _ _ rfl (IsB.new w a b) Tryz.underlying23 rfl (by kernel_rfl)) rfl ⟨rfl, (Below.refl _ w).alloc (Nat.le_refl _) _⟩

set_option maxRecDepth 100000 in
set_option maxHeartbeats 16000000 in
theorem qsane_any (w : World) (ht : TabP w) :
    Calls Tryz.prog 11 #[] w fun e w' => e = .returned (.bool true) ∧ Below w.heap.size w w' := by
  have HN := Lib.hid (St.start ht)
  have HI := Lib.hid is_any
  have HO1 := Lib.hid q_of1
  have HO2 := Lib.hid q_of2
  have HO3 := Lib.hid q_of3
  have HA := Lib.hid q_add
  have HD1 := Lib.hid q_div1
  have HD2 := Lib.hid q_div2
  have HDn := Lib.hid q_down
  have HUp := Lib.hid q_up
  have HP1 := Lib.hid q_parse1
  have HP2 := Lib.hid q_parse2
  have HPr := Lib.hid q_print
  have HC := Lib.hid q_cmp4
  have HV1 := Lib.hid q_val1
  have HV2 := Lib.hid q_val2
  unfold Answers noA at *
  simp only at HO1 HO2 HO3 HA HD1 HD2 HDn HUp HP1 HP2
  clear ht
  go_enter Tryz.func11, Tryz.ntmps11
  go_wp2_with (first
      | (go_at_call 41; (with_reducible refine (HI.out _ _ _).mono ?_); rintro e ww ⟨rfl, hB⟩; (first | have HN := Lib.hid (HN.out.step hB) | have HN := Lib.hid ((HN.out.add _ _).step hB)); clear hB)
      | (go_at_call 31; (with_reducible refine (HO1.out _ HN.out.tab).mono ?_); rintro e w1 ⟨rfl, hB⟩; have HN := Lib.hid (HN.out.step hB); clear hB)
      | (go_at_call 31; (with_reducible refine (HO1.out _ (HN.out.add _ _).tab).mono ?_); rintro e w1 ⟨rfl, hB⟩; have HN := Lib.hid ((HN.out.add _ _).step hB); clear hB)
      | (go_at_call 31; (with_reducible refine (HO2.out _ HN.out.tab).mono ?_); rintro e w2 ⟨rfl, hB⟩; have HN := Lib.hid (HN.out.step hB); clear hB)
      | (go_at_call 31; (with_reducible refine (HO2.out _ (HN.out.add _ _).tab).mono ?_); rintro e w2 ⟨rfl, hB⟩; have HN := Lib.hid ((HN.out.add _ _).step hB); clear hB)
      | (go_at_call 31; (with_reducible refine (HO3.out _ HN.out.tab).mono ?_); rintro e w3 ⟨rfl, hB⟩; have HN := Lib.hid (HN.out.step hB); clear hB)
      | (go_at_call 31; (with_reducible refine (HO3.out _ (HN.out.add _ _).tab).mono ?_); rintro e w3 ⟨rfl, hB⟩; have HN := Lib.hid ((HN.out.add _ _).step hB); clear hB)
      | (go_at_call 38; (with_reducible refine (HA.out _ HN.out.tab).mono ?_); rintro e w4 ⟨rfl, hB⟩; have HN := Lib.hid (HN.out.step hB); clear hB)
      | (go_at_call 38; (with_reducible refine (HA.out _ (HN.out.add _ _).tab).mono ?_); rintro e w4 ⟨rfl, hB⟩; have HN := Lib.hid ((HN.out.add _ _).step hB); clear hB)
      | (go_at_call 45; (with_reducible refine (HD1.out _ HN.out.tab).mono ?_); rintro e w5 ⟨rfl, hB⟩; have HN := Lib.hid (HN.out.step hB); clear hB)
      | (go_at_call 45; (with_reducible refine (HD1.out _ (HN.out.add _ _).tab).mono ?_); rintro e w5 ⟨rfl, hB⟩; have HN := Lib.hid ((HN.out.add _ _).step hB); clear hB)
      | (go_at_call 23; (with_reducible refine (HDn.out _ HN.out.tab).mono ?_); rintro e w7 ⟨rfl, hB⟩; have HN := Lib.hid (HN.out.step hB); clear hB)
      | (go_at_call 23; (with_reducible refine (HDn.out _ (HN.out.add _ _).tab).mono ?_); rintro e w7 ⟨rfl, hB⟩; have HN := Lib.hid ((HN.out.add _ _).step hB); clear hB)
      | (go_at_call 25; (with_reducible refine (HUp.out _ HN.out.tab).mono ?_); rintro e w8 ⟨rfl, hB⟩; have HN := Lib.hid (HN.out.step hB); clear hB)
      | (go_at_call 25; (with_reducible refine (HUp.out _ (HN.out.add _ _).tab).mono ?_); rintro e w8 ⟨rfl, hB⟩; have HN := Lib.hid ((HN.out.add _ _).step hB); clear hB)
      | (go_at_call 34; (with_reducible refine (HP1.out _ HN.out.tab).mono ?_); rintro e w9 ⟨rfl, hB⟩; have HN := Lib.hid (HN.out.step hB); clear hB)
      | (go_at_call 34; (with_reducible refine (HP1.out _ (HN.out.add _ _).tab).mono ?_); rintro e w9 ⟨rfl, hB⟩; have HN := Lib.hid ((HN.out.add _ _).step hB); clear hB)
      | (go_at_call 34; (with_reducible refine (HP2.out _ HN.out.tab).mono ?_); rintro e w10 ⟨rfl, hB⟩; have HN := Lib.hid (HN.out.step hB); clear hB)
      | (go_at_call 34; (with_reducible refine (HP2.out _ (HN.out.add _ _).tab).mono ?_); rintro e w10 ⟨rfl, hB⟩; have HN := Lib.hid ((HN.out.add _ _).step hB); clear hB))
  refine wp_world fun W hW => ?_
  have HN := Lib.hid (HN.out.add ⟨#[45, 50]⟩ ⟨#[49]⟩)
  rw [← hW] at HN
  clear hW
  have hb := HN.out.tail.tail.tail.head
  have c0 := hb.c0
  have c1 := hb.c1
  clear hb
  go_region_held3 (fun w' => w'.cell? ⟨w2.heap.size, 0, none⟩ = some (.string ⟨#[48]⟩) ∧ w'.cell? ⟨w2.heap.size, 1, none⟩ = some (.string ⟨#[49]⟩)) (first | exact ⟨HN.out.tail.tail.tail.head.c0, HN.out.tail.tail.tail.head.c1⟩ | exact ⟨(HN.out.add _ _).tail.tail.tail.tail.head.c0, (HN.out.add _ _).tail.tail.tail.tail.head.c1⟩ | exact ⟨HN.out.tail.tail.tail.tail.head.c0, HN.out.tail.tail.tail.tail.head.c1⟩ | exact ⟨(HN.out.put HL.out _ _).tail.tail.tail.tail.head.c0, (HN.out.put HL.out _ _).tail.tail.tail.tail.head.c1⟩ | go_keep)
    (first
      | (go_at_call 41; (with_reducible refine (HI.out _ _ _).mono ?_); rintro e ww ⟨rfl, hB⟩; (first | have HN := Lib.hid (HN.out.step (below_undrew hB)) | (have HL := Lib.hid HN.out.lts; have HN := Lib.hid ((HN.out.add _ _).step (below_undrew hB)); have x0 := HN.out.head.f0; have x1 := HN.out.head.f1; have x2 := HN.out.head.c0; have x3 := HN.out.head.c1)); clear hB)
      | (go_at_call 45; (with_reducible refine (HD2.out _ HN.out.tab).mono ?_); rintro e w6 ⟨rfl, hB⟩; clear x0 x1 x2 x3; have HN := Lib.hid (HN.out.step hB); clear hB; have x0 := HN.out.head.f0; have x1 := HN.out.head.f1; have x2 := HN.out.head.c0; have x3 := HN.out.head.c1)
      | (go_at_call 45; have HL := Lib.hid HN.out.lts; (with_reducible refine (HD2.out _ (HN.out.add _ _).tab).mono ?_); rintro e w6 ⟨rfl, hB⟩; have HN := Lib.hid ((HN.out.add _ _).step hB); clear hB; have x0 := HN.out.head.f0; have x1 := HN.out.head.f1; have x2 := HN.out.head.c0; have x3 := HN.out.head.c1)
      | (go_at_call 45; (with_reducible refine (HD2.out _ HN.out.tab).mono ?_); rintro e w6 ⟨rfl, hB⟩; have HN := Lib.hid (HN.out.step hB); clear hB))
  all_goals first | have HN := Lib.hid (HN.out.put HL.out ⟨#[]⟩ ⟨#[]⟩) | have HN := Lib.hid (HN.out.add ⟨#[]⟩ ⟨#[]⟩)

  go_wp2_with (first
      | (go_at_call 41; (with_reducible refine (HI.out _ _ _).mono ?_); rintro e ww ⟨rfl, hB⟩; (first | have HN := Lib.hid (HN.out.step hB) | have HN := Lib.hid ((HN.out.add _ _).step hB)); clear hB)
      | (go_at_call 31; (with_reducible refine (HO1.out _ HN.out.tab).mono ?_); rintro e w1 ⟨rfl, hB⟩; have HN := Lib.hid (HN.out.step hB); clear hB)
      | (go_at_call 31; (with_reducible refine (HO1.out _ (HN.out.add _ _).tab).mono ?_); rintro e w1 ⟨rfl, hB⟩; have HN := Lib.hid ((HN.out.add _ _).step hB); clear hB)
      | (go_at_call 31; (with_reducible refine (HO2.out _ HN.out.tab).mono ?_); rintro e w2 ⟨rfl, hB⟩; have HN := Lib.hid (HN.out.step hB); clear hB)
      | (go_at_call 31; (with_reducible refine (HO2.out _ (HN.out.add _ _).tab).mono ?_); rintro e w2 ⟨rfl, hB⟩; have HN := Lib.hid ((HN.out.add _ _).step hB); clear hB)
      | (go_at_call 31; (with_reducible refine (HO3.out _ HN.out.tab).mono ?_); rintro e w3 ⟨rfl, hB⟩; have HN := Lib.hid (HN.out.step hB); clear hB)
      | (go_at_call 31; (with_reducible refine (HO3.out _ (HN.out.add _ _).tab).mono ?_); rintro e w3 ⟨rfl, hB⟩; have HN := Lib.hid ((HN.out.add _ _).step hB); clear hB)
      | (go_at_call 38; (with_reducible refine (HA.out _ HN.out.tab).mono ?_); rintro e w4 ⟨rfl, hB⟩; have HN := Lib.hid (HN.out.step hB); clear hB)
      | (go_at_call 38; (with_reducible refine (HA.out _ (HN.out.add _ _).tab).mono ?_); rintro e w4 ⟨rfl, hB⟩; have HN := Lib.hid ((HN.out.add _ _).step hB); clear hB)
      | (go_at_call 45; (with_reducible refine (HD1.out _ HN.out.tab).mono ?_); rintro e w5 ⟨rfl, hB⟩; have HN := Lib.hid (HN.out.step hB); clear hB)
      | (go_at_call 45; (with_reducible refine (HD1.out _ (HN.out.add _ _).tab).mono ?_); rintro e w5 ⟨rfl, hB⟩; have HN := Lib.hid ((HN.out.add _ _).step hB); clear hB)
      | (go_at_call 23; (with_reducible refine (HDn.out _ HN.out.tab).mono ?_); rintro e w7 ⟨rfl, hB⟩; have HN := Lib.hid (HN.out.step hB); clear hB)
      | (go_at_call 23; (with_reducible refine (HDn.out _ (HN.out.add _ _).tab).mono ?_); rintro e w7 ⟨rfl, hB⟩; have HN := Lib.hid ((HN.out.add _ _).step hB); clear hB)
      | (go_at_call 25; (with_reducible refine (HUp.out _ HN.out.tab).mono ?_); rintro e w8 ⟨rfl, hB⟩; have HN := Lib.hid (HN.out.step hB); clear hB)
      | (go_at_call 25; (with_reducible refine (HUp.out _ (HN.out.add _ _).tab).mono ?_); rintro e w8 ⟨rfl, hB⟩; have HN := Lib.hid ((HN.out.add _ _).step hB); clear hB)
      | (go_at_call 34; (with_reducible refine (HP1.out _ HN.out.tab).mono ?_); rintro e w9 ⟨rfl, hB⟩; have HN := Lib.hid (HN.out.step hB); clear hB)
      | (go_at_call 34; (with_reducible refine (HP1.out _ (HN.out.add _ _).tab).mono ?_); rintro e w9 ⟨rfl, hB⟩; have HN := Lib.hid ((HN.out.add _ _).step hB); clear hB)
      | (go_at_call 34; (with_reducible refine (HP2.out _ HN.out.tab).mono ?_); rintro e w10 ⟨rfl, hB⟩; have HN := Lib.hid (HN.out.step hB); clear hB)
      | (go_at_call 34; (with_reducible refine (HP2.out _ (HN.out.add _ _).tab).mono ?_); rintro e w10 ⟨rfl, hB⟩; have HN := Lib.hid ((HN.out.add _ _).step hB); clear hB))
  all_goals
    refine wp_world fun W hW => ?_
    have HN := Lib.hid (HN.out.add ⟨#[]⟩ ⟨#[]⟩)
    rw [← hW] at HN
    clear hW
    obtain ⟨k1, k2, k3, k4, k5, k6, k7, k8, k9, k10, k11, k12, k13, k14⟩ := HN.out.ten
    go_region_held3 (fun w' => w'.cell? ⟨w9.heap.size, 0, none⟩ = some (.string ⟨#[45, 51]⟩) ∧ w'.cell? ⟨w9.heap.size, 1, none⟩ = some (.string ⟨#[50]⟩) ∧ w'.cell? ⟨w8.heap.size, 0, none⟩ = some (.string ⟨#[49, 55]⟩) ∧ w'.cell? ⟨w8.heap.size, 1, none⟩ = some (.string ⟨#[53, 48]⟩) ∧ w'.cell? ⟨w7.heap.size, 0, none⟩ = some (.string ⟨#[45, 49, 55]⟩) ∧ w'.cell? ⟨w7.heap.size, 1, none⟩ = some (.string ⟨#[53, 48]⟩) ∧ w'.cell? ⟨w5.heap.size, 0, none⟩ = some (.string ⟨#[45, 50]⟩) ∧ w'.cell? ⟨w5.heap.size, 1, none⟩ = some (.string ⟨#[49]⟩) ∧ w'.cell? ⟨w4.heap.size, 0, none⟩ = some (.string ⟨#[53]⟩) ∧ w'.cell? ⟨w4.heap.size, 1, none⟩ = some (.string ⟨#[54]⟩) ∧ w'.cell? ⟨w2.heap.size, 0, none⟩ = some (.string ⟨#[48]⟩) ∧ w'.cell? ⟨w2.heap.size, 1, none⟩ = some (.string ⟨#[49]⟩) ∧ w'.cell? ⟨w1.heap.size, 0, none⟩ = some (.string ⟨#[45, 51]⟩) ∧ w'.cell? ⟨w1.heap.size, 1, none⟩ = some (.string ⟨#[50]⟩)) (first | exact HN.out.ten | go_keep)
      (first
        | (go_at_call 41; (with_reducible refine (HI.out _ _ _).mono ?_); rintro e ww ⟨rfl, hB⟩; (first | have HN := Lib.hid (HN.out.step hB) | have HN := Lib.hid (HN.out.step (below_undrew hB))); clear hB)
        | (go_at_call 33; (with_reducible refine (HPr.out _ HN.out.tab).mono ?_); rintro e ww ⟨rfl, hB⟩; (first | have HN := Lib.hid (HN.out.step hB) | have HN := Lib.hid (HN.out.step (below_undrew hB))); clear hB)
        | (go_at_call 20; (with_reducible refine (HC.out _ HN.out.tab).mono ?_); rintro e ww ⟨rfl, hB⟩; (first | have HN := Lib.hid (HN.out.step hB) | have HN := Lib.hid (HN.out.step (below_undrew hB))); clear hB)
        | (go_at_call 29; (with_reducible refine (HV1.out _ HN.out.tab).mono ?_); rintro e ww ⟨rfl, hB⟩; (first | have HN := Lib.hid (HN.out.step hB) | have HN := Lib.hid (HN.out.step (below_undrew hB))); clear hB)
        | (go_at_call 29; (with_reducible refine (HV2.out _ HN.out.tab).mono ?_); rintro e ww ⟨rfl, hB⟩; (first | have HN := Lib.hid (HN.out.step hB) | have HN := Lib.hid (HN.out.step (below_undrew hB))); clear hB))
    go_wp2_with fail
    go_ret
    exact ⟨rfl, HN.out.below⟩

end Go.Proofs.YtjkklgpbblkhaaaGreatDoor

/-
  Layer 4, the reference: the fractions of up to 100 digits that four integers determine.
-/
namespace Go.Proofs.YtjkklgpbblkhaaaGreatDoor
open Go.RowKit Bs Ig Qq

set_option maxRecDepth 100000 in
set_option maxHeartbeats 4000000 in
theorem rpick4_det (c : Int) (h0 : -9223372036854775808 ≤ c) (h1 : c ≤ 9223372036854775807) (m : Nat) (M : Int) (hM : M = (m : Int)) (hm : 0 < m) :
    ∃ k : Nat, k < m ∧ ∀ w, Calls Tryz.prog 46 #[.int .i64 c, .int .i64 M] w fun e w' => e = .returned (.int .i64 (k : Int)) ∧ w' = w := by
  subst hM
  have hm0 : ((m : Int) == 0) = false := beq_false_of_ne (by omega)
  have hm1 : decide ((m : Int) = 0) = false := decide_eq_false (by omega)
  rcases Int.lt_or_le c 0 with h | h
  · obtain ⟨d, he⟩ : ∃ d : Nat, -(c + 1) = (d : Int) := ⟨(-(c + 1)).toNat, by omega⟩
    have hd : decide (c < 0) = true := decide_eq_true h
    have ht : (d : Int).tmod (m : Int) = ((d % m : Nat) : Int) := (Int.ofNat_tmod d m).symm
    have hlt := Nat.mod_lt d hm
    obtain ⟨k, hk⟩ : ∃ k, d % m = k := ⟨_, rfl⟩
    rw [hk] at ht hlt
    clear hk
    refine ⟨k, hlt, fun w => ?_⟩
    go_enter Tryz.func46, Tryz.ntmps46
    go_wp2_with fail
    go_ret
    exact ⟨rfl, rfl⟩
  · obtain ⟨d, rfl⟩ : ∃ d : Nat, c = (d : Int) := ⟨c.toNat, by omega⟩
    have ht : (d : Int).tmod (m : Int) = ((d % m : Nat) : Int) := (Int.ofNat_tmod d m).symm
    have hlt := Nat.mod_lt d hm
    obtain ⟨k, hk⟩ : ∃ k, d % m = k := ⟨_, rfl⟩
    rw [hk] at ht hlt
    clear hk h
    refine ⟨k, hlt, fun w => ?_⟩
    go_enter Tryz.func46, Tryz.ntmps46
    go_wp2_with fail
    go_ret
    exact ⟨rfl, rfl⟩
theorem rpick4_any (c : Int) (h0 : -9223372036854775808 ≤ c) (h1 : c ≤ 9223372036854775807) (m : Nat) (M : Int) (hM : M = (m : Int)) (hm : 0 < m) (w : World) :
    Calls Tryz.prog 46 #[.int .i64 c, .int .i64 M] w fun e w' => ∃ k : Nat, k < m ∧ e = .returned (.int .i64 (k : Int)) ∧ w' = w := by
  obtain ⟨k, hk, h⟩ := rpick4_det c h0 h1 m M hM hm
  refine (h w).mono ?_
  rintro e w' ⟨h1, h2⟩
  exact ⟨k, hk, h1, h2⟩

def szOf : Value → Nat | .string s => s.size | _ => 0
/-- the boxes of the function: its four integers, its result, its two strings -/
structure Lst (w : World) (x0 x1 x2 x3 : Int) (A B : ByteArray) (W : World) : Prop where
  below : Below w.heap.size w W
  b4 : W.heap[w.heap.size]? = some (.cells #[.int .i64 x0, .int .i64 x1, .int .i64 x2, .int .i64 x3] 24 (0, 0))
  ra : IsB W (w.heap.size + 1) ⟨#[]⟩ ⟨#[]⟩
  ar : W.heap[w.heap.size + 1 + 1]? = some (.cells #[.string A, .string B] 64 (0, 0))
section
variable {w W W' : World} {x0 x1 x2 x3 : Int} {A B : ByteArray} (h : Lst w x0 x1 x2 x3 A B W)
include h
theorem Lst.lt : w.heap.size + 1 + 1 < W.heap.size := (Array.getElem?_eq_some_iff.1 h.ar).1
theorem Lst.step (hb : Below W.heap.size W W') : Lst w x0 x1 x2 x3 A B W' := by
  have := h.lt
  exact ⟨below_on h.below hb h.below.size, (hb.block _ (by omega)).trans h.b4, h.ra.later hb h.ra.lt, (hb.block _ (by omega)).trans h.ar⟩
theorem Lst.c0 : W.cell? ⟨w.heap.size, 0, none⟩ = some (.int .i64 x0) := by rw [cell_of_row _ _ 0 _ _ _ h.b4]; rfl
theorem Lst.c1 : W.cell? ⟨w.heap.size, 1, none⟩ = some (.int .i64 x1) := by rw [cell_of_row _ _ 1 _ _ _ h.b4]; rfl
theorem Lst.c2 : W.cell? ⟨w.heap.size, 2, none⟩ = some (.int .i64 x2) := by rw [cell_of_row _ _ 2 _ _ _ h.b4]; rfl
theorem Lst.c3 : W.cell? ⟨w.heap.size, 3, none⟩ = some (.int .i64 x3) := by rw [cell_of_row _ _ 3 _ _ _ h.b4]; rfl
theorem Lst.a0 : W.cell? ⟨w.heap.size + 1 + 1, 0, none⟩ = some (.string A) := by rw [cell_of_row _ _ 0 _ _ _ h.ar]; rfl
theorem Lst.a1 : W.cell? ⟨w.heap.size + 1 + 1, 1, none⟩ = some (.string B) := by rw [cell_of_row _ _ 1 _ _ _ h.ar]; rfl
theorem Lst.f0 : W.frozen? ⟨w.heap.size + 1 + 1, 0, none⟩ = false := frozen_of_row _ _ 0 _ _ h.ar
theorem Lst.f1 : W.frozen? ⟨w.heap.size + 1 + 1, 1, none⟩ = false := frozen_of_row _ _ 1 _ _ h.ar
theorem Lst.put0 (C : ByteArray) : Lst w x0 x1 x2 x3 C B (W.setCell ⟨w.heap.size + 1 + 1, 0, none⟩ (.string C)) :=
  ⟨h.below.setCell (p := ⟨w.heap.size + 1 + 1, 0, none⟩) (show w.heap.size ≤ w.heap.size + 1 + 1 by omega) _, (heap_setCell_other _ _ _ _ (by show w.heap.size ≠ w.heap.size + 1 + 1; omega)).trans h.b4,
    (heap_setCell_other _ _ _ _ (by show w.heap.size + 1 ≠ w.heap.size + 1 + 1; omega)).trans h.ra, heap_setCell_same _ _ 0 _ _ (.string C) h.ar⟩
theorem Lst.put1 (C : ByteArray) : Lst w x0 x1 x2 x3 A C (W.setCell ⟨w.heap.size + 1 + 1, 1, none⟩ (.string C)) :=
  ⟨h.below.setCell (p := ⟨w.heap.size + 1 + 1, 1, none⟩) (show w.heap.size ≤ w.heap.size + 1 + 1 by omega) _, (heap_setCell_other _ _ _ _ (by show w.heap.size ≠ w.heap.size + 1 + 1; omega)).trans h.b4,
    (heap_setCell_other _ _ _ _ (by show w.heap.size + 1 ≠ w.heap.size + 1 + 1; omega)).trans h.ra, heap_setCell_same _ _ 1 _ _ (.string C) h.ar⟩
end
theorem Lst.start (w : World) (x0 x1 x2 x3 : Int) : Lst w x0 x1 x2 x3 ⟨#[]⟩ ⟨#[]⟩ (((w.alloc (.cells #[.int .i64 x0, .int .i64 x1, .int .i64 x2, .int .i64 x3] 24)).alloc (.cells #[.string ⟨#[]⟩, .string ⟨#[]⟩] 23)).alloc (.cells #[.string ⟨#[]⟩, .string ⟨#[]⟩] 64)) := by
  refine ⟨(((Below.refl _ w).alloc (Nat.le_refl _) _).alloc (by simp) _).alloc (by simp; omega) _, ?_, ?_, ?_⟩
  · rw [heap_alloc_old _ _ (by simp; omega), heap_alloc_old _ _ (by simp)]; exact heap_alloc_new _ _
  · exact IsB.alloc (IsB.new' _ _ _ _ (by simp)) _
  · have h := heap_alloc_new ((w.alloc (.cells #[.int .i64 x0, .int .i64 x1, .int .i64 x2, .int .i64 x3] 24)).alloc (.cells #[.string ⟨#[]⟩, .string ⟨#[]⟩] 23)) (.cells #[.string ⟨#[]⟩, .string ⟨#[]⟩] 64)
    rw [show ((w.alloc (.cells #[.int .i64 x0, .int .i64 x1, .int .i64 x2, .int .i64 x3] 24)).alloc (.cells #[.string ⟨#[]⟩, .string ⟨#[]⟩] 23)).heap.size = w.heap.size + 1 + 1 by simp] at h
    exact h

/-- digits without zeros in front are a numeral -/
theorem digs_T {l : List UInt8} (h : ∀ c ∈ l, isDig c) (hl : l ≠ []) (h0 : l.length = 1 ∨ l.head? ≠ some 48) : bs l = T ((num l : Nat) : Int) := by
  unfold T
  rw [itoa_nat]
  congr 1
  match l, hl with
  | [c], _ =>
    have hc := h c (List.mem_cons_self ..)
    have e : num [c] = c.toNat - 48 := by show 0 * 10 + (c.toNat - 48) = _; omega
    rw [e, dec_small (by have := hc.2; omega)]
    congr 1
    exact (byte_ext (by rw [dig_toNat (by have := hc.2; omega)]; have := hc.1; omega)).symm
  | c :: d :: r, _ =>
    refine (dec_num _ h c (d :: r) rfl ?_).symm
    have hc := h c (List.mem_cons_self ..)
    rcases h0 with h0 | h0
    · simp at h0
    · have : c.toNat ≠ 48 := fun e => h0 (by rw [List.head?_cons, byte_ext (c := c) (d := 48) (by rw [e]; rfl)])
      have := hc.1
      omega

theorem T_neg {a : Nat} (h : 0 < a) : T (-(a : Int)) = ⟨#[45]⟩ ++ T (a : Int) := by
  unfold T
  rw [show (⟨#[45]⟩ : ByteArray) = bs [45] from rfl, bs_append, itoa_nat]
  congr 1
  unfold Lib.itoa
  rw [if_pos (by omega)]
  simp
theorem T_zero_no {z : Int} (h : z ≠ 0) : ((T z).toList == [48]) = false := by unfold T; rw [bs_toList]; exact itoa_zero z h
theorem T7 : (⟨#[55]⟩ : ByteArray) = T 7 := by
  unfold T; rw [show Lib.itoa 7 = [55] from by rw [show (7 : Int) = ((7 : Nat) : Int) from rfl, itoa_nat, dec_small (by omega)]; rfl]; rfl

end Go.Proofs.YtjkklgpbblkhaaaGreatDoor
