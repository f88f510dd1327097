/-
  Put together by program out of these texts, in this order: Qsn, Qsq, Rlg.
-/
import Derived.Test.YtjkklgpbblkhaaaGreatDoorZCaRTa17
import Derived.Test.YtjkklgpbblkhaaaGreatDoorZCaRTa18
import Derived.Test.YtjkklgpbblkhaaaGreatDoorZCaRTa11

/-
  Layer 4: what the laws' fixed examples answer.
-/
namespace Go.Proofs.YtjkklgpbblkhaaaGreatDoor
open Go.RowKit Bs Ig Qq

theorem T_m17 : T (-17) = ⟨#[45, 49, 55]⟩ := by unfold T; rw [show Lib.itoa (-17) = [45, 49, 55] from lit_neg [49, 55] 17 rfl (by decide) (by decide)]; rfl
theorem T_m5 : T (-5) = ⟨#[45, 53]⟩ := by unfold T; rw [show Lib.itoa (-5) = [45, 53] from lit_neg [53] 5 rfl (by decide) (by decide)]; rfl
theorem T_m4 : T (-4) = ⟨#[45, 52]⟩ := by unfold T; rw [show Lib.itoa (-4) = [45, 52] from lit_neg [52] 4 rfl (by decide) (by decide)]; rfl
theorem T_m3 : T (-3) = ⟨#[45, 51]⟩ := by unfold T; rw [show Lib.itoa (-3) = [45, 51] from lit_neg [51] 3 rfl (by decide) (by decide)]; rfl
theorem T_m2 : T (-2) = ⟨#[45, 50]⟩ := by unfold T; rw [show Lib.itoa (-2) = [45, 50] from lit_neg [50] 2 rfl (by decide) (by decide)]; rfl
theorem T_m1 : T (-1) = ⟨#[45, 49]⟩ := by unfold T; rw [show Lib.itoa (-1) = [45, 49] from lit_neg [49] 1 rfl (by decide) (by decide)]; rfl
theorem T_0 : T 0 = ⟨#[48]⟩ := T0
theorem T_1 : T 1 = ⟨#[49]⟩ := by unfold T; rw [show Lib.itoa 1 = [49] from lit_pos [49] 1 rfl (by decide) (by decide)]; rfl
theorem T_2 : T 2 = ⟨#[50]⟩ := by unfold T; rw [show Lib.itoa 2 = [50] from lit_pos [50] 2 rfl (by decide) (by decide)]; rfl
theorem T_3 : T 3 = ⟨#[51]⟩ := by unfold T; rw [show Lib.itoa 3 = [51] from lit_pos [51] 3 rfl (by decide) (by decide)]; rfl
theorem T_4 : T 4 = ⟨#[52]⟩ := by unfold T; rw [show Lib.itoa 4 = [52] from lit_pos [52] 4 rfl (by decide) (by decide)]; rfl
theorem T_5 : T 5 = ⟨#[53]⟩ := by unfold T; rw [show Lib.itoa 5 = [53] from lit_pos [53] 5 rfl (by decide) (by decide)]; rfl
theorem T_6 : T 6 = ⟨#[54]⟩ := by unfold T; rw [show Lib.itoa 6 = [54] from lit_pos [54] 6 rfl (by decide) (by decide)]; rfl
theorem T_17 : T 17 = ⟨#[49, 55]⟩ := by unfold T; rw [show Lib.itoa 17 = [49, 55] from lit_pos [49, 55] 17 rfl (by decide) (by decide)]; rfl
theorem T_50 : T 50 = ⟨#[53, 48]⟩ := by unfold T; rw [show Lib.itoa 50 = [53, 48] from lit_pos [53, 48] 50 rfl (by decide) (by decide)]; rfl
theorem T_33333 : T 33333 = ⟨#[51, 51, 51, 51, 51]⟩ := by unfold T; rw [show Lib.itoa 33333 = [51, 51, 51, 51, 51] from lit_pos [51, 51, 51, 51, 51] 33333 rfl (by decide) (by decide)]; rfl
theorem T_100000 : T 100000 = ⟨#[49, 48, 48, 48, 48, 48]⟩ := by unfold T; rw [show Lib.itoa 100000 = [49, 48, 48, 48, 48, 48] from lit_pos [49, 48, 48, 48, 48, 48] 100000 rfl (by decide) (by decide)]; rfl
theorem lt_bigQ (z : Int) (h : z.natAbs < 10000000000) : z.natAbs < big := Nat.lt_of_lt_of_le h big5_4
/-- a fraction of small numbers -/
theorem small_FV (n d : Int) (h1 : 0 < d) (h2 : Int.gcd n d = 1) (h3 : n.natAbs < 10000000000) (h4 : d.natAbs < 10000000000) : FV (n, d) := ⟨⟨h1, h2⟩, lt_bigQ n h3, lt_bigQ d h4⟩
theorem qcompare {p q : Int × Int} (hp : FV p) (hq : FV q) (w : World) (ht : TabP w) :
    Calls Tryz.prog 20 #[.agg #[.string (T p.1), .string (T p.2)], .agg #[.string (T q.1), .string (T q.2)]] w fun e w' => e = .returned (.int .i64 (cmpF p q)) ∧ Below w.heap.size w w' :=
  compare_x _ _ _ _ p q w ht (validB_T hp) (validB_T hq) _ fun _ r0 r1 hb => ⟨hp.pos, hq.pos, hp.b1, hp.b2, hq.b1, hq.b2, rfl, r0, r1, hb⟩

theorem q_of1 (w : World) (ht : TabP w) : Answers 31 #[.int .i64 6, .int .i64 (-4)] (⟨#[45, 51]⟩, ⟨#[50]⟩, 0) w := by
  have h := qOf_any 6 (-4) (by omega) (by omega) (by omega) (by omega) w ht
  rw [show makeQ (bs (Lib.itoa 6)) (bs (Lib.itoa (-4))) = okA (red 6 (-4)) from buildS_ok ((runS_ok (reduceS_T (lt_bigQ 6 (by decide)) (lt_bigQ (-4) (by decide)) (by decide))).trans rfl)] at h
  unfold okA at h
  rw [show red 6 (-4) = (-3, 2) by decide] at h
  simp only [T_m3, T_2] at h
  exact h
theorem q_of2 (w : World) (ht : TabP w) : Answers 31 #[.int .i64 0, .int .i64 (-5)] (⟨#[48]⟩, ⟨#[49]⟩, 0) w := by
  have h := qOf_any 0 (-5) (by omega) (by omega) (by omega) (by omega) w ht
  rw [show makeQ (bs (Lib.itoa 0)) (bs (Lib.itoa (-5))) = okA (red 0 (-5)) from buildS_ok ((runS_ok (reduceS_T (lt_bigQ 0 (by decide)) (lt_bigQ (-5) (by decide)) (by decide))).trans rfl)] at h
  unfold okA at h
  rw [show red 0 (-5) = (0, 1) by decide] at h
  simp only [T_0, T_1] at h
  exact h
theorem q_of3 (w : World) (ht : TabP w) : Answers 31 #[.int .i64 1, .int .i64 0] noA w := by
  have h := qOf_any 1 0 (by omega) (by omega) (by omega) (by omega) w ht
  rw [show makeQ (bs (Lib.itoa 1)) (bs (Lib.itoa 0)) = noA from buildS_no (runS_err (reduceS_0 _) (by decide)) (by decide)] at h
  exact h
theorem q_add (w : World) (ht : TabP w) : Answers 38 #[.agg #[.string ⟨#[49]⟩, .string ⟨#[50]⟩], .agg #[.string ⟨#[49]⟩, .string ⟨#[51]⟩]] (⟨#[53]⟩, ⟨#[54]⟩, 0) w := by
  have hp := small_FV (1) 2 (by decide) (by decide) (by decide) (by decide)
  have hq := small_FV (1) 3 (by decide) (by decide) (by decide) (by decide)
  have h := qAdd_any (T (1)) (T 2) (T (1)) (T 3) w ht
  rw [show addQ (T (1)) (T 2) (T (1)) (T 3) = okA (plus (1, 2) (1, 3)) from addQ_ok (p := (1, 2)) (q := (1, 3)) hp hq (lt_bigQ _ (by decide)) (lt_bigQ _ (by decide)) (lt_bigQ _ (by decide)) (lt_bigQ _ (by decide))] at h
  unfold okA at h
  rw [show plus (1, 2) (1, 3) = (5, 6) by decide] at h
  simp only [T_1, T_2, T_3, T_5, T_6] at h
  exact h
theorem q_div1 (w : World) (ht : TabP w) : Answers 45 #[.agg #[.string ⟨#[49]⟩, .string ⟨#[50]⟩], .agg #[.string ⟨#[45, 49]⟩, .string ⟨#[52]⟩]] (⟨#[45, 50]⟩, ⟨#[49]⟩, 0) w := by
  have hp := small_FV (1) 2 (by decide) (by decide) (by decide) (by decide)
  have hq := small_FV (-1) 4 (by decide) (by decide) (by decide) (by decide)
  have h := qDiv_any (T (1)) (T 2) (T (-1)) (T 4) w ht
  rw [show divQ (T (1)) (T 2) (T (-1)) (T 4) = okA (over (1, 2) (-1, 4)) from divQ_ok (p := (1, 2)) (q := (-1, 4)) hp hq (by decide) (lt_bigQ _ (by decide)) (lt_bigQ _ (by decide))] at h
  unfold okA at h
  rw [show over (1, 2) (-1, 4) = (-2, 1) by decide] at h
  simp only [T_1, T_2, T_4, T_m1, T_m2] at h
  exact h
theorem q_div2 (w : World) (ht : TabP w) : Answers 45 #[.agg #[.string ⟨#[49]⟩, .string ⟨#[49]⟩], .agg #[.string ⟨#[48]⟩, .string ⟨#[49]⟩]] noA w := by
  have hp := small_FV (1) 1 (by decide) (by decide) (by decide) (by decide)
  have hq := small_FV (0) 1 (by decide) (by decide) (by decide) (by decide)
  have h := qDiv_any (T (1)) (T 1) (T (0)) (T 1) w ht
  rw [show divQ (T (1)) (T 1) (T (0)) (T 1) = noA from divQ_no (p := (1, 1)) (q := (0, 1)) hp hq (by simp)] at h
  simp only [T_0, T_1] at h
  exact h
theorem q_down (w : World) (ht : TabP w) : Answers 23 #[.agg #[.string ⟨#[45, 49]⟩, .string ⟨#[51]⟩], .int .i64 2] (⟨#[45, 49, 55]⟩, ⟨#[53, 48]⟩, 0) w := by
  have hp := small_FV (-1) 3 (by decide) (by decide) (by decide) (by decide)
  have h := qDown_any (T (-1)) (T 3) 2 w ht
  rw [show downQ (T (-1)) (T 3) 2 = okA (red (-34) 100) from (if_pos (by decide)).trans (roundQ_ok (p := (-1, 3)) hp (m := 2) (t := 100) (tq_T 2) (by decide) (lt_bigQ _ (by decide)) (lt_bigQ _ (by decide)) (floorS_T (lt_bigQ _ (by decide)) hp.b2 (by decide)) (lt_bigQ _ (by decide)))] at h
  unfold okA at h
  rw [show red (-34) 100 = (-17, 50) by decide] at h
  simp only [T_3, T_50, T_m1, T_m17] at h
  exact h
theorem q_up (w : World) (ht : TabP w) : Answers 25 #[.agg #[.string ⟨#[49]⟩, .string ⟨#[51]⟩], .int .i64 2] (⟨#[49, 55]⟩, ⟨#[53, 48]⟩, 0) w := by
  have hp := small_FV (1) 3 (by decide) (by decide) (by decide) (by decide)
  have h := qUp_any (T (1)) (T 3) 2 w ht
  rw [show upQ (T (1)) (T 3) 2 = okA (red (34) 100) from (if_pos (by decide)).trans (roundQ_ok (p := (1, 3)) hp (m := 2) (t := 100) (tq_T 2) (by decide) (lt_bigQ _ (by decide)) (lt_bigQ _ (by decide)) ((ceilS_T (lt_bigQ _ (by decide)) hp.b2 (by decide)).trans (wrS_ok (lt_bigQ _ (by decide)))) (lt_bigQ _ (by decide)))] at h
  unfold okA at h
  rw [show red (34) 100 = (17, 50) by decide] at h
  simp only [T_1, T_17, T_3, T_50] at h
  exact h
theorem val_s1 : validB ⟨#[45, 51]⟩ ⟨#[50]⟩ = true := by
  have h := validB_T (small_FV (-3) 2 (by decide) (by decide) (by decide) (by decide))
  simp only [T_m3, T_2] at h
  exact h
theorem val_s2 : validB ⟨#[54]⟩ ⟨#[52]⟩ = false := by
  unfold validB
  rw [← T_6, ← T_4, gcdS_T (lt_bigQ 6 (by decide)) (lt_bigQ 4 (by decide)), T_eq1]
  rfl
theorem val_s3 : validB ⟨#[]⟩ ⟨#[]⟩ = false := by
  unfold validB gcdS onS
  rw [show rd ⟨#[]⟩ = none from rd_no no_e]
  rfl
theorem pr_s1 : printQ ⟨#[45, 51]⟩ ⟨#[50]⟩ = ⟨#[45, 51, 47, 50]⟩ := by
  unfold printQ
  rw [if_pos val_s1, if_neg (by rw [show (⟨#[50]⟩ : ByteArray) = bs [50] from rfl, bs_toList]; decide)]
  rfl
theorem q_parse1 (w : World) (ht : TabP w) : Answers 34 #[.string ⟨#[45, 51, 47, 50]⟩] (⟨#[45, 51]⟩, ⟨#[50]⟩, 0) w := by
  have h := parse_any4 ⟨#[45, 51, 47, 50]⟩ (by decide) w ht
  have e : splitQ ⟨#[45, 51, 47, 50]⟩ = (⟨#[45, 51]⟩, ⟨#[50]⟩) := by decide +kernel
  rw [show parseQ ⟨#[45, 51, 47, 50]⟩ = (⟨#[45, 51]⟩, ⟨#[50]⟩, 0) from by unfold parseQ; rw [e]; exact (if_pos val_s1).trans (if_pos (by rw [pr_s1]; exact beq_self_eq_true _))] at h
  exact h
theorem q_parse2 (w : World) (ht : TabP w) : Answers 34 #[.string ⟨#[54, 47, 52]⟩] noA w := by
  have h := parse_any4 ⟨#[54, 47, 52]⟩ (by decide) w ht
  have e : splitQ ⟨#[54, 47, 52]⟩ = (⟨#[54]⟩, ⟨#[52]⟩) := by decide +kernel
  rw [show parseQ ⟨#[54, 47, 52]⟩ = noA from by unfold parseQ; rw [e]; exact if_neg (by rw [val_s2]; decide)] at h
  exact h
theorem q_print (w : World) (ht : TabP w) : Calls Tryz.prog 33 #[.agg #[.string ⟨#[45, 51]⟩, .string ⟨#[50]⟩]] w fun e w' => e = .returned (.string ⟨#[45, 51, 47, 50]⟩) ∧ Below w.heap.size w w' := by
  have h := qPrint_any ⟨#[45, 51]⟩ ⟨#[50]⟩ (by decide) (by decide) w ht
  rw [pr_s1] at h
  exact h
theorem q_cmp4 (w : World) (ht : TabP w) : Calls Tryz.prog 20 #[.agg #[.string ⟨#[49]⟩, .string ⟨#[51]⟩], .agg #[.string ⟨#[51, 51, 51, 51, 51]⟩, .string ⟨#[49, 48, 48, 48, 48, 48]⟩]] w fun e w' => e = .returned (.int .i64 1) ∧ Below w.heap.size w w' := by
  have h := qcompare (small_FV 1 3 (by decide) (by decide) (by decide) (by decide)) (small_FV 33333 100000 (by decide) (by decide) (by decide) (by decide)) w ht
  rw [show cmpF (1, 3) (33333, 100000) = 1 by decide] at h
  simp only [T_1, T_3, T_33333, T_100000] at h
  exact h
theorem q_val1 (w : World) (ht : TabP w) : Calls Tryz.prog 29 #[.agg #[.string ⟨#[45, 51]⟩, .string ⟨#[50]⟩]] w fun e w' => e = .returned (.bool true) ∧ Below w.heap.size w w' := by
  have h := qValid_any ⟨#[45, 51]⟩ ⟨#[50]⟩ w ht
  rw [val_s1] at h
  exact h
theorem q_val2 (w : World) (ht : TabP w) : Calls Tryz.prog 29 #[.agg #[.string ⟨#[]⟩, .string ⟨#[]⟩]] w fun e w' => e = .returned (.bool false) ∧ Below w.heap.size w w' := by
  have h := qValid_any ⟨#[]⟩ ⟨#[]⟩ w ht
  rw [val_s3] at h
  exact h

end Go.Proofs.YtjkklgpbblkhaaaGreatDoor

/-
  Layer 4: the laws' fixed examples hold.
-/
namespace Go.Proofs.YtjkklgpbblkhaaaGreatDoor
open Go.RowKit Bs Ig Qq

/-- where a law stands: what was there is as it was, the table lies where it lay, and boxes hold what they held -/
structure St (w W : World) (L : List (Nat × ByteArray × ByteArray)) : Prop where
  below : Below w.heap.size w W
  tab0 : TabP w
  box : ∀ x ∈ L, IsB W x.1 x.2.1 x.2.2
theorem St.tab {w W : World} {L} (h : St w W L) : TabP W := h.tab0.later h.below
theorem St.start {w : World} (h : TabP w) : St w w [] := ⟨Below.refl _ _, h, fun _ hx => (by cases hx)⟩
theorem St.step {w W W' : World} {L} (h : St w W L) (hb : Below W.heap.size W W') : St w W' L := ⟨below_on h.below hb h.below.size, h.tab0, fun x hx => (h.box x hx).later hb (h.box x hx).lt⟩
theorem St.add {w W : World} {L} (h : St w W L) (N D : ByteArray) : St w (W.alloc (.cells #[.string N, .string D] 23)) ((W.heap.size, N, D) :: L) := by
  have hb := (Below.refl _ W).alloc (Nat.le_refl _) (.cells #[.string N, .string D] 23)
  refine ⟨(h.step hb).below, h.tab0, fun x hx => ?_⟩
  rcases List.mem_cons.1 hx with rfl | hx
  · exact IsB.new W N D
  · exact (h.step hb).box x hx
theorem St.head {w W : World} {L} {g : Nat} {N D : ByteArray} (h : St w W ((g, N, D) :: L)) : IsB W g N D := h.box (g, N, D) (List.mem_cons_self ..)
theorem St.tail {w W : World} {L} {x} (h : St w W (x :: L)) : St w W L := ⟨h.below, h.tab0, fun y hy => h.box y (List.mem_cons_of_mem _ hy)⟩

theorem St.lts {w W : World} {L} (h : St w W L) : w.heap.size ≤ W.heap.size ∧ ∀ x ∈ L, x.1 < W.heap.size := ⟨h.below.size, fun x hx => (h.box x hx).lt⟩
theorem St.put {w W : World} {L} {g : Nat} {a b : ByteArray} (h : St w W ((g, a, b) :: L)) (hg : w.heap.size ≤ g ∧ ∀ x ∈ L, x.1 < g) (N D : ByteArray) : St w ((W.setCell ⟨g, 0, none⟩ (.string N)).setCell ⟨g, 1, none⟩ (.string D)) ((g, N, D) :: L) := by
  refine ⟨fin1 h.head h.below hg.1 N D, h.tab0, fun x hx => ?_⟩
  · rcases List.mem_cons.1 hx with rfl | hx
    · exact two_strs h.head N D
    · exact far_strs (h.box x (List.mem_cons_of_mem _ hx)) (by have := hg.2 x hx; omega) N D

theorem St.ten {w W : World} {x19 x11 x5 : Nat × ByteArray × ByteArray} {g17 : Nat} {a17 b17 : ByteArray} {g15 : Nat} {a15 b15 : ByteArray} {g13 : Nat} {a13 b13 : ByteArray} {g9 : Nat} {a9 b9 : ByteArray} {g7 : Nat} {a7 b7 : ByteArray} {g3 : Nat} {a3 b3 : ByteArray} {g1 : Nat} {a1 b1 : ByteArray} (h : St w W [x19, (g17, a17, b17), (g15, a15, b15), (g13, a13, b13), x11, (g9, a9, b9), (g7, a7, b7), x5, (g3, a3, b3), (g1, a1, b1)]) :
    W.cell? ⟨g17, 0, none⟩ = some (.string a17) ∧ W.cell? ⟨g17, 1, none⟩ = some (.string b17) ∧ W.cell? ⟨g15, 0, none⟩ = some (.string a15) ∧ W.cell? ⟨g15, 1, none⟩ = some (.string b15) ∧ W.cell? ⟨g13, 0, none⟩ = some (.string a13) ∧ W.cell? ⟨g13, 1, none⟩ = some (.string b13) ∧ W.cell? ⟨g9, 0, none⟩ = some (.string a9) ∧ W.cell? ⟨g9, 1, none⟩ = some (.string b9) ∧ W.cell? ⟨g7, 0, none⟩ = some (.string a7) ∧ W.cell? ⟨g7, 1, none⟩ = some (.string b7) ∧ W.cell? ⟨g3, 0, none⟩ = some (.string a3) ∧ W.cell? ⟨g3, 1, none⟩ = some (.string b3) ∧ W.cell? ⟨g1, 0, none⟩ = some (.string a1) ∧ W.cell? ⟨g1, 1, none⟩ = some (.string b1) := by
  have m := h.tail
  have h17 := m.head
  have h15 := m.tail.head
  have h13 := m.tail.tail.head
  have m9 := m.tail.tail.tail.tail
  have h9 := m9.head
  have h7 := m9.tail.head
  have h3 := m9.tail.tail.tail.head
  have h1 := m9.tail.tail.tail.tail.head
  exact ⟨h17.c0, h17.c1, h15.c0, h15.c1, h13.c0, h13.c1, h9.c0, h9.c1, h7.c0, h7.c1, h3.c0, h3.c1, h1.c0, h1.c1⟩

set_option maxRecDepth 100000 in
set_option maxHeartbeats 1000000 in
theorem is_any (a b : ByteArray) (w : World) : Calls Tryz.prog 41 #[.string a, .string b] w fun e w' => e = .returned (.agg #[.string a, .string b]) ∧ Below w.heap.size w w' := by
  go_enter Tryz.func41, Tryz.ntmps41
  go_wp2_with fail
  exact bodyPost_ret (results_cell_row rfl _ _ w.heap.size 23 #[.string a, .string b] _ _ rfl (IsB.new w a b) Tryz.underlying23 rfl (by kernel_rfl)) rfl ⟨rfl, (Below.refl _ w).alloc (Nat.le_refl _) _⟩

set_option maxRecDepth 100000 in
set_option maxHeartbeats 16000000 in
theorem qsane_any (w : World) (ht : TabP w) :
    Calls Tryz.prog 11 #[] w fun e w' => e = .returned (.bool true) ∧ Below w.heap.size w w' := by
  have HN := Lib.hid (St.start ht)
  have HI := Lib.hid is_any
  have HO1 := Lib.hid q_of1
  have HO2 := Lib.hid q_of2
  have HO3 := Lib.hid q_of3
  have HA := Lib.hid q_add
  have HD1 := Lib.hid q_div1
  have HD2 := Lib.hid q_div2
  have HDn := Lib.hid q_down
  have HUp := Lib.hid q_up
  have HP1 := Lib.hid q_parse1
  have HP2 := Lib.hid q_parse2
  have HPr := Lib.hid q_print
  have HC := Lib.hid q_cmp4
  have HV1 := Lib.hid q_val1
  have HV2 := Lib.hid q_val2
  unfold Answers noA at *
  simp only at HO1 HO2 HO3 HA HD1 HD2 HDn HUp HP1 HP2
  clear ht
  go_enter Tryz.func11, Tryz.ntmps11
  go_wp2_with (first
      | (go_at_call 41; (with_reducible refine (HI.out _ _ _).mono ?_); rintro e ww ⟨rfl, hB⟩; (first | have HN := Lib.hid (HN.out.step hB) | have HN := Lib.hid ((HN.out.add _ _).step hB)); clear hB)
      | (go_at_call 31; (with_reducible refine (HO1.out _ HN.out.tab).mono ?_); rintro e w1 ⟨rfl, hB⟩; have HN := Lib.hid (HN.out.step hB); clear hB)
      | (go_at_call 31; (with_reducible refine (HO1.out _ (HN.out.add _ _).tab).mono ?_); rintro e w1 ⟨rfl, hB⟩; have HN := Lib.hid ((HN.out.add _ _).step hB); clear hB)
      | (go_at_call 31; (with_reducible refine (HO2.out _ HN.out.tab).mono ?_); rintro e w2 ⟨rfl, hB⟩; have HN := Lib.hid (HN.out.step hB); clear hB)
      | (go_at_call 31; (with_reducible refine (HO2.out _ (HN.out.add _ _).tab).mono ?_); rintro e w2 ⟨rfl, hB⟩; have HN := Lib.hid ((HN.out.add _ _).step hB); clear hB)
      | (go_at_call 31; (with_reducible refine (HO3.out _ HN.out.tab).mono ?_); rintro e w3 ⟨rfl, hB⟩; have HN := Lib.hid (HN.out.step hB); clear hB)
      | (go_at_call 31; (with_reducible refine (HO3.out _ (HN.out.add _ _).tab).mono ?_); rintro e w3 ⟨rfl, hB⟩; have HN := Lib.hid ((HN.out.add _ _).step hB); clear hB)
      | (go_at_call 38; (with_reducible refine (HA.out _ HN.out.tab).mono ?_); rintro e w4 ⟨rfl, hB⟩; have HN := Lib.hid (HN.out.step hB); clear hB)
      | (go_at_call 38; (with_reducible refine (HA.out _ (HN.out.add _ _).tab).mono ?_); rintro e w4 ⟨rfl, hB⟩; have HN := Lib.hid ((HN.out.add _ _).step hB); clear hB)
      | (go_at_call 45; (with_reducible refine (HD1.out _ HN.out.tab).mono ?_); rintro e w5 ⟨rfl, hB⟩; have HN := Lib.hid (HN.out.step hB); clear hB)
      | (go_at_call 45; (with_reducible refine (HD1.out _ (HN.out.add _ _).tab).mono ?_); rintro e w5 ⟨rfl, hB⟩; have HN := Lib.hid ((HN.out.add _ _).step hB); clear hB)
      | (go_at_call 23; (with_reducible refine (HDn.out _ HN.out.tab).mono ?_); rintro e w7 ⟨rfl, hB⟩; have HN := Lib.hid (HN.out.step hB); clear hB)
      | (go_at_call 23; (with_reducible refine (HDn.out _ (HN.out.add _ _).tab).mono ?_); rintro e w7 ⟨rfl, hB⟩; have HN := Lib.hid ((HN.out.add _ _).step hB); clear hB)
      | (go_at_call 25; (with_reducible refine (HUp.out _ HN.out.tab).mono ?_); rintro e w8 ⟨rfl, hB⟩; have HN := Lib.hid (HN.out.step hB); clear hB)
      | (go_at_call 25; (with_reducible refine (HUp.out _ (HN.out.add _ _).tab).mono ?_); rintro e w8 ⟨rfl, hB⟩; have HN := Lib.hid ((HN.out.add _ _).step hB); clear hB)
      | (go_at_call 34; (with_reducible refine (HP1.out _ HN.out.tab).mono ?_); rintro e w9 ⟨rfl, hB⟩; have HN := Lib.hid (HN.out.step hB); clear hB)
      | (go_at_call 34; (with_reducible refine (HP1.out _ (HN.out.add _ _).tab).mono ?_); rintro e w9 ⟨rfl, hB⟩; have HN := Lib.hid ((HN.out.add _ _).step hB); clear hB)
      | (go_at_call 34; (with_reducible refine (HP2.out _ HN.out.tab).mono ?_); rintro e w10 ⟨rfl, hB⟩; have HN := Lib.hid (HN.out.step hB); clear hB)
      | (go_at_call 34; (with_reducible refine (HP2.out _ (HN.out.add _ _).tab).mono ?_); rintro e w10 ⟨rfl, hB⟩; have HN := Lib.hid ((HN.out.add _ _).step hB); clear hB))
  refine wp_world fun W hW => ?_
  have HN := Lib.hid (HN.out.add ⟨#[45, 50]⟩ ⟨#[49]⟩)
  rw [← hW] at HN
  clear hW
  have hb := HN.out.tail.tail.tail.head
  have c0 := hb.c0
  have c1 := hb.c1
  clear hb
  go_region_held3 (fun w' => w'.cell? ⟨w2.heap.size, 0, none⟩ = some (.string ⟨#[48]⟩) ∧ w'.cell? ⟨w2.heap.size, 1, none⟩ = some (.string ⟨#[49]⟩)) (first | exact ⟨HN.out.tail.tail.tail.head.c0, HN.out.tail.tail.tail.head.c1⟩ | exact ⟨(HN.out.add _ _).tail.tail.tail.tail.head.c0, (HN.out.add _ _).tail.tail.tail.tail.head.c1⟩ | exact ⟨HN.out.tail.tail.tail.tail.head.c0, HN.out.tail.tail.tail.tail.head.c1⟩ | exact ⟨(HN.out.put HL.out _ _).tail.tail.tail.tail.head.c0, (HN.out.put HL.out _ _).tail.tail.tail.tail.head.c1⟩ | go_keep)
    (first
      | (go_at_call 41; (with_reducible refine (HI.out _ _ _).mono ?_); rintro e ww ⟨rfl, hB⟩; (first | have HN := Lib.hid (HN.out.step (below_undrew hB)) | (have HL := Lib.hid HN.out.lts; have HN := Lib.hid ((HN.out.add _ _).step (below_undrew hB)); have x0 := HN.out.head.f0; have x1 := HN.out.head.f1; have x2 := HN.out.head.c0; have x3 := HN.out.head.c1)); clear hB)
      | (go_at_call 45; (with_reducible refine (HD2.out _ HN.out.tab).mono ?_); rintro e w6 ⟨rfl, hB⟩; clear x0 x1 x2 x3; have HN := Lib.hid (HN.out.step hB); clear hB; have x0 := HN.out.head.f0; have x1 := HN.out.head.f1; have x2 := HN.out.head.c0; have x3 := HN.out.head.c1)
      | (go_at_call 45; have HL := Lib.hid HN.out.lts; (with_reducible refine (HD2.out _ (HN.out.add _ _).tab).mono ?_); rintro e w6 ⟨rfl, hB⟩; have HN := Lib.hid ((HN.out.add _ _).step hB); clear hB; have x0 := HN.out.head.f0; have x1 := HN.out.head.f1; have x2 := HN.out.head.c0; have x3 := HN.out.head.c1)
      | (go_at_call 45; (with_reducible refine (HD2.out _ HN.out.tab).mono ?_); rintro e w6 ⟨rfl, hB⟩; have HN := Lib.hid (HN.out.step hB); clear hB))
  all_goals first | have HN := Lib.hid (HN.out.put HL.out ⟨#[]⟩ ⟨#[]⟩) | have HN := Lib.hid (HN.out.add ⟨#[]⟩ ⟨#[]⟩)

  go_wp2_with (first
      | (go_at_call 41; (with_reducible refine (HI.out _ _ _).mono ?_); rintro e ww ⟨rfl, hB⟩; (first | have HN := Lib.hid (HN.out.step hB) | have HN := Lib.hid ((HN.out.add _ _).step hB)); clear hB)
      | (go_at_call 31; (with_reducible refine (HO1.out _ HN.out.tab).mono ?_); rintro e w1 ⟨rfl, hB⟩; have HN := Lib.hid (HN.out.step hB); clear hB)
      | (go_at_call 31; (with_reducible refine (HO1.out _ (HN.out.add _ _).tab).mono ?_); rintro e w1 ⟨rfl, hB⟩; have HN := Lib.hid ((HN.out.add _ _).step hB); clear hB)
      | (go_at_call 31; (with_reducible refine (HO2.out _ HN.out.tab).mono ?_); rintro e w2 ⟨rfl, hB⟩; have HN := Lib.hid (HN.out.step hB); clear hB)
      | (go_at_call 31; (with_reducible refine (HO2.out _ (HN.out.add _ _).tab).mono ?_); rintro e w2 ⟨rfl, hB⟩; have HN := Lib.hid ((HN.out.add _ _).step hB); clear hB)
      | (go_at_call 31; (with_reducible refine (HO3.out _ HN.out.tab).mono ?_); rintro e w3 ⟨rfl, hB⟩; have HN := Lib.hid (HN.out.step hB); clear hB)
      | (go_at_call 31; (with_reducible refine (HO3.out _ (HN.out.add _ _).tab).mono ?_); rintro e w3 ⟨rfl, hB⟩; have HN := Lib.hid ((HN.out.add _ _).step hB); clear hB)
      | (go_at_call 38; (with_reducible refine (HA.out _ HN.out.tab).mono ?_); rintro e w4 ⟨rfl, hB⟩; have HN := Lib.hid (HN.out.step hB); clear hB)
      | (go_at_call 38; (with_reducible refine (HA.out _ (HN.out.add _ _).tab).mono ?_); rintro e w4 ⟨rfl, hB⟩; have HN := Lib.hid ((HN.out.add _ _).step hB); clear hB)
      | (go_at_call 45; (with_reducible refine (HD1.out _ HN.out.tab).mono ?_); rintro e w5 ⟨rfl, hB⟩; have HN := Lib.hid (HN.out.step hB); clear hB)
      | (go_at_call 45; (with_reducible refine (HD1.out _ (HN.out.add _ _).tab).mono ?_); rintro e w5 ⟨rfl, hB⟩; have HN := Lib.hid ((HN.out.add _ _).step hB); clear hB)
      | (go_at_call 23; (with_reducible refine (HDn.out _ HN.out.tab).mono ?_); rintro e w7 ⟨rfl, hB⟩; have HN := Lib.hid (HN.out.step hB); clear hB)
      | (go_at_call 23; (with_reducible refine (HDn.out _ (HN.out.add _ _).tab).mono ?_); rintro e w7 ⟨rfl, hB⟩; have HN := Lib.hid ((HN.out.add _ _).step hB); clear hB)
      | (go_at_call 25; (with_reducible refine (HUp.out _ HN.out.tab).mono ?_); rintro e w8 ⟨rfl, hB⟩; have HN := Lib.hid (HN.out.step hB); clear hB)
      | (go_at_call 25; (with_reducible refine (HUp.out _ (HN.out.add _ _).tab).mono ?_); rintro e w8 ⟨rfl, hB⟩; have HN := Lib.hid ((HN.out.add _ _).step hB); clear hB)
      | (go_at_call 34; (with_reducible refine (HP1.out _ HN.out.tab).mono ?_); rintro e w9 ⟨rfl, hB⟩; have HN := Lib.hid (HN.out.step hB); clear hB)
      | (go_at_call 34; (with_reducible refine (HP1.out _ (HN.out.add _ _).tab).mono ?_); rintro e w9 ⟨rfl, hB⟩; have HN := Lib.hid ((HN.out.add _ _).step hB); clear hB)
      | (go_at_call 34; (with_reducible refine (HP2.out _ HN.out.tab).mono ?_); rintro e w10 ⟨rfl, hB⟩; have HN := Lib.hid (HN.out.step hB); clear hB)
      | (go_at_call 34; (with_reducible refine (HP2.out _ (HN.out.add _ _).tab).mono ?_); rintro e w10 ⟨rfl, hB⟩; have HN := Lib.hid ((HN.out.add _ _).step hB); clear hB))
  all_goals
    refine wp_world fun W hW => ?_
    have HN := Lib.hid (HN.out.add ⟨#[]⟩ ⟨#[]⟩)
    rw [← hW] at HN
    clear hW
    obtain ⟨k1, k2, k3, k4, k5, k6, k7, k8, k9, k10, k11, k12, k13, k14⟩ := HN.out.ten
    go_region_held3 (fun w' => w'.cell? ⟨w9.heap.size, 0, none⟩ = some (.string ⟨#[45, 51]⟩) ∧ w'.cell? ⟨w9.heap.size, 1, none⟩ = some (.string ⟨#[50]⟩) ∧ w'.cell? ⟨w8.heap.size, 0, none⟩ = some (.string ⟨#[49, 55]⟩) ∧ w'.cell? ⟨w8.heap.size, 1, none⟩ = some (.string ⟨#[53, 48]⟩) ∧ w'.cell? ⟨w7.heap.size, 0, none⟩ = some (.string ⟨#[45, 49, 55]⟩) ∧ w'.cell? ⟨w7.heap.size, 1, none⟩ = some (.string ⟨#[53, 48]⟩) ∧ w'.cell? ⟨w5.heap.size, 0, none⟩ = some (.string ⟨#[45, 50]⟩) ∧ w'.cell? ⟨w5.heap.size, 1, none⟩ = some (.string ⟨#[49]⟩) ∧ w'.cell? ⟨w4.heap.size, 0, none⟩ = some (.string ⟨#[53]⟩) ∧ w'.cell? ⟨w4.heap.size, 1, none⟩ = some (.string ⟨#[54]⟩) ∧ w'.cell? ⟨w2.heap.size, 0, none⟩ = some (.string ⟨#[48]⟩) ∧ w'.cell? ⟨w2.heap.size, 1, none⟩ = some (.string ⟨#[49]⟩) ∧ w'.cell? ⟨w1.heap.size, 0, none⟩ = some (.string ⟨#[45, 51]⟩) ∧ w'.cell? ⟨w1.heap.size, 1, none⟩ = some (.string ⟨#[50]⟩)) (first | exact HN.out.ten | go_keep)
      (first
        | (go_at_call 41; (with_reducible refine (HI.out _ _ _).mono ?_); rintro e ww ⟨rfl, hB⟩; (first | have HN := Lib.hid (HN.out.step hB) | have HN := Lib.hid (HN.out.step (below_undrew hB))); clear hB)
        | (go_at_call 33; (with_reducible refine (HPr.out _ HN.out.tab).mono ?_); rintro e ww ⟨rfl, hB⟩; (first | have HN := Lib.hid (HN.out.step hB) | have HN := Lib.hid (HN.out.step (below_undrew hB))); clear hB)
        | (go_at_call 20; (with_reducible refine (HC.out _ HN.out.tab).mono ?_); rintro e ww ⟨rfl, hB⟩; (first | have HN := Lib.hid (HN.out.step hB) | have HN := Lib.hid (HN.out.step (below_undrew hB))); clear hB)
        | (go_at_call 29; (with_reducible refine (HV1.out _ HN.out.tab).mono ?_); rintro e ww ⟨rfl, hB⟩; (first | have HN := Lib.hid (HN.out.step hB) | have HN := Lib.hid (HN.out.step (below_undrew hB))); clear hB)
        | (go_at_call 29; (with_reducible refine (HV2.out _ HN.out.tab).mono ?_); rintro e ww ⟨rfl, hB⟩; (first | have HN := Lib.hid (HN.out.step hB) | have HN := Lib.hid (HN.out.step (below_undrew hB))); clear hB))
    go_wp2_with fail
    go_ret
    exact ⟨rfl, HN.out.below⟩

end Go.Proofs.YtjkklgpbblkhaaaGreatDoor

/-
  Layer 4, the reference: the fractions of up to 100 digits that four integers determine.
-/
namespace Go.Proofs.YtjkklgpbblkhaaaGreatDoor
open Go.RowKit Bs Ig Qq

set_option maxRecDepth 100000 in
set_option maxHeartbeats 4000000 in
theorem rpick4_det (c : Int) (h0 : -9223372036854775808 ≤ c) (h1 : c ≤ 9223372036854775807) (m : Nat) (M : Int) (hM : M = (m : Int)) (hm : 0 < m) :
    ∃ k : Nat, k < m ∧ ∀ w, Calls Tryz.prog 46 #[.int .i64 c, .int .i64 M] w fun e w' => e = .returned (.int .i64 (k : Int)) ∧ w' = w := by
  subst hM
  have hm0 : ((m : Int) == 0) = false := beq_false_of_ne (by omega)
  have hm1 : decide ((m : Int) = 0) = false := decide_eq_false (by omega)
  rcases Int.lt_or_le c 0 with h | h
  · obtain ⟨d, he⟩ : ∃ d : Nat, -(c + 1) = (d : Int) := ⟨(-(c + 1)).toNat, by omega⟩
    have hd : decide (c < 0) = true := decide_eq_true h
    have ht : (d : Int).tmod (m : Int) = ((d % m : Nat) : Int) := (Int.ofNat_tmod d m).symm
    have hlt := Nat.mod_lt d hm
    obtain ⟨k, hk⟩ : ∃ k, d % m = k := ⟨_, rfl⟩
    rw [hk] at ht hlt
    clear hk
    refine ⟨k, hlt, fun w => ?_⟩
    go_enter Tryz.func46, Tryz.ntmps46
    go_wp2_with fail
    go_ret
    exact ⟨rfl, rfl⟩
  · obtain ⟨d, rfl⟩ : ∃ d : Nat, c = (d : Int) := ⟨c.toNat, by omega⟩
    have ht : (d : Int).tmod (m : Int) = ((d % m : Nat) : Int) := (Int.ofNat_tmod d m).symm
    have hlt := Nat.mod_lt d hm
    obtain ⟨k, hk⟩ : ∃ k, d % m = k := ⟨_, rfl⟩
    rw [hk] at ht hlt
    clear hk h
    refine ⟨k, hlt, fun w => ?_⟩
    go_enter Tryz.func46, Tryz.ntmps46
    go_wp2_with fail
    go_ret
    exact ⟨rfl, rfl⟩
theorem rpick4_any (c : Int) (h0 : -9223372036854775808 ≤ c) (h1 : c ≤ 9223372036854775807) (m : Nat) (M : Int) (hM : M = (m : Int)) (hm : 0 < m) (w : World) :
    Calls Tryz.prog 46 #[.int .i64 c, .int .i64 M] w fun e w' => ∃ k : Nat, k < m ∧ e = .returned (.int .i64 (k : Int)) ∧ w' = w := by
  obtain ⟨k, hk, h⟩ := rpick4_det c h0 h1 m M hM hm
  refine (h w).mono ?_
  rintro e w' ⟨h1, h2⟩
  exact ⟨k, hk, h1, h2⟩

def szOf : Value → Nat | .string s => s.size | _ => 0
/-- the boxes of the function: its four integers, its result, its two strings -/
structure Lst (w : World) (x0 x1 x2 x3 : Int) (A B : ByteArray) (W : World) : Prop where
  below : Below w.heap.size w W
  b4 : W.heap[w.heap.size]? = some (.cells #[.int .i64 x0, .int .i64 x1, .int .i64 x2, .int .i64 x3] 24 (0, 0))
  ra : IsB W (w.heap.size + 1) ⟨#[]⟩ ⟨#[]⟩
  ar : W.heap[w.heap.size + 1 + 1]? = some (.cells #[.string A, .string B] 64 (0, 0))
section
variable {w W W' : World} {x0 x1 x2 x3 : Int} {A B : ByteArray} (h : Lst w x0 x1 x2 x3 A B W)
include h
theorem Lst.lt : w.heap.size + 1 + 1 < W.heap.size := (Array.getElem?_eq_some_iff.1 h.ar).1
theorem Lst.step (hb : Below W.heap.size W W') : Lst w x0 x1 x2 x3 A B W' := by
  have := h.lt
  exact ⟨below_on h.below hb h.below.size, (hb.block _ (by omega)).trans h.b4, h.ra.later hb h.ra.lt, (hb.block _ (by omega)).trans h.ar⟩
theorem Lst.c0 : W.cell? ⟨w.heap.size, 0, none⟩ = some (.int .i64 x0) := by rw [cell_of_row _ _ 0 _ _ _ h.b4]; rfl
theorem Lst.c1 : W.cell? ⟨w.heap.size, 1, none⟩ = some (.int .i64 x1) := by rw [cell_of_row _ _ 1 _ _ _ h.b4]; rfl
theorem Lst.c2 : W.cell? ⟨w.heap.size, 2, none⟩ = some (.int .i64 x2) := by rw [cell_of_row _ _ 2 _ _ _ h.b4]; rfl
theorem Lst.c3 : W.cell? ⟨w.heap.size, 3, none⟩ = some (.int .i64 x3) := by rw [cell_of_row _ _ 3 _ _ _ h.b4]; rfl
theorem Lst.a0 : W.cell? ⟨w.heap.size + 1 + 1, 0, none⟩ = some (.string A) := by rw [cell_of_row _ _ 0 _ _ _ h.ar]; rfl
theorem Lst.a1 : W.cell? ⟨w.heap.size + 1 + 1, 1, none⟩ = some (.string B) := by rw [cell_of_row _ _ 1 _ _ _ h.ar]; rfl
theorem Lst.f0 : W.frozen? ⟨w.heap.size + 1 + 1, 0, none⟩ = false := frozen_of_row _ _ 0 _ _ h.ar
theorem Lst.f1 : W.frozen? ⟨w.heap.size + 1 + 1, 1, none⟩ = false := frozen_of_row _ _ 1 _ _ h.ar
theorem Lst.put0 (C : ByteArray) : Lst w x0 x1 x2 x3 C B (W.setCell ⟨w.heap.size + 1 + 1, 0, none⟩ (.string C)) :=
  ⟨h.below.setCell (p := ⟨w.heap.size + 1 + 1, 0, none⟩) (show w.heap.size ≤ w.heap.size + 1 + 1 by omega) _, (heap_setCell_other _ _ _ _ (by show w.heap.size ≠ w.heap.size + 1 + 1; omega)).trans h.b4,
    (heap_setCell_other _ _ _ _ (by show w.heap.size + 1 ≠ w.heap.size + 1 + 1; omega)).trans h.ra, heap_setCell_same _ _ 0 _ _ (.string C) h.ar⟩
theorem Lst.put1 (C : ByteArray) : Lst w x0 x1 x2 x3 A C (W.setCell ⟨w.heap.size + 1 + 1, 1, none⟩ (.string C)) :=
  ⟨h.below.setCell (p := ⟨w.heap.size + 1 + 1, 1, none⟩) (show w.heap.size ≤ w.heap.size + 1 + 1 by omega) _, (heap_setCell_other _ _ _ _ (by show w.heap.size ≠ w.heap.size + 1 + 1; omega)).trans h.b4,
    (heap_setCell_other _ _ _ _ (by show w.heap.size + 1 ≠ w.heap.size + 1 + 1; omega)).trans h.ra, heap_setCell_same _ _ 1 _ _ (.string C) h.ar⟩
end
theorem Lst.start (w : World) (x0 x1 x2 x3 : Int) : Lst w x0 x1 x2 x3 ⟨#[]⟩ ⟨#[]⟩ (((w.alloc (.cells #[.int .i64 x0, .int .i64 x1, .int .i64 x2, .int .i64 x3] 24)).alloc (.cells #[.string ⟨#[]⟩, .string ⟨#[]⟩] 23)).alloc (.cells #[.string ⟨#[]⟩, .string ⟨#[]⟩] 64)) := by
  refine ⟨(((Below.refl _ w).alloc (Nat.le_refl _) _).alloc (by simp) _).alloc (by simp; omega) _, ?_, ?_, ?_⟩
  · rw [heap_alloc_old _ _ (by simp; omega), heap_alloc_old _ _ (by simp)]; exact heap_alloc_new _ _
  · exact IsB.alloc (IsB.new' _ _ _ _ (by simp)) _
  · have h := heap_alloc_new ((w.alloc (.cells #[.int .i64 x0, .int .i64 x1, .int .i64 x2, .int .i64 x3] 24)).alloc (.cells #[.string ⟨#[]⟩, .string ⟨#[]⟩] 23)) (.cells #[.string ⟨#[]⟩, .string ⟨#[]⟩] 64)
    rw [show ((w.alloc (.cells #[.int .i64 x0, .int .i64 x1, .int .i64 x2, .int .i64 x3] 24)).alloc (.cells #[.string ⟨#[]⟩, .string ⟨#[]⟩] 23)).heap.size = w.heap.size + 1 + 1 by simp] at h
    exact h

/-- digits without zeros in front are a numeral -/
theorem digs_T {l : List UInt8} (h : ∀ c ∈ l, isDig c) (hl : l ≠ []) (h0 : l.length = 1 ∨ l.head? ≠ some 48) : bs l = T ((num l : Nat) : Int) := by
  unfold T
  rw [itoa_nat]
  congr 1
  match l, hl with
  | [c], _ =>
    have hc := h c (List.mem_cons_self ..)
    have e : num [c] = c.toNat - 48 := by show 0 * 10 + (c.toNat - 48) = _; omega
    rw [e, dec_small (by have := hc.2; omega)]
    congr 1
    exact (byte_ext (by rw [dig_toNat (by have := hc.2; omega)]; have := hc.1; omega)).symm
  | c :: d :: r, _ =>
    refine (dec_num _ h c (d :: r) rfl ?_).symm
    have hc := h c (List.mem_cons_self ..)
    rcases h0 with h0 | h0
    · simp at h0
    · have : c.toNat ≠ 48 := fun e => h0 (by rw [List.head?_cons, byte_ext (c := c) (d := 48) (by rw [e]; rfl)])
      have := hc.1
      omega

theorem T_neg {a : Nat} (h : 0 < a) : T (-(a : Int)) = ⟨#[45]⟩ ++ T (a : Int) := by
  unfold T
  rw [show (⟨#[45]⟩ : ByteArray) = bs [45] from rfl, bs_append, itoa_nat]
  congr 1
  unfold Lib.itoa
  rw [if_pos (by omega)]
  simp
theorem T_zero_no {z : Int} (h : z ≠ 0) : ((T z).toList == [48]) = false := by unfold T; rw [bs_toList]; exact itoa_zero z h
theorem T7 : (⟨#[55]⟩ : ByteArray) = T 7 := by
  unfold T; rw [show Lib.itoa 7 = [55] from by rw [show (7 : Int) = ((7 : Nat) : Int) from rfl, itoa_nat, dec_small (by omega)]; rfl]; rfl

end Go.Proofs.YtjkklgpbblkhaaaGreatDoor
