/-
  Layer 3: the order of numbers in groups.
-/
import Derived.Test.YtieaelipgieaoaaDoorIgb
import Derived.Test.YtieaelipgieaoaaDoorShelf
namespace Go.Proofs.YtieaelipgieaoaaDoor
open Go.RowKit Bs Ig Go.Shelf
attribute [local go_sem] Oper.semAt_some

theorem wpIn_world {F : Fence} {n : Nat} {P : Program} {c : Code} {Q : Exit → Act → World → Prop} {a : Act} {W : World} (h : ∀ W', W' = W → Code.wpIn F n P c Q a W') : Code.wpIn F n P c Q a W := h W rfl
theorem back_yields (b : Nat) (a : Option Addr) (n c : Nat) (l : List Nat) (w : World) (hn : n ≤ 1000000) (hl : l.length = n) :
    Rfn.Yields Fence.wide (3 - 1) Tryd.prog 69 #[.pointer (some ⟨b, 0, none⟩)] bkEnc (BkN b a n c l) (bks l) w := by
  intro q J Jx W hW hN hY h0
  have := back1_in q b a n c l J Jx hn hl hN (fun k W hk hj => by
    have h1 := hY k (by rw [bks_length, hl]; exact hk) W hj
    rw [bks_get] at h1
    rw [hl] at h1
    exact h1) W h0
  rw [bks_length, hl]
  exact this
theorem keeps_below {W W' : World} (h : Below W.heap.size W W') : KeepsOthers W W' := ⟨h.size, fun k o hk _ => (h.block k (Array.getElem?_eq_some_iff.1 hk).1).trans hk⟩
theorem cmp_eq (n m : Nat) : Lib.compareInt (n : Int) (m : Int) = cmp n m := by
  unfold Lib.compareInt cmp
  split <;> split <;> (try rfl) <;> (try split) <;> (try rfl) <;> omega
theorem G_length_lt {x y : Nat} (h : (G x).length < (G y).length) : x < y := dgs_length_lt h

theorem results_cell1 {P : Program} {fn : Func} {p : Tmp} {ty : TypeId} (h : fn.results = #[.cell p ty]) (tmps : Array Value) (w : World) (g : Nat) (v : Value) (hp : tmps.getD p undef = .pointer (some ⟨g, 0, none⟩))
    (ha : (isAgg ty).run P w = .ok false w) (hc : w.cell? ⟨g, 0, none⟩ = some v) : (results fn tmps).run P w = .ok v w := by
  have hp' : tmps[p]?.getD undef = .pointer (some ⟨g, 0, none⟩) := by simpa using hp
  simp [results, h, hp', asAddr, loadVar, Sem.run_bind, ha, Result.andThen, hc]
/-- the world at the beginning of the range -/
structure CmpW (w W0 : World) (b : Option Addr) (n d : Nat) : Prop where
  below : Below w.heap.size w W0
  size : W0.heap.size = w.heap.size + 3
  box : W0.cell? ⟨w.heap.size, 0, none⟩ = some (.slice b n d)
  res : W0.heap[w.heap.size + 1]? = some (.cells #[.int .i64 0] 3 (0, 0))

set_option maxRecDepth 100000 in
set_option maxHeartbeats 1000000 in
theorem compare_any (a : Option Addr) (n c : Nat) (b : Option Addr) (k d : Nat) (x y : Nat) (w : World) (hl : IsZ w a n c (zs (G x))) (hm : IsZ w b k d (zs (G y))) (hn : n ≤ 1000000) (hk : k ≤ 1000000) :
    Calls Tryd.prog 46 #[.slice a n c, .slice b k d] w fun e w' => e = .returned (.int .i64 (cmp x y)) ∧ Below w.heap.size w w' := by
  have hxl : (G x).length = n := by rw [← zs_length]; exact hl.len
  have hyl : (G y).length = k := by rw [← zs_length]; exact hm.len
  have hnc := hl.cap
  have hkd := hm.cap
  refine (callsIn_wide (n := 3)).1 ?_
  refine callsIn_of_wp_marks Tryd.func46 rfl trivial ?_ rfl
  simp only [Tryd.ntmps46, List.size_toArray, List.length_cons, List.length_nil, Nat.reduceAdd, Nat.reduceSub, Array.replicate_succ, Array.replicate_zero, List.push_toArray, List.append_toArray, List.nil_append, List.cons_append]
  by_cases hnk : n = k
  · subst hnk
    gi_wp2_with (refine ⟨trivial, ?_⟩; gi_at_call 53; refine (callsIn_wide.2 (backward_any _ _ _ _)).mono ?_; rintro e w' ⟨rfl, rfl⟩)
    refine wpIn_world fun W0 hW0 => ?_
    have hbk : BkN (w.heap.size + 2) a n c (G x) W0 := by
      rw [hW0]
      refine ⟨?_, hl.later ((((Below.refl _ w).alloc (Nat.le_refl _) _).alloc (by simp) _).alloc (by simp; omega) _)⟩
      have := heap_alloc_new ((w.alloc (.cells #[.slice b n d] 49)).alloc (.cells #[.int .i64 0] 3)) (.cells #[.slice a n c] 49)
      simp only [World.size_alloc] at this
      rw [cell_of_row _ _ 0 _ _ _ this]; rfl
    have hcw : CmpW w W0 b n d := by
      rw [hW0]
      refine ⟨(((Below.refl _ w).alloc (Nat.le_refl _) _).alloc (by simp) _).alloc (by simp; omega) _, by simp, ?_, ?_⟩
      · have := heap_alloc_old ((w.alloc (.cells #[.slice b n d] 49)).alloc (.cells #[.int .i64 0] 3)) (.cells #[.slice a n c] 49) (show w.heap.size < _ by simp; omega)
        rw [cell_of_row _ _ 0 _ _ _ (this.trans ((heap_alloc_old _ _ (by simp)).trans (heap_alloc_new _ _)))]; rfl
      · exact (heap_alloc_old _ _ (by simp)).trans (by have := heap_alloc_new (w.alloc (.cells #[.slice b n d] 49)) (.cells #[.int .i64 0] 3); simp only [World.size_alloc] at this; exact this)
    clear hW0
    have htop := same_top 9998 x y (hxl.trans hyl.symm)
    rw [show (dgs 9998 x).length = n from hxl] at htop
    refine Rfn.wpIn_rangeFunc_need rfl (by omega) (gf := 69) (lb := #[.pointer (some ⟨w.heap.size + 2, 0, none⟩)]) rfl trivial (enters_of Tryd.func69 (by kernel_rfl) rfl)
      (back_yields (w.heap.size + 2) a n c (G x) W0 hn hxl) (Below.refl _ _) (fun _ => rfl)
      (fun k W => x / 10000 ^ (n - k) = y / 10000 ^ (n - k) ∧ Below W0.heap.size W0 W)
      (fun cd _ W => cd = .ret ∧ W.cell? ⟨w.heap.size + 1, 0, none⟩ = some (.int .i64 (cmp x y)) ∧ Below w.heap.size w W ∧ w.heap.size + 1 < W.heap.size)
      (fun k A C h hb _ => ⟨h.1, h.2.trans hb⟩)
      (fun cd k A C h hb _ => ⟨h.1, (hb.cell (p := ⟨w.heap.size + 1, 0, none⟩) (by have := hcw.size; show w.heap.size + 1 < _; omega)).trans h.2.1, h.2.2.1.trans (hb.mono (by have := hcw.size; omega)), Nat.lt_of_lt_of_le h.2.2.2 hb.size⟩)
      (fun k W h => hbk.later h.2) ⟨by rw [Nat.sub_zero]; exact htop, Below.refl _ _⟩ ?round ?done ?stop
    case stop =>
      rintro D cd j W hD hDW ⟨rfl, hres, hB, hlt⟩ hdef
      have hDn : w.heap.size + 1 ≠ D := by have := hcw.size; omega
      gi_wp2
      refine ⟨by simp, .inl ⟨_, _, rfl, run_takeDeferred hdef, ?_⟩⟩
      exact ⟨_, results_cell1 rfl _ _ (w.heap.size + 1) (.int .i64 (cmp x y)) rfl (by kernel_rfl) (by unfold World.cell? at hres ⊢; rw [World.putObj_heap_other hDn]; exact hres), rfl, hB.trans (belowK_b (w := W0) (n₀ := w.heap.size) (by have := hcw.size; omega) W D _ _ hD hdef rfl rfl)⟩
    case round =>
      rintro q j hj W hq hqW ⟨heq, hW⟩
      have hjn : j < n := by rw [bks_length] at hj; omega
      rw [bks_get _ _ hj, hxl]
      obtain ⟨I, hI⟩ : ∃ I, n - 1 - j = I := ⟨_, rfl⟩
      rw [hI]
      have hI1 : n - j = I + 1 := by omega
      have hI2 : n - (j + 1) = I := by omega
      have hIn : I < n := by omega
      rw [hI1] at heq
      have HI := Lib.hid hI2
      obtain ⟨u, hu⟩ : ∃ u, (G x).getD I 0 = u := ⟨_, rfl⟩
      rw [hu]
      simp only [bkEnc]
      clear hI hI1 hI2 hjn hj
      gi_wp2
      refine ⟨KeepsOthers.refl _, fun W2 hbu _ => ?_⟩
      have hW2 := hW.trans (Rfn.But.below hbu hq)
      have hbox : W2.cell? ⟨w.heap.size, 0, none⟩ = some (.slice b n d) := (hW2.cell (p := ⟨w.heap.size, 0, none⟩) (by have := hcw.size; show w.heap.size < _; omega)).trans hcw.box
      have hrr : W2.heap[w.heap.size + 1]? = some (.cells #[.int .i64 0] 3 (0, 0)) := (hW2.block _ (by have := hcw.size; omega)).trans hcw.res
      have hrc : W2.cell? ⟨w.heap.size + 1, 0, none⟩ = some (.int .i64 0) := by rw [cell_of_row _ _ 0 _ _ _ hrr]; rfl
      have hrf : W2.frozen? ⟨w.heap.size + 1, 0, none⟩ = false := frozen_of_row _ _ 0 _ _ hrr
      have hBW : Below w.heap.size w W2 := hcw.below.trans (hW2.mono hcw.below.size)
      obtain ⟨g2, o2, rfl, hc2⟩ := hm.later_at hBW I hIn
      rw [zs_getD] at hc2
      have hcm := cmp_at 9998 x y I heq
      have hsm := same_step 9998 x y I heq
      obtain ⟨v, hv⟩ : ∃ v, (G y).getD I 0 = v := ⟨_, rfl⟩
      rw [hv] at hc2
      rw [show (dgs 9998 x).getD I 0 = u from hu, show (dgs 9998 y).getD I 0 = v from hv] at hcm hsm
      clear hu hv hbu hm hl hbk htop
      have hlt2 : w.heap.size + 1 < W2.heap.size := (Array.getElem?_eq_some_iff.1 hrr).1
      by_cases huv : u = v
      · subst huv
        have Hsm := Lib.hid (hsm rfl)
        clear hsm hcm
        gi_wp2
        exact ⟨KeepsOthers.refl _, by rw [HI.out]; exact Hsm.out, hW2⟩
      · have hne : decide ((u : Int) = v) = false := by simp; omega
        have Hcm := Lib.hid (hcm huv)
        clear hsm hcm
        gi_wp2_with (refine ⟨trivial, ?_⟩; gi_at_call 63; refine (CallsIn.inRound q (callsIn_wide.2 (Tryd.cmp_Compare_int _ _ _))).mono ?_; rintro e w' ⟨rfl, rfl⟩)
        refine ⟨KeepsOthers.setCell _ _ _, rfl, ?_, hBW.setCell (p := ⟨w.heap.size + 1, 0, none⟩) (by show w.heap.size ≤ w.heap.size + 1; omega) _, by simpa using hlt2⟩
        have := heap_setCell_same _ (w.heap.size + 1) 0 _ _ (.int .i64 (Lib.compareInt (u : Int) v)) hrr
        rw [cell_of_row _ _ 0 _ _ _ this, Hcm.out, ← cmp_eq]; rfl
    case done =>
      rintro D W hD hDW ⟨heq, hW⟩ hdef
      rw [bks_length, hxl, Nat.sub_self, Nat.pow_zero, Nat.div_one, Nat.div_one] at heq
      subst heq
      have hrr : W.heap[w.heap.size + 1]? = some (.cells #[.int .i64 0] 3 (0, 0)) := (hW.block _ (by have := hcw.size; omega)).trans hcw.res
      have hrc : W.cell? ⟨w.heap.size + 1, 0, none⟩ = some (.int .i64 0) := by rw [cell_of_row _ _ 0 _ _ _ hrr]; rfl
      have hrf : W.frozen? ⟨w.heap.size + 1, 0, none⟩ = false := frozen_of_row _ _ 0 _ _ hrr
      have hB := hcw.below.trans (hW.mono hcw.below.size)
      have hDn : w.heap.size + 1 ≠ D := by have := hcw.size; omega
      have hrr2 := heap_setCell_same W (w.heap.size + 1) 0 _ _ (.int .i64 0) hrr
      have hdef2 : (W.setCell ⟨w.heap.size + 1, 0, none⟩ (.int .i64 0)).heap[D]? = some (.deferred (some [])) := (heap_setCell_other W ⟨w.heap.size + 1, 0, none⟩ D _ (by simp; omega)).trans hdef
      have hB2 := hB.setCell (p := ⟨w.heap.size + 1, 0, none⟩) (by show w.heap.size ≤ w.heap.size + 1; omega) (.int .i64 0)
      have HH := Lib.hid (And.intro hrr2 (And.intro hdef2 hB2))
      clear hrr hrr2 hdef hdef2 hB2 hbk hl hm
      gi_wp2
      refine ⟨by simp, .inl ⟨_, _, rfl, run_takeDeferred HH.out.2.1, ?_⟩⟩
      refine ⟨_, results_cell1 rfl _ _ (w.heap.size + 1) (.int .i64 0) rfl (by kernel_rfl) ?_, by rw [cmp_self], HH.out.2.2.trans (belowK_b (w := W0) (n₀ := w.heap.size) (by have := hcw.size; omega) _ D _ _ hD HH.out.2.1 rfl rfl)⟩
      rw [cell_of_row _ _ 0 _ _ _ ((World.putObj_heap_other hDn).trans HH.out.1)]; rfl
  · have hne : decide ((n : Int) = k) = false := by simp; omega
    have hcc : Lib.compareInt (n : Int) (k : Int) = cmp x y := by
      rw [cmp_eq]
      rcases Nat.lt_or_gt_of_ne hnk with h | h
      · rw [cmp_lt h, cmp_lt (G_length_lt (by omega))]
      · rw [cmp_gt h, cmp_gt (G_length_lt (by omega))]
    gi_wp2_with (refine ⟨trivial, ?_⟩; gi_at_call 63; refine (callsIn_wide.2 (Tryd.cmp_Compare_int _ _ _)).mono ?_; rintro e w' ⟨rfl, rfl⟩)
    exact ⟨_, results_cell1 rfl _ _ (w.heap.size + 1) (.int .i64 (cmp x y)) rfl (by kernel_rfl) (by have := heap_alloc_new (w.alloc (.cells #[.slice b k d] 49)) (.cells #[.int .i64 (cmp x y)] 3); simp only [World.size_alloc] at this; rw [cell_of_row _ _ 0 _ _ _ this]; rfl), rfl, ((Below.refl _ w).alloc (Nat.le_refl _) _).alloc (by simp) _⟩

end Go.Proofs.YtieaelipgieaoaaDoor
