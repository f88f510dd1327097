/-
  Layer 3: sums of numbers with signs.
-/
import Derived.Test.YtieaelipgieaoaaDoorIgs
namespace Go.Proofs.YtieaelipgieaoaaDoor
open Go.RowKit Bs Ig

/-- the boxes of two numbers, and a cell for the result -/
structure Bx (w W : World) (bx : Bool) (a : Option Addr) (n c : Nat) (bz : Bool) (b : Option Addr) (k d : Nat) : Prop where
  below : Below w.heap.size w W
  r0 : W.heap[w.heap.size]? = some (.cells #[.bool bx, .slice a n c] 51 (0, 0))
  r1 : W.heap[w.heap.size + 1]? = some (.cells #[.bool bz, .slice b k d] 51 (0, 0))
  r2 : ∃ b0 s m e, W.heap[w.heap.size + 1 + 1]? = some (.cells #[.bool b0, .slice s m e] 51 (0, 0))
theorem Bx.start (w : World) (bx : Bool) (a : Option Addr) (n c : Nat) (bz : Bool) (b : Option Addr) (k d : Nat) :
    Bx w (((w.alloc (.cells #[.bool bx, .slice a n c] 51)).alloc (.cells #[.bool bz, .slice b k d] 51)).alloc (.cells #[.bool false, .slice none 0 0] 51)) bx a n c bz b k d := by
  refine ⟨(((Below.refl _ w).alloc (Nat.le_refl _) _).alloc (by simp) _).alloc (by simp; omega) _, ?_, ?_, ?_⟩
  · exact (heap_alloc_old _ _ (by simp; omega)).trans ((heap_alloc_old _ _ (by simp)).trans (heap_alloc_new _ _))
  · have := heap_alloc_new (w.alloc (.cells #[.bool bx, .slice a n c] 51)) (.cells #[.bool bz, .slice b k d] 51)
    simp only [World.size_alloc] at this
    exact (heap_alloc_old _ _ (by simp)).trans this
  · have := heap_alloc_new ((w.alloc (.cells #[.bool bx, .slice a n c] 51)).alloc (.cells #[.bool bz, .slice b k d] 51)) (.cells #[.bool false, .slice none 0 0] 51)
    simp only [World.size_alloc] at this
    exact ⟨_, _, _, _, this⟩
theorem Bx.later {w W W' : World} {bx bz : Bool} {a b : Option Addr} {n c k d : Nat} (h : Bx w W bx a n c bz b k d) (hb : Below W.heap.size W W') : Bx w W' bx a n c bz b k d := by
  obtain ⟨b0, s, m, e, h2⟩ := h.r2
  exact ⟨below_on h.below hb h.below.size, (hb.block _ (Array.getElem?_eq_some_iff.1 h.r0).1).trans h.r0, (hb.block _ (Array.getElem?_eq_some_iff.1 h.r1).1).trans h.r1, b0, s, m, e, (hb.block _ (Array.getElem?_eq_some_iff.1 h2).1).trans h2⟩
theorem Bx.c00 {w W : World} {bx bz : Bool} {a b : Option Addr} {n c k d : Nat} (h : Bx w W bx a n c bz b k d) : W.cell? ⟨w.heap.size, 0, none⟩ = some (.bool bx) := by rw [cell_of_row _ _ 0 _ _ _ h.r0]; rfl
theorem Bx.c01 {w W : World} {bx bz : Bool} {a b : Option Addr} {n c k d : Nat} (h : Bx w W bx a n c bz b k d) : W.cell? ⟨w.heap.size, 1, none⟩ = some (.slice a n c) := by rw [cell_of_row _ _ 1 _ _ _ h.r0]; rfl
theorem Bx.c10 {w W : World} {bx bz : Bool} {a b : Option Addr} {n c k d : Nat} (h : Bx w W bx a n c bz b k d) : W.cell? ⟨w.heap.size + 1, 0, none⟩ = some (.bool bz) := by rw [cell_of_row _ _ 0 _ _ _ h.r1]; rfl
theorem Bx.c11 {w W : World} {bx bz : Bool} {a b : Option Addr} {n c k d : Nat} (h : Bx w W bx a n c bz b k d) : W.cell? ⟨w.heap.size + 1, 1, none⟩ = some (.slice b k d) := by rw [cell_of_row _ _ 1 _ _ _ h.r1]; rfl
theorem far2 {W : World} {g : Nat} {v v' : Value} {p : Addr} {u : Option Value} (h : g ≠ p.block) (hu : W.cell? p = u) : ((W.setCell ⟨g, 0, none⟩ v).setCell ⟨g, 1, none⟩ v').cell? p = u := by
  rw [World.cell?_setCell_far _ _ _ _ h, World.cell?_setCell_far _ _ _ _ h]; exact hu
theorem ne0 (s : Nat) : s + 1 + 1 ≠ s := by omega
theorem ne1 (s : Nat) : s + 1 + 1 ≠ s + 1 := by omega
/-- what is stored as the result -/
theorem two_sets {W : World} {g : Nat} {b0 : Bool} {s : Option Addr} {m e : Nat} (h : W.heap[g]? = some (.cells #[.bool b0, .slice s m e] 51 (0, 0))) (b : Bool) (a : Option Addr) (n c : Nat) :
    ((W.setCell ⟨g, 0, none⟩ (.bool b)).setCell ⟨g, 1, none⟩ (.slice a n c)).heap[g]? = some (.cells #[.bool b, .slice a n c] 51 (0, 0)) := by
  have h1 := heap_setCell_same W g 0 _ _ (.bool b) h
  have h2 := heap_setCell_same _ g 1 _ _ (.slice a n c) h1
  exact h2
theorem IsZ.two {W : World} {g : Nat} {b0 : Bool} {s : Option Addr} {m e : Nat} (h : W.heap[g]? = some (.cells #[.bool b0, .slice s m e] 51 (0, 0))) (b : Bool) (a' : Option Addr) (n' c' : Nat) {a : Option Addr} {n c : Nat} {l : List Int} (hz : IsZ W a n c l) :
    IsZ ((W.setCell ⟨g, 0, none⟩ (.bool b)).setCell ⟨g, 1, none⟩ (.slice a' n' c')) a n c l := by
  refine ⟨hz.len, hz.cap, hz.max, hz.row.imp id (fun ⟨g', off, e, hI⟩ => ⟨g', off, e, fun i hi => ?_⟩)⟩
  have h1 := hI i hi
  have hne : g ≠ g' := by
    intro e
    subst e
    rw [cell_of_row _ _ _ _ _ _ h] at h1
    rcases (show off + i = 0 ∨ off + i = 1 ∨ 2 ≤ off + i by omega) with h2 | h2 | h2
    · rw [h2] at h1; cases h1
    · rw [h2] at h1; cases h1
    · rw [Array.getElem?_eq_none (by simpa using h2)] at h1; cases h1
  rw [World.cell?_setCell_far _ _ _ _ hne, World.cell?_setCell_far _ _ _ _ hne]
  exact h1
theorem same_sign (x y : Int) (h : decide (x < 0) = decide (y < 0)) : x + y = if decide (x < 0) = true then -((x.natAbs + y.natAbs : Nat) : Int) else ((x.natAbs + y.natAbs : Nat) : Int) := by
  by_cases hx : x < 0
  · have hy : y < 0 := by simpa [hx] using h.symm
    rw [if_pos (by simpa using hx)]; omega
  · have hy : ¬ y < 0 := by intro h2; simp [hx, h2] at h
    rw [if_neg (by simpa using hx)]; omega

theorem diff_sign_a (x y : Int) (h : ¬ decide (x < 0) = decide (y < 0)) (hxy : x.natAbs ≥ y.natAbs) : x + y = if decide (x < 0) = true then -((x.natAbs - y.natAbs : Nat) : Int) else ((x.natAbs - y.natAbs : Nat) : Int) := by
  by_cases hx : x < 0
  · have hy : ¬ y < 0 := by intro h2; simp [hx, h2] at h
    rw [if_pos (by simpa using hx)]; omega
  · have hy : y < 0 := by
      by_cases h2 : y < 0
      · exact h2
      · simp [hx, h2] at h
    rw [if_neg (by simpa using hx)]; omega
theorem diff_sign_b (x y : Int) (h : ¬ decide (x < 0) = decide (y < 0)) (hxy : x.natAbs < y.natAbs) : x + y = if decide (y < 0) = true then -((y.natAbs - x.natAbs : Nat) : Int) else ((y.natAbs - x.natAbs : Nat) : Int) := by
  rw [Int.add_comm]
  exact diff_sign_a y x (fun e => h e.symm) (by omega)

set_option maxRecDepth 100000 in
set_option maxHeartbeats 2000000 in
theorem nplus_any (x y : Int) (a : Option Addr) (n c : Nat) (b : Option Addr) (k d : Nat) (w : World) (hl : IsZ w a n c (zs (G x.natAbs))) (hm : IsZ w b k d (zs (G y.natAbs))) (hn : n ≤ 400) (hk : k ≤ 400) :
    Calls Tryd.prog 28 #[numV x a n c, numV y b k d] w fun e w' => ∃ a1 n1 c1, e = .returned (numV (x + y) a1 n1 c1) ∧ IsZ w' a1 n1 c1 (zs (G (x + y).natAbs)) ∧ Below w.heap.size w w' := by
  have hst := Bx.start w (decide (x < 0)) a n c (decide (y < 0)) b k d
  unfold numV
  rcases Decidable.em (decide (x < 0) = decide (y < 0)) with hs | hs
  · have hsum := same_sign x y hs
    obtain ⟨bx, hbx⟩ : ∃ bx, decide (x < 0) = bx := ⟨_, rfl⟩
    rw [← hs] at hst ⊢
    rw [hbx] at hst hsum ⊢
    obtain ⟨m, hm'⟩ : ∃ m, x.natAbs + y.natAbs = m := ⟨_, rfl⟩
    rw [hm'] at hsum
    have hab : (x + y).natAbs = m := by rw [hsum]; split <;> simp
    obtain ⟨bb, hbb⟩ : ∃ bb, (bx && decide (0 < m)) = bb := ⟨_, rfl⟩
    have hnv : ∀ a n c, numV (x + y) a n c = .agg #[.bool bb, .slice a n c] := fun a n c => by rw [hsum, numV_eq, hbb]
    have HS := Lib.hid (fun (W : World) (a : Option Addr) (n c : Nat) (h : IsZ W a n c (zs (G m))) => (show Calls Tryd.prog 44 #[.bool bx, .slice a n c] W (fun e w' => e = .returned (.agg #[.bool bb, .slice a n c]) ∧ Below W.heap.size W w') from (signed_any bx a n c m W h).mono (fun e w' h2 => by rw [numV_eq, hbb] at h2; exact h2)))
    have HR := Lib.hid (And.intro hnv hab)
    have HP := Lib.hid (fun (W : World) (hb : Bx w W bx a n c bx b k d) => plus_any a n c (G x.natAbs) b k d (G y.natAbs) x.natAbs y.natAbs W (hl.later hb.below) (hm.later hb.below) (G_lt _) (G_lt _) (V_G _) (V_G _) (by omega) (by omega))
    rw [hm'] at HP
    clear hl hm hs hbx hm' hsum hab hnv hbb
    go_enter Tryd.func28, Tryd.ntmps28
    go_wp2_with fail
    refine wp_world fun W hW => ?_
    rw [← hW] at hst
    have hd := hst.later (Below.refl _ W).drew
    have c0 := hst.c00
    have c1 := hst.c01
    have c2 := hst.c11
    clear hW
    go_region_held3 (fun w' => w'.cell? ⟨w.heap.size, 0, none⟩ = some (.bool bx) ∧ w'.cell? ⟨w.heap.size, 1, none⟩ = some (.slice a n c) ∧ w'.cell? ⟨w.heap.size + 1, 1, none⟩ = some (.slice b k d)) (first | exact ⟨far2 (ne0 _) k60, far2 (ne0 _) k61, far2 (ne1 _) k62⟩ | go_keep)
      (first
        | (go_at_call 45; (with_reducible refine (HP.out _ hd).mono ?_); rintro e w5 ⟨a5, n5, c5, rfl, z5, B5⟩; have x5 := hd.later B5; have k50 := x5.c00; have k51 := x5.c01; have k52 := x5.c11)
        | (go_at_call 44; (with_reducible refine (HS.out _ _ _ _ z5).mono ?_); rintro e w6 ⟨rfl, B6⟩; have x6 := x5.later B6; have k60 := x6.c00; have k61 := x6.c01; have k62 := x6.c11; have z6 := z5.later B6; obtain ⟨b0, s0, m0, e0, r6⟩ := x6.r2; have q0 : w6.cell? ⟨w.heap.size + 1 + 1, 0, none⟩ = some (.bool b0) := (by rw [cell_of_row _ _ 0 _ _ _ r6]; rfl); have q1 : w6.cell? ⟨w.heap.size + 1 + 1, 1, none⟩ = some (.slice s0 m0 e0) := (by rw [cell_of_row _ _ 1 _ _ _ r6]; rfl); have f0 : w6.frozen? ⟨w.heap.size + 1 + 1, 0, none⟩ = false := frozen_of_row _ _ 0 _ _ r6; have f1 : w6.frozen? ⟨w.heap.size + 1 + 1, 1, none⟩ = false := frozen_of_row _ _ 1 _ _ r6))
    have hfin := two_sets r6 bb (some a5) n5 c5
    have hz := IsZ.two r6 bb (some a5) n5 c5 z6
    have hB := (x6.below.setCell (p := ⟨w.heap.size + 1 + 1, 0, none⟩) (by show w.heap.size ≤ w.heap.size + 1 + 1; omega) (.bool bb)).setCell (p := ⟨w.heap.size + 1 + 1, 1, none⟩) (by show w.heap.size ≤ w.heap.size + 1 + 1; omega) (.slice (some a5) n5 c5)
    go_wp2_with fail
    exact bodyPost_ret (results_cell_row rfl _ _ (w.heap.size + 1 + 1) 51 #[.bool bb, .slice (some a5) n5 c5] _ _ rfl hfin Tryd.underlying51 rfl (by kernel_rfl)) rfl ⟨some a5, n5, c5, congrArg Ending.returned (HR.out.1 _ _ _).symm, by rw [HR.out.2]; exact hz, hB⟩
  · -- DIFFER
    obtain ⟨bx, hbx⟩ : ∃ bx, decide (x < 0) = bx := ⟨_, rfl⟩
    obtain ⟨bz, hbz⟩ : ∃ bz, decide (y < 0) = bz := ⟨_, rfl⟩
    have hc := compare_any a n c b k d x.natAbs y.natAbs _ (hl.later hst.below) (hm.later hst.below) (by omega) (by omega)
    rw [hbx, hbz] at hst hc ⊢
    have hne : (bx == bz) = false := by rw [← hbx, ← hbz]; simpa using hs
    have HB := Lib.hid hst
    rcases Nat.lt_or_ge x.natAbs y.natAbs with hxy | hxy
    · rw [cmp_lt hxy] at hc
      have HC := Lib.hid hc
      obtain ⟨m, hm'⟩ : ∃ m, y.natAbs - x.natAbs = m := ⟨_, rfl⟩
      obtain ⟨bb, hbb⟩ : ∃ bb, (bz && decide (0 < m)) = bb := ⟨_, rfl⟩
      have hsum : x + y = if bz = true then -(m : Int) else (m : Int) := by rw [← hbz, ← hm']; exact diff_sign_b x y hs hxy
      have hab : (x + y).natAbs = m := by rw [hsum]; split <;> simp
      have hnv : ∀ a n c, numV (x + y) a n c = .agg #[.bool bb, .slice a n c] := fun a n c => by rw [hsum, numV_eq, hbb]
      have HS := Lib.hid (fun (W : World) (a : Option Addr) (n c : Nat) (h : IsZ W a n c (zs (G m))) => (show Calls Tryd.prog 44 #[.bool bz, .slice a n c] W (fun e w' => e = .returned (.agg #[.bool bb, .slice a n c]) ∧ Below W.heap.size W w') from (signed_any bz a n c m W h).mono (fun e w' h2 => by rw [numV_eq, hbb] at h2; exact h2)))
      have HR := Lib.hid (And.intro hnv hab)
      have HP := Lib.hid (fun (W : World) (hb : Bx w W bz b k d bx a n c) => minus_any b k d (G y.natAbs) a n c (G x.natAbs) y.natAbs x.natAbs W (hm.later hb.below) (hl.later hb.below) (G_lt _) (G_lt _) (V_G _) (V_G _) (by omega) (by rw [← hl.glen, ← hm.glen]; exact dgs_length_mono (by omega)) (by omega))
      rw [hm'] at HP
      clear hl hm hs hbx hbz hm' hsum hab hnv hbb hc hst hxy
      go_enter Tryd.func28, Tryd.ntmps28
      go_wp2_with (first
        | (go_at_call 46; (with_reducible refine HC.out.mono ?_); rintro e w1 ⟨rfl, hb1⟩; have hst := HB.out.later hb1; obtain ⟨t0, t1, t2, t3, hr2⟩ := hst.r2; have hr0 := hst.r0; have hr1 := hst.r1; have hr1' : (w1.setRow w.heap.size #[.bool bz, .slice b k d]).heap[w.heap.size + 1]? = some (.cells #[.bool bz, .slice b k d] 51 (0, 0)) := (Go.setRow_other w1 w.heap.size _ _ (by omega)).trans hr1)
        | (refine wpList_load_row rfl 51 _ rfl (w.heap.size + 1) rfl 51 _ _ _ hr1 Tryd.underlying51 rfl ?l1 ?_)
        | (refine wpList_load_row rfl 51 _ rfl w.heap.size rfl 51 _ _ _ hr0 Tryd.underlying51 rfl ?l2 ?_)
        | (refine wpList_store_row rfl 51 _ _ rfl w.heap.size _ rfl rfl 51 _ hr0 ?s1 ?s2 ?s3 ?_)
        | (refine wpList_store_row rfl 51 _ _ rfl (w.heap.size + 1) _ rfl rfl 51 _ hr1' ?s4 ?s5 ?s6 ?_))
      case l1 => kernel_rfl
      case l2 => kernel_rfl
      case s1 => kernel_rfl
      case s2 => rfl
      case s3 => exact two_cells _ _ _ _
      case s4 => kernel_rfl
      case s5 => rfl
      case s6 => exact two_cells _ _ _ _
      refine wp_world fun W hW => ?_
      have hst : Bx w W bz b k d bx a n c := by
        rw [hW]
        refine ⟨below_row (below_row hst.below (Nat.le_refl _) _) (by omega) _, ?_, ?_, t0, t1, t2, t3, ?_⟩
        · exact (Go.setRow_other _ _ _ _ (by omega)).trans (setRow_heap w1 w.heap.size _ _ _ _ hr0)
        · exact setRow_heap _ (w.heap.size + 1) _ _ _ _ hr1'
        · exact (Go.setRow_other _ _ _ _ (by omega)).trans ((Go.setRow_other _ _ _ _ (by omega)).trans hr2)
      clear hW hr0 hr1 hr1' hr2 hb1
      have hd := hst.later (Below.refl _ W).drew
      have c0 := hst.c00
      have c1 := hst.c01
      have c2 := hst.c11
      go_region_held3 (fun w' => w'.cell? ⟨w.heap.size, 0, none⟩ = some (.bool bz) ∧ w'.cell? ⟨w.heap.size, 1, none⟩ = some (.slice b k d) ∧ w'.cell? ⟨w.heap.size + 1, 1, none⟩ = some (.slice a n c)) (first | exact ⟨far2 (ne0 _) k60, far2 (ne0 _) k61, far2 (ne1 _) k62⟩ | go_keep)
        (first
          | (go_at_call 47; (with_reducible refine (HP.out _ hd).mono ?_); rintro e w5 ⟨a5, n5, c5, rfl, z5, B5⟩; have x5 := hd.later B5; have k50 := x5.c00; have k51 := x5.c01; have k52 := x5.c11)
          | (go_at_call 44; (with_reducible refine (HS.out _ _ _ _ z5).mono ?_); rintro e w6 ⟨rfl, B6⟩; have x6 := x5.later B6; have k60 := x6.c00; have k61 := x6.c01; have k62 := x6.c11; have z6 := z5.later B6; obtain ⟨b0, s0, m0, e0, r6⟩ := x6.r2; have q0 : w6.cell? ⟨w.heap.size + 1 + 1, 0, none⟩ = some (.bool b0) := (by rw [cell_of_row _ _ 0 _ _ _ r6]; rfl); have q1 : w6.cell? ⟨w.heap.size + 1 + 1, 1, none⟩ = some (.slice s0 m0 e0) := (by rw [cell_of_row _ _ 1 _ _ _ r6]; rfl); have f0 : w6.frozen? ⟨w.heap.size + 1 + 1, 0, none⟩ = false := frozen_of_row _ _ 0 _ _ r6; have f1 : w6.frozen? ⟨w.heap.size + 1 + 1, 1, none⟩ = false := frozen_of_row _ _ 1 _ _ r6))
      have hfin := two_sets r6 bb (some a5) n5 c5
      have hz := IsZ.two r6 bb (some a5) n5 c5 z6
      have hB := (x6.below.setCell (p := ⟨w.heap.size + 1 + 1, 0, none⟩) (by show w.heap.size ≤ w.heap.size + 1 + 1; omega) (.bool bb)).setCell (p := ⟨w.heap.size + 1 + 1, 1, none⟩) (by show w.heap.size ≤ w.heap.size + 1 + 1; omega) (.slice (some a5) n5 c5)
      go_wp2_with fail
      exact bodyPost_ret (results_cell_row rfl _ _ (w.heap.size + 1 + 1) 51 #[.bool bb, .slice (some a5) n5 c5] _ _ rfl hfin Tryd.underlying51 rfl (by kernel_rfl)) rfl ⟨some a5, n5, c5, congrArg Ending.returned (HR.out.1 _ _ _).symm, by rw [HR.out.2]; exact hz, hB⟩
    · have hcg : decide (cmp x.natAbs y.natAbs < 0) = false := by unfold cmp; rw [if_neg (by omega)]; split <;> simp
      obtain ⟨u, hu⟩ : ∃ u, cmp x.natAbs y.natAbs = u := ⟨_, rfl⟩
      rw [hu] at hc hcg
      have HC := Lib.hid hc
      obtain ⟨m, hm'⟩ : ∃ m, x.natAbs - y.natAbs = m := ⟨_, rfl⟩
      obtain ⟨bb, hbb⟩ : ∃ bb, (bx && decide (0 < m)) = bb := ⟨_, rfl⟩
      have hsum : x + y = if bx = true then -(m : Int) else (m : Int) := by rw [← hbx, ← hm']; exact diff_sign_a x y hs hxy
      have hab : (x + y).natAbs = m := by rw [hsum]; split <;> simp
      have hnv : ∀ a n c, numV (x + y) a n c = .agg #[.bool bb, .slice a n c] := fun a n c => by rw [hsum, numV_eq, hbb]
      have HS := Lib.hid (fun (W : World) (a : Option Addr) (n c : Nat) (h : IsZ W a n c (zs (G m))) => (show Calls Tryd.prog 44 #[.bool bx, .slice a n c] W (fun e w' => e = .returned (.agg #[.bool bb, .slice a n c]) ∧ Below W.heap.size W w') from (signed_any bx a n c m W h).mono (fun e w' h2 => by rw [numV_eq, hbb] at h2; exact h2)))
      have HR := Lib.hid (And.intro hnv hab)
      have HP := Lib.hid (fun (W : World) (hb : Bx w W bx a n c bz b k d) => minus_any a n c (G x.natAbs) b k d (G y.natAbs) x.natAbs y.natAbs W (hl.later hb.below) (hm.later hb.below) (G_lt _) (G_lt _) (V_G _) (V_G _) (by omega) (by rw [← hm.glen, ← hl.glen]; exact dgs_length_mono (by omega)) (by omega))
      rw [hm'] at HP
      clear hl hm hs hbx hbz hm' hsum hab hnv hbb hc hst hxy hu
      go_enter Tryd.func28, Tryd.ntmps28
      go_wp2_with (go_at_call 46; (with_reducible refine HC.out.mono ?_); rintro e W ⟨rfl, hb1⟩)
      have hst := HB.out.later hb1
      clear hb1
      have hd := hst.later (Below.refl _ W).drew
      have c0 := hst.c00
      have c1 := hst.c01
      have c2 := hst.c11
      go_region_held3 (fun w' => w'.cell? ⟨w.heap.size, 0, none⟩ = some (.bool bx) ∧ w'.cell? ⟨w.heap.size, 1, none⟩ = some (.slice a n c) ∧ w'.cell? ⟨w.heap.size + 1, 1, none⟩ = some (.slice b k d)) (first | exact ⟨far2 (ne0 _) k60, far2 (ne0 _) k61, far2 (ne1 _) k62⟩ | go_keep)
        (first
          | (go_at_call 47; (with_reducible refine (HP.out _ hd).mono ?_); rintro e w5 ⟨a5, n5, c5, rfl, z5, B5⟩; have x5 := hd.later B5; have k50 := x5.c00; have k51 := x5.c01; have k52 := x5.c11)
          | (go_at_call 44; (with_reducible refine (HS.out _ _ _ _ z5).mono ?_); rintro e w6 ⟨rfl, B6⟩; have x6 := x5.later B6; have k60 := x6.c00; have k61 := x6.c01; have k62 := x6.c11; have z6 := z5.later B6; obtain ⟨b0, s0, m0, e0, r6⟩ := x6.r2; have q0 : w6.cell? ⟨w.heap.size + 1 + 1, 0, none⟩ = some (.bool b0) := (by rw [cell_of_row _ _ 0 _ _ _ r6]; rfl); have q1 : w6.cell? ⟨w.heap.size + 1 + 1, 1, none⟩ = some (.slice s0 m0 e0) := (by rw [cell_of_row _ _ 1 _ _ _ r6]; rfl); have f0 : w6.frozen? ⟨w.heap.size + 1 + 1, 0, none⟩ = false := frozen_of_row _ _ 0 _ _ r6; have f1 : w6.frozen? ⟨w.heap.size + 1 + 1, 1, none⟩ = false := frozen_of_row _ _ 1 _ _ r6))
      have hfin := two_sets r6 bb (some a5) n5 c5
      have hz := IsZ.two r6 bb (some a5) n5 c5 z6
      have hB := (x6.below.setCell (p := ⟨w.heap.size + 1 + 1, 0, none⟩) (by show w.heap.size ≤ w.heap.size + 1 + 1; omega) (.bool bb)).setCell (p := ⟨w.heap.size + 1 + 1, 1, none⟩) (by show w.heap.size ≤ w.heap.size + 1 + 1; omega) (.slice (some a5) n5 c5)
      go_wp2_with fail
      exact bodyPost_ret (results_cell_row rfl _ _ (w.heap.size + 1 + 1) 51 #[.bool bb, .slice (some a5) n5 c5] _ _ rfl hfin Tryd.underlying51 rfl (by kernel_rfl)) rfl ⟨some a5, n5, c5, congrArg Ending.returned (HR.out.1 _ _ _).symm, by rw [HR.out.2]; exact hz, hB⟩

end Go.Proofs.YtieaelipgieaoaaDoor
