/-
  Put together by program out of these texts, in this order: Iha, Ihb, Ihe, Ihc.
-/
import Derived.Test.YtjkklgpbblkhaaaGreatDoorZCaRFd06
import Derived.BigQuiet

/-
  Layer 3: sums of numbers with signs.
-/
namespace Go.Proofs.YtjkklgpbblkhaaaGreatDoor
open Go.RowKit Bs Ig

/-- the boxes of two numbers, and a cell for the result -/
structure Bx (w W : World) (bx : Bool) (a : Option Addr) (n c : Nat) (bz : Bool) (b : Option Addr) (k d : Nat) : Prop where
  below : Below w.heap.size w W
  r0 : W.heap[w.heap.size]? = some (.cells #[.bool bx, .slice a n c] 91 (0, 0))
  r1 : W.heap[w.heap.size + 1]? = some (.cells #[.bool bz, .slice b k d] 91 (0, 0))
  r2 : ∃ b0 s m e, W.heap[w.heap.size + 1 + 1]? = some (.cells #[.bool b0, .slice s m e] 91 (0, 0))
theorem Bx.start (w : World) (bx : Bool) (a : Option Addr) (n c : Nat) (bz : Bool) (b : Option Addr) (k d : Nat) :
    Bx w (((w.alloc (.cells #[.bool bx, .slice a n c] 91)).alloc (.cells #[.bool bz, .slice b k d] 91)).alloc (.cells #[.bool false, .slice none 0 0] 91)) bx a n c bz b k d := by
  refine ⟨(((Below.refl _ w).alloc (Nat.le_refl _) _).alloc (by simp) _).alloc (by simp; omega) _, ?_, ?_, ?_⟩
  · exact (heap_alloc_old _ _ (by simp; omega)).trans ((heap_alloc_old _ _ (by simp)).trans (heap_alloc_new _ _))
  · have := heap_alloc_new (w.alloc (.cells #[.bool bx, .slice a n c] 91)) (.cells #[.bool bz, .slice b k d] 91)
    simp only [World.size_alloc] at this
    exact (heap_alloc_old _ _ (by simp)).trans this
  · have := heap_alloc_new ((w.alloc (.cells #[.bool bx, .slice a n c] 91)).alloc (.cells #[.bool bz, .slice b k d] 91)) (.cells #[.bool false, .slice none 0 0] 91)
    simp only [World.size_alloc] at this
    exact ⟨_, _, _, _, this⟩
theorem Bx.later {w W W' : World} {bx bz : Bool} {a b : Option Addr} {n c k d : Nat} (h : Bx w W bx a n c bz b k d) (hb : Below W.heap.size W W') : Bx w W' bx a n c bz b k d := by
  obtain ⟨b0, s, m, e, h2⟩ := h.r2
  exact ⟨below_on h.below hb h.below.size, (hb.block _ (Array.getElem?_eq_some_iff.1 h.r0).1).trans h.r0, (hb.block _ (Array.getElem?_eq_some_iff.1 h.r1).1).trans h.r1, b0, s, m, e, (hb.block _ (Array.getElem?_eq_some_iff.1 h2).1).trans h2⟩
theorem Bx.c00 {w W : World} {bx bz : Bool} {a b : Option Addr} {n c k d : Nat} (h : Bx w W bx a n c bz b k d) : W.cell? ⟨w.heap.size, 0, none⟩ = some (.bool bx) := by rw [cell_of_row _ _ 0 _ _ _ h.r0]; rfl
theorem Bx.c01 {w W : World} {bx bz : Bool} {a b : Option Addr} {n c k d : Nat} (h : Bx w W bx a n c bz b k d) : W.cell? ⟨w.heap.size, 1, none⟩ = some (.slice a n c) := by rw [cell_of_row _ _ 1 _ _ _ h.r0]; rfl
theorem Bx.c10 {w W : World} {bx bz : Bool} {a b : Option Addr} {n c k d : Nat} (h : Bx w W bx a n c bz b k d) : W.cell? ⟨w.heap.size + 1, 0, none⟩ = some (.bool bz) := by rw [cell_of_row _ _ 0 _ _ _ h.r1]; rfl
theorem Bx.c11 {w W : World} {bx bz : Bool} {a b : Option Addr} {n c k d : Nat} (h : Bx w W bx a n c bz b k d) : W.cell? ⟨w.heap.size + 1, 1, none⟩ = some (.slice b k d) := by rw [cell_of_row _ _ 1 _ _ _ h.r1]; rfl
theorem far2 {W : World} {g : Nat} {v v' : Value} {p : Addr} {u : Option Value} (h : g ≠ p.block) (hu : W.cell? p = u) : ((W.setCell ⟨g, 0, none⟩ v).setCell ⟨g, 1, none⟩ v').cell? p = u := by
  rw [World.cell?_setCell_far _ _ _ _ h, World.cell?_setCell_far _ _ _ _ h]; exact hu
theorem ne0 (s : Nat) : s + 1 + 1 ≠ s := by omega
theorem ne1 (s : Nat) : s + 1 + 1 ≠ s + 1 := by omega
/-- what is stored as the result -/
theorem two_sets {W : World} {g : Nat} {b0 : Bool} {s : Option Addr} {m e : Nat} (h : W.heap[g]? = some (.cells #[.bool b0, .slice s m e] 91 (0, 0))) (b : Bool) (a : Option Addr) (n c : Nat) :
    ((W.setCell ⟨g, 0, none⟩ (.bool b)).setCell ⟨g, 1, none⟩ (.slice a n c)).heap[g]? = some (.cells #[.bool b, .slice a n c] 91 (0, 0)) := by
  have h1 := heap_setCell_same W g 0 _ _ (.bool b) h
  have h2 := heap_setCell_same _ g 1 _ _ (.slice a n c) h1
  exact h2
theorem IsZ.two {W : World} {g : Nat} {b0 : Bool} {s : Option Addr} {m e : Nat} (h : W.heap[g]? = some (.cells #[.bool b0, .slice s m e] 91 (0, 0))) (b : Bool) (a' : Option Addr) (n' c' : Nat) {a : Option Addr} {n c : Nat} {l : List Int} (hz : IsZ W a n c l) :
    IsZ ((W.setCell ⟨g, 0, none⟩ (.bool b)).setCell ⟨g, 1, none⟩ (.slice a' n' c')) a n c l := by
  refine ⟨hz.len, hz.cap, hz.max, hz.row.imp id (fun ⟨g', off, e, hI⟩ => ⟨g', off, e, fun i hi => ?_⟩)⟩
  have h1 := hI i hi
  have hne : g ≠ g' := by
    intro e
    subst e
    rw [cell_of_row _ _ _ _ _ _ h] at h1
    rcases (show off + i = 0 ∨ off + i = 1 ∨ 2 ≤ off + i by omega) with h2 | h2 | h2
    · rw [h2] at h1; cases h1
    · rw [h2] at h1; cases h1
    · rw [Array.getElem?_eq_none (by simpa using h2)] at h1; cases h1
  rw [World.cell?_setCell_far _ _ _ _ hne, World.cell?_setCell_far _ _ _ _ hne]
  exact h1
theorem same_sign (x y : Int) (h : decide (x < 0) = decide (y < 0)) : x + y = if decide (x < 0) = true then -((x.natAbs + y.natAbs : Nat) : Int) else ((x.natAbs + y.natAbs : Nat) : Int) := by
  by_cases hx : x < 0
  · have hy : y < 0 := by simpa [hx] using h.symm
    rw [if_pos (by simpa using hx)]; omega
  · have hy : ¬ y < 0 := by intro h2; simp [hx, h2] at h
    rw [if_neg (by simpa using hx)]; omega

theorem diff_sign_a (x y : Int) (h : ¬ decide (x < 0) = decide (y < 0)) (hxy : x.natAbs ≥ y.natAbs) : x + y = if decide (x < 0) = true then -((x.natAbs - y.natAbs : Nat) : Int) else ((x.natAbs - y.natAbs : Nat) : Int) := by
  by_cases hx : x < 0
  · have hy : ¬ y < 0 := by intro h2; simp [hx, h2] at h
    rw [if_pos (by simpa using hx)]; omega
  · have hy : y < 0 := by
      by_cases h2 : y < 0
      · exact h2
      · simp [hx, h2] at h
    rw [if_neg (by simpa using hx)]; omega
theorem diff_sign_b (x y : Int) (h : ¬ decide (x < 0) = decide (y < 0)) (hxy : x.natAbs < y.natAbs) : x + y = if decide (y < 0) = true then -((y.natAbs - x.natAbs : Nat) : Int) else ((y.natAbs - x.natAbs : Nat) : Int) := by
  rw [Int.add_comm]
  exact diff_sign_a y x (fun e => h e.symm) (by omega)

set_option maxRecDepth 100000 in
set_option maxHeartbeats 2000000 in
theorem nplus_any (x y : Int) (a : Option Addr) (n c : Nat) (b : Option Addr) (k d : Nat) (w : World) (hl : IsZ w a n c (zs (G x.natAbs))) (hm : IsZ w b k d (zs (G y.natAbs))) (hn : n ≤ 400) (hk : k ≤ 400) :
    Calls Tryz.prog 98 #[numV x a n c, numV y b k d] w fun e w' => ∃ a1 n1 c1, e = .returned (numV (x + y) a1 n1 c1) ∧ IsZ w' a1 n1 c1 (zs (G (x + y).natAbs)) ∧ Below w.heap.size w w' := by
  have hst := Bx.start w (decide (x < 0)) a n c (decide (y < 0)) b k d
  unfold numV
  rcases Decidable.em (decide (x < 0) = decide (y < 0)) with hs | hs
  · have hsum := same_sign x y hs
    obtain ⟨bx, hbx⟩ : ∃ bx, decide (x < 0) = bx := ⟨_, rfl⟩
    rw [← hs] at hst ⊢
    rw [hbx] at hst hsum ⊢
    obtain ⟨m, hm'⟩ : ∃ m, x.natAbs + y.natAbs = m := ⟨_, rfl⟩
    rw [hm'] at hsum
    have hab : (x + y).natAbs = m := by rw [hsum]; split <;> simp
    obtain ⟨bb, hbb⟩ : ∃ bb, (bx && decide (0 < m)) = bb := ⟨_, rfl⟩
    have hnv : ∀ a n c, numV (x + y) a n c = .agg #[.bool bb, .slice a n c] := fun a n c => by rw [hsum, numV_eq, hbb]
    have HS := Lib.hid (fun (W : World) (a : Option Addr) (n c : Nat) (h : IsZ W a n c (zs (G m))) => (show Calls Tryz.prog 111 #[.bool bx, .slice a n c] W (fun e w' => e = .returned (.agg #[.bool bb, .slice a n c]) ∧ Below W.heap.size W w') from (signed_any bx a n c m W h).mono (fun e w' h2 => by rw [numV_eq, hbb] at h2; exact h2)))
    have HR := Lib.hid (And.intro hnv hab)
    have HP := Lib.hid (fun (W : World) (hb : Bx w W bx a n c bx b k d) => plus_any a n c (G x.natAbs) b k d (G y.natAbs) x.natAbs y.natAbs W (hl.later hb.below) (hm.later hb.below) (G_lt _) (G_lt _) (V_G _) (V_G _) (by omega) (by omega))
    rw [hm'] at HP
    clear hl hm hs hbx hm' hsum hab hnv hbb
    go_enter Tryz.func98, Tryz.ntmps98
    go_wp2_with fail
    refine wp_world fun W hW => ?_
    rw [← hW] at hst
    have hd := hst.later (Below.refl _ W).drew
    have c0 := hst.c00
    have c1 := hst.c01
    have c2 := hst.c11
    clear hW
    go_region_held3 (fun w' => w'.cell? ⟨w.heap.size, 0, none⟩ = some (.bool bx) ∧ w'.cell? ⟨w.heap.size, 1, none⟩ = some (.slice a n c) ∧ w'.cell? ⟨w.heap.size + 1, 1, none⟩ = some (.slice b k d)) (first | exact ⟨far2 (ne0 _) k60, far2 (ne0 _) k61, far2 (ne1 _) k62⟩ | go_keep)
      (first
        | (go_at_call 109; (with_reducible refine (HP.out _ hd).mono ?_); rintro e w5 ⟨a5, n5, c5, rfl, z5, B5⟩; have x5 := hd.later B5; have k50 := x5.c00; have k51 := x5.c01; have k52 := x5.c11)
        | (go_at_call 111; (with_reducible refine (HS.out _ _ _ _ z5).mono ?_); rintro e w6 ⟨rfl, B6⟩; have x6 := x5.later B6; have k60 := x6.c00; have k61 := x6.c01; have k62 := x6.c11; have z6 := z5.later B6; obtain ⟨b0, s0, m0, e0, r6⟩ := x6.r2; have q0 : w6.cell? ⟨w.heap.size + 1 + 1, 0, none⟩ = some (.bool b0) := (by rw [cell_of_row _ _ 0 _ _ _ r6]; rfl); have q1 : w6.cell? ⟨w.heap.size + 1 + 1, 1, none⟩ = some (.slice s0 m0 e0) := (by rw [cell_of_row _ _ 1 _ _ _ r6]; rfl); have f0 : w6.frozen? ⟨w.heap.size + 1 + 1, 0, none⟩ = false := frozen_of_row _ _ 0 _ _ r6; have f1 : w6.frozen? ⟨w.heap.size + 1 + 1, 1, none⟩ = false := frozen_of_row _ _ 1 _ _ r6))
    have hfin := two_sets r6 bb (some a5) n5 c5
    have hz := IsZ.two r6 bb (some a5) n5 c5 z6
    have hB := (x6.below.setCell (p := ⟨w.heap.size + 1 + 1, 0, none⟩) (by show w.heap.size ≤ w.heap.size + 1 + 1; omega) (.bool bb)).setCell (p := ⟨w.heap.size + 1 + 1, 1, none⟩) (by show w.heap.size ≤ w.heap.size + 1 + 1; omega) (.slice (some a5) n5 c5)
    go_wp2_with fail
    exact bodyPost_ret (results_cell_row rfl _ _ (w.heap.size + 1 + 1) 91 #[.bool bb, .slice (some a5) n5 c5] _ _ rfl hfin Tryz.underlying91 rfl (by kernel_rfl)) rfl ⟨some a5, n5, c5, congrArg Ending.returned (HR.out.1 _ _ _).symm, by rw [HR.out.2]; exact hz, hB⟩
  · -- DIFFER
    obtain ⟨bx, hbx⟩ : ∃ bx, decide (x < 0) = bx := ⟨_, rfl⟩
    obtain ⟨bz, hbz⟩ : ∃ bz, decide (y < 0) = bz := ⟨_, rfl⟩
    have hc := compare_any a n c b k d x.natAbs y.natAbs _ (hl.later hst.below) (hm.later hst.below) (by omega) (by omega)
    rw [hbx, hbz] at hst hc ⊢
    have hne : (bx == bz) = false := by rw [← hbx, ← hbz]; simpa using hs
    have HB := Lib.hid hst
    rcases Nat.lt_or_ge x.natAbs y.natAbs with hxy | hxy
    · rw [cmp_lt hxy] at hc
      have HC := Lib.hid hc
      obtain ⟨m, hm'⟩ : ∃ m, y.natAbs - x.natAbs = m := ⟨_, rfl⟩
      obtain ⟨bb, hbb⟩ : ∃ bb, (bz && decide (0 < m)) = bb := ⟨_, rfl⟩
      have hsum : x + y = if bz = true then -(m : Int) else (m : Int) := by rw [← hbz, ← hm']; exact diff_sign_b x y hs hxy
      have hab : (x + y).natAbs = m := by rw [hsum]; split <;> simp
      have hnv : ∀ a n c, numV (x + y) a n c = .agg #[.bool bb, .slice a n c] := fun a n c => by rw [hsum, numV_eq, hbb]
      have HS := Lib.hid (fun (W : World) (a : Option Addr) (n c : Nat) (h : IsZ W a n c (zs (G m))) => (show Calls Tryz.prog 111 #[.bool bz, .slice a n c] W (fun e w' => e = .returned (.agg #[.bool bb, .slice a n c]) ∧ Below W.heap.size W w') from (signed_any bz a n c m W h).mono (fun e w' h2 => by rw [numV_eq, hbb] at h2; exact h2)))
      have HR := Lib.hid (And.intro hnv hab)
      have HP := Lib.hid (fun (W : World) (hb : Bx w W bz b k d bx a n c) => minus_any b k d (G y.natAbs) a n c (G x.natAbs) y.natAbs x.natAbs W (hm.later hb.below) (hl.later hb.below) (G_lt _) (G_lt _) (V_G _) (V_G _) (by omega) (by rw [← hl.glen, ← hm.glen]; exact dgs_length_mono (by omega)) (by omega))
      rw [hm'] at HP
      clear hl hm hs hbx hbz hm' hsum hab hnv hbb hc hst hxy
      go_enter Tryz.func98, Tryz.ntmps98
      go_wp2_with (first
        | (go_at_call 115; (with_reducible refine HC.out.mono ?_); rintro e w1 ⟨rfl, hb1⟩; have hst := HB.out.later hb1; obtain ⟨t0, t1, t2, t3, hr2⟩ := hst.r2; have hr0 := hst.r0; have hr1 := hst.r1; have hr1' : (w1.setRow w.heap.size #[.bool bz, .slice b k d]).heap[w.heap.size + 1]? = some (.cells #[.bool bz, .slice b k d] 91 (0, 0)) := (Go.setRow_other w1 w.heap.size _ _ (by omega)).trans hr1)
        | (refine wpList_load_row rfl 91 _ rfl (w.heap.size + 1) rfl 91 _ _ _ hr1 Tryz.underlying91 rfl ?l1 ?_)
        | (refine wpList_load_row rfl 91 _ rfl w.heap.size rfl 91 _ _ _ hr0 Tryz.underlying91 rfl ?l2 ?_)
        | (refine wpList_store_row rfl 91 _ _ rfl w.heap.size _ rfl rfl 91 _ hr0 ?s1 ?s2 ?s3 ?_)
        | (refine wpList_store_row rfl 91 _ _ rfl (w.heap.size + 1) _ rfl rfl 91 _ hr1' ?s4 ?s5 ?s6 ?_))
      case l1 => kernel_rfl
      case l2 => kernel_rfl
      case s1 => kernel_rfl
      case s2 => rfl
      case s3 => exact two_cells _ _ _ _
      case s4 => kernel_rfl
      case s5 => rfl
      case s6 => exact two_cells _ _ _ _
      refine wp_world fun W hW => ?_
      have hst : Bx w W bz b k d bx a n c := by
        rw [hW]
        refine ⟨below_row (below_row hst.below (Nat.le_refl _) _) (by omega) _, ?_, ?_, t0, t1, t2, t3, ?_⟩
        · exact (Go.setRow_other _ _ _ _ (by omega)).trans (setRow_heap w1 w.heap.size _ _ _ _ hr0)
        · exact setRow_heap _ (w.heap.size + 1) _ _ _ _ hr1'
        · exact (Go.setRow_other _ _ _ _ (by omega)).trans ((Go.setRow_other _ _ _ _ (by omega)).trans hr2)
      clear hW hr0 hr1 hr1' hr2 hb1
      have hd := hst.later (Below.refl _ W).drew
      have c0 := hst.c00
      have c1 := hst.c01
      have c2 := hst.c11
      go_region_held3 (fun w' => w'.cell? ⟨w.heap.size, 0, none⟩ = some (.bool bz) ∧ w'.cell? ⟨w.heap.size, 1, none⟩ = some (.slice b k d) ∧ w'.cell? ⟨w.heap.size + 1, 1, none⟩ = some (.slice a n c)) (first | exact ⟨far2 (ne0 _) k60, far2 (ne0 _) k61, far2 (ne1 _) k62⟩ | go_keep)
        (first
          | (go_at_call 110; (with_reducible refine (HP.out _ hd).mono ?_); rintro e w5 ⟨a5, n5, c5, rfl, z5, B5⟩; have x5 := hd.later B5; have k50 := x5.c00; have k51 := x5.c01; have k52 := x5.c11)
          | (go_at_call 111; (with_reducible refine (HS.out _ _ _ _ z5).mono ?_); rintro e w6 ⟨rfl, B6⟩; have x6 := x5.later B6; have k60 := x6.c00; have k61 := x6.c01; have k62 := x6.c11; have z6 := z5.later B6; obtain ⟨b0, s0, m0, e0, r6⟩ := x6.r2; have q0 : w6.cell? ⟨w.heap.size + 1 + 1, 0, none⟩ = some (.bool b0) := (by rw [cell_of_row _ _ 0 _ _ _ r6]; rfl); have q1 : w6.cell? ⟨w.heap.size + 1 + 1, 1, none⟩ = some (.slice s0 m0 e0) := (by rw [cell_of_row _ _ 1 _ _ _ r6]; rfl); have f0 : w6.frozen? ⟨w.heap.size + 1 + 1, 0, none⟩ = false := frozen_of_row _ _ 0 _ _ r6; have f1 : w6.frozen? ⟨w.heap.size + 1 + 1, 1, none⟩ = false := frozen_of_row _ _ 1 _ _ r6))
      have hfin := two_sets r6 bb (some a5) n5 c5
      have hz := IsZ.two r6 bb (some a5) n5 c5 z6
      have hB := (x6.below.setCell (p := ⟨w.heap.size + 1 + 1, 0, none⟩) (by show w.heap.size ≤ w.heap.size + 1 + 1; omega) (.bool bb)).setCell (p := ⟨w.heap.size + 1 + 1, 1, none⟩) (by show w.heap.size ≤ w.heap.size + 1 + 1; omega) (.slice (some a5) n5 c5)
      go_wp2_with fail
      exact bodyPost_ret (results_cell_row rfl _ _ (w.heap.size + 1 + 1) 91 #[.bool bb, .slice (some a5) n5 c5] _ _ rfl hfin Tryz.underlying91 rfl (by kernel_rfl)) rfl ⟨some a5, n5, c5, congrArg Ending.returned (HR.out.1 _ _ _).symm, by rw [HR.out.2]; exact hz, hB⟩
    · have hcg : decide (cmp x.natAbs y.natAbs < 0) = false := by unfold cmp; rw [if_neg (by omega)]; split <;> simp
      obtain ⟨u, hu⟩ : ∃ u, cmp x.natAbs y.natAbs = u := ⟨_, rfl⟩
      rw [hu] at hc hcg
      have HC := Lib.hid hc
      obtain ⟨m, hm'⟩ : ∃ m, x.natAbs - y.natAbs = m := ⟨_, rfl⟩
      obtain ⟨bb, hbb⟩ : ∃ bb, (bx && decide (0 < m)) = bb := ⟨_, rfl⟩
      have hsum : x + y = if bx = true then -(m : Int) else (m : Int) := by rw [← hbx, ← hm']; exact diff_sign_a x y hs hxy
      have hab : (x + y).natAbs = m := by rw [hsum]; split <;> simp
      have hnv : ∀ a n c, numV (x + y) a n c = .agg #[.bool bb, .slice a n c] := fun a n c => by rw [hsum, numV_eq, hbb]
      have HS := Lib.hid (fun (W : World) (a : Option Addr) (n c : Nat) (h : IsZ W a n c (zs (G m))) => (show Calls Tryz.prog 111 #[.bool bx, .slice a n c] W (fun e w' => e = .returned (.agg #[.bool bb, .slice a n c]) ∧ Below W.heap.size W w') from (signed_any bx a n c m W h).mono (fun e w' h2 => by rw [numV_eq, hbb] at h2; exact h2)))
      have HR := Lib.hid (And.intro hnv hab)
      have HP := Lib.hid (fun (W : World) (hb : Bx w W bx a n c bz b k d) => minus_any a n c (G x.natAbs) b k d (G y.natAbs) x.natAbs y.natAbs W (hl.later hb.below) (hm.later hb.below) (G_lt _) (G_lt _) (V_G _) (V_G _) (by omega) (by rw [← hm.glen, ← hl.glen]; exact dgs_length_mono (by omega)) (by omega))
      rw [hm'] at HP
      clear hl hm hs hbx hbz hm' hsum hab hnv hbb hc hst hxy hu
      go_enter Tryz.func98, Tryz.ntmps98
      go_wp2_with (go_at_call 115; (with_reducible refine HC.out.mono ?_); rintro e W ⟨rfl, hb1⟩)
      have hst := HB.out.later hb1
      clear hb1
      have hd := hst.later (Below.refl _ W).drew
      have c0 := hst.c00
      have c1 := hst.c01
      have c2 := hst.c11
      go_region_held3 (fun w' => w'.cell? ⟨w.heap.size, 0, none⟩ = some (.bool bx) ∧ w'.cell? ⟨w.heap.size, 1, none⟩ = some (.slice a n c) ∧ w'.cell? ⟨w.heap.size + 1, 1, none⟩ = some (.slice b k d)) (first | exact ⟨far2 (ne0 _) k60, far2 (ne0 _) k61, far2 (ne1 _) k62⟩ | go_keep)
        (first
          | (go_at_call 110; (with_reducible refine (HP.out _ hd).mono ?_); rintro e w5 ⟨a5, n5, c5, rfl, z5, B5⟩; have x5 := hd.later B5; have k50 := x5.c00; have k51 := x5.c01; have k52 := x5.c11)
          | (go_at_call 111; (with_reducible refine (HS.out _ _ _ _ z5).mono ?_); rintro e w6 ⟨rfl, B6⟩; have x6 := x5.later B6; have k60 := x6.c00; have k61 := x6.c01; have k62 := x6.c11; have z6 := z5.later B6; obtain ⟨b0, s0, m0, e0, r6⟩ := x6.r2; have q0 : w6.cell? ⟨w.heap.size + 1 + 1, 0, none⟩ = some (.bool b0) := (by rw [cell_of_row _ _ 0 _ _ _ r6]; rfl); have q1 : w6.cell? ⟨w.heap.size + 1 + 1, 1, none⟩ = some (.slice s0 m0 e0) := (by rw [cell_of_row _ _ 1 _ _ _ r6]; rfl); have f0 : w6.frozen? ⟨w.heap.size + 1 + 1, 0, none⟩ = false := frozen_of_row _ _ 0 _ _ r6; have f1 : w6.frozen? ⟨w.heap.size + 1 + 1, 1, none⟩ = false := frozen_of_row _ _ 1 _ _ r6))
      have hfin := two_sets r6 bb (some a5) n5 c5
      have hz := IsZ.two r6 bb (some a5) n5 c5 z6
      have hB := (x6.below.setCell (p := ⟨w.heap.size + 1 + 1, 0, none⟩) (by show w.heap.size ≤ w.heap.size + 1 + 1; omega) (.bool bb)).setCell (p := ⟨w.heap.size + 1 + 1, 1, none⟩) (by show w.heap.size ≤ w.heap.size + 1 + 1; omega) (.slice (some a5) n5 c5)
      go_wp2_with fail
      exact bodyPost_ret (results_cell_row rfl _ _ (w.heap.size + 1 + 1) 91 #[.bool bb, .slice (some a5) n5 c5] _ _ rfl hfin Tryz.underlying91 rfl (by kernel_rfl)) rfl ⟨some a5, n5, c5, congrArg Ending.returned (HR.out.1 _ _ _).symm, by rw [HR.out.2]; exact hz, hB⟩

end Go.Proofs.YtjkklgpbblkhaaaGreatDoor

/-
  Layer 3: differences, products, greatest common divisors and quotients of numbers with signs.
-/
namespace Go.Proofs.YtjkklgpbblkhaaaGreatDoor
open Go.RowKit Bs Ig

set_option maxRecDepth 100000 in
set_option maxHeartbeats 2000000 in
theorem nminus_any (x y : Int) (a : Option Addr) (n c : Nat) (b : Option Addr) (k d : Nat) (w : World) (hl : IsZ w a n c (zs (G x.natAbs))) (hm : IsZ w b k d (zs (G y.natAbs))) (hn : n ≤ 400) (hk : k ≤ 400) :
    Calls Tryz.prog 103 #[numV x a n c, numV y b k d] w fun e w' => ∃ a1 n1 c1, e = .returned (numV (x - y) a1 n1 c1) ∧ IsZ w' a1 n1 c1 (zs (G (x - y).natAbs)) ∧ Below w.heap.size w w' := by
  have hst := Bx.start w (decide (x < 0)) a n c (decide (y < 0)) b k d
  have hny : ∀ a n c, numV (-y) a n c = numV (if (!decide (y < 0)) = true then -(y.natAbs : Int) else (y.natAbs : Int)) a n c := fun a n c => by
    congr 1
    by_cases h : y < 0
    · simp [h]; omega
    · simp [h]; omega
  have HS := Lib.hid (fun (W : World) (hb : Bx w W (decide (x < 0)) a n c (decide (y < 0)) b k d) => (show Calls Tryz.prog 111 #[.bool (!decide (y < 0)), .slice b k d] W (fun e w' => e = .returned (numV (-y) b k d) ∧ Below W.heap.size W w') from (signed_any (!decide (y < 0)) b k d y.natAbs W (hm.later hb.below)).mono (fun e w' h2 => by rw [hny]; exact h2)))
  have HP := Lib.hid (fun (W : World) (hb : Bx w W (decide (x < 0)) a n c (decide (y < 0)) b k d) => (show Calls Tryz.prog 98 #[numV x a n c, numV (-y) b k d] W (fun e w' => ∃ a1 n1 c1, e = .returned (numV (x - y) a1 n1 c1) ∧ IsZ w' a1 n1 c1 (zs (G (x - y).natAbs)) ∧ Below W.heap.size W w') from by
    have := nplus_any x (-y) a n c b k d W (hl.later hb.below) (by rw [Int.natAbs_neg]; exact hm.later hb.below) hn hk
    rw [show x + -y = x - y by omega] at this
    exact this))
  unfold numV at *
  obtain ⟨bx, hbx⟩ : ∃ bx, decide (x < 0) = bx := ⟨_, rfl⟩
  obtain ⟨bz, hbz⟩ : ∃ bz, decide (y < 0) = bz := ⟨_, rfl⟩
  obtain ⟨bn, hbn⟩ : ∃ bn, decide (-y < 0) = bn := ⟨_, rfl⟩
  obtain ⟨br, hbr⟩ : ∃ br, decide (x - y < 0) = br := ⟨_, rfl⟩
  rw [hbx, hbz] at hst
  simp only [hbx, hbz, hbn, hbr] at HS HP ⊢
  clear hl hm hny hbx hbz hbn hbr
  go_enter Tryz.func103, Tryz.ntmps103
  go_wp2_with fail
  refine wp_world fun W hW => ?_
  rw [← hW] at hst
  have hd := hst.later (Below.refl _ W).drew
  have c0 := hst.c00
  have c1 := hst.c01
  have c2 := hst.c10
  have c3 := hst.c11
  clear hW
  go_region_held3 (fun w' => w'.cell? ⟨w.heap.size, 0, none⟩ = some (.bool bx) ∧ w'.cell? ⟨w.heap.size, 1, none⟩ = some (.slice a n c) ∧ w'.cell? ⟨w.heap.size + 1, 0, none⟩ = some (.bool bz) ∧ w'.cell? ⟨w.heap.size + 1, 1, none⟩ = some (.slice b k d)) (first | exact ⟨far2 (ne0 _) k60, far2 (ne0 _) k61, far2 (ne1 _) k62, far2 (ne1 _) k63⟩ | go_keep)
    (first
      | (go_at_call 111; (with_reducible refine (HS.out _ hd).mono ?_); rintro e w5 ⟨rfl, B5⟩; have x5 := hd.later B5; have k50 := x5.c00; have k51 := x5.c01; have k52 := x5.c10; have k53 := x5.c11)
      | (go_at_call 98; (with_reducible refine (HP.out _ x5).mono ?_); rintro e w6 ⟨a5, n5, c5, rfl, z6, B6⟩; have x6 := x5.later B6; have k60 := x6.c00; have k61 := x6.c01; have k62 := x6.c10; have k63 := x6.c11; obtain ⟨b0, s0, m0, e0, r6⟩ := x6.r2; have q0 : w6.cell? ⟨w.heap.size + 1 + 1, 0, none⟩ = some (.bool b0) := (by rw [cell_of_row _ _ 0 _ _ _ r6]; rfl); have q1 : w6.cell? ⟨w.heap.size + 1 + 1, 1, none⟩ = some (.slice s0 m0 e0) := (by rw [cell_of_row _ _ 1 _ _ _ r6]; rfl); have f0 : w6.frozen? ⟨w.heap.size + 1 + 1, 0, none⟩ = false := frozen_of_row _ _ 0 _ _ r6; have f1 : w6.frozen? ⟨w.heap.size + 1 + 1, 1, none⟩ = false := frozen_of_row _ _ 1 _ _ r6))
  have hfin := two_sets r6 br a5 n5 c5
  have hz := IsZ.two r6 br a5 n5 c5 z6
  have hB := (x6.below.setCell (p := ⟨w.heap.size + 1 + 1, 0, none⟩) (by show w.heap.size ≤ w.heap.size + 1 + 1; omega) (.bool br)).setCell (p := ⟨w.heap.size + 1 + 1, 1, none⟩) (by show w.heap.size ≤ w.heap.size + 1 + 1; omega) (.slice a5 n5 c5)
  go_wp2_with fail
  exact bodyPost_ret (results_cell_row rfl _ _ (w.heap.size + 1 + 1) 91 #[.bool br, .slice a5 n5 c5] _ _ rfl hfin Tryz.underlying91 rfl (by kernel_rfl)) rfl ⟨a5, n5, c5, rfl, hz, hB⟩

theorem mul_sign (x y : Int) : x * y = if (decide (x < 0) != decide (y < 0)) = true then -((x.natAbs * y.natAbs : Nat) : Int) else ((x.natAbs * y.natAbs : Nat) : Int) := by
  have d0 : ∀ n : Nat, decide ((n : Int) < 0) = false := fun n => by simp
  have d1 : ∀ n : Nat, 0 < n → decide (-(n : Int) < 0) = true := fun n h => by simp; omega
  rcases int_cases x with ⟨p, rfl⟩ | ⟨p, hp, rfl⟩ <;> rcases int_cases y with ⟨q, rfl⟩ | ⟨q, hq, rfl⟩
  · rw [d0, d0, if_neg (by decide), Int.natAbs_natCast, Int.natAbs_natCast, Int.natCast_mul]
  · rw [d0, d1 q hq, if_pos (by decide), Int.natAbs_natCast, Int.natAbs_neg, Int.natAbs_natCast, Int.natCast_mul, Int.mul_neg]
  · rw [d0, d1 p hp, if_pos (by decide), Int.natAbs_natCast, Int.natAbs_neg, Int.natAbs_natCast, Int.natCast_mul, Int.neg_mul]
  · rw [d1 p hp, d1 q hq, if_neg (by decide), Int.natAbs_neg, Int.natAbs_neg, Int.natAbs_natCast, Int.natAbs_natCast, Int.natCast_mul, Int.neg_mul_neg]

set_option maxRecDepth 100000 in
set_option maxHeartbeats 2000000 in
theorem ntimes_any (x y : Int) (a : Option Addr) (n c : Nat) (b : Option Addr) (k d : Nat) (w : World) (hl : IsZ w a n c (zs (G x.natAbs))) (hm : IsZ w b k d (zs (G y.natAbs))) (hn : n ≤ 400) (hk : k ≤ 400) :
    Calls Tryz.prog 101 #[numV x a n c, numV y b k d] w fun e w' => ∃ a1 n1 c1, e = .returned (numV (x * y) a1 n1 c1) ∧ IsZ w' a1 n1 c1 (zs (G (x * y).natAbs)) ∧ Below w.heap.size w w' := by
  have hst := Bx.start w (decide (x < 0)) a n c (decide (y < 0)) b k d
  have hsum := mul_sign x y
  unfold numV
  obtain ⟨bx, hbx⟩ : ∃ bx, decide (x < 0) = bx := ⟨_, rfl⟩
  obtain ⟨bz, hbz⟩ : ∃ bz, decide (y < 0) = bz := ⟨_, rfl⟩
  rw [hbx, hbz] at hst hsum ⊢
  obtain ⟨m, hm'⟩ : ∃ m, x.natAbs * y.natAbs = m := ⟨_, rfl⟩
  rw [hm'] at hsum
  have hab : (x * y).natAbs = m := by rw [Int.natAbs_mul]; exact hm'
  obtain ⟨bd, hbd⟩ : ∃ bd, (bx != bz) = bd := ⟨_, rfl⟩
  rw [hbd] at hsum
  obtain ⟨bb, hbb⟩ : ∃ bb, (bd && decide (0 < m)) = bb := ⟨_, rfl⟩
  have hnv : ∀ a n c, numV (x * y) a n c = .agg #[.bool bb, .slice a n c] := fun a n c => by rw [hsum, numV_eq, hbb]
  have HS := Lib.hid (fun (W : World) (a : Option Addr) (n c : Nat) (h : IsZ W a n c (zs (G m))) => (show Calls Tryz.prog 111 #[.bool bd, .slice a n c] W (fun e w' => e = .returned (.agg #[.bool bb, .slice a n c]) ∧ Below W.heap.size W w') from (signed_any bd a n c m W h).mono (fun e w' h2 => by rw [numV_eq, hbb] at h2; exact h2)))
  have HR := Lib.hid (And.intro hnv hab)
  have HP := Lib.hid (fun (W : World) (hb : Bx w W bx a n c bz b k d) => times_any a n c (G x.natAbs) b k d (G y.natAbs) x.natAbs y.natAbs W (hl.later hb.below) (hm.later hb.below) (G_lt _) (G_lt _) (V_G _) (V_G _) (by omega) (by omega))
  rw [hm'] at HP
  have hbd2 : (!(bx == bz)) = bd := hbd
  clear hl hm hbx hbz hm' hsum hab hnv hbb hbd
  go_enter Tryz.func101, Tryz.ntmps101
  go_wp2_with fail
  refine wp_world fun W hW => ?_
  rw [← hW] at hst
  have hd := hst.later (Below.refl _ W).drew
  have c0 := hst.c00
  have c1 := hst.c01
  have c2 := hst.c10
  have c3 := hst.c11
  clear hW
  go_region_held3 (fun w' => w'.cell? ⟨w.heap.size, 0, none⟩ = some (.bool bx) ∧ w'.cell? ⟨w.heap.size, 1, none⟩ = some (.slice a n c) ∧ w'.cell? ⟨w.heap.size + 1, 0, none⟩ = some (.bool bz) ∧ w'.cell? ⟨w.heap.size + 1, 1, none⟩ = some (.slice b k d)) (first | exact ⟨far2 (ne0 _) k60, far2 (ne0 _) k61, far2 (ne1 _) k62, far2 (ne1 _) k63⟩ | go_keep)
    (first
      | (go_at_call 122; (with_reducible refine (HP.out _ hd).mono ?_); rintro e w5 ⟨a5, n5, c5, rfl, z5, B5⟩; have x5 := hd.later B5; have k50 := x5.c00; have k51 := x5.c01; have k52 := x5.c10; have k53 := x5.c11)
      | (go_at_call 111; (with_reducible refine (HS.out _ _ _ _ z5).mono ?_); rintro e w6 ⟨rfl, B6⟩; have x6 := x5.later B6; have z6 := z5.later B6; have k60 := x6.c00; have k61 := x6.c01; have k62 := x6.c10; have k63 := x6.c11; obtain ⟨b0, s0, m0, e0, r6⟩ := x6.r2; have q0 : w6.cell? ⟨w.heap.size + 1 + 1, 0, none⟩ = some (.bool b0) := (by rw [cell_of_row _ _ 0 _ _ _ r6]; rfl); have q1 : w6.cell? ⟨w.heap.size + 1 + 1, 1, none⟩ = some (.slice s0 m0 e0) := (by rw [cell_of_row _ _ 1 _ _ _ r6]; rfl); have f0 : w6.frozen? ⟨w.heap.size + 1 + 1, 0, none⟩ = false := frozen_of_row _ _ 0 _ _ r6; have f1 : w6.frozen? ⟨w.heap.size + 1 + 1, 1, none⟩ = false := frozen_of_row _ _ 1 _ _ r6))
  have hfin := two_sets r6 bb (some a5) n5 c5
  have hz := IsZ.two r6 bb (some a5) n5 c5 z6
  have hB := (x6.below.setCell (p := ⟨w.heap.size + 1 + 1, 0, none⟩) (by show w.heap.size ≤ w.heap.size + 1 + 1; omega) (.bool bb)).setCell (p := ⟨w.heap.size + 1 + 1, 1, none⟩) (by show w.heap.size ≤ w.heap.size + 1 + 1; omega) (.slice (some a5) n5 c5)
  go_wp2_with fail
  exact bodyPost_ret (results_cell_row rfl _ _ (w.heap.size + 1 + 1) 91 #[.bool bb, .slice (some a5) n5 c5] _ _ rfl hfin Tryz.underlying91 rfl (by kernel_rfl)) rfl ⟨some a5, n5, c5, congrArg Ending.returned (HR.out.1 _ _ _).symm, by rw [HR.out.2]; exact hz, hB⟩

end Go.Proofs.YtjkklgpbblkhaaaGreatDoor

/-
  Layer 3: integers' quotients from those of their sizes.
-/
namespace Go.Proofs.YtjkklgpbblkhaaaGreatDoor
open Go.RowKit Bs Ig

theorem ediv_pos_a (p q : Nat) (hq : 0 < q) : (p : Int) / (q : Int) = ((p / q : Nat) : Int) ∧ (p : Int) % (q : Int) = ((p % q : Nat) : Int) := ⟨rfl, rfl⟩
theorem ediv_neg_a (p q : Nat) (hq : 0 < q) (h : p % q = 0) : (-(p : Int)) / (q : Int) = -((p / q : Nat) : Int) ∧ (-(p : Int)) % (q : Int) = ((p % q : Nat) : Int) := by
  refine (Int.ediv_emod_unique (by omega)).2 ⟨?_, by omega, by rw [h]; omega⟩
  have h1 := Nat.div_add_mod p q
  rw [h] at h1 ⊢
  have h2 : (q : Int) * ((p / q : Nat) : Int) = (p : Int) := by exact_mod_cast h1
  rw [Int.mul_neg, h2]
  simp
theorem ediv_neg_b (p q : Nat) (hq : 0 < q) (h : 0 < p % q) : (-(p : Int)) / (q : Int) = -((p / q + 1 : Nat) : Int) ∧ (-(p : Int)) % (q : Int) = ((q - p % q : Nat) : Int) := by
  have hlt := Nat.mod_lt p hq
  refine (Int.ediv_emod_unique (by omega)).2 ⟨?_, by omega, by omega⟩
  have h1 := Nat.div_add_mod p q
  have h2 : (q : Int) * ((p / q : Nat) : Int) + ((p % q : Nat) : Int) = (p : Int) := by exact_mod_cast h1
  rw [Int.mul_neg, show ((p / q + 1 : Nat) : Int) = ((p / q : Nat) : Int) + 1 by omega, Int.mul_add, Int.mul_one]
  omega

theorem ediv_sign (x y : Int) (hy : y ≠ 0) (Q R : Nat)
    (h : (decide (x < 0) = false ∨ x.natAbs % y.natAbs = 0) ∧ Q = x.natAbs / y.natAbs ∧ R = x.natAbs % y.natAbs ∨ (decide (x < 0) = true ∧ 0 < x.natAbs % y.natAbs) ∧ Q = x.natAbs / y.natAbs + 1 ∧ R = y.natAbs - x.natAbs % y.natAbs) :
    x / y = (if (decide (x < 0) != decide (y < 0)) = true then -(Q : Int) else (Q : Int)) ∧ x % y = (R : Int) := by
  have d0 : ∀ n : Nat, decide ((n : Int) < 0) = false := fun n => by simp
  have d1 : ∀ n : Nat, 0 < n → decide (-(n : Int) < 0) = true := fun n h => by simp; omega
  rcases int_cases x with ⟨p, rfl⟩ | ⟨p, hp, rfl⟩ <;> rcases int_cases y with ⟨q, rfl⟩ | ⟨q, hq, rfl⟩
  · have hq : 0 < q := by omega
    rw [d0] at h ⊢
    rw [d0]
    rw [Int.natAbs_natCast, Int.natAbs_natCast] at h
    rcases h with ⟨_, rfl, rfl⟩ | ⟨⟨h, _⟩, _⟩
    · exact ediv_pos_a p q hq
    · cases h
  · rw [d0] at h ⊢
    rw [d1 q hq]
    rw [Int.natAbs_natCast, Int.natAbs_neg, Int.natAbs_natCast] at h
    rw [Int.ediv_neg, Int.emod_neg]
    rcases h with ⟨_, rfl, rfl⟩ | ⟨⟨h, _⟩, _⟩
    · obtain ⟨h1, h2⟩ := ediv_pos_a p q hq
      rw [h1, h2]
      exact ⟨rfl, rfl⟩
    · cases h
  · have hq : 0 < q := by omega
    rw [d1 p hp] at h ⊢
    rw [d0]
    rw [Int.natAbs_natCast, Int.natAbs_neg, Int.natAbs_natCast] at h
    rcases h with ⟨h | h, rfl, rfl⟩ | ⟨⟨_, h⟩, rfl, rfl⟩
    · cases h
    · exact ediv_neg_a p q hq h
    · exact ediv_neg_b p q hq h
  · rw [d1 p hp] at h ⊢
    rw [d1 q hq]
    rw [Int.natAbs_neg, Int.natAbs_neg, Int.natAbs_natCast, Int.natAbs_natCast] at h
    rw [Int.ediv_neg, Int.emod_neg]
    rcases h with ⟨h | h, rfl, rfl⟩ | ⟨⟨_, h⟩, rfl, rfl⟩
    · cases h
    · obtain ⟨h1, h2⟩ := ediv_neg_a p q hq h
      rw [h1, h2, Int.neg_neg]
      exact ⟨rfl, rfl⟩
    · obtain ⟨h1, h2⟩ := ediv_neg_b p q hq h
      rw [h1, h2, Int.neg_neg]
      exact ⟨rfl, rfl⟩

theorem results_two_rows {P : Program} {fn : Func} {p q : Tmp} {ty : TypeId} (h : fn.results = #[.cell p ty, .cell q ty]) (tmps : Array Value) (w : World) (g k : Nat) (t t' : TypeId) (cs ds : Array Value) (fr fr' : Nat × Nat) (d : TypeDesc)
    (hp : tmps.getD p undef = .pointer (some ⟨g, 0, none⟩)) (hq : tmps.getD q undef = .pointer (some ⟨k, 0, none⟩)) (hg : w.heap[g]? = some (.cells cs t fr)) (hk : w.heap[k]? = some (.cells ds t' fr'))
    (hu : P.underlying ty = some d) (hd : (match d with | .struct _ | .array _ _ => true | _ => false) = true) (hi : (P.info? ty).map (·.size) = some cs.size) (hj : (P.info? ty).map (·.size) = some ds.size) :
    (results fn tmps).run P w = .ok (.tuple #[.agg cs, .agg ds]) w := by
  have hp' : tmps[p]?.getD undef = .pointer (some ⟨g, 0, none⟩) := by simpa using hp
  have hq' : tmps[q]?.getD undef = .pointer (some ⟨k, 0, none⟩) := by simpa using hq
  simp [results, h, hp', hq', asAddr, Sem.run_bind, Result.andThen, run_loadVar_row w g t ty cs fr d hg hu hd hi, run_loadVar_row w k t' ty ds fr' d hk hu hd hj]

/-- four boxes -/
structure Bw (w W : World) (bx : Bool) (a : Option Addr) (n c : Nat) (bz : Bool) (b : Option Addr) (k d : Nat) : Prop where
  bx : Bx w W bx a n c bz b k d
  r3 : ∃ b0 s m e, W.heap[w.heap.size + 1 + 1 + 1]? = some (.cells #[.bool b0, .slice s m e] 91 (0, 0))
theorem Bw.start (w : World) (bx : Bool) (a : Option Addr) (n c : Nat) (bz : Bool) (b : Option Addr) (k d : Nat) :
    Bw w ((((w.alloc (.cells #[.bool bx, .slice a n c] 91)).alloc (.cells #[.bool bz, .slice b k d] 91)).alloc (.cells #[.bool false, .slice none 0 0] 91)).alloc (.cells #[.bool false, .slice none 0 0] 91)) bx a n c bz b k d := by
  refine ⟨(Bx.start w bx a n c bz b k d).later ((Below.refl _ _).alloc (Nat.le_refl _) _), false, none, 0, 0, ?_⟩
  have := heap_alloc_new (((w.alloc (.cells #[.bool bx, .slice a n c] 91)).alloc (.cells #[.bool bz, .slice b k d] 91)).alloc (.cells #[.bool false, .slice none 0 0] 91)) (.cells #[.bool false, .slice none 0 0] 91)
  simp only [World.size_alloc] at this
  exact this
theorem Bw.later {w W W' : World} {bx bz : Bool} {a b : Option Addr} {n c k d : Nat} (h : Bw w W bx a n c bz b k d) (hb : Below W.heap.size W W') : Bw w W' bx a n c bz b k d := by
  obtain ⟨b0, s, m, e, h2⟩ := h.r3
  exact ⟨h.bx.later hb, b0, s, m, e, (hb.block _ (Array.getElem?_eq_some_iff.1 h2).1).trans h2⟩

end Go.Proofs.YtjkklgpbblkhaaaGreatDoor

/-
  Layer 3: greatest common divisors and quotients of numbers with signs.
-/
namespace Go.Proofs.YtjkklgpbblkhaaaGreatDoor
open Go.RowKit Bs Ig

set_option maxRecDepth 100000 in
set_option maxHeartbeats 2000000 in
theorem ngcd_any (x y : Int) (a : Option Addr) (n c : Nat) (b : Option Addr) (k d : Nat) (w : World) (hl : IsZ w a n c (zs (G x.natAbs))) (hm : IsZ w b k d (zs (G y.natAbs))) (hn : n ≤ 400) (hk : k ≤ 400) :
    Calls Tryz.prog 94 #[numV x a n c, numV y b k d] w fun e w' => ∃ a1 n1 c1, e = .returned (numV (Int.gcd x y : Nat) a1 n1 c1) ∧ IsZ w' a1 n1 c1 (zs (G (Int.gcd x y))) ∧ Below w.heap.size w w' := by
  have hst := Bx.start w (decide (x < 0)) a n c (decide (y < 0)) b k d
  have hgc : Int.gcd x y = Nat.gcd x.natAbs y.natAbs := rfl
  have hl2 := hl.later hst.below
  have hm2 := hm.later hst.below
  obtain ⟨M, hM⟩ := numOf
  have HM := Lib.hid hM
  unfold numV
  obtain ⟨bx, hbx⟩ : ∃ bx, decide (x < 0) = bx := ⟨_, rfl⟩
  obtain ⟨bz, hbz⟩ : ∃ bz, decide (y < 0) = bz := ⟨_, rfl⟩
  rw [hbx, hbz] at hst hl2 hm2 ⊢
  rw [show decide (((Int.gcd x y : Nat) : Int) < 0) = false by simp]
  obtain ⟨gg, hgg⟩ : ∃ gg, Int.gcd x y = gg := ⟨_, rfl⟩
  rw [hgg] at hgc ⊢
  have Hg := Lib.hid hgc.symm
  clear hl hm hbx hbz hgg hgc hM
  go_enter Tryz.func94, Tryz.ntmps94
  go_wp2_with fail
  refine wp_world fun W hW => ?_
  rw [← hW] at hst hl2 hm2
  have c1 := hst.c01
  have c3 := hst.c11
  have Hl := Lib.hid (And.intro hl2 hm2)
  clear hW hl2 hm2
  go_quiet (fail)
  have hst1 := hst.later (Below.refl _ W)
  have hB1 : Below W.heap.size W (W.drewN nq) := below_drewN (Below.refl _ _) nq
  have hst2 := hst.later hB1
  have H2 := Lib.hid (And.intro (Hl.out.1.later hB1) (Hl.out.2.later hB1))
  clear c1 c3 hst hst1 hB1 Hl
  generalize W.drewN nq = W2 at *
  go_wp2_with fail
  go_loopw [5, 6] (fun p q wr => ∃ (pa : Option Addr) (pn pc u : Nat) (qa : Option Addr) (qn qc v : Nat), p = .slice pa pn pc ∧ q = .slice qa qn qc ∧ IsZ wr pa pn pc (zs (G u)) ∧ IsZ wr qa qn qc (zs (G v)) ∧ Nat.gcd u v = gg ∧ pn ≤ 400 ∧ qn ≤ 400 ∧ Below W2.heap.size W2 wr) (fun _ q wr => M q wr)
  case atStart => exact ⟨a, n, c, x.natAbs, b, k, d, y.natAbs, rfl, rfl, H2.out.1, H2.out.2, Hg.out, hn, hk, Below.refl _ _⟩
  case round =>
    obtain ⟨pa, pn, pc, u, qa, qn, qc, v, rfl, rfl, hu, hv, hg, hpn, hqn, hw⟩ := hrel
    have hlp := len_pos hv
    rcases Nat.eq_zero_or_pos v with h0 | h0
    · have hq0 : qn = 0 := by omega
      subst hq0
      subst h0
      rw [Nat.gcd_zero_right] at hg
      subst hg
      have hx := hst2.later hw
      have hsg := signed_any false pa pn pc u wr hu
      rw [show (if false = true then -(u : Int) else (u : Int)) = (u : Int) from rfl] at hsg
      unfold numV at hsg
      rw [show decide ((u : Int) < 0) = false by simp] at hsg
      have HS := Lib.hid hsg
      have Hu := Lib.hid hu
      clear hu hv hlp hsg
      go_wp2_with (go_at_call 111; (with_reducible refine HS.out.mono ?_); rintro e w6 ⟨rfl, B6⟩; have x6 := hx.later B6; obtain ⟨b0, s0, m0, e0, r6⟩ := x6.r2; have q0 : w6.cell? ⟨w.heap.size + 1 + 1, 0, none⟩ = some (.bool b0) := (by rw [cell_of_row _ _ 0 _ _ _ r6]; rfl); have q1 : w6.cell? ⟨w.heap.size + 1 + 1, 1, none⟩ = some (.slice s0 m0 e0) := (by rw [cell_of_row _ _ 1 _ _ _ r6]; rfl); have f0 : w6.frozen? ⟨w.heap.size + 1 + 1, 0, none⟩ = false := frozen_of_row _ _ 0 _ _ r6; have f1 : w6.frozen? ⟨w.heap.size + 1 + 1, 1, none⟩ = false := frozen_of_row _ _ 1 _ _ r6)
      have hfin := two_sets r6 false pa pn pc
      have hz := IsZ.two r6 false pa pn pc (Hu.out.later B6)
      have hB := (x6.below.setCell (p := ⟨w.heap.size + 1 + 1, 0, none⟩) (by show w.heap.size ≤ w.heap.size + 1 + 1; omega) (.bool false)).setCell (p := ⟨w.heap.size + 1 + 1, 1, none⟩) (by show w.heap.size ≤ w.heap.size + 1 + 1; omega) (.slice pa pn pc)
      exact bodyPost_ret (results_cell_row rfl _ _ (w.heap.size + 1 + 1) 91 #[.bool false, .slice pa pn pc] _ _ rfl hfin Tryz.underlying91 rfl (by kernel_rfl)) rfl ⟨pa, pn, pc, rfl, hz, hB⟩
    · have hdq : decide (0 < qn) = true := decide_eq_true (by omega)
      have hdq2 : decide (0 < (qn : Int)) = true := decide_eq_true (by omega)
      have hd := divide_any pa pn pc qa qn qc u v wr hu hv h0 (by omega) (by omega)
      have HD := Lib.hid hd
      have Hv := Lib.hid (And.intro hv hg)
      have hmod := Nat.mod_lt u h0
      have hgc2 : Nat.gcd v (u % v) = gg := by rw [Nat.gcd_comm v, ← Nat.gcd_rec, Nat.gcd_comm]; exact hg
      have Hm := Lib.hid (And.intro hmod hgc2)
      clear hu hv hlp hd hg hmod hgc2
      go_wp2_with (go_at_call 108; refine HD.out.mono ?_; rintro e w4 ⟨a1, n1, c1, a2, n2, c2, rfl, hz1, hz2, hb4⟩)
      go_roundw
      case rel =>
        refine ⟨qa, qn, qc, v, a2, n2, c2, u % v, rfl, rfl, Hv.out.1.later hb4, hz2, Hm.out.2, hqn, ?_, below_on hw hb4 hw.size⟩
        rw [← hz2.glen]
        exact Nat.le_trans (dgs_length_mono (Nat.le_of_lt Hm.out.1)) (by rw [show (dgs 9998 v).length = qn from Hv.out.1.glen]; exact hqn)
      case measure =>
        rw [HM.out _ _ _ _ _ hz2, HM.out _ _ _ _ _ Hv.out.1]
        exact Hm.out.1

end Go.Proofs.YtjkklgpbblkhaaaGreatDoor
