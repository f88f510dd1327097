/-
  Put together by program out of these texts, in this order: Igq, Igh, Igi, Igw.
-/
import Derived.Test.YtjkklgpbblkhaaaGreatDoorZCaRFd02
import Derived.Test.YtjkklgpbblkhaaaGreatDoorShelf
import Derived.Test.YtjkklgpbblkhaaaGreatDoorZCaRFd01
import Derived.BigRegion

/-
  Layer 3: the order of numbers in groups.
-/
namespace Go.Proofs.YtjkklgpbblkhaaaGreatDoor
open Go.RowKit Bs Ig Go.Shelf
attribute [local go_sem] Oper.semAt_some

theorem wpIn_world {F : Fence} {n : Nat} {P : Program} {c : Code} {Q : Exit → Act → World → Prop} {a : Act} {W : World} (h : ∀ W', W' = W → Code.wpIn F n P c Q a W') : Code.wpIn F n P c Q a W := h W rfl
theorem back_yields (b : Nat) (a : Option Addr) (n c : Nat) (l : List Nat) (w : World) (hn : n ≤ 1000000) (hl : l.length = n) :
    Rfn.Yields Fence.wide (3 - 1) Tryz.prog 131 #[.pointer (some ⟨b, 0, none⟩)] bkEnc (BkN b a n c l) (bks l) w := by
  intro q J Jx W hW hN hY h0
  have := back1_in q b a n c l J Jx hn hl hN (fun k W hk hj => by
    have h1 := hY k (by rw [bks_length, hl]; exact hk) W hj
    rw [bks_get] at h1
    rw [hl] at h1
    exact h1) W h0
  rw [bks_length, hl]
  exact this
theorem keeps_below {W W' : World} (h : Below W.heap.size W W') : KeepsOthers W W' := ⟨h.size, fun k _ hk _ => (h.block k (Array.getElem?_eq_some_iff.1 hk).1).trans hk⟩
theorem cmp_eq (n m : Nat) : Lib.compareInt (n : Int) (m : Int) = cmp n m := by
  unfold Lib.compareInt cmp
  split <;> split <;> (try rfl) <;> (try split) <;> (try rfl) <;> omega
theorem G_length_lt {x y : Nat} (h : (G x).length < (G y).length) : x < y := dgs_length_lt h

theorem results_cell1 {P : Program} {fn : Func} {p : Tmp} {ty : TypeId} (h : fn.results = #[.cell p ty]) (tmps : Array Value) (w : World) (g : Nat) (v : Value) (hp : tmps.getD p undef = .pointer (some ⟨g, 0, none⟩))
    (ha : (isAgg ty).run P w = .ok false w) (hc : w.cell? ⟨g, 0, none⟩ = some v) : (results fn tmps).run P w = .ok v w := by
  have hp' : tmps[p]?.getD undef = .pointer (some ⟨g, 0, none⟩) := by simpa using hp
  simp [results, h, hp', asAddr, loadVar, Sem.run_bind, ha, Result.andThen, hc]
/-- the world at the beginning of the range -/
structure CmpW (w W0 : World) (b : Option Addr) (n d : Nat) : Prop where
  below : Below w.heap.size w W0
  size : W0.heap.size = w.heap.size + 3
  box : W0.cell? ⟨w.heap.size, 0, none⟩ = some (.slice b n d)
  res : W0.heap[w.heap.size + 1]? = some (.cells #[.int .i64 0] 3 (0, 0))

set_option maxRecDepth 100000 in
set_option maxHeartbeats 1000000 in
theorem compare_any (a : Option Addr) (n c : Nat) (b : Option Addr) (k d : Nat) (x y : Nat) (w : World) (hl : IsZ w a n c (zs (G x))) (hm : IsZ w b k d (zs (G y))) (hn : n ≤ 1000000) (hk : k ≤ 1000000) :
    Calls Tryz.prog 115 #[.slice a n c, .slice b k d] w fun e w' => e = .returned (.int .i64 (cmp x y)) ∧ Below w.heap.size w w' := by
  have hxl : (G x).length = n := by rw [← zs_length]; exact hl.len
  have hyl : (G y).length = k := by rw [← zs_length]; exact hm.len
  have hnc := hl.cap
  have hkd := hm.cap
  refine (callsIn_wide (n := 3)).1 ?_
  refine callsIn_of_wp_marks Tryz.func115 rfl trivial ?_ rfl
  simp only [Tryz.ntmps115, List.size_toArray, List.length_cons, List.length_nil, Nat.reduceAdd, Nat.reduceSub, Array.replicate_succ, Array.replicate_zero, List.push_toArray, List.append_toArray, List.nil_append, List.cons_append]
  by_cases hnk : n = k
  · subst hnk
    gi_wp2_with (refine ⟨trivial, ?_⟩; gi_at_call 113; refine (callsIn_wide.2 (backward_any _ _ _ _)).mono ?_; rintro e w' ⟨rfl, rfl⟩)
    refine wpIn_world fun W0 hW0 => ?_
    have hbk : BkN (w.heap.size + 2) a n c (G x) W0 := by
      rw [hW0]
      refine ⟨?_, hl.later ((((Below.refl _ w).alloc (Nat.le_refl _) _).alloc (by simp) _).alloc (by simp; omega) _)⟩
      have := heap_alloc_new ((w.alloc (.cells #[.slice b n d] 89)).alloc (.cells #[.int .i64 0] 3)) (.cells #[.slice a n c] 89)
      simp only [World.size_alloc] at this
      rw [cell_of_row _ _ 0 _ _ _ this]; rfl
    have hcw : CmpW w W0 b n d := by
      rw [hW0]
      refine ⟨(((Below.refl _ w).alloc (Nat.le_refl _) _).alloc (by simp) _).alloc (by simp; omega) _, by simp, ?_, ?_⟩
      · have := heap_alloc_old ((w.alloc (.cells #[.slice b n d] 89)).alloc (.cells #[.int .i64 0] 3)) (.cells #[.slice a n c] 89) (show w.heap.size < _ by simp; omega)
        rw [cell_of_row _ _ 0 _ _ _ (this.trans ((heap_alloc_old _ _ (by simp)).trans (heap_alloc_new _ _)))]; rfl
      · exact (heap_alloc_old _ _ (by simp)).trans (by have := heap_alloc_new (w.alloc (.cells #[.slice b n d] 89)) (.cells #[.int .i64 0] 3); simp only [World.size_alloc] at this; exact this)
    clear hW0
    have htop := same_top 9998 x y (hxl.trans hyl.symm)
    rw [show (dgs 9998 x).length = n from hxl] at htop
    refine Rfn.wpIn_rangeFunc_need rfl (by omega) (gf := 131) (lb := #[.pointer (some ⟨w.heap.size + 2, 0, none⟩)]) rfl trivial (enters_of Tryz.func131 (by kernel_rfl) rfl)
      (back_yields (w.heap.size + 2) a n c (G x) W0 hn hxl) (Below.refl _ _) (fun _ => rfl)
      (fun k W => x / 10000 ^ (n - k) = y / 10000 ^ (n - k) ∧ Below W0.heap.size W0 W)
      (fun cd _ W => cd = .ret ∧ W.cell? ⟨w.heap.size + 1, 0, none⟩ = some (.int .i64 (cmp x y)) ∧ Below w.heap.size w W ∧ w.heap.size + 1 < W.heap.size)
      (fun k A C h hb _ => ⟨h.1, h.2.trans hb⟩)
      (fun cd k A C h hb _ => ⟨h.1, (hb.cell (p := ⟨w.heap.size + 1, 0, none⟩) (by have := hcw.size; show w.heap.size + 1 < _; omega)).trans h.2.1, h.2.2.1.trans (hb.mono (by have := hcw.size; omega)), Nat.lt_of_lt_of_le h.2.2.2 hb.size⟩)
      (fun k W h => hbk.later h.2) ⟨by rw [Nat.sub_zero]; exact htop, Below.refl _ _⟩ ?round ?done ?stop
    case stop =>
      rintro D cd j W hD hDW ⟨rfl, hres, hB, hlt⟩ hdef
      have hDn : w.heap.size + 1 ≠ D := by have := hcw.size; omega
      gi_wp2
      refine ⟨by simp, .inl ⟨_, _, rfl, run_takeDeferred hdef, ?_⟩⟩
      exact ⟨_, results_cell1 rfl _ _ (w.heap.size + 1) (.int .i64 (cmp x y)) rfl (by kernel_rfl) (by unfold World.cell? at hres ⊢; rw [World.putObj_heap_other hDn]; exact hres), rfl, hB.trans (belowK_b (w := W0) (n₀ := w.heap.size) (by have := hcw.size; omega) W D _ _ hD hdef rfl rfl)⟩
    case round =>
      rintro q j hj W hq hqW ⟨heq, hW⟩
      have hjn : j < n := by rw [bks_length] at hj; omega
      rw [bks_get _ _ hj, hxl]
      obtain ⟨I, hI⟩ : ∃ I, n - 1 - j = I := ⟨_, rfl⟩
      rw [hI]
      have hI1 : n - j = I + 1 := by omega
      have hI2 : n - (j + 1) = I := by omega
      have hIn : I < n := by omega
      rw [hI1] at heq
      have HI := Lib.hid hI2
      obtain ⟨u, hu⟩ : ∃ u, (G x).getD I 0 = u := ⟨_, rfl⟩
      rw [hu]
      simp only [bkEnc]
      clear hI hI1 hI2 hjn hj
      gi_wp2
      refine ⟨KeepsOthers.refl _, fun W2 hbu _ => ?_⟩
      have hW2 := hW.trans (Rfn.But.below hbu hq)
      have hbox : W2.cell? ⟨w.heap.size, 0, none⟩ = some (.slice b n d) := (hW2.cell (p := ⟨w.heap.size, 0, none⟩) (by have := hcw.size; show w.heap.size < _; omega)).trans hcw.box
      have hrr : W2.heap[w.heap.size + 1]? = some (.cells #[.int .i64 0] 3 (0, 0)) := (hW2.block _ (by have := hcw.size; omega)).trans hcw.res
      have hrc : W2.cell? ⟨w.heap.size + 1, 0, none⟩ = some (.int .i64 0) := by rw [cell_of_row _ _ 0 _ _ _ hrr]; rfl
      have hrf : W2.frozen? ⟨w.heap.size + 1, 0, none⟩ = false := frozen_of_row _ _ 0 _ _ hrr
      have hBW : Below w.heap.size w W2 := hcw.below.trans (hW2.mono hcw.below.size)
      obtain ⟨g2, o2, rfl, hc2⟩ := hm.later_at hBW I hIn
      rw [zs_getD] at hc2
      have hcm := cmp_at 9998 x y I heq
      have hsm := same_step 9998 x y I heq
      obtain ⟨v, hv⟩ : ∃ v, (G y).getD I 0 = v := ⟨_, rfl⟩
      rw [hv] at hc2
      rw [show (dgs 9998 x).getD I 0 = u from hu, show (dgs 9998 y).getD I 0 = v from hv] at hcm hsm
      clear hu hv hbu hm hl hbk htop
      have hlt2 : w.heap.size + 1 < W2.heap.size := (Array.getElem?_eq_some_iff.1 hrr).1
      by_cases huv : u = v
      · subst huv
        have Hsm := Lib.hid (hsm rfl)
        clear hsm hcm
        gi_wp2
        exact ⟨KeepsOthers.refl _, by rw [HI.out]; exact Hsm.out, hW2⟩
      · have hne : decide ((u : Int) = v) = false := by simp; omega
        have Hcm := Lib.hid (hcm huv)
        clear hsm hcm
        gi_wp2_with (refine ⟨trivial, ?_⟩; gi_at_call 132; refine (CallsIn.inRound q (callsIn_wide.2 (Tryz.cmp_Compare_int _ _ _))).mono ?_; rintro e w' ⟨rfl, rfl⟩)
        refine ⟨KeepsOthers.setCell _ _ _, rfl, ?_, hBW.setCell (p := ⟨w.heap.size + 1, 0, none⟩) (by show w.heap.size ≤ w.heap.size + 1; omega) _, by simpa using hlt2⟩
        have := heap_setCell_same _ (w.heap.size + 1) 0 _ _ (.int .i64 (Lib.compareInt (u : Int) v)) hrr
        rw [cell_of_row _ _ 0 _ _ _ this, Hcm.out, ← cmp_eq]; rfl
    case done =>
      rintro D W hD hDW ⟨heq, hW⟩ hdef
      rw [bks_length, hxl, Nat.sub_self, Nat.pow_zero, Nat.div_one, Nat.div_one] at heq
      subst heq
      have hrr : W.heap[w.heap.size + 1]? = some (.cells #[.int .i64 0] 3 (0, 0)) := (hW.block _ (by have := hcw.size; omega)).trans hcw.res
      have hrc : W.cell? ⟨w.heap.size + 1, 0, none⟩ = some (.int .i64 0) := by rw [cell_of_row _ _ 0 _ _ _ hrr]; rfl
      have hrf : W.frozen? ⟨w.heap.size + 1, 0, none⟩ = false := frozen_of_row _ _ 0 _ _ hrr
      have hB := hcw.below.trans (hW.mono hcw.below.size)
      have hDn : w.heap.size + 1 ≠ D := by have := hcw.size; omega
      have hrr2 := heap_setCell_same W (w.heap.size + 1) 0 _ _ (.int .i64 0) hrr
      have hdef2 : (W.setCell ⟨w.heap.size + 1, 0, none⟩ (.int .i64 0)).heap[D]? = some (.deferred (some [])) := (heap_setCell_other W ⟨w.heap.size + 1, 0, none⟩ D _ (by simp; omega)).trans hdef
      have hB2 := hB.setCell (p := ⟨w.heap.size + 1, 0, none⟩) (by show w.heap.size ≤ w.heap.size + 1; omega) (.int .i64 0)
      have HH := Lib.hid (And.intro hrr2 (And.intro hdef2 hB2))
      clear hrr hrr2 hdef hdef2 hB2 hbk hl hm
      gi_wp2
      refine ⟨by simp, .inl ⟨_, _, rfl, run_takeDeferred HH.out.2.1, ?_⟩⟩
      refine ⟨_, results_cell1 rfl _ _ (w.heap.size + 1) (.int .i64 0) rfl (by kernel_rfl) ?_, by rw [cmp_self], HH.out.2.2.trans (belowK_b (w := W0) (n₀ := w.heap.size) (by have := hcw.size; omega) _ D _ _ hD HH.out.2.1 rfl rfl)⟩
      rw [cell_of_row _ _ 0 _ _ _ ((World.putObj_heap_other hDn).trans HH.out.1)]; rfl
  · have hne : decide ((n : Int) = k) = false := by simp; omega
    have hcc : Lib.compareInt (n : Int) (k : Int) = cmp x y := by
      rw [cmp_eq]
      rcases Nat.lt_or_gt_of_ne hnk with h | h
      · rw [cmp_lt h, cmp_lt (G_length_lt (by omega))]
      · rw [cmp_gt h, cmp_gt (G_length_lt (by omega))]
    gi_wp2_with (refine ⟨trivial, ?_⟩; gi_at_call 132; refine (callsIn_wide.2 (Tryz.cmp_Compare_int _ _ _)).mono ?_; rintro e w' ⟨rfl, rfl⟩)
    exact ⟨_, results_cell1 rfl _ _ (w.heap.size + 1) (.int .i64 (cmp x y)) rfl (by kernel_rfl) (by have := heap_alloc_new (w.alloc (.cells #[.slice b k d] 89)) (.cells #[.int .i64 (cmp x y)] 3); simp only [World.size_alloc] at this; rw [cell_of_row _ _ 0 _ _ _ this]; rfl), rfl, ((Below.refl _ w).alloc (Nat.le_refl _) _).alloc (by simp) _⟩

end Go.Proofs.YtjkklgpbblkhaaaGreatDoor

/-
  Layer 3: how many times a number contains another one.
-/
namespace Go.Proofs.YtjkklgpbblkhaaaGreatDoor
open Go.RowKit Bs Ig Go.Shelf

set_option maxRecDepth 100000 in
set_option maxHeartbeats 1000000 in
theorem head_any (a : Option Addr) (n c x f : Nat) (w : World) (hl : IsZ w a n c (zs (G x))) (hn : n ≤ f + 4) (hf : f ≤ 1000) :
    Calls Tryz.prog 164 #[.slice a n c, .int .i64 (f : Int)] w fun e w' => e = .returned (.int .i64 (x / 10000 ^ f : Nat)) ∧ w = w' := by
  have hxl : (G x).length = n := by rw [← zs_length]; exact hl.len
  have hnc := hl.cap
  have hxb : x < 10000 ^ n := by have := dgs_lt_pow 9998 x; rwa [show (dgs 9998 x).length = n from hxl] at this
  go_enter Tryz.func164, Tryz.ntmps164
  go_wp2_with fail
  go_loopw [5, 6] (fun v i wr => ∃ j : Nat, j ≤ n ∧ (f ≤ j ∨ j = n) ∧ i = .int .i64 ((j : Int) - 1) ∧ v = .int .i64 (x / 10000 ^ j : Nat) ∧ w = wr) (fun _ i _ => (intOf i + 1).toNat)
  case atStart => exact ⟨n, Nat.le_refl _, .inr rfl, rfl, by rw [Nat.div_eq_of_lt hxb]; rfl, rfl⟩
  case round =>
    obtain ⟨j, hj, hfj, rfl, rfl, rfl⟩ := hrel
    rcases Nat.lt_or_ge f j with hlt | hge
    · obtain ⟨g, off, rfl, hI⟩ := hl.at (by omega)
      obtain ⟨i, rfl⟩ : ∃ i, j = i + 1 := ⟨j - 1, by omega⟩
      have hc := hI i (by rw [zs_length]; omega)
      rw [zs_getD, show (G x).getD i 0 = x / 10000 ^ i % 10000 from dgs_getD 9998 x i] at hc
      have hst := div_step 9998 x i
      rw [show (9998 + 2 : Nat) = 10000 from rfl] at hst
      have hb : x / 10000 ^ i < 10000000000000000 := by
        apply Nat.div_lt_of_lt_mul
        have h1 : 10000 ^ n ≤ 10000 ^ i * 10000 ^ 4 := by rw [← Nat.pow_add]; exact Nat.pow_le_pow_right (by omega) (by omega)
        have h2 : (10000 : Nat) ^ 4 = 10000000000000000 := by decide
        rw [h2] at h1
        omega
      have hfi : f ≤ i := by omega
      obtain ⟨X, hX⟩ : ∃ X, x / 10000 ^ i = X := ⟨_, rfl⟩
      rw [hX] at hc hst hb
      have HX := Lib.hid hX
      clear hX
      generalize x / 10000 ^ (i + 1) = Y at *
      obtain ⟨r, hr⟩ : ∃ r, X % 10000 = r := ⟨_, rfl⟩
      have hr1 : r < 10000 := by omega
      rw [hr] at hc hst
      have e1 : ((i + 1 : Nat) : Int) - 1 = (i : Int) := by omega
      rw [e1]
      clear hl hI hr hxb
      go_wp2_with fail
      go_roundw
      case rel => exact ⟨i, by omega, .inl hfi, by go_num, by rw [HX.out, hst]; congr 1; omega, trivial⟩
      case measure => simp [intOf]
    · have hfin : x / 10000 ^ j = x / 10000 ^ f := by
        rcases hfj with h | h
        · rw [show j = f by omega]
        · subst h; rw [Nat.div_eq_of_lt hxb, Nat.div_eq_of_lt (Nat.lt_of_lt_of_le hxb (Nat.pow_le_pow_right (by omega) hge))]
      rw [hfin]
      clear hl hxb hfin
      go_wp2_with fail
      go_ret
      exact ⟨rfl, rfl⟩

theorem pow_head (y k f : Nat) (hk : (G y).length = k) (hy : 0 < y) (hf : f + 1 ≤ k) : 0 < y / 10000 ^ f := by
  have h := dgs_le_pow 9998 y hy
  rw [show (dgs 9998 y).length = k from hk] at h
  exact Nat.div_pos (Nat.le_trans (Nat.pow_le_pow_right (by omega) (by omega)) h) (Nat.pow_pos (by omega))
theorem head_small (x n f : Nat) (hx : x < 10000 ^ n) (hn : n ≤ f + 4) : x / 10000 ^ f < 10000000000000000 := by
  apply Nat.div_lt_of_lt_mul
  have h1 : 10000 ^ n ≤ 10000 ^ f * 10000 ^ 4 := by rw [← Nat.pow_add]; exact Nat.pow_le_pow_right (by omega) (by omega)
  have h2 : (10000 : Nat) ^ 4 = 10000000000000000 := by decide
  rw [h2] at h1
  omega
set_option maxRecDepth 100000 in
set_option maxHeartbeats 1000000 in
theorem bounds_any (a : Option Addr) (n c : Nat) (b : Option Addr) (k d : Nat) (x y f : Nat) (w : World) (hl : IsZ w a n c (zs (G x))) (hm : IsZ w b k d (zs (G y))) (hf : f = k - 3) (hy : 0 < y) (hn : n ≤ k + 1) (hk : k ≤ 1000) :
    Calls Tryz.prog 144 #[.slice a n c, .slice b k d] w fun e w' => e = .returned (.tuple #[.int .i64 (x / 10000 ^ f / (y / 10000 ^ f + 1) : Nat), .int .i64 (min (x / 10000 ^ f / (y / 10000 ^ f)) 9999 : Nat)]) ∧ Below w.heap.size w w' := by
  have hxl : (G x).length = n := by rw [← zs_length]; exact hl.len
  have hyl : (G y).length = k := by rw [← zs_length]; exact hm.len
  have hxb : x < 10000 ^ n := by have := dgs_lt_pow 9998 x; rwa [show (dgs 9998 x).length = n from hxl] at this
  have hyb : y < 10000 ^ k := by have := dgs_lt_pow 9998 y; rwa [show (dgs 9998 y).length = k from hyl] at this
  have hk0 : 0 < k := by
    rcases Nat.eq_zero_or_pos k with h | h
    · rw [h] at hyl; have := dgs_len0.1 hyl; omega
    · exact h
  have h1 := head_any a n c x f w hl (by omega) (by omega)
  have h2 := head_any b k d y f w hm (by omega) (by omega)
  have hX := head_small x n f hxb (by omega)
  have hY := head_small y k f hyb (by omega)
  have hp := pow_head y k f hyl hy (by omega)
  have hmax : ∀ (w : World) (ts : Array TypeId) (t : TypeId), (Builtin.max_ ts t #[.int .i64 0, .int .i64 ((k : Int) - 3)]).run Tryz.prog w = .ok (.int .i64 (f : Int)) w := by
    intro w ts t
    rw [run_max_int2]
    congr 2
    split <;> omega
  generalize x / 10000 ^ f = X at *
  generalize y / 10000 ^ f = Y at *
  obtain ⟨p, hp1⟩ : ∃ p, X / (Y + 1) = p := ⟨_, rfl⟩
  obtain ⟨q, hq1⟩ : ∃ q, X / Y = q := ⟨_, rfl⟩
  have e1 : Int.tdiv (X : Int) ((Y : Int) + 1) = (p : Int) := by rw [← hp1]; rfl
  have e2 : Int.tdiv (X : Int) (Y : Int) = (q : Int) := by rw [← hq1]; rfl
  have hp2 : p ≤ X := by rw [← hp1]; exact Nat.div_le_self _ _
  have hq2 : q ≤ X := by rw [← hq1]; exact Nat.div_le_self _ _
  rw [hp1, hq1]
  obtain ⟨r, hr⟩ : ∃ r, min q 9999 = r := ⟨_, rfl⟩
  rw [hr]
  have hmin := fun (w : World) (ts : Array TypeId) (t : TypeId) => min_run (P := Tryz.prog) q 9999 r hr.symm 9999 rfl w ts t
  have n1 : ¬ ((Y : Int) + 1 = 0) := by omega
  have n2 : ¬ ((Y : Int) = 0) := by omega
  have H1 := Lib.hid h1
  have H2 := Lib.hid h2
  clear hl hm hxb hyb hxl hyl hp1 hq1 hr h1 h2 hf
  go_enter Tryz.func144, Tryz.ntmps144
  go_wp2_with (go_at_call 164; (first | ((with_reducible refine H1.out.mono ?_); rintro e w' ⟨rfl, rfl⟩) | ((with_reducible refine H2.out.mono ?_); rintro e w' ⟨rfl, rfl⟩)))
  go_region
  go_wp2_with fail
  go_ret2
  exact ⟨rfl, (Below.refl _ _).drew⟩

end Go.Proofs.YtjkklgpbblkhaaaGreatDoor

/-
  Layer 3: a search for the number of times.
-/
namespace Go.Proofs.YtjkklgpbblkhaaaGreatDoor
open Go.RowKit Bs Ig Go.Shelf

theorem G_len_le (z m : Nat) (h : z < 10000 ^ m) : (G z).length ≤ m := dgs_length_le 9998 m z h
theorem lt_pow_G {x n : Nat} (h : (G x).length = n) : x < 10000 ^ n := by have := dgs_lt_pow 9998 x; rwa [show (dgs 9998 x).length = n from h] at this
theorem cmp_geq (x z : Nat) : decide (0 ≤ cmp x z) = decide (z ≤ x) := by
  unfold cmp
  split
  · simp; omega
  · split
    · simp; omega
    · simp; omega
/-- one integer, made as a slice -/
theorem one_isZ (w : World) (q : Nat) : IsZ (w.alloc (.cells #[.int .i64 (q : Int)] 3)) (some ⟨w.heap.size, 0, none⟩) 1 1 (zs [q]) := by
  refine IntsAt.isZ (fun i hi => ?_) rfl (Nat.le_refl _) (by unfold maxLen; omega)
  have : i = 0 := by simp [zs] at hi; omega
  subst this
  rw [cell_of_row _ _ 0 _ _ _ (heap_alloc_new _ _)]; rfl
theorem V_one (q : Nat) : V [q] = q := by simp [V, val]

set_option maxRecDepth 100000 in
set_option maxHeartbeats 1000000 in
theorem holds_any (a : Option Addr) (n c : Nat) (b : Option Addr) (k d : Nat) (x y q : Nat) (w : World) (hl : IsZ w a n c (zs (G x))) (hm : IsZ w b k d (zs (G y))) (hq : q < 10000) (hn : n ≤ 1000) (hk : k ≤ 999) :
    Calls Tryz.prog 145 #[.slice a n c, .slice b k d, .int .i64 (q : Int)] w fun e w' => e = .returned (.bool (decide (y * q ≤ x))) ∧ Below w.heap.size w w' := by
  have hyl : (G y).length = k := by rw [← zs_length]; exact hm.len
  have hB : Below w.heap.size w (w.alloc (.cells #[.int .i64 (q : Int)] 3)) := (Below.refl _ w).alloc (Nat.le_refl _) _
  have ht := times_any b k d (G y) (some ⟨w.heap.size, 0, none⟩) 1 1 [q] y q _ (hm.later hB) (one_isZ w q) (G_lt y) (fun z hz => by rw [List.mem_singleton.1 hz]; exact hq) (V_G y) (V_one q) (by omega) (by omega)
  have hlen : (G (y * q)).length ≤ 1000 := by
    refine Nat.le_trans (G_len_le (y * q) (k + 1) ?_) (by omega)
    rw [Nat.pow_succ]
    exact Nat.mul_lt_mul'' (lt_pow_G hyl) hq
  have hcg := cmp_geq x (y * q)
  generalize y * q = z at *
  obtain ⟨r, hr⟩ : ∃ r, decide (z ≤ x) = r := ⟨_, rfl⟩
  rw [hr] at hcg ⊢
  have Hl := Lib.hid hl
  have Ht := Lib.hid ht
  have Hlen := Lib.hid hlen
  clear hr hl hm ht hlen hyl
  go_enter Tryz.func145, Tryz.ntmps145
  go_wp2_with (go_at_call 122; refine Ht.out.mono ?_; rintro e w1 ⟨a1, n1, c1, rfl, hz1, hb1⟩)
  have hn1 : n1 ≤ 1000 := by rw [← hz1.len, zs_length]; exact Hlen.out
  have hb2 := below_on hB hb1 hB.size
  have hc := compare_any a n c (some a1) n1 c1 x z w1 (Hl.out.later hb2) hz1 (by omega) (by omega)
  generalize cmp x z = t at *
  clear hz1 hb1 hB hn1
  go_wp2_with (go_at_call 115; refine hc.mono ?_; rintro e w2 ⟨rfl, hb3⟩)
  go_ret
  exact ⟨rfl, below_on hb2 hb3 hb2.size⟩

/-- what the closure reads -/
structure CtN (W : World) (b1 b2 b3 : Nat) (a : Option Addr) (n c : Nat) (b : Option Addr) (k d : Nat) (x y l : Nat) : Prop where
  fn : W.cell? ⟨b1, 0, none⟩ = some (.func (.func 145) #[.slice a n c] #[])
  dv : W.cell? ⟨b2, 0, none⟩ = some (.slice b k d)
  ls : W.cell? ⟨b3, 0, none⟩ = some (.int .i64 (l : Int))
  hl : IsZ W a n c (zs (G x))
  hm : IsZ W b k d (zs (G y))
theorem CtN.later {W W' : World} {b1 b2 b3 n c k d x y l : Nat} {a b : Option Addr} (h : CtN W b1 b2 b3 a n c b k d x y l) (hb : Below W.heap.size W W') : CtN W' b1 b2 b3 a n c b k d x y l :=
  ⟨(hb.cell (p := ⟨b1, 0, none⟩) (block_lt_of_cell h.fn)).trans h.fn, (hb.cell (p := ⟨b2, 0, none⟩) (block_lt_of_cell h.dv)).trans h.dv, (hb.cell (p := ⟨b3, 0, none⟩) (block_lt_of_cell h.ls)).trans h.ls, h.hl.later hb, h.hm.later hb⟩

set_option maxRecDepth 100000 in
set_option maxHeartbeats 1000000 in
theorem contains1_any (b1 b2 b3 : Nat) (a : Option Addr) (n c : Nat) (b : Option Addr) (k d : Nat) (x y l i t : Nat) (w : World) (h : CtN w b1 b2 b3 a n c b k d x y l) (hq : l + i + 1 < 10000) (hn : n ≤ 1000) (hk : k ≤ 999) (ht : y * (l + i + 1) ≤ x ↔ i < t) :
    Calls Tryz.prog 147 #[.int .i64 (i : Int), .pointer (some ⟨b1, 0, none⟩), .pointer (some ⟨b2, 0, none⟩), .pointer (some ⟨b3, 0, none⟩)] w fun e w' => e = .returned (.bool (decide (t ≤ i))) ∧ Below w.heap.size w w' := by
  have hh := holds_any a n c b k d x y (l + i + 1) w h.hl h.hm hq hn hk
  rw [show ((l + i + 1 : Nat) : Int) = (l : Int) + i + 1 by omega, show decide (y * (l + i + 1) ≤ x) = decide (i < t) by simp [ht]] at hh
  obtain ⟨h1, h2, h3, _, _⟩ := h
  have hr : decide (t ≤ i) = !decide (i < t) := by rcases Nat.lt_or_ge i t with h | h <;> simp [h] <;> omega
  rw [hr]
  generalize decide (i < t) = r at *
  clear ht hr
  go_enter Tryz.func147, Tryz.ntmps147
  go_wp2_with (go_at_call 145; refine hh.mono ?_; rintro e w2 ⟨rfl, hb3⟩)
  go_ret
  exact ⟨rfl, hb3⟩

set_option maxRecDepth 100000 in
set_option maxHeartbeats 1000000 in
theorem search_any (m t : Nat) (cb : Array Value) (w : World) (ht : t ≤ m) (hm : m ≤ 1000000)
    (hf : ∀ (W : World) (i : Nat), Below w.heap.size w W → i < m → Calls Tryz.prog 147 (#[.int .i64 (i : Int)] ++ cb) W fun e W' => e = .returned (.bool (decide (t ≤ i))) ∧ Below W.heap.size W W') :
    Calls Tryz.prog 146 #[.int .i64 (m : Int), .func (.func 147) #[] cb] w fun e w' => e = .returned (.int .i64 (t : Int)) ∧ Below w.heap.size w w' := by
  have HF := Lib.hid hf
  clear hf
  go_enter Tryz.func146, Tryz.ntmps146
  go_wp2_with fail
  go_loopw [5, 6] (fun u v wr => ∃ i j : Nat, i ≤ t ∧ t ≤ j ∧ j ≤ m ∧ u = .int .i64 i ∧ v = .int .i64 j ∧ Below w.heap.size w wr) (fun u v _ => (intOf v - intOf u).toNat)
  case atStart => exact ⟨0, m, by omega, by omega, by omega, rfl, rfl, Below.refl _ _⟩
  case round =>
    obtain ⟨i, j, hi, hj, hjm, rfl, rfl, hw⟩ := hrel
    rcases Nat.lt_or_ge i j with hij | hij
    · obtain ⟨h, hh⟩ : ∃ h, (i + j) / 2 = h := ⟨_, rfl⟩
      have hh2 : (((i : Int) + j) / 2) = (h : Int) := by omega
      have hh1 : i ≤ h ∧ h < j := by omega
      have hc := HF.out wr h hw (by omega)
      clear hh
      rcases Nat.lt_or_ge h t with hht | hht
      · have hdec : decide (t ≤ h) = false := by simp; omega
        rw [hdec] at hc
        clear hdec
        go_wp2_with (go_at_call 147; refine hc.mono ?_; rintro e w2 ⟨rfl, hb3⟩)
        go_roundw
        case rel => exact ⟨h + 1, j, by omega, hj, hjm, by go_num, rfl, below_on hw hb3 hw.size⟩
        case measure => simp [intOf]; omega
      · have hdec : decide (t ≤ h) = true := by simp; omega
        rw [hdec] at hc
        clear hdec
        go_wp2_with (go_at_call 147; refine hc.mono ?_; rintro e w2 ⟨rfl, hb3⟩)
        go_roundw
        case rel => exact ⟨i, h, hi, hht, by omega, rfl, rfl, below_on hw hb3 hw.size⟩
        case measure => simp [intOf]; omega
    · obtain rfl : t = i := by omega
      go_wp2_with fail
      go_ret
      exact ⟨rfl, hw⟩

theorem store_new {P : Program} (W : World) (n : Nat) (x v : Value) (t : TypeId) (hn : n = W.heap.size) (hv : v.oneCell' = true) : (store ⟨n, 0, none⟩ v).run P (W.alloc (.cells #[x] t)) = .ok () (W.alloc (.cells #[v] t)) := by
  subst hn
  rw [run_store _ _ _ _ _ hv, cell_of_row _ _ 0 _ _ _ (heap_alloc_new _ _), frozen_of_row _ _ 0 _ _ (heap_alloc_new _ _)]
  show Result.ok () _ = _
  rw [World.setCell_alloc_at _ _ _ _ _ rfl]
  rfl

set_option maxRecDepth 100000 in
set_option maxHeartbeats 1000000 in
theorem contains_any (a : Option Addr) (n c : Nat) (b : Option Addr) (k d : Nat) (x y : Nat) (w : World) (hl : IsZ w a n c (zs (G x))) (hm : IsZ w b k d (zs (G y))) (hy : 0 < y) (hxy : x < 10000 * y) (hn : n ≤ k + 1) (hk : k ≤ 999) :
    Calls Tryz.prog 127 #[.slice a n c, .slice b k d] w fun e w' => e = .returned (.int .i64 (x / y : Nat)) ∧ Below w.heap.size w w' := by
  have hyl : (G y).length = k := by rw [← zs_length]; exact hm.len
  have hP : 0 < 10000 ^ (k - 3) := Nat.pow_pos (by omega)
  have hk0 : 0 < k := by
    rcases Nat.eq_zero_or_pos k with h | h
    · rw [h] at hyl; have := dgs_len0.1 hyl; omega
    · exact h
  have hp := pow_head y k (k - 3) hyl hy (by omega)
  have h1 := least_le x y (10000 ^ (k - 3)) hP hy
  have h2 := le_most x y (10000 ^ (k - 3)) hP hp
  have hq : x / y < 10000 := Nat.div_lt_of_lt_mul (by rw [Nat.mul_comm]; exact hxy)
  obtain ⟨l, hll⟩ : ∃ l, x / 10000 ^ (k - 3) / (y / 10000 ^ (k - 3) + 1) = l := ⟨_, rfl⟩
  obtain ⟨u, hu⟩ : ∃ u, min (x / 10000 ^ (k - 3) / (y / 10000 ^ (k - 3))) 9999 = u := ⟨_, rfl⟩
  have hb0 : Below w.heap.size w (w.alloc (.cells #[.slice b k d] 89)) := (Below.refl _ w).alloc (Nat.le_refl _) _
  have hbd := bounds_any a n c b k d x y (k - 3) _ (hl.later hb0) (hm.later hb0) rfl hy hn (by omega)
  rw [hll, hu] at hbd
  have hlq : l ≤ x / y := by rw [← hll]; exact h1
  have hqu : x / y ≤ u := by rw [← hu]; omega
  have hu9 : u ≤ 9999 := by rw [← hu]; omega
  have hiff : ∀ i, y * (l + i + 1) ≤ x ↔ i < x / y - l := by
    intro i
    rw [Nat.mul_comm, ← Nat.le_div_iff_mul_le hy]
    omega
  generalize x / y = q at *
  have Hl := Lib.hid (And.intro hl hm)
  clear hll hu h1 h2 hp hP hyl hl hm hxy hy
  go_enter Tryz.func127, Tryz.ntmps127
  go_wp2_with (go_at_call 144; refine hbd.mono ?_; rintro e w1 ⟨rfl, hb1⟩; have hst := store_new (P := Tryz.prog) (w1.alloc (.cells #[.int .i64 (l : Int)] 3)) (w1.heap.size + 1) .nilFunc (.func (.func 145) #[.slice a n c] #[]) 146 (by simp) rfl)
  refine wp_world fun W hW => ?_
  have hb2 := below_on hb0 hb1 hb0.size
  have hs1 : w.heap.size < w1.heap.size := Nat.lt_of_lt_of_le (by simp) hb1.size
  have hW3 : Below w1.heap.size w1 W := by rw [hW]; exact ((Below.refl _ w1).alloc (Nat.le_refl _) _).alloc (by simp) _
  have hbW := below_on hb2 hW3 hb2.size
  have hct : CtN W (w1.heap.size + 1) w.heap.size w1.heap.size a n c b k d x y l := by
    refine ⟨?_, ?_, ?_, Hl.out.1.later hbW, Hl.out.2.later hbW⟩
    · rw [hW]
      have := heap_alloc_new (w1.alloc (.cells #[.int .i64 (l : Int)] 3)) (.cells #[.func (.func 145) #[.slice a n c] #[]] 146)
      simp only [World.size_alloc] at this
      rw [cell_of_row _ _ 0 _ _ _ this]; rfl
    · refine (hW3.cell (p := ⟨w.heap.size, 0, none⟩) hs1).trans ((hb1.cell (p := ⟨w.heap.size, 0, none⟩) (by simp)).trans ?_)
      rw [cell_of_row _ _ 0 _ _ _ (heap_alloc_new _ _)]; rfl
    · rw [hW, cell_of_row _ _ 0 _ _ _ ((heap_alloc_old _ _ (by simp)).trans (heap_alloc_new _ _))]; rfl
  have hls := hct.ls
  have HS := Lib.hid (fun (W' : World) (hb : Below W.heap.size W W') => search_any (u - l) (q - l) #[.pointer (some ⟨w1.heap.size + 1, 0, none⟩), .pointer (some ⟨w.heap.size, 0, none⟩), .pointer (some ⟨w1.heap.size, 0, none⟩)] W' (by omega) (by omega)
    (fun W2 i h2 hi => contains1_any _ _ _ a n c b k d x y l i (q - l) W2 ((hct.later hb).later h2) (by omega) (by omega) hk (hiff i)))
  have e1 : ((u - l : Nat) : Int) = (u : Int) - l := by omega
  have e2 : ((q - l : Nat) : Int) = (q : Int) - l := by omega
  rw [e1, e2] at HS
  have hwr : IntKind.i64.wrap ((u : Int) - l) = (u : Int) - l := by rw [IntKind.wrap_i64]; omega
  have hwq : IntKind.i64.wrap ((l : Int) + ((q : Int) - l)) = (q : Int) := by rw [IntKind.wrap_i64]; omega
  clear hW hst hb2 hW3 hb1 hb0 Hl hct hiff e1 e2 hbd
  go_region_held3 (fun w' => w'.cell? ⟨w1.heap.size, 0, none⟩ = some (.int .i64 (l : Int))) (go_keep)
    (first | (go_at_call 146; (with_reducible refine (HS.out _ (Below.refl _ _).drew).mono ?_); rintro e w5 ⟨rfl, B6⟩; have k5 : w5.cell? ⟨w1.heap.size, 0, none⟩ = some (.int .i64 (l : Int)) := (B6.cell (p := ⟨w1.heap.size, 0, none⟩) (block_lt_of_cell hls)).trans hls))
  clear HS
  go_wp2_with fail
  go_ret
  exact ⟨rfl, below_on hbW (below_undrew B6) hbW.size⟩

end Go.Proofs.YtjkklgpbblkhaaaGreatDoor

/-
  Layer 3: a strings.Builder that is written, in this program.
-/
namespace Go.Proofs.YtjkklgpbblkhaaaGreatDoor
open Go.RowKit Bs

set_option maxHeartbeats 1000000 in
set_option maxRecDepth 100000 in
theorem copyCheck_any (B b : Nat) (bs : List Value) (w : World) (h : Lib.IsBuilderF 117 5 B b bs w) :
    Calls Tryz.prog 130 #[.pointer (some ⟨b, 0, none⟩)] w fun e w' => e = .returned (.tuple #[]) ∧ (Lib.BuilderAtF 117 5 B b (.pointer (some ⟨b, 0, none⟩)) bs w' ∧ Below B w w' ∧ Lib.OthersKept 5 (some b) w w') := by
  obtain ⟨j, hj, hjs⟩ := Option.map_eq_some_iff.1 (show (Tryz.prog.info? 117).map (·.size) = some 2 by kernel_rfl)
  rcases h with h | h
  · have h0 := h.cell0
    have hsh := h.shape
    have hfz := h.frozen0
    have hfin : Lib.BuilderAtF 117 5 B b (.pointer (some ⟨b, 0, none⟩)) bs (w.setCell ⟨b, 0, none⟩ (.pointer (some ⟨b, 0, none⟩))) ∧ Below B w (w.setCell ⟨b, 0, none⟩ (.pointer (some ⟨b, 0, none⟩))) ∧ Lib.OthersKept 5 (some b) w (w.setCell ⟨b, 0, none⟩ (.pointer (some ⟨b, 0, none⟩))) :=
      ⟨h.used _, (Below.refl B w).setCell (p := ⟨b, 0, none⟩) h.1 _, (Lib.OthersKept.refl _ _ w).setCell ⟨b, 0, none⟩ rfl _⟩
    have HF := Lib.hid hfin
    clear hfin h
    go_enter Tryz.func130, Tryz.ntmps130
    go_wp2
    rw [Lib.run_to_unsafe w ⟨b, 0, none⟩ Tryz.underlying115 Tryz.underlying150 hj (by rw [hjs]; decide) hsh (Nat.zero_lt_succ 1)]
    simp only [Result.andThen]
    rw [Oper.upon_value]
    go_wp2
    rw [run_callFunc_extern Tryz.func150 (by kernel_rfl) (by kernel_rfl) (by kernel_rfl) (e := Extern.AbiNoEscape.same) (by kernel_rfl)]
    rw [Lib.run_noEscape]
    simp only [Result.andThen]
    rw [Oper.upon_value]
    go_wp2
    rw [Lib.run_from_unsafe w ⟨b, 0, none⟩ Tryz.underlying150 Tryz.underlying115 hj hsh (by kernel_rfl)]
    simp only [Result.andThen]
    rw [Oper.upon_value]
    go_wp2
    go_end0
    exact ⟨rfl, HF.out⟩
  · have h0 := h.cell0
    have HF := Lib.hid h
    clear h
    go_enter Tryz.func130, Tryz.ntmps130
    go_wp2
    rw [Lib.run_neq_ptr_same w _ Tryz.underlying115 hj]
    go_wp2
    go_end0
    exact ⟨rfl, HF.out, Below.refl _ _, Lib.OthersKept.refl _ _ _⟩

set_option maxHeartbeats 2000000 in
set_option maxRecDepth 100000 in
theorem writeString_any (B b : Nat) (bs : List Value) (s : ByteArray) (w : World) (h : Lib.IsBuilderF 117 5 B b bs w) (hlen : bs.length + s.size ≤ 140737488355328) (hBw : B ≤ w.heap.size) :
    Calls Tryz.prog 112 #[.pointer (some ⟨b, 0, none⟩), .string s] w fun e w' => e = .returned (.tuple #[.int .i64 s.size, .nilIface]) ∧ (Lib.BuilderAtF 117 5 B b (.pointer (some ⟨b, 0, none⟩)) (bs ++ Lib.strCells s) w' ∧ Below B w w' ∧ Lib.OthersKept 5 (some b) w w') := by
  obtain ⟨i0, hi, hz0, hz1, hz2⟩ := info_parts (show (Tryz.prog.info? 5).map (fun i => (i.zero, i.size, i.bytes)) = some (some (.int .u8 0), 1, 1) by kernel_rfl)
  have HC := Lib.hid (copyCheck_any B b bs w h)
  clear h
  go_enter Tryz.func112, Tryz.ntmps112
  go_wp2_with (go_at_call 130; refine HC.out.mono ?_)
  rintro e w1 ⟨rfl, h1, hb1, hk1⟩
  obtain ⟨hB, v, hbk, hown, hne⟩ := h1
  have c0 : w1.cell? ⟨b, 0, none⟩ = some (.pointer (some ⟨b, 0, none⟩)) := by rw [Lib.cell_of_heap hbk]; rfl
  have c1 : w1.cell? ⟨b, 1, none⟩ = some v := by rw [Lib.cell_of_heap hbk]; rfl
  go_wp2_with (at_builtin; refine Lib.wpList_append_own_stringF _ rfl _ _ 48 9 rfl B 5 i0 Tryz.underlying48 Tryz.underlying9 hi hz0 hz1 hz2 _ _ _ rfl hown s rfl ?c3 ?c4 ?c5 ?_)
  case c3 => unfold maxLen; omega
  case c4 => omega
  case c5 => have := hb1.size; omega
  intro v' w2 hown' hgrow _
  have hlt : b < w1.heap.size := (Array.getElem?_eq_some_iff.1 hbk).1
  have hb2 : w2.heap[b]? = some (.cells #[.pointer (some ⟨b, 0, none⟩), v] 117 (0, 0)) := by
    rw [hgrow.block b hlt (fun e => hne e.symm)]
    exact hbk
  have d0 : w2.cell? ⟨b, 0, none⟩ = some (.pointer (some ⟨b, 0, none⟩)) := by rw [Lib.cell_of_heap hb2]; rfl
  have d1 : w2.cell? ⟨b, 1, none⟩ = some v := by rw [Lib.cell_of_heap hb2]; rfl
  have f1 : w2.frozen? ⟨b, 1, none⟩ = false := Lib.frozen_of_heap hb2 1
  obtain ⟨ao, n', cap, rfl⟩ : ∃ ao n' cap, v' = .slice ao n' cap := by
    rcases hown'.2 with ⟨hv, _⟩ | ⟨g, cap, cur, fz, hv, _⟩
    · exact ⟨_, _, _, hv⟩
    · exact ⟨_, _, _, hv⟩
  go_wp2
  go_ret2
  refine ⟨rfl, ?_, ?_, (hk1.grown hgrow (Lib.ownsRowF_kind hown)).setCell ⟨b, 1, none⟩ rfl _⟩
  · exact Lib.BuilderAtF.put (T := 117) (e := 5) hB hb2 (bs' := bs ++ Lib.strCells s) (by simpa [Lib.strCells_length] using hown') (by decide)
  · exact (hb1.grown hgrow (by have := hb1.size; omega) (fun k hk => (hown.lt k hk).1)).setCell (p := ⟨b, 1, none⟩) hB _

end Go.Proofs.YtjkklgpbblkhaaaGreatDoor
