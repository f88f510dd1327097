/-
  Put together by program out of these texts, in this order: Igv.
-/
import Derived.Test.YtjkklgpbblkhaaaGreatDoorZCaRFd03
import Derived.Test.YtjkklgpbblkhaaaGreatDoorZCaRFd04
import Derived.Deep.RegionHeld3

/-
  Layer 3: division of numbers in groups.
-/
namespace Go.Proofs.YtjkklgpbblkhaaaGreatDoor
open Go.RowKit Bs Ig Go.Shelf
attribute [local go_sem] Oper.semAt_some

theorem setCell_other' {W : World} {a b : Addr} {v : Value} (h : a ≠ b) : (W.setCell a v).cell? b = W.cell? b := by simpa using World.cell?_setCell_other (w := W) (a := a) (b := b) (v := v) h
theorem IsZ.setOther {W : World} {a : Option Addr} {n c p : Nat} {l : List Int} (h : IsZ W a n c l) {s : Option Addr} {m d : Nat} (hp : W.cell? ⟨p, 0, none⟩ = some (.slice s m d)) (v : Value) : IsZ (W.setCell ⟨p, 0, none⟩ v) a n c l := by
  refine ⟨h.len, h.cap, h.max, h.row.imp id (fun ⟨g, off, e, hI⟩ => ⟨g, off, e, fun i hi => ?_⟩)⟩
  rw [setCell_other' (fun e => ?_)]
  · exact hI i hi
  · have h1 := hI i hi
    rw [← e, hp] at h1
    cases h1
theorem IsZ.setFar {W : World} {g n c p i : Nat} {l : List Int} (h : IsZ W (some ⟨g, 0, none⟩) n c l) (hp : p ≠ g) (v : Value) : IsZ (W.setCell ⟨p, i, none⟩ v) (some ⟨g, 0, none⟩) n c l := by
  refine ⟨h.len, h.cap, h.max, h.row.imp id (fun ⟨g', off, e, hI⟩ => ⟨g', off, e, fun j hj => ?_⟩)⟩
  cases e
  rw [World.cell?_setCell_far _ _ _ _ hp]
  exact hI j hj
/-- one element more in front -/
theorem G_cons (g r : Nat) (hg : g < 10000) : ∀ x ∈ g :: G r, x < 10000 := by
  intro x hx
  rcases List.mem_cons.1 hx with rfl | hx
  · exact hg
  · exact G_lt r x hx
theorem V_cons (g r : Nat) : V (g :: G r) = g + 10000 * r := by show g + 10000 * val 10000 (G r) = _; rw [show val 10000 (G r) = r from V_G r]

theorem IsZ.drop {W : World} {a : Option Addr} {n c k : Nat} {l : List Int} (h : IsZ W a n c l) (hk : k ≤ n) (h0 : 0 < n) : ∃ ar, (if c = k then a else a.map (·.add k)) = some ar ∧ IsZ W (some ar) (n - k) (c - k) (l.drop k) := by
  obtain ⟨g, off, rfl, hI⟩ := h.at h0
  have hc := h.cap
  have hm := h.max
  have hadd : (⟨g, off, none⟩ : Addr).add k = ⟨g, off + k, none⟩ := by unfold Addr.add; split <;> simp_all
  by_cases e : c = k
  · rw [if_pos e]
    exact ⟨_, rfl, by rw [List.length_drop, h.len], by omega, by omega, .inl (by omega)⟩
  · rw [if_neg e]
    exact ⟨_, rfl, by rw [List.length_drop, h.len], by omega, by omega, .inr ⟨g, off + k, congrArg some hadd, hI.drop k⟩⟩
/-- what lies there between two rounds: p groups are to come -/
structure Dv (w : World) (b : Option Addr) (k d nx x y : Nat) (bk : Nat) (a : Option Addr) (c : Nat) (p : Nat) (W : World) : Prop where
  below : Below w.heap.size w W
  size : w.heap.size + 5 ≤ W.heap.size
  box : W.cell? ⟨w.heap.size, 0, none⟩ = some (.slice b k d)
  rest : ∃ ar nr cr, W.heap[w.heap.size + 1]? = some (.cells #[.slice (some ar) nr cr] 89 (0, 0)) ∧ IsZ W (some ar) nr cr (zs (G (x / 10000 ^ p % y)))
  quo : W.heap[w.heap.size + 1 + 1 + 1]? = some (.cells #[.slice (some ⟨w.heap.size + 1 + 1, 0, none⟩) nx nx] 40 (0, 0))
  cols : ∃ Q : List Nat, Cols W w.heap.size (some ⟨w.heap.size + 1 + 1, 0, none⟩) nx nx (zs Q) ∧ (∀ z ∈ Q, z < 10000) ∧ V (Q.drop p) = x / 10000 ^ p / y
  bkn : BkN bk a nx c ((G x).take nx) W
theorem Dv.later {w : World} {b : Option Addr} {k d nx x y bk c p : Nat} {a : Option Addr} {W W' : World} (h : Dv w b k d nx x y bk a c p W) (hb : Below W.heap.size W W') : Dv w b k d nx x y bk a c p W' := by
  obtain ⟨ar, nr, cr, h1, h2⟩ := h.rest
  obtain ⟨Q, h3, h4⟩ := h.cols
  exact ⟨below_on h.below hb h.below.size, Nat.le_trans h.size hb.size, (hb.cell (p := ⟨w.heap.size, 0, none⟩) (block_lt_of_cell h.box)).trans h.box,
    ⟨ar, nr, cr, (hb.block _ (Array.getElem?_eq_some_iff.1 h1).1).trans h1, h2.later hb⟩, (hb.block _ (Array.getElem?_eq_some_iff.1 h.quo).1).trans h.quo, ⟨Q, h3.later hb, h4⟩, h.bkn.later hb⟩

theorem IsZ.kept {A C : World} {a : Option Addr} {n c : Nat} {l : List Int} (h : IsZ A a n c l) (hk : Rfn.CellsKept A C) : IsZ C a n c l :=
  ⟨h.len, h.cap, h.max, h.row.imp id (fun ⟨g, off, e, hp⟩ => ⟨g, off, e, fun i hi => hk.cell (hp i hi)⟩)⟩
theorem Dv.kept {w : World} {b : Option Addr} {k d nx x y bk c p : Nat} {a : Option Addr} {W W' W0 : World} (h : Dv w b k d nx x y bk a c p W) (hs : W0.heap.size = w.heap.size + 5) (hb : Below W0.heap.size W W') (hk : Rfn.CellsKept W W') : Dv w b k d nx x y bk a c p W' := by
  obtain ⟨ar, nr, cr, h1, h2⟩ := h.rest
  obtain ⟨Q, h3, h4⟩ := h.cols
  exact ⟨h.below.trans (hb.mono (by omega)), Nat.le_trans h.size hb.size, hk.cell h.box,
    ⟨ar, nr, cr, hk.same _ _ h1 rfl, h2.kept hk⟩, hk.same _ _ h.quo rfl, ⟨Q, ⟨h3.len, h3.cap, h3.max, h3.row.imp id (fun ⟨g, cur, e, hg, hr, ht⟩ => ⟨g, cur, e, hg, hk.same _ _ hr rfl, ht⟩)⟩, h4⟩, ⟨hk.cell h.bkn.cell, h.bkn.isZ.kept hk⟩⟩

set_option maxRecDepth 100000 in
set_option maxHeartbeats 2000000 in
theorem divide_any (a : Option Addr) (n c : Nat) (b : Option Addr) (k d : Nat) (x y : Nat) (w : World) (hl : IsZ w a n c (zs (G x))) (hm : IsZ w b k d (zs (G y))) (hy : 0 < y) (hn : n ≤ 900) (hk : k ≤ 900) :
    Calls Tryz.prog 108 #[.slice a n c, .slice b k d] w fun e w' => ∃ a1 n1 c1 a2 n2 c2, e = .returned (.tuple #[.slice a1 n1 c1, .slice a2 n2 c2]) ∧ IsZ w' a1 n1 c1 (zs (G (x / y))) ∧ IsZ w' a2 n2 c2 (zs (G (x % y))) ∧ Below w.heap.size w w' := by
  have hxl : (G x).length = n := by rw [← zs_length]; exact hl.len
  have hyl : (G y).length = k := by rw [← zs_length]; exact hm.len
  have hnc := hl.cap
  have hkd := hm.cap
  have hmx := hl.max
  have hmd := hm.max
  have hk0 : 0 < k := by
    rcases Nat.eq_zero_or_pos k with h | h
    · rw [h] at hyl; have := dgs_len0.1 hyl; omega
    · exact h
  refine (callsIn_wide (n := 3)).1 ?_
  refine callsIn_of_wp_marks Tryz.func108 rfl trivial ?_ rfl
  simp only [Tryz.ntmps108, List.size_toArray, List.length_cons, List.length_nil, Nat.reduceAdd, Nat.reduceSub, Array.replicate_succ, Array.replicate_zero, List.push_toArray, List.append_toArray, List.nil_append, List.cons_append]
  rcases Nat.lt_or_ge n k with hnk | hnk
  · have hlt : x < y := dgs_length_lt (k := 9998) (by rw [show (dgs 9998 x).length = n from hxl, show (dgs 9998 y).length = k from hyl]; exact hnk)
    have h1 : x / y = 0 := Nat.div_eq_of_lt hlt
    have h2 : x % y = x := Nat.mod_eq_of_lt hlt
    rw [h1, h2]
    have hB : Below w.heap.size w (w.alloc (.cells #[.slice b k d] 89)) := (Below.refl _ w).alloc (Nat.le_refl _) _
    have Hl := Lib.hid (hl.later hB)
    clear h1 h2 hlt hl hm hxl hyl
    gi_wp2
    exact ⟨_, results_tmp2 rfl _ _ _, _, _, _, _, _, _, rfl, by rw [show G 0 = [] from dgs_zero 9998]; exact IsZ.nil _ _ _ (Nat.zero_le _), Hl.out, hB⟩
  · obtain ⟨nx, hnx⟩ : ∃ nx, nx = n - k + 1 := ⟨_, rfl⟩
    have e1 : (n : Int) - k + 1 = (nx : Int) := by omega
    have hnn : nx ≤ n := by omega
    have hnxk : n - nx + 1 = k := by omega
    have hnx1 : nx ≤ 1000 := by omega
    clear hnx
    obtain ⟨ar, har, hzr⟩ := hl.drop hnn (by omega)
    rw [zs_drop, show (G x).drop nx = G (x / 10000 ^ nx) from dgs_drop 9998 x nx] at hzr
    have hsl := fun (W : World) => slc_l W 89 Tryz.underlying89 a n c nx (nx : Int) rfl hnn (by kernel_rfl)
    rw [har] at hsl
    have hsh := fun (W : World) => slc_h W 89 Tryz.underlying89 a n c nx (nx : Int) rfl (by omega) (by kernel_rfl)
    obtain ⟨w2, hmk, hco2, hb2, hs2⟩ := mkCols ((w.alloc (.cells #[.slice b k d] 89)).alloc (.cells #[.slice (some ar) (n - nx) (c - nx)] 89)) 40 Tryz.underlying40 nx (by omega)
    have hW1 : Below w.heap.size w ((w.alloc (.cells #[.slice b k d] 89)).alloc (.cells #[.slice (some ar) (n - nx) (c - nx)] 89)) := ((Below.refl _ w).alloc (Nat.le_refl _) _).alloc (by simp) _
    simp only [World.size_alloc] at hmk hco2 hs2
    have hdec : decide ((n : Int) < k) = false := by simp; omega
    have Hz := Lib.hid (And.intro hl (And.intro hm hzr))
    clear har hl hm hzr
    gi_wp2_with (refine ⟨trivial, ?_⟩; gi_at_call 113; refine (callsIn_wide.2 (backward_any _ _ _ _)).mono ?_; rintro e w' ⟨rfl, rfl⟩)
    refine wpIn_world fun W0 hW0 => ?_
    have hB0 : Below w2.heap.size w2 W0 := by rw [hW0]; exact ((Below.refl _ w2).alloc (Nat.le_refl _) _).alloc (by simp) _
    have hs0 : W0.heap.size = w.heap.size + 5 := by rw [hW0]; simp [hs2]
    have hs2' : w2.heap.size = w.heap.size + 3 := by rw [hs2]
    have hbw := (hW1.trans (hb2.mono hW1.size)).trans (hB0.mono (by omega))
    have hxlt : x / 10000 ^ nx < y := by
      have h1 := lt_pow_G hxl
      have h2 := dgs_le_pow 9998 y hy
      rw [show (dgs 9998 y).length = k from hyl] at h2
      refine Nat.lt_of_lt_of_le (Nat.div_lt_of_lt_mul ?_) h2
      show x < 10000 ^ nx * (9998 + 2) ^ (k - 1)
      rw [← Nat.pow_add, show nx + (k - 1) = n by omega]
      exact h1
    have hdv : Dv w b k d nx x y (w.heap.size + 1 + 1 + 1 + 1) a c nx W0 := by
      refine ⟨hbw, by omega, ?_, ?_, ?_, ?_, ?_, ?_⟩
      · refine (hB0.cell (p := ⟨w.heap.size, 0, none⟩) (by show w.heap.size < _; omega)).trans ((hb2.cell (p := ⟨w.heap.size, 0, none⟩) (by simp; omega)).trans ?_)
        rw [cell_of_row _ _ 0 _ _ _ ((heap_alloc_old _ _ (by simp)).trans (heap_alloc_new _ _))]; rfl
      · refine ⟨ar, n - nx, c - nx, (hB0.block _ (by omega)).trans ((hb2.block _ (by simp)).trans ?_), ?_⟩
        · have := heap_alloc_new (w.alloc (.cells #[.slice b k d] 89)) (.cells #[.slice (some ar) (n - nx) (c - nx)] 89)
          simp only [World.size_alloc] at this
          exact this
        · rw [Nat.mod_eq_of_lt hxlt]
          exact Hz.out.2.2.later hbw
      · rw [hW0]
        have := heap_alloc_new w2 (.cells #[.slice (some ⟨w.heap.size + 1 + 1, 0, none⟩) nx nx] 40)
        rw [hs2'] at this
        exact (heap_alloc_old _ _ (by simp; omega)).trans this
      · refine ⟨List.replicate nx 0, ?_, fun z hz => by rw [(List.mem_replicate.1 hz).2]; omega, ?_⟩
        · have h1 := (hco2.later (hB0.mono (Nat.le_refl _)))
          rw [show zs (List.replicate nx 0) = List.replicate nx 0 by simp [zs]]
          exact ⟨h1.len, h1.cap, h1.max, h1.row.imp id (fun ⟨g, cur, e, hg, hr⟩ => ⟨g, cur, e, by omega, hr⟩)⟩
        · rw [List.drop_replicate, Nat.sub_self, Nat.div_eq_of_lt hxlt]; rfl
      · rw [hW0]
        have := heap_alloc_new (w2.alloc (.cells #[.slice (some ⟨w.heap.size + 1 + 1, 0, none⟩) nx nx] 40)) (.cells #[.slice a nx c] 89)
        simp only [World.size_alloc, hs2'] at this
        rw [cell_of_row _ _ 0 _ _ _ this]; rfl
      · rw [← zs_take]; exact (Hz.out.1.later hbw).take hnn
    have hyp := Nat.pos_of_ne_zero (show y ≠ 0 by omega)
    clear hW0 hB0 hbw hb2 hW1 hco2 hmk hsl hsh hs2 hs2'
    refine Rfn.wpIn_rangeFunc_need rfl (by omega) (gf := 131) (lb := #[.pointer (some ⟨w.heap.size + 1 + 1 + 1 + 1, 0, none⟩)]) rfl trivial (enters_of Tryz.func131 (by kernel_rfl) rfl)
      (back_yields (w.heap.size + 1 + 1 + 1 + 1) a nx c ((G x).take nx) W0 (by omega) (by rw [List.length_take, hxl]; omega)) (Below.refl _ _) (fun _ => rfl)
      (fun j W => Dv w b k d nx x y (w.heap.size + 1 + 1 + 1 + 1) a c (nx - j) W)
      (fun _ _ _ => False)
      (fun j A C h hb hk => h.kept hs0 hb hk)
      (fun cd j A C h hb _ => h)
      (fun j W h => h.bkn) (by rw [Nat.sub_zero]; exact hdv) ?round ?done ?stop
    case stop =>
      rintro D cd j W hD hDW h hdef
      exact h.elim
    case done =>
      rintro D W hD hDW h hdef
      rw [bks_length, List.length_take, hxl, show nx - min nx n = 0 by omega] at h
      obtain ⟨r1, r2, r3, hrow, hrz⟩ := h.rest
      obtain ⟨Q, hQ1, hQ2, hQ3⟩ := h.cols
      rw [Nat.pow_zero, Nat.div_one] at hrz hQ3
      rw [List.drop_zero] at hQ3
      have hq := h.quo
      have hB := h.below
      have hcr : W.cell? ⟨w.heap.size + 1, 0, none⟩ = some (.slice (some r1) r2 r3) := by rw [cell_of_row _ _ 0 _ _ _ hrow]; rfl
      have hcq : W.cell? ⟨w.heap.size + 1 + 1 + 1, 0, none⟩ = some (.slice (some ⟨w.heap.size + 1 + 1, 0, none⟩) nx nx) := by rw [cell_of_row _ _ 0 _ _ _ hq]; rfl
      have ht := trimmed_any (some ⟨w.heap.size + 1 + 1, 0, none⟩) nx nx Q
      have HT := Lib.hid (fun (W' : World) (hb : Below W.heap.size W W') => ht W' (hQ1.isZ.later hb) hQ2 (by omega))
      rw [hQ3] at HT
      have Hdef := Lib.hid hdef
      have Hrz := Lib.hid hrz
      clear h hrow hrz hQ1 hQ2 hQ3 hq hdv ht hdef
      gi_wp2
      refine wpIn_wide.2 ?_
      go_region_held3 (fun w' => w'.cell? ⟨w.heap.size + 1, 0, none⟩ = some (.slice (some r1) r2 r3) ∧ w'.cell? ⟨w.heap.size + 1 + 1 + 1, 0, none⟩ = some (.slice (some ⟨w.heap.size + 1 + 1, 0, none⟩) nx nx)) (go_keep)
        (first | (go_at_call 126; (with_reducible refine (HT.out _ (Below.refl _ _).drew).mono ?_); rintro e w5 ⟨m, rfl, z5, B6⟩; have k5 : w5.cell? ⟨w.heap.size + 1, 0, none⟩ = some (.slice (some r1) r2 r3) := (B6.cell (p := ⟨w.heap.size + 1, 0, none⟩) (block_lt_of_cell hcr)).trans hcr; have k6 : w5.cell? ⟨w.heap.size + 1 + 1 + 1, 0, none⟩ = some (.slice (some ⟨w.heap.size + 1 + 1, 0, none⟩) nx nx) := (B6.cell (p := ⟨w.heap.size + 1 + 1 + 1, 0, none⟩) (block_lt_of_cell hcq)).trans hcq))
      have hdef5 := (below_undrew B6).block D (Array.getElem?_eq_some_iff.1 Hdef.out).1
      have hz52 := Hrz.out.later (below_undrew B6)
      have hB5 := below_on hB (below_undrew B6) hB.size
      rw [Hdef.out] at hdef5
      have Hd5 := Lib.hid hdef5
      clear hdef5
      gi_wp2
      refine ⟨by simp, .inl ⟨_, _, rfl, run_takeDeferred Hd5.out, ?_⟩⟩
      have hkc : Rfn.CellsKept w5 (w5.putObj D (.deferred none)) := (Rfn.putObj_but w5 D _).kept Hd5.out rfl
      exact ⟨_, results_tmp2 rfl _ _ _, _, _, _, _, _, _, rfl, z5.kept hkc, hz52.kept hkc, hB5.trans (belowK_b (w := W0) (n₀ := w.heap.size) (by omega) w5 D _ _ hD Hd5.out rfl rfl)⟩
    case round =>
      rintro q j hj W hq hqW h
      rw [bks_length, List.length_take, hxl, show min nx n = nx by omega] at hj
      rw [bks_get, List.length_take, hxl, show min nx n = nx by omega]
      obtain ⟨I, hI⟩ : ∃ I, nx - 1 - j = I := ⟨_, rfl⟩
      rw [hI]
      have hI1 : nx - j = I + 1 := by omega
      have hI2 : nx - (j + 1) = I := by omega
      have hIn : I < nx := by omega
      rw [hI1] at h
      have HI := Lib.hid hI2
      have hgd : ((G x).take nx).getD I 0 = x / 10000 ^ I % 10000 := by
        rw [List.getD_eq_getElem?_getD, List.getElem?_take, if_pos hIn, ← List.getD_eq_getElem?_getD]; exact dgs_getD 9998 x I
      rw [hgd]
      have hdg := div_group x y (10000 ^ I) 10000 (by omega) hyp
      rw [show (10000 : Nat) ^ I * 10000 = 10000 ^ (I + 1) from (Nat.pow_succ ..).symm] at hdg
      have hr0 : x / 10000 ^ (I + 1) % y < y := Nat.mod_lt _ hyp
      obtain ⟨r1, r2, r3, hrow, hrz⟩ := h.rest
      obtain ⟨Q, hQ1, hQ2, hQ3⟩ := h.cols
      obtain ⟨g, hg⟩ : ∃ g, x / 10000 ^ I % 10000 = g := ⟨_, rfl⟩
      obtain ⟨r, hr⟩ : ∃ r, x / 10000 ^ (I + 1) % y = r := ⟨_, rfl⟩
      have hg1 : g < 10000 := by rw [← hg]; exact Nat.mod_lt _ (by omega)
      rw [hg]
      rw [hg, hr] at hdg
      rw [hr] at hrz hr0
      simp only [bkEnc]
      gi_wp2
      refine ⟨KeepsOthers.refl _, fun W2 hbu hck => ?_⟩
      have h2 := h.kept hs0 (Rfn.But.below hbu hq) hck
      have hrow2 := hck.same _ _ hrow rfl
      have hrz2 := hrz.kept hck
      have hQ12 : Cols W2 w.heap.size (some ⟨w.heap.size + 1 + 1, 0, none⟩) nx nx (zs Q) := ⟨hQ1.len, hQ1.cap, hQ1.max, hQ1.row.imp id (fun ⟨g, cur, e, hg, hr, ht⟩ => ⟨g, cur, e, hg, hck.same _ _ hr rfl, ht⟩)⟩
      have hcr : W2.cell? ⟨w.heap.size + 1, 0, none⟩ = some (.slice (some r1) r2 r3) := by rw [cell_of_row _ _ 0 _ _ _ hrow2]; rfl
      have hrf : W2.frozen? ⟨w.heap.size + 1, 0, none⟩ = false := frozen_of_row _ _ 0 _ _ hrow2
      have hB2 := h2.below
      have hs2 := h2.size
      have hquo := h2.quo
      have hbox := h2.box
      have hbk := h2.bkn
      obtain ⟨i0, hi, hz0, hz1, hz2⟩ := info_parts infoInt
      have hrl : (G r).length = r2 := by rw [← zs_length]; exact hrz2.len
      have hr2k : r2 ≤ k := by rw [← hrl, ← hyl]; exact dgs_length_mono (Nat.le_of_lt hr0)
      have hcell : ∀ j u, (iv .i64 (G r))[j]? = some u → (W2.alloc (.cells #[.int .i64 (g : Int)] 3)).cell? (r1.add j) = some u := by
        intro j u hj
        have hjn : j < r2 := by
          rcases Nat.lt_or_ge j r2 with h1 | h1
          · exact h1
          · rw [List.getElem?_eq_none (by rw [iv_length]; omega)] at hj; cases hj
        obtain ⟨g', off, e, hI⟩ := hrz2.at (by omega)
        cases e
        have hadd : (⟨g', off, none⟩ : Addr).add j = ⟨g', off + j, none⟩ := by unfold Addr.add; split <;> simp_all
        have hc := hI j (by rw [zs_length]; omega)
        rw [hadd, (((Below.refl _ W2).alloc (Nat.le_refl _) _).cell (p := ⟨g', off + j, none⟩) (block_lt_of_cell hc)).trans hc, zs_getD]
        simp only [iv, List.getElem?_map, List.getElem?_eq_getElem (show j < (G r).length by omega), Option.map_some, Option.some.injEq] at hj
        rw [← hj, List.getD_eq_getElem?_getD, List.getElem?_eq_getElem (show j < (G r).length by omega)]; rfl
      have hcrA : (W2.alloc (.cells #[.int .i64 (g : Int)] 3)).cell? ⟨w.heap.size + 1, 0, none⟩ = some (.slice (some r1) r2 r3) := (((Below.refl _ W2).alloc (Nat.le_refl _) _).cell (p := ⟨w.heap.size + 1, 0, none⟩) (block_lt_of_cell hcr)).trans hcr
      have Hcell := Lib.hid hcell
      have Hrl := Lib.hid hrl
      have HF := Lib.hid (And.intro hrow2 (And.intro hrz2 (And.intro hQ12 (And.intro hquo (And.intro hbk (And.intro hQ2 (And.intro hQ3 hdg)))))))
      clear hrow hrow2 hrz hrz2 hQ1 hQ12 hQ2 hQ3 hquo hbk hcell hrl h h2 hbu hck hgd hj hdv hdg
      gi_wp2_with (gi_at_builtin; (refine wpListIn_append_two _ rfl _ _ 40 89 rfl W2.heap.size 3 i0 (.int .i64 0) 1 8 Tryz.underlying40 Tryz.underlying89 hi hz0 hz1 hz2 rfl (by omega) (.slice (some ⟨W2.heap.size, 0, none⟩) 1 1) 1 [.int .i64 (g : Int)] rfl ⟨rfl, .inr ⟨W2.heap.size, 1, _, rfl, Nat.le_refl _, heap_alloc_new _ _, Nat.le_refl _, by unfold maxLen; omega, rfl, rfl⟩⟩ r1 r2 r3 (iv .i64 (G r)) rfl ?q1 ?q2 ?q3 ?q4 ?q5 ?q6 ?_))
      case q1 => rw [iv_length, Hrl.out, Nat.mul_one]
      case q2 => exact Hcell.out
      case q3 => intro u hu; simp only [iv, List.mem_map] at hu; obtain ⟨b, _, rfl⟩ := hu; rfl
      case q4 => unfold maxLen; omega
      case q5 => omega
      case q6 => simp
      intro v' w3 hown hg3 _
      have hown3 : Bs.Own w3 W2.heap.size 3 .i64 v' (g :: G r) := ⟨by
        rw [List.length_cons, Hrl.out, show r2 + 1 = 1 + r2 by omega]
        exact hown⟩
      have hB3 : Below W2.heap.size W2 w3 := ((Below.refl _ W2).alloc (Nat.le_refl _) _).grown hg3 (by simp) (by intro k hk; simp [Value.ownBlock] at hk; omega)
      obtain ⟨g3, c3, rfl, hg3b, hg3l, _⟩ := hown3.cells (by simp)
      rw [List.length_cons, Hrl.out] at hown3
      have ht := trimmed_any (some ⟨g3, 0, none⟩) (r2 + 1) c3 (g :: G r) w3 hown3.isZ (G_cons g r hg1) (by omega)
      rw [V_cons] at ht
      rw [List.length_cons, Hrl.out]
      obtain ⟨m, hm⟩ : ∃ m, g + 10000 * r = m := ⟨_, rfl⟩
      have hmy : m < 10000 * y := by omega
      rw [hm] at ht HF
      have hcr3 := (hB3.cell (p := ⟨w.heap.size + 1, 0, none⟩) (block_lt_of_cell hcr)).trans hcr
      have Ht := Lib.hid ht
      clear hown hg3 hown3 ht hcr hcrA hrf hm Hcell
      gi_wp2_with (refine ⟨trivial, ?_⟩; gi_at_call 126; refine (CallsIn.inRound q (callsIn_wide.2 Ht.out)).mono ?_; rintro e w4 ⟨m3, rfl, hz4, hb4⟩; have hrow4 := (hb4.block _ (Nat.lt_of_lt_of_le (Array.getElem?_eq_some_iff.1 HF.out.1).1 hB3.size)).trans ((hB3.block _ (Array.getElem?_eq_some_iff.1 HF.out.1).1).trans HF.out.1); have hcr4 : w4.cell? ⟨w.heap.size + 1, 0, none⟩ = some (.slice (some r1) r2 r3) := (by rw [cell_of_row _ _ 0 _ _ _ hrow4]; rfl); have hrf4 : w4.frozen? ⟨w.heap.size + 1, 0, none⟩ = false := frozen_of_row _ _ 0 _ _ hrow4)
      refine wpIn_world fun W5 hW5 => ?_
      have hB4 : Below W2.heap.size W2 w4 := below_on hB3 hb4 hB3.size
      have hlt2 : w.heap.size + 1 < W2.heap.size := (Array.getElem?_eq_some_iff.1 HF.out.1).1
      have hrow5 : W5.heap[w.heap.size + 1]? = some (.cells #[.slice (some ⟨g3, 0, none⟩) m3 c3] 89 (0, 0)) := by rw [hW5]; exact heap_setCell_same w4 (w.heap.size + 1) 0 _ _ _ hrow4
      have hz5 : IsZ W5 (some ⟨g3, 0, none⟩) m3 c3 (zs (G m)) := by rw [hW5]; exact hz4.setOther hcr4 _
      have hoth : ∀ i, i ≠ w.heap.size + 1 → i < W2.heap.size → W5.heap[i]? = W2.heap[i]? := fun i h1 h2 => by rw [hW5]; exact (heap_setCell_other w4 ⟨w.heap.size + 1, 0, none⟩ i _ h1).trans (hB4.block i h2)
      have hB5 : Below w.heap.size w W5 := by rw [hW5]; exact (hB2.trans (hB4.mono hB2.size)).setCell (p := ⟨w.heap.size + 1, 0, none⟩) (by show w.heap.size ≤ w.heap.size + 1; omega) _
      have hs5 : w.heap.size + 5 ≤ W5.heap.size := by rw [hW5]; simp; have := hB4.size; omega
      have hck25 : ∀ {p : Addr} {v : Value}, p.block ≠ w.heap.size + 1 → p.block < W2.heap.size → W2.cell? p = some v → W5.cell? p = some v := fun {p v} h1 h2 h3 => by
        unfold World.cell? at h3 ⊢; rw [hoth _ h1 h2]; exact h3
      have hquo5 : W5.heap[w.heap.size + 1 + 1 + 1]? = some (.cells #[.slice (some ⟨w.heap.size + 1 + 1, 0, none⟩) nx nx] 40 (0, 0)) := (hoth _ (by omega) (by omega)).trans HF.out.2.2.2.1
      have hQ5 : Cols W5 w.heap.size (some ⟨w.heap.size + 1 + 1, 0, none⟩) nx nx (zs Q) := by
        have h := HF.out.2.2.1
        exact ⟨h.len, h.cap, h.max, h.row.imp id (fun ⟨g, cur, e, hg, hr, ht⟩ => ⟨g, cur, e, hg, by cases e; exact (hoth _ (by omega) (by omega)).trans hr, ht⟩)⟩
      have hbk5 : BkN (w.heap.size + 1 + 1 + 1 + 1) a nx c ((G x).take nx) W5 := by
        refine ⟨hck25 (by show w.heap.size + 1 + 1 + 1 + 1 ≠ _; omega) (by show w.heap.size + 1 + 1 + 1 + 1 < _; omega) HF.out.2.2.2.2.1.cell, ?_⟩
        rw [← zs_take]; exact (Hz.out.1.later hB5).take hnn
      have hko : KeepsOthers W2 W5 := by rw [hW5]; exact (keeps_below hB4).trans (KeepsOthers.setCell _ _ _)
      have cq5 : W5.cell? ⟨w.heap.size + 1 + 1 + 1, 0, none⟩ = some (.slice (some ⟨w.heap.size + 1 + 1, 0, none⟩) nx nx) := by rw [cell_of_row _ _ 0 _ _ _ hquo5]; rfl
      have cr5 : W5.cell? ⟨w.heap.size + 1, 0, none⟩ = some (.slice (some ⟨g3, 0, none⟩) m3 c3) := by rw [cell_of_row _ _ 0 _ _ _ hrow5]; rfl
      have cb5 : W5.cell? ⟨w.heap.size, 0, none⟩ = some (.slice b k d) := hck25 (by show w.heap.size ≠ _; omega) (by show w.heap.size < _; omega) hbox
      have hg3q : g3 ≠ w.heap.size + 1 + 1 := by omega
      have hm3 : m3 ≤ k + 1 := by
        rw [← hz5.len, zs_length]
        refine G_len_le m (k + 1) (Nat.lt_of_lt_of_le hmy ?_)
        rw [Nat.pow_succ, Nat.mul_comm]
        exact Nat.mul_le_mul_right _ (Nat.le_of_lt (lt_pow_G hyl))
      obtain ⟨qd, hqd⟩ : ∃ qd, m / y = qd := ⟨_, rfl⟩
      have hC := fun (W' : World) (hb : Below W5.heap.size W5 W') => contains_any (some ⟨g3, 0, none⟩) m3 c3 b k d m y W' (hz5.later hb) ((Hz.out.2.1.later hB5).later hb) hyp hmy hm3 (by omega)
      rw [hqd] at hC
      have HC := Lib.hid hC
      have Hqd := Lib.hid hqd
      clear hC hqd
      have HG := Lib.hid HF.out.2.2.2.2.2
      have HR5 := Lib.hid (And.intro hrow5 (And.intro hz5 (And.intro hquo5 (And.intro hQ5 hbk5))))
      clear hW5 hB4 hrow4 hcr4 hrf4 hz4 hb4 hoth hck25 hrow5 hz5 hquo5 hQ5 hbk5 HF Ht hB3 hbox hB2 hg3b hg3l hs2
      refine Rgr.wpIn_region_held (S := fun w' => w'.cell? ⟨w.heap.size + 1 + 1 + 1, 0, none⟩ = some (.slice (some ⟨w.heap.size + 1 + 1, 0, none⟩) nx nx) ∧ w'.cell? ⟨w.heap.size + 1, 0, none⟩ = some (.slice (some ⟨g3, 0, none⟩) m3 c3) ∧ w'.cell? ⟨w.heap.size, 0, none⟩ = some (.slice b k d)) (by kernel_rfl) (by kernel_rfl) (by rintro ⟨a, w, h⟩; exact h) ?_
      have hS5 : W5.drew.cell? ⟨w.heap.size + 1 + 1 + 1, 0, none⟩ = some (.slice (some ⟨w.heap.size + 1 + 1, 0, none⟩) nx nx) ∧ W5.drew.cell? ⟨w.heap.size + 1, 0, none⟩ = some (.slice (some ⟨g3, 0, none⟩) m3 c3) ∧ W5.drew.cell? ⟨w.heap.size, 0, none⟩ = some (.slice b k d) := ⟨cq5, cr5, cb5⟩
      refine wpAnyH_take (i := 0) (v := .slice (some ⟨w.heap.size + 1 + 1, 0, none⟩) nx nx) rfl (by kernel_rfl) (by kernel_rfl) (by kernel_rfl) (fun _ _ _ h => h) (Or.inl ⟨by rfl, by (intro w' hSw; obtain ⟨h1, h2, h3⟩ := hSw; go_simp)⟩) hS5 ?_
      try simp only [Act.put, List.setIfInBounds_toArray, List.set_cons_zero, List.set_cons_succ]
      refine wpAnyH_take (i := 1) (v := .int .i64 (I : Int)) rfl (by kernel_rfl) (by kernel_rfl) (by kernel_rfl) (fun _ _ _ h => h) (Or.inl ⟨by rfl, by (intro w' hSw; obtain ⟨h1, h2, h3⟩ := hSw; go_simp)⟩) hS5 ?_
      try simp only [Act.put, List.setIfInBounds_toArray, List.set_cons_zero, List.set_cons_succ]
      refine wpAnyH_take (i := 2) (v := .slice (some ⟨g3, 0, none⟩) m3 c3) rfl (by kernel_rfl) (by kernel_rfl) (by kernel_rfl) (fun _ _ _ h => h) (Or.inl ⟨by rfl, by (intro w' hSw; obtain ⟨h1, h2, h3⟩ := hSw; go_simp)⟩) hS5 ?_
      try simp only [Act.put, List.setIfInBounds_toArray, List.set_cons_zero, List.set_cons_succ]
      refine wpAnyH_take (i := 3) (v := .slice b k d) rfl (by kernel_rfl) (by kernel_rfl) (by kernel_rfl) (fun _ _ _ h => h) (Or.inl ⟨by rfl, by (intro w' hSw; obtain ⟨h1, h2, h3⟩ := hSw; go_simp)⟩) hS5 ?_
      try simp only [Act.put, List.setIfInBounds_toArray, List.set_cons_zero, List.set_cons_succ]
      refine wpAnyH_ready (rs := [4]) (by kernel_rfl) (by simp) ?_
      refine AllReadyH.cons rfl (fun K hK => ?_) AllReadyH.nil
      go_simp
      refine (HC.out _ (Below.refl _ _).drew).mono ?_
      rintro e W6 ⟨rfl, B6⟩
      have B6 := below_undrew B6
      have hS6 : W6.cell? ⟨w.heap.size + 1 + 1 + 1, 0, none⟩ = some (.slice (some ⟨w.heap.size + 1 + 1, 0, none⟩) nx nx) ∧ W6.cell? ⟨w.heap.size + 1, 0, none⟩ = some (.slice (some ⟨g3, 0, none⟩) m3 c3) ∧ W6.cell? ⟨w.heap.size, 0, none⟩ = some (.slice b k d) :=
        ⟨(B6.cell (p := ⟨w.heap.size + 1 + 1 + 1, 0, none⟩) (block_lt_of_cell cq5)).trans cq5, (B6.cell (p := ⟨w.heap.size + 1, 0, none⟩) (block_lt_of_cell cr5)).trans cr5, (B6.cell (p := ⟨w.heap.size, 0, none⟩) (block_lt_of_cell cb5)).trans cb5⟩
      refine hK.out _ _ hS6 (fun _ => ?_)
      clear hK K
      try simp only [Act.put, List.setIfInBounds_toArray, List.set_cons_zero, List.set_cons_succ]
      refine wpAnyH_take (i := 5) (v := .pointer (some ⟨w.heap.size + 1 + 1, I, none⟩)) rfl (by kernel_rfl) (by kernel_rfl) (by kernel_rfl) (fun _ _ _ h => h) (Or.inl ⟨by rfl, by (intro w' hSw; obtain ⟨h1, h2, h3⟩ := hSw; go_simp)⟩) hS6 ?_
      try simp only [Act.put, List.setIfInBounds_toArray, List.set_cons_zero, List.set_cons_succ]
      obtain ⟨gq', hgq, hgB, hcq6⟩ := (HR5.out.2.2.2.1.later B6).at (by omega)
      cases hgq
      obtain ⟨hcc6, hcf6⟩ := hcq6 I hIn
      refine wpAnyH_ready (rs := [6]) (by kernel_rfl) (by simp) ?_
      refine AllReadyH.cons rfl (fun K hK => ?_) AllReadyH.nil
      go_simp
      have hne1 : w.heap.size + 1 + 1 ≠ w.heap.size + 1 + 1 + 1 := by omega
      have hne2 : w.heap.size + 1 + 1 ≠ w.heap.size + 1 := by omega
      have hne3 : w.heap.size + 1 + 1 ≠ w.heap.size := by omega
      refine hK.out _ _ ⟨(World.cell?_setCell_far _ _ _ _ hne1).trans hS6.1, (World.cell?_setCell_far _ _ _ _ hne2).trans hS6.2.1, (World.cell?_setCell_far _ _ _ _ hne3).trans hS6.2.2⟩ (fun _ => ?_)
      clear hK K
      refine wpAnyH_done (by kernel_rfl) ?_ _
      -- REGION11
      have hz7 : IsZ (W6.setCell ⟨w.heap.size + 1 + 1, I, none⟩ (.int .i64 (qd : Int))) (some ⟨g3, 0, none⟩) m3 c3 (zs (G m)) := (HR5.out.2.1.later B6).setFar (Ne.symm hg3q) _
      have hQ7 : Cols (W6.setCell ⟨w.heap.size + 1 + 1, I, none⟩ (.int .i64 (qd : Int))) w.heap.size (some ⟨w.heap.size + 1 + 1, 0, none⟩) nx nx (zs (Q.set I qd)) := by
        have := (HR5.out.2.2.2.1.later B6).set I hIn (qd : Int)
        rwa [show (zs Q).set I (qd : Int) = zs (Q.set I qd) by unfold zs; rw [List.map_set]] at this
      have hrow7 : (W6.setCell ⟨w.heap.size + 1 + 1, I, none⟩ (.int .i64 (qd : Int))).heap[w.heap.size + 1]? = some (.cells #[.slice (some ⟨g3, 0, none⟩) m3 c3] 89 (0, 0)) := (heap_setCell_other W6 ⟨w.heap.size + 1 + 1, I, none⟩ _ _ (Ne.symm hne2)).trans ((B6.block _ (Array.getElem?_eq_some_iff.1 HR5.out.1).1).trans HR5.out.1)
      have hquo7 : (W6.setCell ⟨w.heap.size + 1 + 1, I, none⟩ (.int .i64 (qd : Int))).heap[w.heap.size + 1 + 1 + 1]? = some (.cells #[.slice (some ⟨w.heap.size + 1 + 1, 0, none⟩) nx nx] 40 (0, 0)) := (heap_setCell_other W6 ⟨w.heap.size + 1 + 1, I, none⟩ _ _ (Ne.symm hne1)).trans ((B6.block _ (Array.getElem?_eq_some_iff.1 HR5.out.2.2.1).1).trans HR5.out.2.2.1)
      have hB7 : Below w.heap.size w (W6.setCell ⟨w.heap.size + 1 + 1, I, none⟩ (.int .i64 (qd : Int))) := (below_on hB5 B6 hB5.size).setCell (p := ⟨w.heap.size + 1 + 1, I, none⟩) (by show w.heap.size ≤ w.heap.size + 1 + 1; omega) _
      have hbk7 : BkN (w.heap.size + 1 + 1 + 1 + 1) a nx c ((G x).take nx) (W6.setCell ⟨w.heap.size + 1 + 1, I, none⟩ (.int .i64 (qd : Int))) := by
        refine ⟨(World.cell?_setCell_far _ _ _ _ (by show w.heap.size + 1 + 1 ≠ w.heap.size + 1 + 1 + 1 + 1; omega)).trans (HR5.out.2.2.2.2.later B6).cell, ?_⟩
        rw [← zs_take]; exact (Hz.out.1.later hB7).take hnn
      have hko7 : KeepsOthers W2 (W6.setCell ⟨w.heap.size + 1 + 1, I, none⟩ (.int .i64 (qd : Int))) := (hko.trans (keeps_below B6)).trans (KeepsOthers.setCell _ _ _)
      have hs7 : w.heap.size + 5 ≤ (W6.setCell ⟨w.heap.size + 1 + 1, I, none⟩ (.int .i64 (qd : Int))).heap.size := by simp; have := B6.size; omega
      obtain ⟨W7, hW7⟩ : ∃ W7, W6.setCell ⟨w.heap.size + 1 + 1, I, none⟩ (.int .i64 (qd : Int)) = W7 := ⟨_, rfl⟩
      rw [hW7] at hz7 hQ7 hrow7 hquo7 hB7 hbk7 hko7 hs7 ⊢
      have hqlt : qd < 10000 := by rw [← Hqd.out]; exact HG.out.2.2.1
      have hqm : y * qd ≤ m := by rw [← Hqd.out]; exact Nat.mul_div_le m y
      have hcr7 : W7.cell? ⟨w.heap.size + 1, 0, none⟩ = some (.slice (some ⟨g3, 0, none⟩) m3 c3) := by rw [cell_of_row _ _ 0 _ _ _ hrow7]; rfl
      have hcq7 : W7.cell? ⟨w.heap.size + 1 + 1 + 1, 0, none⟩ = some (.slice (some ⟨w.heap.size + 1 + 1, 0, none⟩) nx nx) := by rw [cell_of_row _ _ 0 _ _ _ hquo7]; rfl
      have hcb7 : W7.cell? ⟨w.heap.size, 0, none⟩ = some (.slice b k d) := by rw [← hW7]; exact (World.cell?_setCell_far _ _ _ _ hne3).trans hS6.2.2
      have hcg7 : W7.cell? ⟨w.heap.size + 1 + 1, I, none⟩ = some (.int .i64 (qd : Int)) := by rw [← hW7]; exact World.cell?_setCell_same' _ _ _ (by rw [hcc6]; rfl)
      have hTM := times_any b k d (G y) (some ⟨W7.drew.heap.size, 0, none⟩) 1 1 [qd] y qd _ ((Hz.out.2.1.later hB7).later (below_undrew (Below.alloc (Below.refl _ W7.drew) (Nat.le_refl _) _))) (one_isZ W7.drew qd) (G_lt y) (fun z hz => by rw [List.mem_singleton.1 hz]; exact hqlt) (V_G y) (V_one qd) (by omega) (by omega)
      have HTM := Lib.hid hTM
      have hprl : ∀ p, (G (y * qd)).length = p → p ≤ m3 := fun p hp => by
        rw [← hp]; have := hz7.len; rw [zs_length] at this; rw [← this]; exact dgs_length_mono hqm
      have HMI := Lib.hid (fun (W' : World) (a8 : Addr) (n8 c8 : Nat) (hb : Below W7.heap.size W7 W') (h8 : IsZ W' (some a8) n8 c8 (zs (G (y * qd)))) => minus_any (some ⟨g3, 0, none⟩) m3 c3 (G m) (some a8) n8 c8 (G (y * qd)) m (y * qd) W' (hz7.later hb) h8 (G_lt _) (G_lt _) (V_G _) (V_G _) hqm (hprl _ (by rw [← zs_length]; exact h8.len)) (by omega))
      have hmod : m - y * qd = x / 10000 ^ I % y := by
        rw [HG.out.2.2.2.2, ← Hqd.out]
        have := Nat.mod_add_div m y
        omega
      rw [hmod] at HMI
      have HV := Lib.hid (show V ((Q.set I qd).drop I) = x / 10000 ^ I / y by
        have hl : I < (Q.set I qd).length := by rw [List.length_set]; have := hQ7.len; rw [zs_length, List.length_set] at this; omega
        rw [List.drop_eq_getElem_cons hl, List.getElem_set_self]
        rw [List.drop_set_of_lt (by omega)]
        show qd + 10000 * V (Q.drop (I + 1)) = _
        rw [HG.out.2.1, HG.out.2.2.2.1, Hqd.out])
      have HL := Lib.hid (show ∀ z ∈ Q.set I qd, z < 10000 from fun z hz => by
        rcases List.mem_or_eq_of_mem_set hz with h | h
        · exact HG.out.1 z h
        · rw [h]; exact hqlt)
      have HE := Lib.hid (And.intro hrow7 (And.intro hquo7 (And.intro hQ7 (And.intro hbk7 (And.intro hko7 (And.intro hB7 hs7))))))
      clear hz7 hQ7 hrow7 hquo7 hbk7 hko7 hTM hprl hmod hqm HC hW7 hcc6 hcf6 hcq6 hgB hS6 B6 cq5 cr5 cb5 hS5 hB5 hs5 hko hB7
      gi_wp2
      refine Rgr.wpIn_region_held (S := fun w' => w'.cell? ⟨w.heap.size + 1 + 1 + 1, 0, none⟩ = some (.slice (some ⟨w.heap.size + 1 + 1, 0, none⟩) nx nx) ∧ w'.cell? ⟨w.heap.size, 0, none⟩ = some (.slice b k d) ∧ w'.cell? ⟨w.heap.size + 1 + 1, I, none⟩ = some (.int .i64 (qd : Int))) (by kernel_rfl) (by kernel_rfl) (by rintro ⟨a, w, h⟩; exact h) ?_
      have hS7 : W7.drew.cell? ⟨w.heap.size + 1 + 1 + 1, 0, none⟩ = some (.slice (some ⟨w.heap.size + 1 + 1, 0, none⟩) nx nx) ∧ W7.drew.cell? ⟨w.heap.size, 0, none⟩ = some (.slice b k d) ∧ W7.drew.cell? ⟨w.heap.size + 1 + 1, I, none⟩ = some (.int .i64 (qd : Int)) := ⟨hcq7, hcb7, hcg7⟩
      refine wpAnyH_take (i := 1) (v := .slice b k d) rfl (by kernel_rfl) (by kernel_rfl) (by kernel_rfl) (fun _ _ _ h => h) (Or.inl ⟨by rfl, by (intro w' hSw; obtain ⟨h1, h2, h3⟩ := hSw; go_simp)⟩) hS7 ?_
      try simp only [Act.put, List.setIfInBounds_toArray, List.set_cons_zero, List.set_cons_succ]
      refine wpAnyH_take (i := 2) (v := .slice (some ⟨w.heap.size + 1 + 1, 0, none⟩) nx nx) rfl (by kernel_rfl) (by kernel_rfl) (by kernel_rfl) (fun _ _ _ h => h) (Or.inl ⟨by rfl, by (intro w' hSw; obtain ⟨h1, h2, h3⟩ := hSw; go_simp)⟩) hS7 ?_
      try simp only [Act.put, List.setIfInBounds_toArray, List.set_cons_zero, List.set_cons_succ]
      refine wpAnyH_take (i := 3) (v := .int .i64 (I : Int)) rfl (by kernel_rfl) (by kernel_rfl) (by kernel_rfl) (fun _ _ _ h => h) (Or.inl ⟨by rfl, by (intro w' hSw; obtain ⟨h1, h2, h3⟩ := hSw; go_simp)⟩) hS7 ?_
      try simp only [Act.put, List.setIfInBounds_toArray, List.set_cons_zero, List.set_cons_succ]
      refine wpAnyH_take (i := 4) (v := .pointer (some ⟨w.heap.size + 1 + 1, I, none⟩)) rfl (by kernel_rfl) (by kernel_rfl) (by kernel_rfl) (fun _ _ _ h => h) (Or.inl ⟨by rfl, by (intro w' hSw; obtain ⟨h1, h2, h3⟩ := hSw; go_simp)⟩) hS7 ?_
      try simp only [Act.put, List.setIfInBounds_toArray, List.set_cons_zero, List.set_cons_succ]
      refine wpAnyH_take (i := 5) (v := .int .i64 (qd : Int)) rfl (by kernel_rfl) (by kernel_rfl) (by kernel_rfl) (fun _ _ _ h => h) (Or.inl ⟨by rfl, by (intro w' hSw; obtain ⟨h1, h2, h3⟩ := hSw; go_simp)⟩) hS7 ?_
      try simp only [Act.put, List.setIfInBounds_toArray, List.set_cons_zero, List.set_cons_succ]
      have B8 : Below W7.heap.size W7 (W7.drew.alloc (.cells #[.int .i64 (qd : Int)] 3)) := below_undrew (Below.alloc (Below.refl _ W7.drew) (Nat.le_refl _) _)
      have hS8 := And.intro ((B8.cell (p := ⟨w.heap.size + 1 + 1 + 1, 0, none⟩) (block_lt_of_cell hcq7)).trans hcq7) (And.intro ((B8.cell (p := ⟨w.heap.size, 0, none⟩) (block_lt_of_cell hcb7)).trans hcb7) ((B8.cell (p := ⟨w.heap.size + 1 + 1, I, none⟩) (block_lt_of_cell hcg7)).trans hcg7))
      have hcr8' : (W7.alloc (.cells #[.int .i64 (qd : Int)] 3)).cell? ⟨w.heap.size + 1, 0, none⟩ = some (.slice (some ⟨g3, 0, none⟩) m3 c3) := (B8.cell (p := ⟨w.heap.size + 1, 0, none⟩) (block_lt_of_cell hcr7)).trans hcr7
      have hcr8 := (B8.cell (p := ⟨w.heap.size + 1, 0, none⟩) (block_lt_of_cell hcr7)).trans hcr7
      refine wpAnyH_ready (rs := [0, 6]) (by kernel_rfl) (by simp) ?_
      refine AllReadyH.cons rfl (fun K hK => ?_) ?_
      · go_simp
        refine hK.out _ _ hS7 (fun _ => ?_)
        clear hK K
        try simp only [Act.put, List.setIfInBounds_toArray, List.set_cons_zero, List.set_cons_succ]
        refine wpAnyH_ready (rs := [6]) (by kernel_rfl) (by simp) ?_
        refine AllReadyH.cons rfl (fun K hK => ?_) AllReadyH.nil
        go_simp
        refine hK.out _ _ hS8 (fun _ => ?_)
        clear hK K
        try simp only [Act.put, List.setIfInBounds_toArray, List.set_cons_zero, List.set_cons_succ]
        refine wpAnyH_ready (rs := [7]) (by kernel_rfl) (by simp) ?_
        refine AllReadyH.cons rfl (fun K hK => ?_) AllReadyH.nil
        go_simp
        refine HTM.out.mono ?_
        rintro e W9 ⟨a8, n8, c8, rfl, hz9, B9⟩
        have B9 := below_on B8 B9 B8.size
        have hS9 := And.intro ((B9.cell (p := ⟨w.heap.size + 1 + 1 + 1, 0, none⟩) (block_lt_of_cell hcq7)).trans hcq7) (And.intro ((B9.cell (p := ⟨w.heap.size, 0, none⟩) (block_lt_of_cell hcb7)).trans hcb7) ((B9.cell (p := ⟨w.heap.size + 1 + 1, I, none⟩) (block_lt_of_cell hcg7)).trans hcg7))
        have hcr9 := (B9.cell (p := ⟨w.heap.size + 1, 0, none⟩) (block_lt_of_cell hcr7)).trans hcr7
        refine hK.out _ _ hS9 (fun _ => ?_)
        clear hK K
        try simp only [Act.put, List.setIfInBounds_toArray, List.set_cons_zero, List.set_cons_succ]
        refine wpAnyH_ready (rs := [8]) (by kernel_rfl) (by simp) ?_
        refine AllReadyH.cons rfl (fun K hK => ?_) AllReadyH.nil
        go_simp
        refine (HMI.out _ _ _ _ B9 hz9).mono ?_
        rintro e W10 ⟨a9, n9, c9, rfl, hz10, B10⟩
        have B10 := below_on B9 B10 B9.size
        have hrow10 := (B10.block _ (Array.getElem?_eq_some_iff.1 HE.out.1).1).trans HE.out.1
        have hcr10 := (B10.cell (p := ⟨w.heap.size + 1, 0, none⟩) (block_lt_of_cell hcr7)).trans hcr7
        have hrf10 : W10.frozen? ⟨w.heap.size + 1, 0, none⟩ = false := frozen_of_row _ _ 0 _ _ hrow10
        have hS10 := And.intro ((B10.cell (p := ⟨w.heap.size + 1 + 1 + 1, 0, none⟩) (block_lt_of_cell hcq7)).trans hcq7) (And.intro ((B10.cell (p := ⟨w.heap.size, 0, none⟩) (block_lt_of_cell hcb7)).trans hcb7) ((B10.cell (p := ⟨w.heap.size + 1 + 1, I, none⟩) (block_lt_of_cell hcg7)).trans hcg7))
        refine hK.out _ _ hS10 (fun _ => ?_)
        clear hK K
        try simp only [Act.put, List.setIfInBounds_toArray, List.set_cons_zero, List.set_cons_succ]
        refine wpAnyH_ready (rs := [9]) (by kernel_rfl) (by simp) ?_
        refine AllReadyH.cons rfl (fun K hK => ?_) AllReadyH.nil
        go_simp
        refine hK.out _ _ ⟨(World.cell?_setCell_far _ _ _ _ (by show w.heap.size + 1 ≠ w.heap.size + 1 + 1 + 1; omega)).trans hS10.1, (World.cell?_setCell_far _ _ _ _ (by show w.heap.size + 1 ≠ w.heap.size; omega)).trans hS10.2.1, (World.cell?_setCell_far _ _ _ _ (by show w.heap.size + 1 ≠ w.heap.size + 1 + 1; omega)).trans hS10.2.2⟩ (fun _ => ?_)
        clear hK K
        refine wpAnyH_done (by kernel_rfl) ?_ _
        refine ⟨(HE.out.2.2.2.2.1.trans (keeps_below B10)).trans (KeepsOthers.setCell _ _ _), ?_⟩
        dsimp only
        rw [HI.out]
        have hB11 := (below_on HE.out.2.2.2.2.2.1 B10 HE.out.2.2.2.2.2.1.size).setCell (p := ⟨w.heap.size + 1, 0, none⟩) (by show w.heap.size ≤ w.heap.size + 1; omega) (.slice (some a9) n9 c9)
        refine ⟨hB11, by simp; have := B10.size; have := HE.out.2.2.2.2.2.2; omega, (World.cell?_setCell_far _ _ _ _ (by show w.heap.size + 1 ≠ w.heap.size; omega)).trans hS10.2.1, ⟨a9, n9, c9, heap_setCell_same W10 (w.heap.size + 1) 0 _ _ _ hrow10, hz10.setOther hcr10 _⟩, ?_, ⟨Q.set I qd, ?_, HL.out, HV.out⟩, ⟨?_, ?_⟩⟩
        · exact (heap_setCell_other W10 ⟨w.heap.size + 1, 0, none⟩ _ _ (by show w.heap.size + 1 + 1 + 1 ≠ w.heap.size + 1; omega)).trans ((B10.block _ (Array.getElem?_eq_some_iff.1 HE.out.2.1).1).trans HE.out.2.1)
        · have h := HE.out.2.2.1.later B10
          exact ⟨h.len, h.cap, h.max, h.row.imp id (fun ⟨g, cur, e, hg, hr, ht⟩ => ⟨g, cur, e, hg, by cases e; exact (heap_setCell_other W10 ⟨w.heap.size + 1, 0, none⟩ _ _ (by show w.heap.size + 1 + 1 ≠ w.heap.size + 1; omega)).trans hr, ht⟩)⟩
        · exact (World.cell?_setCell_far _ _ _ _ (by show w.heap.size + 1 ≠ w.heap.size + 1 + 1 + 1 + 1; omega)).trans (HE.out.2.2.2.1.later B10).cell
        · rw [← zs_take]; exact (Hz.out.1.later hB11).take hnn
      · refine AllReadyH.cons rfl (fun K hK => ?_) AllReadyH.nil
        go_simp
        refine hK.out _ _ hS8 (fun _ => ?_)
        clear hK K
        try simp only [Act.put, List.setIfInBounds_toArray, List.set_cons_zero, List.set_cons_succ]
        refine wpAnyH_ready (rs := [0, 7]) (by kernel_rfl) (by simp) ?_
        refine AllReadyH.cons rfl (fun K hK => ?_) ?_
        · go_simp
          refine hK.out _ _ hS8 (fun _ => ?_)
          clear hK K
          try simp only [Act.put, List.setIfInBounds_toArray, List.set_cons_zero, List.set_cons_succ]
          refine wpAnyH_ready (rs := [7]) (by kernel_rfl) (by simp) ?_
          refine AllReadyH.cons rfl (fun K hK => ?_) AllReadyH.nil
          go_simp
          refine HTM.out.mono ?_
          rintro e W9 ⟨a8, n8, c8, rfl, hz9, B9⟩
          have B9 := below_on B8 B9 B8.size
          have hS9 := And.intro ((B9.cell (p := ⟨w.heap.size + 1 + 1 + 1, 0, none⟩) (block_lt_of_cell hcq7)).trans hcq7) (And.intro ((B9.cell (p := ⟨w.heap.size, 0, none⟩) (block_lt_of_cell hcb7)).trans hcb7) ((B9.cell (p := ⟨w.heap.size + 1 + 1, I, none⟩) (block_lt_of_cell hcg7)).trans hcg7))
          have hcr9 := (B9.cell (p := ⟨w.heap.size + 1, 0, none⟩) (block_lt_of_cell hcr7)).trans hcr7
          refine hK.out _ _ hS9 (fun _ => ?_)
          clear hK K
          try simp only [Act.put, List.setIfInBounds_toArray, List.set_cons_zero, List.set_cons_succ]
          refine wpAnyH_ready (rs := [8]) (by kernel_rfl) (by simp) ?_
          refine AllReadyH.cons rfl (fun K hK => ?_) AllReadyH.nil
          go_simp
          refine (HMI.out _ _ _ _ B9 hz9).mono ?_
          rintro e W10 ⟨a9, n9, c9, rfl, hz10, B10⟩
          have B10 := below_on B9 B10 B9.size
          have hrow10 := (B10.block _ (Array.getElem?_eq_some_iff.1 HE.out.1).1).trans HE.out.1
          have hcr10 := (B10.cell (p := ⟨w.heap.size + 1, 0, none⟩) (block_lt_of_cell hcr7)).trans hcr7
          have hrf10 : W10.frozen? ⟨w.heap.size + 1, 0, none⟩ = false := frozen_of_row _ _ 0 _ _ hrow10
          have hS10 := And.intro ((B10.cell (p := ⟨w.heap.size + 1 + 1 + 1, 0, none⟩) (block_lt_of_cell hcq7)).trans hcq7) (And.intro ((B10.cell (p := ⟨w.heap.size, 0, none⟩) (block_lt_of_cell hcb7)).trans hcb7) ((B10.cell (p := ⟨w.heap.size + 1 + 1, I, none⟩) (block_lt_of_cell hcg7)).trans hcg7))
          refine hK.out _ _ hS10 (fun _ => ?_)
          clear hK K
          try simp only [Act.put, List.setIfInBounds_toArray, List.set_cons_zero, List.set_cons_succ]
          refine wpAnyH_ready (rs := [9]) (by kernel_rfl) (by simp) ?_
          refine AllReadyH.cons rfl (fun K hK => ?_) AllReadyH.nil
          go_simp
          refine hK.out _ _ ⟨(World.cell?_setCell_far _ _ _ _ (by show w.heap.size + 1 ≠ w.heap.size + 1 + 1 + 1; omega)).trans hS10.1, (World.cell?_setCell_far _ _ _ _ (by show w.heap.size + 1 ≠ w.heap.size; omega)).trans hS10.2.1, (World.cell?_setCell_far _ _ _ _ (by show w.heap.size + 1 ≠ w.heap.size + 1 + 1; omega)).trans hS10.2.2⟩ (fun _ => ?_)
          clear hK K
          refine wpAnyH_done (by kernel_rfl) ?_ _
          refine ⟨(HE.out.2.2.2.2.1.trans (keeps_below B10)).trans (KeepsOthers.setCell _ _ _), ?_⟩
          dsimp only
          rw [HI.out]
          have hB11 := (below_on HE.out.2.2.2.2.2.1 B10 HE.out.2.2.2.2.2.1.size).setCell (p := ⟨w.heap.size + 1, 0, none⟩) (by show w.heap.size ≤ w.heap.size + 1; omega) (.slice (some a9) n9 c9)
          refine ⟨hB11, by simp; have := B10.size; have := HE.out.2.2.2.2.2.2; omega, (World.cell?_setCell_far _ _ _ _ (by show w.heap.size + 1 ≠ w.heap.size; omega)).trans hS10.2.1, ⟨a9, n9, c9, heap_setCell_same W10 (w.heap.size + 1) 0 _ _ _ hrow10, hz10.setOther hcr10 _⟩, ?_, ⟨Q.set I qd, ?_, HL.out, HV.out⟩, ⟨?_, ?_⟩⟩
          · exact (heap_setCell_other W10 ⟨w.heap.size + 1, 0, none⟩ _ _ (by show w.heap.size + 1 + 1 + 1 ≠ w.heap.size + 1; omega)).trans ((B10.block _ (Array.getElem?_eq_some_iff.1 HE.out.2.1).1).trans HE.out.2.1)
          · have h := HE.out.2.2.1.later B10
            exact ⟨h.len, h.cap, h.max, h.row.imp id (fun ⟨g, cur, e, hg, hr, ht⟩ => ⟨g, cur, e, hg, by cases e; exact (heap_setCell_other W10 ⟨w.heap.size + 1, 0, none⟩ _ _ (by show w.heap.size + 1 + 1 ≠ w.heap.size + 1; omega)).trans hr, ht⟩)⟩
          · exact (World.cell?_setCell_far _ _ _ _ (by show w.heap.size + 1 ≠ w.heap.size + 1 + 1 + 1 + 1; omega)).trans (HE.out.2.2.2.1.later B10).cell
          · rw [← zs_take]; exact (Hz.out.1.later hB11).take hnn
        · refine AllReadyH.cons rfl (fun K hK => ?_) AllReadyH.nil
          go_simp
          refine HTM.out.mono ?_
          rintro e W9 ⟨a8, n8, c8, rfl, hz9, B9⟩
          have B9 := below_on B8 B9 B8.size
          have hS9 := And.intro ((B9.cell (p := ⟨w.heap.size + 1 + 1 + 1, 0, none⟩) (block_lt_of_cell hcq7)).trans hcq7) (And.intro ((B9.cell (p := ⟨w.heap.size, 0, none⟩) (block_lt_of_cell hcb7)).trans hcb7) ((B9.cell (p := ⟨w.heap.size + 1 + 1, I, none⟩) (block_lt_of_cell hcg7)).trans hcg7))
          have hcr9 := (B9.cell (p := ⟨w.heap.size + 1, 0, none⟩) (block_lt_of_cell hcr7)).trans hcr7
          refine hK.out _ _ hS9 (fun _ => ?_)
          clear hK K
          try simp only [Act.put, List.setIfInBounds_toArray, List.set_cons_zero, List.set_cons_succ]
          refine wpAnyH_ready (rs := [0]) (by kernel_rfl) (by simp) ?_
          refine AllReadyH.cons rfl (fun K hK => ?_) AllReadyH.nil
          go_simp
          refine hK.out _ _ hS9 (fun _ => ?_)
          clear hK K
          try simp only [Act.put, List.setIfInBounds_toArray, List.set_cons_zero, List.set_cons_succ]
          refine wpAnyH_ready (rs := [8]) (by kernel_rfl) (by simp) ?_
          refine AllReadyH.cons rfl (fun K hK => ?_) AllReadyH.nil
          go_simp
          refine (HMI.out _ _ _ _ B9 hz9).mono ?_
          rintro e W10 ⟨a9, n9, c9, rfl, hz10, B10⟩
          have B10 := below_on B9 B10 B9.size
          have hrow10 := (B10.block _ (Array.getElem?_eq_some_iff.1 HE.out.1).1).trans HE.out.1
          have hcr10 := (B10.cell (p := ⟨w.heap.size + 1, 0, none⟩) (block_lt_of_cell hcr7)).trans hcr7
          have hrf10 : W10.frozen? ⟨w.heap.size + 1, 0, none⟩ = false := frozen_of_row _ _ 0 _ _ hrow10
          have hS10 := And.intro ((B10.cell (p := ⟨w.heap.size + 1 + 1 + 1, 0, none⟩) (block_lt_of_cell hcq7)).trans hcq7) (And.intro ((B10.cell (p := ⟨w.heap.size, 0, none⟩) (block_lt_of_cell hcb7)).trans hcb7) ((B10.cell (p := ⟨w.heap.size + 1 + 1, I, none⟩) (block_lt_of_cell hcg7)).trans hcg7))
          refine hK.out _ _ hS10 (fun _ => ?_)
          clear hK K
          try simp only [Act.put, List.setIfInBounds_toArray, List.set_cons_zero, List.set_cons_succ]
          refine wpAnyH_ready (rs := [9]) (by kernel_rfl) (by simp) ?_
          refine AllReadyH.cons rfl (fun K hK => ?_) AllReadyH.nil
          go_simp
          refine hK.out _ _ ⟨(World.cell?_setCell_far _ _ _ _ (by show w.heap.size + 1 ≠ w.heap.size + 1 + 1 + 1; omega)).trans hS10.1, (World.cell?_setCell_far _ _ _ _ (by show w.heap.size + 1 ≠ w.heap.size; omega)).trans hS10.2.1, (World.cell?_setCell_far _ _ _ _ (by show w.heap.size + 1 ≠ w.heap.size + 1 + 1; omega)).trans hS10.2.2⟩ (fun _ => ?_)
          clear hK K
          refine wpAnyH_done (by kernel_rfl) ?_ _
          refine ⟨(HE.out.2.2.2.2.1.trans (keeps_below B10)).trans (KeepsOthers.setCell _ _ _), ?_⟩
          dsimp only
          rw [HI.out]
          have hB11 := (below_on HE.out.2.2.2.2.2.1 B10 HE.out.2.2.2.2.2.1.size).setCell (p := ⟨w.heap.size + 1, 0, none⟩) (by show w.heap.size ≤ w.heap.size + 1; omega) (.slice (some a9) n9 c9)
          refine ⟨hB11, by simp; have := B10.size; have := HE.out.2.2.2.2.2.2; omega, (World.cell?_setCell_far _ _ _ _ (by show w.heap.size + 1 ≠ w.heap.size; omega)).trans hS10.2.1, ⟨a9, n9, c9, heap_setCell_same W10 (w.heap.size + 1) 0 _ _ _ hrow10, hz10.setOther hcr10 _⟩, ?_, ⟨Q.set I qd, ?_, HL.out, HV.out⟩, ⟨?_, ?_⟩⟩
          · exact (heap_setCell_other W10 ⟨w.heap.size + 1, 0, none⟩ _ _ (by show w.heap.size + 1 + 1 + 1 ≠ w.heap.size + 1; omega)).trans ((B10.block _ (Array.getElem?_eq_some_iff.1 HE.out.2.1).1).trans HE.out.2.1)
          · have h := HE.out.2.2.1.later B10
            exact ⟨h.len, h.cap, h.max, h.row.imp id (fun ⟨g, cur, e, hg, hr, ht⟩ => ⟨g, cur, e, hg, by cases e; exact (heap_setCell_other W10 ⟨w.heap.size + 1, 0, none⟩ _ _ (by show w.heap.size + 1 + 1 ≠ w.heap.size + 1; omega)).trans hr, ht⟩)⟩
          · exact (World.cell?_setCell_far _ _ _ _ (by show w.heap.size + 1 ≠ w.heap.size + 1 + 1 + 1 + 1; omega)).trans (HE.out.2.2.2.1.later B10).cell
          · rw [← zs_take]; exact (Hz.out.1.later hB11).take hnn

end Go.Proofs.YtjkklgpbblkhaaaGreatDoor
