/-
  Layer 6: the weights of a list of points; the points of chunks.
-/
import Derived.Test.YtajfmhiejipaoaaDoorErd
namespace Go.Proofs.YtajfmhiejipaoaaDoor
open Go.RowKit Bs Ef

theorem wp_here {P : Program} {c : Code} {Q : Exit → Act → World → Prop} {a : Act} {W : World} (h : ∀ W', W' = W → Code.wp P c Q a W') : Code.wp P c Q a W := h W rfl

set_option maxRecDepth 100000 in
set_option maxHeartbeats 2000000 in
theorem weights_any (x : G) (pts : List G) (g gp off n c : Nat) (w : World) (hF : FldAt w g) (hn : pts.length = n) (hn0 : 0 < n) (hn2 : n ≤ 100) (hP : Nums w gp off n .u8 (gl pts)) (hc : n ≤ c) :
    Calls Tryd.prog 65 #[.agg #[fprod g, fquot g], .slice (some ⟨gp, off, none⟩) n c, .int .u8 (x.val : Nat)] w fun e w' =>
      ∃ gv, w.heap.size ≤ gv ∧ e = .returned (.slice (some ⟨gv, 0, none⟩) n n) ∧ Arr w' gv 5 .u8 (gl (pts.map (fun p => lw p x o1 pts))) ∧ Below w.heap.size w w' := by
  have hB : Below w.heap.size w (((w.alloc (.cells #[fprod g, fquot g] 62)).alloc (.cells #[.slice (some ⟨gp, off, none⟩) n c] 48)).alloc (.cells #[.int .u8 (x.val : Nat)] 5)) :=
    (((Below.refl _ w).alloc (Nat.le_refl _) _).alloc (by simp) _).alloc (by simp; omega) _
  have hb1 : (((w.alloc (.cells #[fprod g, fquot g] 62)).alloc (.cells #[.slice (some ⟨gp, off, none⟩) n c] 48)).alloc (.cells #[.int .u8 (x.val : Nat)] 5)).heap[w.heap.size]? = some (.cells #[fprod g, fquot g] 62 (0, 0)) :=
    (heap_alloc_old _ _ _ (by simp; omega)).trans ((heap_alloc_old _ _ _ (by simp)).trans (heap_alloc_new _ _))
  have hb2 : (((w.alloc (.cells #[fprod g, fquot g] 62)).alloc (.cells #[.slice (some ⟨gp, off, none⟩) n c] 48)).alloc (.cells #[.int .u8 (x.val : Nat)] 5)).heap[w.heap.size + 1]? = some (.cells #[.slice (some ⟨gp, off, none⟩) n c] 48 (0, 0)) :=
    (heap_alloc_old _ _ _ (by simp)).trans (by have := heap_alloc_new (w.alloc (.cells #[fprod g, fquot g] 62)) (.cells #[.slice (some ⟨gp, off, none⟩) n c] 48); rw [World.size_alloc] at this; exact this)
  have hb3 : (((w.alloc (.cells #[fprod g, fquot g] 62)).alloc (.cells #[.slice (some ⟨gp, off, none⟩) n c] 48)).alloc (.cells #[.int .u8 (x.val : Nat)] 5)).heap[w.heap.size + 1 + 1]? = some (.cells #[.int .u8 (x.val : Nat)] 5 (0, 0)) := by
    have := heap_alloc_new ((w.alloc (.cells #[fprod g, fquot g] 62)).alloc (.cells #[.slice (some ⟨gp, off, none⟩) n c] 48)) (.cells #[.int .u8 (x.val : Nat)] 5)
    rw [World.size_alloc, World.size_alloc] at this; exact this
  go_enter Tryd.func65, Tryd.ntmps65
  go_upto_region 1 with fail
  refine wp_here fun W hW => ?_
  replace hB : Below w.heap.size w W := by rw [hW]; exact hB
  replace hb1 : W.heap[w.heap.size]? = some (.cells #[fprod g, fquot g] 62 (0, 0)) := by rw [hW]; exact hb1
  replace hb2 : W.heap[w.heap.size + 1]? = some (.cells #[.slice (some ⟨gp, off, none⟩) n c] 48 (0, 0)) := by rw [hW]; exact hb2
  replace hb3 : W.heap[w.heap.size + 1 + 1]? = some (.cells #[.int .u8 (x.val : Nat)] 5 (0, 0)) := by rw [hW]; exact hb3
  have c1 : W.cell? ⟨w.heap.size + 1, 0, none⟩ = some (.slice (some ⟨gp, off, none⟩) n c) := by rw [cell_of_row _ _ 0 _ _ _ hb2]; rfl
  have HM := Lib.hid (mapW_any x pts g gp off n c (w.heap.size + 1) w.heap.size (w.heap.size + 1 + 1) _ (hF.later hB) hn hn2 (hP.later hB) hc
    c1 (by rw [cell_of_row _ _ 0 _ _ _ hb1]; rfl) (by rw [cell_of_row _ _ 1 _ _ _ hb1]; rfl) (by rw [cell_of_row _ _ 0 _ _ _ hb3]; rfl))
  have HB := Lib.hid hB
  clear hb1 hb2 hb3 hF hB hW
  go_wp2_with (go_at_call 80; refine HM.out.mono ?_; rintro e w2 ⟨gv, hgv, rfl, hA, hw⟩)
  go_ret
  have hs := HB.out.size
  exact ⟨gv, by omega, rfl, hA, below_on HB.out hw hs⟩

/-- a slice of chunks: what stands in its cells -/
structure CkAt (W : World) (g off : Nat) (l : List (Int × ByteArray)) : Prop where
  cell : ∀ i (h : i < l.length), W.cell? ⟨g, off + i * 2, none⟩ = some (.int .i64 (l[i]).1) ∧ W.cell? ⟨g, off + i * 2 + 1, none⟩ = some (.string (l[i]).2)
  lt : g < W.heap.size
theorem CkAt.below {W W' : World} {g off B : Nat} {l : List (Int × ByteArray)} (h : CkAt W g off l) (hb : Below B W W') (hg : g < B) : CkAt W' g off l :=
  ⟨fun i hi => ⟨(hb.cell (p := ⟨g, off + i * 2, none⟩) hg).trans (h.cell i hi).1, (hb.cell (p := ⟨g, off + i * 2 + 1, none⟩) hg).trans (h.cell i hi).2⟩, by
    have h2 := h.lt; have h3 := hb.size; omega⟩
theorem CkAt.later {W W' : World} {g off : Nat} {l : List (Int × ByteArray)} (h : CkAt W g off l) (hb : Below W.heap.size W W') : CkAt W' g off l := h.below hb h.lt

set_option maxRecDepth 100000 in
set_option maxHeartbeats 1000000 in
theorem index1_any (a : Int) (s : ByteArray) (w : World) :
    Calls Tryd.prog 64 #[.agg #[.int .i64 a, .string s]] w fun e w' => e = .returned (.int .u8 (el a : Nat)) ∧ Below w.heap.size w w' := by
  have h1 := el_wrap a
  go_enter Tryd.func64, Tryd.ntmps64
  go_wp2_with fail
  go_ret
  exact ⟨rfl, (Below.refl _ _).alloc (Nat.le_refl _) _⟩

set_option maxRecDepth 100000 in
set_option maxHeartbeats 2000000 in
theorem mapI_any (K : List (Int × ByteArray)) (gk off n c : Nat) (w : World) (hn : K.length = n) (hn2 : n ≤ 100) (hK : CkAt w gk off K) (hc : n ≤ c) :
    Calls Tryd.prog 63 #[.slice (some ⟨gk, off, none⟩) n c, .func (.func 64) #[] #[]] w fun e w' =>
      ∃ gv, w.heap.size ≤ gv ∧ e = .returned (.slice (some ⟨gv, 0, none⟩) n n) ∧ Arr w' gv 5 .u8 (K.map (fun k => el k.1)) ∧ Below w.heap.size w w' := by
  have hmk := mkB w n (by omega)
  obtain ⟨L, hL⟩ : ∃ L, K.map (fun k => el k.1) = L := ⟨_, rfl⟩
  have hLn : L.length = n := by rw [← hL]; simp [hn]
  have hLat : ∀ j (h : j < n), L.getD j 0 = el (K[j]'(by omega)).1 := fun j h => by
    subst hL
    rw [List.getD_eq_getElem?_getD, List.getElem?_map, List.getElem?_eq_getElem (by omega)]; rfl
  rw [hL]
  have HL := Lib.hid hLat
  have hA0 := Arr.new w 5 .u8 (List.replicate n 0)
  have hB0 : Below w.heap.size w (w.alloc (.cells (iv .u8 (List.replicate n 0)).toArray 5)) := (Below.refl _ w).alloc (Nat.le_refl _) _
  obtain ⟨W0, hW0⟩ : ∃ W, w.alloc (.cells (iv .u8 (List.replicate n 0)).toArray 5) = W := ⟨_, rfl⟩
  rw [hW0] at hmk hA0 hB0
  clear hLat hL hW0
  go_enter Tryd.func63, Tryd.ntmps63
  go_wp2_with fail
  go_loopw [13] (fun i wr => ∃ j : Nat, j ≤ n ∧ i = .int .i64 j ∧ Arr wr w.heap.size 5 .u8 (upto L j) ∧ Below w.heap.size w wr) (fun i _ => n - (intOf i).toNat)
  case atStart => exact ⟨0, Nat.zero_le _, rfl, by rw [upto_zero, hLn]; exact hA0, hB0⟩
  case round =>
    obtain ⟨j, hj, rfl, hA, hw⟩ := hrel
    rcases Nat.lt_or_ge j n with h | h
    · obtain ⟨q1, q2⟩ := (hK.below hw hK.lt).cell j (by omega)
      have hv := HL.out j h
      obtain ⟨ix, da, hq⟩ : ∃ a b, K[j]'(by omega) = (a, b) := ⟨_, _, rfl⟩
      rw [hq] at q1 q2 hv
      clear hq
      have HA := Lib.hid hA
      have HV := Lib.hid hv
      have HW := Lib.hid hw
      clear hA hv hw
      go_wp2_with (go_at_call 64; (with_reducible refine (index1_any _ _ _).mono ?_); rintro e w2 ⟨rfl, hB2⟩; have hwa := HW.out.size; have hA2 := (HA.out.alloc (.cells #[.int .i64 ix, .string da] 40)).later hB2; have hw2 := below_on (HW.out.alloc hwa (.cells #[.int .i64 ix, .string da] 40)) hB2 (by rw [World.size_alloc]; omega); have a1 := hA2.free j; obtain ⟨u, a2⟩ : ∃ u : Int, w2.cell? ⟨w.heap.size, j, none⟩ = some (.int .u8 u) := ⟨_, hA2.get j (by rw [upto_len]; omega)⟩)
      go_roundw
      case rel => exact ⟨j + 1, h, by go_num, by rw [← upto_set]; exact hA2.set j _ _ (by rw [HV.out]), hw2.setCell (p := ⟨w.heap.size, j, none⟩) (Nat.le_refl _) _⟩
      case measure => simp [intOf]; omega
    · obtain rfl : j = n := by omega
      rw [upto_all _ (by omega)] at hA
      go_wp2_with fail
      go_ret
      exact ⟨_, Nat.le_refl _, rfl, hA, hw⟩

end Go.Proofs.YtajfmhiejipaoaaDoor
