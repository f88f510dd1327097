/-
  Layer 3: columns that are written; a slice's copy.
-/
import Derived.Test.YtieaelipgieaoaaDoorIgk
import Derived.Laws.CopyRow
import Derived.Lib.SliceRun
namespace Go.Proofs.YtieaelipgieaoaaDoor
open Go.RowKit Bs Ig

/-- the slice (a, n, c) holds the integers Z, at or behind the block B, and they may be written -/
structure Cols (W : World) (B : Nat) (a : Option Addr) (n c : Nat) (Z : List Int) : Prop where
  len : Z.length = n
  cap : n ≤ c
  max : c ≤ maxLen
  row : n = 0 ∨ ∃ g cur, a = some ⟨g, 0, none⟩ ∧ B ≤ g ∧ W.heap[g]? = some (.cells cur 3 (0, 0)) ∧ cur.toList.take n = Z.map (Value.int .i64)
theorem Cols.at {W : World} {B n c : Nat} {a : Option Addr} {Z : List Int} (h : Cols W B a n c Z) (hn : 0 < n) :
    ∃ g, a = some ⟨g, 0, none⟩ ∧ B ≤ g ∧ ∀ i, i < n → W.cell? ⟨g, i, none⟩ = some (.int .i64 (Z.getD i 0)) ∧ W.frozen? ⟨g, i, none⟩ = false := by
  obtain ⟨g, cur, ha, hB, hrow, ht⟩ := h.row.resolve_left (by omega)
  refine ⟨g, ha, hB, fun i hi => ⟨?_, frozen_of_row _ _ i _ _ hrow⟩⟩
  have hl := h.len
  rw [cell_of_row W g i _ _ _ hrow, ← Array.getElem?_toList]
  have e1 : cur.toList[i]? = (cur.toList.take n)[i]? := by rw [List.getElem?_take, if_pos hi]
  rw [e1, ht, List.getElem?_map, List.getElem?_eq_getElem (by omega), List.getD_eq_getElem?_getD, List.getElem?_eq_getElem (by omega)]; rfl
theorem Cols.isZ {W : World} {B n c : Nat} {a : Option Addr} {Z : List Int} (h : Cols W B a n c Z) : IsZ W a n c Z := by
  refine ⟨h.len, h.cap, h.max, ?_⟩
  rcases Nat.eq_zero_or_pos n with h0 | h0
  · exact .inl h0
  · obtain ⟨g, ha, _, hc⟩ := h.at h0
    exact .inr ⟨g, 0, ha, fun i hi => by rw [Nat.zero_add]; exact (hc i (by rw [← h.len]; exact hi)).1⟩
theorem Cols.later {W W' : World} {B n c : Nat} {a : Option Addr} {Z : List Int} (h : Cols W B a n c Z) (hb : Below W.heap.size W W') : Cols W' B a n c Z :=
  ⟨h.len, h.cap, h.max, h.row.imp id (fun ⟨g, cur, ha, hB, hrow, ht⟩ => ⟨g, cur, ha, hB, (hb.block g ((Array.getElem?_eq_some_iff.1 hrow).1)).trans hrow, ht⟩)⟩
theorem Cols.set {W : World} {B g n c : Nat} {Z : List Int} (h : Cols W B (some ⟨g, 0, none⟩) n c Z) (i : Nat) (hi : i < n) (y : Int) : Cols (W.setCell ⟨g, i, none⟩ (.int .i64 y)) B (some ⟨g, 0, none⟩) n c (Z.set i y) := by
  refine ⟨by rw [List.length_set]; exact h.len, h.cap, h.max, .inr ?_⟩
  obtain ⟨g', cur, ha, hB, hrow, ht⟩ := h.row.resolve_left (by omega)
  cases ha
  refine ⟨g, _, rfl, hB, heap_setCell_same W g i _ _ _ hrow, ?_⟩
  rw [Array.toList_setIfInBounds, List.take_set, ht, List.map_set]
theorem Bs.Own.cols {W : World} {base n c : Nat} {a : Option Addr} {l : List Nat} (h : Own W base 3 .i64 (.slice a n c) l) : Cols W base a n c (zs l) := by
  have hz := h.isZ
  refine ⟨hz.len, hz.cap, hz.max, ?_⟩
  rcases h.row.2 with ⟨e, h0⟩ | ⟨g, cap, cur, e, hB, hrow, _, _, _, ht⟩
  · left; have := h.len; have : n = l.length := this; omega
  · cases e
    refine .inr ⟨g, cur, rfl, hB, hrow, ?_⟩
    rw [Nat.mul_one] at ht
    rw [ht]; simp [iv, zs]
/-- a slice of zeros that is made -/
theorem mkCols (w : World) (t : TypeId) (ht : Tryd.prog.underlying t = some (.slice 3)) (m : Nat) (hm : m ≤ 2000000) :
    ∃ w', (Instr.makeSlice t (.int .i64 (m : Int)) (.int .i64 (m : Int))).run Tryd.prog w = .ok (.slice (some ⟨w.heap.size, 0, none⟩) m m) w' ∧ Cols w' w.heap.size (some ⟨w.heap.size, 0, none⟩) m m (List.replicate m 0) ∧ Below w.heap.size w w' ∧ w'.heap.size = w.heap.size + 1 := by
  obtain ⟨i0, hi, hz0, hz1, hz2⟩ := info_parts infoInt
  have hmx : m ≤ maxLen := by unfold maxLen; omega
  refine ⟨_, run_make w t 3 i0 (.int .i64 0) ht hi hz0 .i64 .i64 m m (by omega) (by omega) (by rw [hz2]; omega) (by omega), ?_, (Below.refl _ w).alloc (Nat.le_refl _) _, by simp⟩
  simp only [Int.toNat_natCast]
  refine ⟨by simp, Nat.le_refl _, hmx, .inr ⟨w.heap.size, _, rfl, Nat.le_refl _, heap_alloc_new _ _, ?_⟩⟩
  rw [hz1, Nat.mul_one]
  apply List.ext_getElem?
  intro i
  simp only [madeCells, List.map_replicate, List.getElem?_take, List.getElem?_replicate]
  split
  · simp [Value.cells, Nat.mod_one, *]
  · rfl

set_option maxRecDepth 100000 in
set_option maxHeartbeats 1000000 in
theorem clone_any (a : Option Addr) (n c : Nat) (l : List Nat) (w : World) (hl : IsZ w a n c (zs l)) (hn : n ≤ 1000000) :
    Calls Tryd.prog 64 #[.slice a n c] w fun e w' => ∃ a' n' c', e = .returned (.slice a' n' c') ∧ Own w' w.heap.size 3 .i64 (.slice a' n' c') l ∧ Below w.heap.size w w' := by
  have hll : l.length = n := by rw [← zs_length]; exact hl.len
  obtain ⟨i0, hi, hz0, hz1, hz2⟩ := info_parts infoInt
  have hcap := hl.cap
  have q49 : ∀ (w : World) (a : Option Addr) (n c n' c' : Nat), (binOp .eql 49 (.slice a n c) (.slice none n' c')).run Tryd.prog w = .ok (.bool a.isNone) w := fun w a n c n' c' => Lib.run_eql_slice_nil w _ _ a n c n' c' Tryd.underlying49
  cases a with
  | none =>
    have h0 : n = 0 := by
      rcases Nat.eq_zero_or_pos n with h | h
      · exact h
      · obtain ⟨g, off, e, _⟩ := hl.at h; cases e
    obtain rfl : l = [] := List.length_eq_zero_iff.1 (by omega)
    clear hl
    go_enter Tryd.func64, Tryd.ntmps64
    go_wp2_with fail
    go_ret
    exact ⟨_, _, _, rfl, Own.nil _ _ _ _, Below.refl _ _⟩
  | some ad =>
    have hcell : ∀ (W : World), Below w.heap.size w W → ∀ j u, (iv .i64 l)[j]? = some u → W.cell? (ad.add j) = some u := by
      intro W hW j u hj
      have hjn : j < n := by
        rcases Nat.lt_or_ge j n with h1 | h1
        · exact h1
        · rw [List.getElem?_eq_none (by rw [iv_length]; omega)] at hj; cases hj
      obtain ⟨g, off, e, hI⟩ := hl.at (by omega)
      cases e
      have hadd : (⟨g, off, none⟩ : Addr).add j = ⟨g, off + j, none⟩ := by unfold Addr.add; split <;> simp_all
      have hc := hI j (by rw [zs_length]; omega)
      rw [hadd, (hW.cell (p := ⟨g, off + j, none⟩) (block_lt_of_cell hc)).trans hc, zs_getD]
      simp only [iv, List.getElem?_map, List.getElem?_eq_getElem (show j < l.length by omega), Option.map_some, Option.some.injEq] at hj
      rw [← hj, List.getD_eq_getElem?_getD, List.getElem?_eq_getElem (show j < l.length by omega)]; rfl
    have Hcell := Lib.hid hcell
    have Hll := Lib.hid hll
    clear hcell hl hll
    go_enter Tryd.func64, Tryd.ntmps64
    go_wp2_with (at_builtin; refine wpList_append_own _ rfl _ _ 49 rfl w.heap.size 3 i0 (.int .i64 0) 1 8 Tryd.underlying49 hi hz0 hz1 hz2 rfl (by omega) (.slice (some ⟨w.heap.size, 0, none⟩) 0 0) 0 [] rfl ⟨rfl, .inr ⟨w.heap.size, 0, _, rfl, Nat.le_refl _, heap_alloc_new _ _, Nat.le_refl _, Nat.zero_le _, rfl, rfl⟩⟩ ad n c (iv .i64 l) rfl ?q1 ?q2 ?q3 ?q4 ?q5 ?q6 ?_)
    case q1 => rw [iv_length, Hll.out, Nat.mul_one]
    case q2 => exact Hcell.out _ ((Below.refl _ w).alloc (Nat.le_refl _) _)
    case q3 => intro u hu; simp only [iv, List.mem_map] at hu; obtain ⟨b, _, rfl⟩ := hu; rfl
    case q4 => unfold maxLen; omega
    case q5 => omega
    case q6 => simp
    intro v' w1 hown hg _
    have hown2 : Own w1 w.heap.size 3 .i64 v' l := ⟨by rw [Hll.out]; simpa using hown⟩
    have hb : Below w.heap.size w w1 := ((Below.refl _ w).alloc (Nat.le_refl _) _).grown hg (by simp) (by intro k hk; simp [Value.ownBlock] at hk; omega)
    obtain ⟨a3, n3, c3, rfl⟩ : ∃ a n c, v' = .slice a n c := hown2.row.2.elim (fun h => ⟨_, _, _, h.1⟩) (fun ⟨g, cap, cur, hv, _⟩ => ⟨_, _, _, hv⟩)
    clear hown hg Hcell Hll
    go_wp2_with fail
    go_ret
    exact ⟨_, _, _, rfl, hown2, hb⟩

end Go.Proofs.YtieaelipgieaoaaDoor
