/-
  Arrays of numbers in memory: a block that is known whole. Nothing of this program's own functions stands here.
-/
import Derived.Test.YtnploljhikljfaaBase
namespace Go.Proofs.Ytnploljhikljfaa.Bs
open Go.RowKit

/-- the block g is an array of type t that holds the numbers l -/
structure Arr (W : World) (g : Nat) (t : TypeId) (k : IntKind) (l : List Nat) : Prop where
  row : W.heap[g]? = some (.cells (iv k l).toArray t (0, 0))
theorem Arr.lt {W : World} {g : Nat} {t : TypeId} {k : IntKind} {l : List Nat} (h : Arr W g t k l) : g < W.heap.size := (Array.getElem?_eq_some_iff.1 h.row).1
theorem Arr.get {W : World} {g : Nat} {t : TypeId} {k : IntKind} {l : List Nat} (h : Arr W g t k l) (i : Nat) (hi : i < l.length) : W.cell? ⟨g, i, none⟩ = some (.int k (l.getD i 0 : Nat)) := by
  rw [cell_of_row W g i _ _ _ h.row]; simp [iv, hi]
theorem Arr.free {W : World} {g : Nat} {t : TypeId} {k : IntKind} {l : List Nat} (h : Arr W g t k l) (i : Nat) : W.frozen? ⟨g, i, none⟩ = false := frozen_of_row W g i _ _ h.row
theorem Arr.below {W W' : World} {g B : Nat} {t : TypeId} {k : IntKind} {l : List Nat} (h : Arr W g t k l) (hb : Below B W W') (hg : g < B) : Arr W' g t k l := ⟨(hb.block g hg).trans h.row⟩
theorem Arr.later {W W' : World} {g : Nat} {t : TypeId} {k : IntKind} {l : List Nat} (h : Arr W g t k l) (hb : Below W.heap.size W W') : Arr W' g t k l := h.below hb h.lt
theorem Arr.drew {W : World} {g : Nat} {t : TypeId} {k : IntKind} {l : List Nat} (h : Arr W g t k l) : Arr W.drew g t k l := ⟨h.row⟩
theorem Arr.drewN {W : World} {g : Nat} {t : TypeId} {k : IntKind} {l : List Nat} (h : Arr W g t k l) (q : Nat) : Arr (W.drewN q) g t k l := ⟨h.row⟩
theorem Arr.alloc {W : World} {g : Nat} {t : TypeId} {k : IntKind} {l : List Nat} (h : Arr W g t k l) (o : Obj) : Arr (W.alloc o) g t k l := ⟨(heap_alloc_old W o g h.lt).trans h.row⟩
theorem Arr.set {W : World} {g : Nat} {t : TypeId} {k : IntKind} {l : List Nat} (h : Arr W g t k l) (i : Nat) (Y : Int) (y : Nat) (hY : Y = y) : Arr (W.setCell ⟨g, i, none⟩ (.int k Y)) g t k (l.set i y) := by
  subst hY
  refine ⟨?_⟩
  rw [heap_setCell_same W g i _ _ _ h.row]
  simp [iv, List.map_set]
theorem Arr.other {W : World} {g g' i : Nat} {t : TypeId} {k : IntKind} {l : List Nat} (h : Arr W g t k l) (hne : g ≠ g') (v : Value) : Arr (W.setCell ⟨g', i, none⟩ v) g t k l :=
  ⟨(heap_setCell_other W ⟨g', i, none⟩ g v hne).trans h.row⟩
theorem Arr.new (W : World) (t : TypeId) (k : IntKind) (l : List Nat) : Arr (W.alloc (.cells (iv k l).toArray t)) W.heap.size t k l := ⟨heap_alloc_new W _⟩
theorem Arr.nums {W : World} {g off n : Nat} {t : TypeId} {k : IntKind} {l : List Nat} (h : Arr W g t k l) (hn : off + n ≤ l.length) : Nums W g off n k (l.drop off) := by
  refine ⟨fun i hi => ?_, fun _ => h.lt⟩
  rw [h.get (off + i) (by omega)]
  simp [List.getD_eq_getElem?_getD, List.getElem?_drop]
theorem Arr.setRow {W : World} {g : Nat} {t : TypeId} {k : IntKind} {l : List Nat} (h : Arr W g t k l) (m : List Nat) : Arr (W.setRow g (iv k m).toArray) g t k m := ⟨setRow_heap W g _ _ t _ h.row⟩
theorem Arr.setRow_other {W : World} {g g' : Nat} {t : TypeId} {k : IntKind} {l : List Nat} (h : Arr W g t k l) (hne : g ≠ g') (cs : Array Value) : Arr (W.setRow g' cs) g t k l := ⟨(Go.setRow_other W g' g cs hne).trans h.row⟩
theorem below_setRow {B : Nat} {a w : World} (h : Below B a w) {g : Nat} (hg : B ≤ g) (cs : Array Value) : Below B a (w.setRow g cs) :=
  ⟨h.os, h.tape, h.output, by rw [size_setRow]; exact h.size, fun k hk => (Go.setRow_other w g k cs (by omega)).trans (h.block k hk)⟩
theorem iv_size (k : IntKind) (l : List Nat) : (iv k l).toArray.size = l.length := by simp [iv]
theorem iv_one (k : IntKind) (l : List Nat) : (iv k l).toArray.all (·.oneCell') = true := by simp [iv, Value.oneCell']
/-- n zeros -/
theorem iv_zero (k : IntKind) (n : Nat) : (iv k (List.replicate n 0)).toArray = Array.replicate n (.int k 0) := by simp [iv]

end Go.Proofs.Ytnploljhikljfaa.Bs
