/-
  Layer 7: bytes in memory, whatever stands behind them; the pieces of MatchesReference's middle.
-/
import Derived.Test.YtnploljhikljfaaPxf
import Derived.Test.YtnploljhikljfaaPlt
namespace Go.Proofs.Ytnploljhikljfaa
open Go.RowKit Bs Pk

/-- bytes in memory; what stands behind them is left open -/
structure Bx (W : World) (g : Nat) (l : List UInt8) : Prop where
  row : ∃ (C : Array Value) (fz : Nat × Nat), W.heap[g]? = some (.cells ((iv .u8 (nb l)).toArray ++ C) 5 fz) ∧ l.length ≤ fz.1
theorem iv_nb_size (l : List UInt8) : (iv .u8 (nb l)).toArray.size = l.length := by simp [iv, nb]
theorem Bx.lt {W : World} {g : Nat} {l : List UInt8} (h : Bx W g l) : g < W.heap.size := by
  obtain ⟨C, fz, h, _⟩ := h.row
  exact (Array.getElem?_eq_some_iff.1 h).1
theorem Bx.later {W W' : World} {g : Nat} {l : List UInt8} (h : Bx W g l) (hb : Below W.heap.size W W') : Bx W' g l := by
  have hlt := h.lt
  obtain ⟨C, fz, h, hz⟩ := h.row
  exact ⟨C, fz, (hb.block _ hlt).trans h, hz⟩
theorem Bx.cell {W : World} {g : Nat} {l : List UInt8} (h : Bx W g l) (i : Nat) (hi : i < l.length) : W.cell? ⟨g, i, none⟩ = some (.int .u8 ((nb l).getD i 0 : Nat)) := by
  obtain ⟨C, fz, h, _⟩ := h.row
  rw [cell_of_row W g _ _ _ _ h, Array.getElem?_append_left (by rw [iv_nb_size]; exact hi)]
  simp [iv, nb, hi]
theorem Bx.free {W : World} {g : Nat} {l : List UInt8} (h : Bx W g l) (i : Nat) (hi : i < l.length) : W.frozen? ⟨g, i, none⟩ = false := by
  obtain ⟨C, fz, h, hz⟩ := h.row
  simp [World.frozen?, h]
  omega
theorem Bx.set {W : World} {g : Nat} {l : List UInt8} (h : Bx W g l) (i : Nat) (hi : i < l.length) (x : UInt8) : Bx (W.setCell ⟨g, i, none⟩ (.int .u8 (x.toNat : Int))) g (l.set i x) := by
  obtain ⟨C, fz, h, hz⟩ := h.row
  refine ⟨C, fz, ?_, by rw [List.length_set]; exact hz⟩
  rw [setCell_eq_setRow W g i _ _ fz _ h, setRow_heap W g _ _ _ _ h]
  congr 2
  rw [Array.setIfInBounds_append_left (by rw [iv_nb_size]; exact hi)]
  congr 1
  simp [iv, nb, List.map_set]
theorem Bx.str {W : World} {g : Nat} {l : List UInt8} (h : Bx W g l) (n c : Nat) (hn : l.length = n) : (convert 29 9 (.slice (some ⟨g, 0, none⟩) n c)).run Try.prog W = .ok (.string (bs l)) W := by
  subst hn
  rw [run_convert_bytes_arg W 29 5 Try.underlying29 Try.underlying5 g 0 l.length c (l.map (fun b => (b.toNat : Int))) (by simp) (fun i hi => by
    rw [Nat.zero_add, h.cell i hi]; simp [nb, hi]) 9 Try.underlying9, strOfNums_bytes]
  rfl
theorem Bx.of (l : List UInt8) (w : World) : Bx (bW l w) w.heap.size l := by
  refine ⟨Array.replicate (bcap l w - l.length) (.int .u8 0), ((bytesRow (bs l) (bcap l w)).size, (bytesRow (bs l) (bcap l w)).size + 1), ?_, ?_⟩
  · have hrow : (bW l w).heap[w.heap.size]? = some (.cells (bytesRow (bs l) (bcap l w)) 5 ((bytesRow (bs l) (bcap l w)).size, (bytesRow (bs l) (bcap l w)).size + 1)) := heap_alloc_new w.drew _
    rw [hrow]
    congr 2
    simp [bytesRow, iv, nb, bs, bs_size, ByteArray.size]
    rfl
  · simp [bytesRow, bs]
/-- a one-byte literal as a string -/
theorem one_str (W : World) (y : UInt8) : (convert 29 9 (.slice (some ⟨W.heap.size, 0, none⟩) 1 1)).run Try.prog ((W.alloc (.cells #[.int .u8 (y.toNat : Int)] 5)).drew) = .ok (.string (bs [y])) ((W.alloc (.cells #[.int .u8 (y.toNat : Int)] 5)).drew) := by
  rw [run_convert_bytes_arg _ 29 5 Try.underlying29 Try.underlying5 W.heap.size 0 1 1 [(y.toNat : Int)] rfl (fun i hi => by
    obtain rfl : i = 0 := by omega
    exact fresh_cell W _ _) 9 Try.underlying9, show [(y.toNat : Int)] = [y].map (fun b => (b.toNat : Int)) from rfl, strOfNums_bytes]
  rfl
theorem str_head (u : List UInt8) (b : Nat) (h2 : b ≤ u.length) (W : World) : (Instr.sliceAt 9 (.string (bs u)) none (some (.int .i64 (b : Int))) none).run Try.prog W = .ok (.string (bs (u.take b))) W := by
  rw [run_sliceAt_string _ _ _ _ _ _ Try.underlying9, run_slice_string_h _ 9 (bs u) Try.underlying9 .i64 (b : Int) (by omega) (by rw [bs_size]; omega), Int.toNat_natCast, bs_extract]
  simp

end Go.Proofs.Ytnploljhikljfaa
