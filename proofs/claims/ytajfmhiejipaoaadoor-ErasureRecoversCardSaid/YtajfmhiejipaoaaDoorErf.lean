/-
  Layer 6: chunks in memory, and the values of polynomials as strings.
-/
import Derived.Test.YtajfmhiejipaoaaDoorEre
import Derived.Laws.BytesArg
namespace Go.Proofs.YtajfmhiejipaoaaDoor
open Go.RowKit Bs Ef

theorem Ef.lag_snoc (all : List G) (x : G) (l : List (G × G)) (p v : G) : lag all x (l ++ [(p, v)]) = ga (lag all x l) (mu (lw p x o1 all) v) := by
  induction l with
  | nil => rfl
  | cons q l ih =>
    obtain ⟨a, b⟩ := q
    rw [List.cons_append, lag, ih, lag, ga_assoc, ga_assoc, ga_comm (mu _ v)]
/-- a string of elements -/
abbrev gs (l : List G) : ByteArray := bs (ub (gl l))
theorem gs_size (l : List G) : (gs l).size = l.length := by rw [bs_size]; simp [ub]
theorem gs_at (l : List G) (j : Nat) (h : j < l.length) (h2 : j < (gs l).size) : ((gs l)[j]'h2).toNat = (l[j]).val := by
  show ((bs (ub (gl l))).data[j]'h2).toNat = _
  simp only [bs, ub, List.map_map, List.getElem_toArray, List.getElem_map, Function.comp]
  have := (l[j]).2
  simp [UInt8.toNat_ofNat']
theorem strOfNums_E (l : List UInt8) : strOfNums (l.map (fun b => (b.toNat : Int))) = ⟨l.toArray⟩ := by
  show ByteArray.mk ((l.map (fun b => (b.toNat : Int))).map fun n => UInt8.ofNat n.toNat).toArray = _
  rw [List.map_map, show ((fun n : Int => UInt8.ofNat n.toNat) ∘ fun b : UInt8 => (b.toNat : Int)) = id from by funext b; simp, List.map_id]
theorem arr_strE {W : World} {g n c : Nat} {t : TypeId} {l : List G} (h : Arr W g t .u8 (gl l)) (hn : l.length = n) :
    (convert 48 9 (.slice (some ⟨g, 0, none⟩) n c)).run Tryd.prog W = .ok (.string (gs l)) W := by
  have hl := gl_lt l
  have hn' : (gl l).length = n := by rw [List.length_map]; exact hn
  unfold gs
  generalize gl l = l at *
  have e : l.map (fun (b : Nat) => (b : Int)) = (ub l).map (fun b => (b.toNat : Int)) := by
    unfold ub
    rw [List.map_map]
    apply List.map_congr_left
    intro b hb
    have := hl b hb
    simp; omega
  rw [run_convert_bytes_arg W 48 5 Tryd.underlying48 Tryd.underlying5 g 0 n c (l.map (fun (b : Nat) => (b : Int))) (by simpa using hn') (fun i hi => by
    rw [Nat.zero_add, h.get i (by omega)]
    congr 2
    rw [List.getD_eq_getElem?_getD, List.getD_eq_getElem?_getD, List.getElem?_map, List.getElem?_eq_getElem (show i < l.length by omega)]; rfl) 9 Tryd.underlying9, e, strOfNums_E]
  rfl

/-! rows of chunks -/
def ckc : List (Int × ByteArray) → List Value
  | [] => []
  | c :: l => .int .i64 c.1 :: .string c.2 :: ckc l
theorem ckc_len (l : List (Int × ByteArray)) : (ckc l).length = l.length * 2 := by
  induction l with
  | nil => rfl
  | cons c l ih => rw [ckc, List.length_cons, List.length_cons, List.length_cons, ih]; omega
theorem ckc_at (l : List (Int × ByteArray)) (i : Nat) (h : i < l.length) : (ckc l)[i * 2]? = some (.int .i64 (l[i]).1) ∧ (ckc l)[i * 2 + 1]? = some (.string (l[i]).2) := by
  induction l generalizing i with
  | nil => cases h
  | cons c l ih =>
    cases i with
    | zero => exact ⟨rfl, rfl⟩
    | succ i =>
      rw [show (i + 1) * 2 = i * 2 + 1 + 1 from by omega, ckc]
      rw [List.getElem?_cons_succ, List.getElem?_cons_succ, List.getElem?_cons_succ, List.getElem?_cons_succ]
      exact ih i (by simpa using h)
theorem ckc_set (l : List (Int × ByteArray)) (i : Nat) (h : i < l.length) (a : Int) (s : ByteArray) : ckc (l.set i (a, s)) = ((ckc l).set (i * 2) (.int .i64 a)).set (i * 2 + 1) (.string s) := by
  induction l generalizing i with
  | nil => cases h
  | cons c l ih =>
    cases i with
    | zero => rfl
    | succ i =>
      rw [show (i + 1) * 2 = i * 2 + 1 + 1 from by omega, ckc]
      rw [List.set_cons_succ, List.set_cons_succ, List.set_cons_succ, List.set_cons_succ, List.set_cons_succ, ckc, ih i (by simpa using h)]
/-- the block g is a row of chunks -/
def CkRow (W : World) (g : Nat) (l : List (Int × ByteArray)) : Prop := W.heap[g]? = some (.cells (ckc l).toArray 40 (0, 0))
section
variable {W W' : World} {g : Nat} {l : List (Int × ByteArray)}
theorem CkRow.lt (h : CkRow W g l) : g < W.heap.size := (Array.getElem?_eq_some_iff.1 h).1
theorem CkRow.cell (h : CkRow W g l) (i : Nat) (hi : i < l.length) : W.cell? ⟨g, i * 2, none⟩ = some (.int .i64 (l[i]).1) ∧ W.cell? ⟨g, i * 2 + 1, none⟩ = some (.string (l[i]).2) := by
  constructor
  · rw [cell_of_row W g _ _ _ _ h, List.getElem?_toArray]; exact (ckc_at l i hi).1
  · rw [cell_of_row W g _ _ _ _ h, List.getElem?_toArray]; exact (ckc_at l i hi).2
theorem CkRow.at (h : CkRow W g l) : CkAt W g 0 l := ⟨fun i hi => by rw [Nat.zero_add]; exact h.cell i hi, h.lt⟩
theorem CkRow.free (h : CkRow W g l) (i : Nat) : W.frozen? ⟨g, i, none⟩ = false := frozen_of_row _ _ i _ _ h
theorem CkRow.below {B : Nat} (h : CkRow W g l) (hb : Below B W W') (hg : g < B) : CkRow W' g l := (hb.block g hg).trans h
theorem CkRow.later (h : CkRow W g l) (hb : Below W.heap.size W W') : CkRow W' g l := h.below hb h.lt
theorem CkRow.set (h : CkRow W g l) (i : Nat) (hi : i < l.length) (a : Int) (s : ByteArray) : CkRow ((W.setCell ⟨g, i * 2, none⟩ (.int .i64 a)).setCell ⟨g, i * 2 + 1, none⟩ (.string s)) g (l.set i (a, s)) := by
  have h1 := heap_setCell_same W g (i * 2) _ _ (.int .i64 a) h
  have h2 := heap_setCell_same _ g (i * 2 + 1) _ _ (.string s) h1
  unfold CkRow
  rw [h2, ckc_set l i hi]
  simp
theorem CkRow.other (h : CkRow W g l) {k i : Nat} (hk : g ≠ k) (v : Value) : CkRow (W.setCell ⟨k, i, none⟩ v) g l := (heap_setCell_other _ _ _ _ hk).trans h
end
theorem ckc_rep (n : Nat) (a : Int) (s : ByteArray) : (ckc (List.replicate n (a, s))).toArray = madeCells #[.int .i64 a, .string s] (n * 2) := by
  apply Array.ext
  · rw [size_madeCells]; simp [ckc_len]
  · intro i h1 h2
    have hi : i < n * 2 := by rw [size_madeCells] at h2; exact h2
    have h3 := ckc_at (List.replicate n (a, s)) (i / 2) (by rw [List.length_replicate]; omega)
    rw [List.getElem_replicate] at h3
    rw [List.getElem_toArray]
    rcases Nat.mod_two_eq_zero_or_one i with h | h
    · have e : i / 2 * 2 = i := by omega
      rw [e] at h3
      obtain ⟨h4, h5⟩ := List.getElem_of_getElem? h3.1
      rw [h5]
      simp [madeCells, h]
    · have e : i / 2 * 2 + 1 = i := by omega
      rw [e] at h3
      obtain ⟨h4, h5⟩ := List.getElem_of_getElem? h3.2
      rw [h5]
      simp [madeCells, h]
theorem infoC : (Tryd.prog.info? 40).map (fun i => (i.zero, i.size, i.bytes)) = some (some (.agg #[.int .i64 0, .string ⟨#[]⟩]), 2, 24) := by kernel_rfl
theorem mkC (w : World) (n : Nat) (h : n ≤ 100000) : (Instr.makeSlice 22 (.int .i64 (n : Int)) (.int .i64 (n : Int))).run Tryd.prog w = .ok (.slice (some ⟨w.heap.size, 0, none⟩) n n) (w.alloc (.cells (ckc (List.replicate n (0, ⟨#[]⟩))).toArray 40)) := by
  obtain ⟨i0, hi, hz0, hz1, hz2⟩ := info_parts infoC
  have h := run_makeSlice (P := Tryd.prog) w 22 40 i0 (.agg #[.int .i64 0, .string ⟨#[]⟩]) Tryd.underlying22 hi hz0 .i64 .i64 n n (by omega) (by omega) (by rw [hz1]; omega) (by rw [hz2]; omega) (by omega)
  rw [h, hz1, ckc_rep]
  simp [Value.cells]

end Go.Proofs.YtajfmhiejipaoaaDoor
