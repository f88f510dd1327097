/-
  What the rows of layer 3 list: the table of the decimal powers, and the error for numbers that no int holds; and a world for the witnesses.
-/
import Derived.Test.YtieaelipgieaoaaDoorFrame
import Derived.Test.YtieaelipgieaoaaDoorIhk
import Derived.Stop.LaidErr
import Derived.LaidSub
import Derived.Lay
namespace Go.Proofs.YtieaelipgieaoaaDoor
open Go.RowKit
/-- what the laws of layer 3 read of the memory -/
def TabE (W : World) : Prop := TabP W ∧ ErrP W
theorem TabE.later {W W' : World} (h : TabE W) (hb : Below W.heap.size W W') : TabE W' := ⟨h.1.later hb, h.2.later hb⟩
namespace Tab
open Go.ChangeShapes Go.WideShapes Go.ChangeAt Go.RowKit

theorem own : ownKnob Tryd.prog.godebug = none := by kernel_rfl
theorem laidOut : laidOutB Tryd.prog = true := by kernel_rfl
theorem gTab : Tryd.prog.globalNamed "internal/strconv.uint64pow10" = some 2 := by kernel_rfl
theorem gTabType : (Tryd.prog.globals[2]?).map (·.type) = some 111 := by kernel_rfl
theorem cellsT : Tryd.prog.cellsOf 111 = 20 := by kernel_rfl
theorem cellsE : Tryd.prog.cellsOf 89 = 1 := by kernel_rfl
theorem gER : Tryd.prog.globalNamed "strconv.ErrRange" = some 1 := by kernel_rfl
theorem gERType : (Tryd.prog.globals[1]?).map (·.type) = some 42 := by kernel_rfl
theorem cellsS : Tryd.prog.cellsOf 118 = 1 := by kernel_rfl
theorem cells9 : Tryd.prog.cellsOf 9 = 1 := by kernel_rfl
theorem star : "*" ++ "errors.errorString" = "*errors.errorString" := by decide
theorem rowS (u : TypeId) (h : Tryd.prog.typeName? 3 u = some "*errors.errorString") : u = 116 :=
  typeName_ptr_named (nm := "errors.errorString") (by rw [star]; kernel_rfl) (by kernel_rfl) (by decide) u (by rw [star]; exact h)
theorem table {W : World} (h : laidMetH Tryd.prog Rows.integerTextRow.laid W) : TabE W := by
  have h1 := (laidMetH_iff.1 h).1
  refine ⟨?_, ?_⟩
  · have h2 := h1.filter fun x => x.1 == "internal/strconv.uint64pow10"
    exact Lib.tabIs_of_head (rest := []) gTab gTabType Tryd.underlying111 Tryd.underlying89 cellsE cellsT h2
  · have h2 : laidMet Tryd.prog [("strconv.ErrRange", Rows.laid_strconv_ErrRange)] W := h1.filter fun x => x.1 == "strconv.ErrRange"
    obtain ⟨a1, s1, hv1, -, -, -⟩ := laid_sentinel h2 gER gERType Tryd.underlying42 rowS Tryd.underlying116 Tryd.underlying118 rfl rfl Tryd.underlying9 cellsS cells9
    exact ⟨_, by have h0 := World.var?_cell gER hv1 0; simpa using h0, .inr ⟨_, _, rfl⟩⟩
/-- a world for the witness -/
noncomputable def laidWorld (os : Os) : World := World.laidAll Tryd.prog os Rows.integerTextRow.laid
theorem laidWorld_os (os : Os) : (laidWorld os).os = os := World.laidAll_os _ _ _
theorem laid_met (os : Os) (args : Array Value) : laidMet Tryd.prog Rows.integerTextRow.laid ((laidWorld os).forCall (fun _ _ => 0) ⟨#[], args, []⟩).memory :=
  laidMet_laidAll _ (by kernel_rfl) (by kernel_rfl)
end Tab
end Go.Proofs.YtieaelipgieaoaaDoor
