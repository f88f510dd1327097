/-
  What the rows of layer 1 list: the table of the checksum; and a world for the witnesses.
-/
import Derived.Test.YtbcdigkndpjebaaDoorFrame
import Derived.Test.YtbcdigkndpjebaaDoorWaSum
namespace Go.Proofs.YtbcdigkndpjebaaDoor.Tab
open Go.ChangeShapes Go.WideShapes Go.ChangeAt Go.RowKit

theorem own : ownKnob Tryd.prog.godebug = none := by kernel_rfl
theorem laidOut : laidOutB Tryd.prog = true := by kernel_rfl
theorem gTab : Tryd.prog.globalNamed "longliner/wire.halves" = some 0 := by kernel_rfl
theorem gTabType : (Tryd.prog.globals[0]?).map (·.type) = some 56 := by kernel_rfl
theorem cellsT : Tryd.prog.cellsOf 56 = 16 := by kernel_rfl
theorem cellsE : Tryd.prog.cellsOf 43 = 1 := by kernel_rfl
def nums : List Int := [0, 274646895, 549293790, 820201905, 1098587580, 1361435347, 1640403810, 1905808397, 2197175160, 2460548119, 2722870694, 2987750089, 3280807620, 3553878443, 3811616794, 4084100981]
theorem table {W : World} (h : laidMetH Tryd.prog [("longliner/wire.halves", Rows.laid_longliner_wire_halves)] W) : TabAt W := by
  have ht : Lib.TabIs Tryd.prog W "longliner/wire.halves" .u32 nums := Lib.tabIs_of_head (rest := []) gTab gTabType Tryd.underlying56 Tryd.underlying43 cellsE cellsT h
  intro i hi
  rw [ht.cell gTab i (by simp [nums]; omega)]
  congr 2
  have : ∀ i : Fin 16, nums.getD i.val 0 = (Crc.tab i.val : Int) := by decide
  exact this ⟨i, hi⟩
theorem list2 {α : Type} (l : List α) (h : (⟨l⟩ : Array α).size = 2) : ∃ a b, l = [a, b] := by
  match l, h with
  | [a, b], _ => exact ⟨a, b, rfl⟩
/-- a world for the witness: the settled one, the table holding what its initialiser lays -/
noncomputable def laidWorld (os : Os) : World :=
  { World.holding Tryd.prog os ⟨#[], #[], []⟩ with heap := (World.holding Tryd.prog os ⟨#[], #[], []⟩).heap.modify 0 fun
      | .cells _ t frozen => .cells (nums.map fun z => Value.int .u32 z).toArray t frozen
      | o => o }
end Go.Proofs.YtbcdigkndpjebaaDoor.Tab
