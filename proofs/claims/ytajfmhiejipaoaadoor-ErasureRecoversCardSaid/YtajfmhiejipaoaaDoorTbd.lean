/-
  What the rows of layer 2 list: the constants of SHA-256; and a world for the witnesses.
-/
import Derived.Test.YtajfmhiejipaoaaDoorFrame
import Derived.Test.YtajfmhiejipaoaaDoorDmx
namespace Go.Proofs.YtajfmhiejipaoaaDoor.Tab
open Go.ChangeShapes Go.WideShapes Go.ChangeAt Go.RowKit

theorem own : ownKnob Tryd.prog.godebug = none := by kernel_rfl
theorem laidOut : laidOutB Tryd.prog = true := by kernel_rfl
theorem gTab : Tryd.prog.globalNamed "longliner/digest.rounds" = some 0 := by kernel_rfl
theorem gTabType : (Tryd.prog.globals[0]?).map (·.type) = some 138 := by kernel_rfl
theorem cellsT : Tryd.prog.cellsOf 138 = 64 := by kernel_rfl
theorem cellsE : Tryd.prog.cellsOf 95 = 1 := by kernel_rfl
def nums : List Int := [1116352408, 1899447441, 3049323471, 3921009573, 961987163, 1508970993, 2453635748, 2870763221, 3624381080, 310598401, 607225278, 1426881987, 1925078388, 2162078206, 2614888103, 3248222580, 3835390401, 4022224774, 264347078, 604807628, 770255983, 1249150122, 1555081692, 1996064986, 2554220882, 2821834349, 2952996808, 3210313671, 3336571891, 3584528711, 113926993, 338241895, 666307205, 773529912, 1294757372, 1396182291, 1695183700, 1986661051, 2177026350, 2456956037, 2730485921, 2820302411, 3259730800, 3345764771, 3516065817, 3600352804, 4094571909, 275423344, 430227734, 506948616, 659060556, 883997877, 958139571, 1322822218, 1537002063, 1747873779, 1955562222, 2024104815, 2227730452, 2361852424, 2428436474, 2756734187, 3204031479, 3329325298]
theorem table {W : World} (h : laidMetH Tryd.prog [("longliner/digest.rounds", Rows.laid_longliner_digest_rounds)] W) : KAt W := by
  have ht : Lib.TabIs Tryd.prog W "longliner/digest.rounds" .u32 nums := Lib.tabIs_of_head (rest := []) gTab gTabType Tryd.underlying138 Tryd.underlying95 cellsE cellsT h
  intro i hi
  rw [ht.cell gTab i (by show i < 64; omega)]
  congr 2
  have : ∀ i : Fin 64, nums.getD i.val 0 = (Sha.at_ Sha.K i.val : Int) := by decide +kernel
  exact this ⟨i, hi⟩
/-- a world for the witness: the settled one, the table holding what its initialiser lays -/
noncomputable def laidWorld (os : Os) : World :=
  { World.holding Tryd.prog os ⟨#[], #[], []⟩ with heap := (World.holding Tryd.prog os ⟨#[], #[], []⟩).heap.modify 0 fun
      | .cells _ t frozen => .cells (nums.map fun z => Value.int .u32 z).toArray t frozen
      | o => o }
end Go.Proofs.YtajfmhiejipaoaaDoor.Tab
