/-
  The reference implementation of layer 2: Leaf, Node and Chain.
-/
import Derived.Test.YtajfmhiejipaoaaDoorRsm
namespace Go.Proofs.YtajfmhiejipaoaaDoor
open Go.RowKit Bs

/-- the digest of a list of bytes, as bytes -/
def dig (l : List UInt8) : List UInt8 := ub (Sha.sha (nb l))
theorem dig_length (l : List UInt8) : (dig l).length = 32 := by unfold dig ub; rw [List.length_map, sha_length]
theorem refLeaf_any (l : List UInt8) (w : World) (hl : l.length ≤ 900000) :
    Calls Tryd.prog 69 #[.string (bs l)] w fun e w' => e = .returned (.string (bs (dig (0 :: l)))) ∧ Below w.heap.size w w' := by
  have h1 : (⟨#[0]⟩ : ByteArray) ++ bs l = bs (0 :: l) := bs_append [0] l
  have hz := bs_size l
  go_enter Tryd.func69, Tryd.ntmps69
  go_wp2_with fail
  refine (refSum_any2 (0 :: l) _ (by simp; omega)).mono ?_
  rintro e w1 ⟨rfl, hb⟩
  go_wp2_with fail
  go_ret
  exact ⟨rfl, hb⟩
theorem refNode_any (l m : List UInt8) (w : World) (hl : l.length ≤ 400000) (hm : m.length ≤ 400000) :
    Calls Tryd.prog 70 #[.string (bs l), .string (bs m)] w fun e w' => e = .returned (.string (bs (dig (1 :: (l ++ m))))) ∧ Below w.heap.size w w' := by
  have h1 : (⟨#[1]⟩ : ByteArray) ++ bs l = bs (1 :: l) := bs_append [1] l
  have h2 : bs (1 :: l) ++ bs m = bs (1 :: (l ++ m)) := bs_append (1 :: l) m
  have hz := bs_size l
  have hz2 := bs_size m
  have hz3 := bs_size (1 :: l)
  go_enter Tryd.func70, Tryd.ntmps70
  go_wp2_with fail
  refine (refSum_any2 (1 :: (l ++ m)) _ (by simp; omega)).mono ?_
  rintro e w1 ⟨rfl, hb⟩
  go_wp2_with fail
  go_ret
  exact ⟨rfl, hb⟩
end Go.Proofs.YtajfmhiejipaoaaDoor
