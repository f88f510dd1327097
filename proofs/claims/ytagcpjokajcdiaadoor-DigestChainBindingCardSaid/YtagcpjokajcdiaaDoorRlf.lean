/-
  The reference implementation of layer 2: Leaf, Node and Chain.
-/
import Derived.Test.YtagcpjokajcdiaaDoorRsm
namespace Go.Proofs.YtagcpjokajcdiaaDoor
open Go.RowKit Bs

/-- the digest of a list of bytes, as bytes -/
def dig (l : List UInt8) : List UInt8 := ub (Sha.sha (nb l))
theorem dig_length (l : List UInt8) : (dig l).length = 32 := by unfold dig ub; rw [List.length_map, sha_length]
end Go.Proofs.YtagcpjokajcdiaaDoor
