/-
  The reference implementation of layer 2: Left.
-/
import Derived.Test.YtagcpjokajcdiaaDoorBase
import Derived.Test.YtagcpjokajcdiaaDoorTr
namespace Go.Proofs.YtagcpjokajcdiaaDoor
open Go.RowKit Bs

end Go.Proofs.YtagcpjokajcdiaaDoor
