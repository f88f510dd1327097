/-
  Layer 2: the law's helper 'way'.
-/
import Derived.Test.YtagcpjokajcdiaaDoorLac
import Derived.Test.YtagcpjokajcdiaaDoorOwa
namespace Go.Proofs.YtagcpjokajcdiaaDoor
open Go.RowKit Bs

/-- new strings, and a value -/
def GivesW (l : Strs) (v : List UInt8) (w : World) (e : Ending) (w' : World) : Prop := ∃ u, e = .returned (.tuple #[u, .string (bs v)]) ∧ OwnS w' w.heap.size u l ∧ Below w.heap.size w w'
theorem way_nil (n i : Nat) (s : List UInt8) : Tr.way dig n i s [] = [0 :: s] := by unfold Tr.way; rfl
theorem way_cons (n i : Nat) (s x : List UInt8) (p : Strs) : Tr.way dig n i s (x :: p) = if n ≤ 1 then [0 :: s]
    else if i < Tr.lft n then (1 :: ((Tr.val dig (Tr.lft n) i s p).getD [] ++ x)) :: Tr.way dig (Tr.lft n) i s p
    else (1 :: (x ++ (Tr.val dig (n - Tr.lft n) (i - Tr.lft n) s p).getD [])) :: Tr.way dig (n - Tr.lft n) (i - Tr.lft n) s p := by
  conv => lhs; unfold Tr.way
theorem way_length (n i : Nat) (s : List UInt8) (p : Strs) : (Tr.way dig n i s p).length ≤ p.length + 1 := by
  induction p generalizing n i with
  | nil => rw [way_nil]; simp
  | cons x p ih =>
    rw [way_cons]
    split
    · simp
    · split
      · simpa using ih _ _
      · simpa using ih _ _
theorem val_len32 {n i : Nat} {s v : List UInt8} {p : Strs} (h : Tr.val dig n i s p = some v) : v.length = 32 := Tr.val_length dig dig_len n i s p v h

end Go.Proofs.YtagcpjokajcdiaaDoor
