/-
  DERIVED. GIVEN WITH THE SEED: THE CARDS: each row of YtagcpjokajcdiaaDoorRows.lean that lists a variable, with what it lists TIED to the program's text (the seventh form; the later family's looks); each row that meets fmt, with fmt's text TOLD by the authors' own Lean function (tested against real Go, not proved from fmt's source: count such statements apart). THE CARD IS WHAT COUNTS. Prove the row's statement (the work); the ties are given (YtagcpjokajcdiaaDoorTie.lean); close each card by the builder's one call (the guide's Derived/Test/ToyasCard.lean, 'card_holds'). Laid BY PROGRAM, IN A SANDBOX (cutbox-door.mjs). By AI agents, Wed Nov 11 2026. No macro, syntax, notation, axiom, sorry.
-/
import Derived.Test.YtagcpjokajcdiaaDoorRows
import GoSem.ClaimSeven
namespace Go.Proofs.YtagcpjokajcdiaaDoor
namespace Rows

/-- THE TIED CARD OF 'longlinerlaw02.DigestChainBinding'. -/
def digestChainBindingCard : Claim7 := { stood := { row := digestChainBindingRow, standIns := [], harness := (true, "e63a09e1decab51478ba5e85dff4aa18c345b1d90a1de3b0fc8bb9e79c6d80ff"), looks := false }, kinds := [], alts := [], laidByText := true, laidKinds := [.data], laidTests := true, laidLooks := .later }
def DigestChainBindingCardSaid : Prop := Claim7.holds Tryd.pinned (.plain (OpenSpec.ofChange digestChainBindingSpec)) digestChainBindingCard

/-- THE SECOND FORM's CARD OF 'longlinerlaw02.DigestChainBinding'. -/
def digestChainBindingUptoCard : Claim7 := { stood := { row := digestChainBindingUptoRow, standIns := [], harness := (true, "e63a09e1decab51478ba5e85dff4aa18c345b1d90a1de3b0fc8bb9e79c6d80ff"), looks := false }, kinds := [], alts := [], laidByText := true, laidKinds := [.data], laidTests := true, laidLooks := .later }
def DigestChainBindingUptoCardSaid : Prop := Claim7.holds Tryd.pinned (.plain (OpenSpec.upto digestChainBindingSpec)) digestChainBindingUptoCard
end Rows
end Go.Proofs.YtagcpjokajcdiaaDoor
