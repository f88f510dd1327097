/-
  DERIVED. GIVEN WITH THE SEED: THE CARDS: each row of YtajfmhiejipaoaaDoorRows.lean that lists a variable, with what it lists TIED to the program's text (the seventh form; the later family's looks); each row that meets fmt, with fmt's text TOLD by the authors' own Lean function (tested against real Go, not proved from fmt's source: count such statements apart). THE CARD IS WHAT COUNTS. Prove the row's statement (the work); the ties are given (YtajfmhiejipaoaaDoorTie.lean); close each card by the builder's one call (the guide's Derived/Test/ToyasCard.lean, 'card_holds'). Laid BY PROGRAM, IN A SANDBOX (cutbox-door.mjs). By AI agents, Wed Nov 11 2026. No macro, syntax, notation, axiom, sorry.
-/
import Derived.Test.YtajfmhiejipaoaaDoorRows
import GoSem.ClaimSeven
namespace Go.Proofs.YtajfmhiejipaoaaDoor
namespace Rows

/-- THE TIED CARD OF 'longlinerlaw06.ErasureMatchesReference'. -/
def erasureMatchesReferenceCard : Claim7 := { stood := { row := erasureMatchesReferenceRow, standIns := [], harness := (true, "92b18111d9a86596afe646b2e779c6765a6613db96d76a85e7e479ad3ab2eb08"), looks := false }, kinds := [], alts := [], laidByText := true, laidKinds := [.data], laidTests := true, laidLooks := .later }
def ErasureMatchesReferenceCardSaid : Prop := Claim7.holds Tryd.pinned (.plain (OpenSpec.ofChange erasureMatchesReferenceSpec)) erasureMatchesReferenceCard

/-- THE TIED CARD OF 'longlinerlaw06.ErasureField'. -/
def erasureFieldCard : Claim7 := { stood := { row := erasureFieldRow, standIns := [], harness := (true, "92b18111d9a86596afe646b2e779c6765a6613db96d76a85e7e479ad3ab2eb08"), looks := false }, kinds := [], alts := [], laidByText := true, laidKinds := [.data], laidTests := true, laidLooks := .later }
def ErasureFieldCardSaid : Prop := Claim7.holds Tryd.pinned (.plain (OpenSpec.ofChange erasureFieldSpec)) erasureFieldCard

/-- THE TIED CARD OF 'longlinerlaw06.ErasureRecovers'. -/
def erasureRecoversCard : Claim7 := { stood := { row := erasureRecoversRow, standIns := [], harness := (true, "92b18111d9a86596afe646b2e779c6765a6613db96d76a85e7e479ad3ab2eb08"), looks := false }, kinds := [], alts := [], laidByText := true, laidKinds := [.data], laidTests := true, laidLooks := .later }
def ErasureRecoversCardSaid : Prop := Claim7.holds Tryd.pinned (.plain (OpenSpec.ofChange erasureRecoversSpec)) erasureRecoversCard

/-- THE TIED CARD OF 'longlinerlaw06.ErasureDistance'. -/
def erasureDistanceCard : Claim7 := { stood := { row := erasureDistanceRow, standIns := [], harness := (true, "92b18111d9a86596afe646b2e779c6765a6613db96d76a85e7e479ad3ab2eb08"), looks := false }, kinds := [], alts := [], laidByText := true, laidKinds := [.data], laidTests := true, laidLooks := .later }
def ErasureDistanceCardSaid : Prop := Claim7.holds Tryd.pinned (.plain (OpenSpec.ofChange erasureDistanceSpec)) erasureDistanceCard

/-- THE TIED CARD OF 'longlinerlaw06.ErasureDetects'. -/
def erasureDetectsCard : Claim7 := { stood := { row := erasureDetectsRow, standIns := [], harness := (true, "92b18111d9a86596afe646b2e779c6765a6613db96d76a85e7e479ad3ab2eb08"), looks := false }, kinds := [], alts := [], laidByText := true, laidKinds := [.data], laidTests := true, laidLooks := .later }
def ErasureDetectsCardSaid : Prop := Claim7.holds Tryd.pinned (.plain (OpenSpec.ofChange erasureDetectsSpec)) erasureDetectsCard

/-- THE TIED CARD OF 'longlinerlaw06.ErasureFrame'. -/
def erasureFrameCard : Claim7 := { stood := { row := erasureFrameRow, standIns := [], harness := (true, "92b18111d9a86596afe646b2e779c6765a6613db96d76a85e7e479ad3ab2eb08"), looks := false }, kinds := [], alts := [], laidByText := true, laidKinds := [.data], laidTests := true, laidLooks := .later }
def ErasureFrameCardSaid : Prop := Claim7.holds Tryd.pinned (.plain (OpenSpec.ofChange erasureFrameSpec)) erasureFrameCard

/-- THE TIED CARD OF 'longlinerlaw06.ErasureRoots'. -/
def erasureRootsCard : Claim7 := { stood := { row := erasureRootsRow, standIns := [], harness := (true, "92b18111d9a86596afe646b2e779c6765a6613db96d76a85e7e479ad3ab2eb08"), looks := false }, kinds := [], alts := [], laidByText := true, laidKinds := [.data], laidTests := true, laidLooks := .later }
def ErasureRootsCardSaid : Prop := Claim7.holds Tryd.pinned (.plain (OpenSpec.ofChange erasureRootsSpec)) erasureRootsCard

/-- THE TIED CARD OF 'longlinerlaw06.ErasureRefuses'. -/
def erasureRefusesCard : Claim7 := { stood := { row := erasureRefusesRow, standIns := [], harness := (true, "92b18111d9a86596afe646b2e779c6765a6613db96d76a85e7e479ad3ab2eb08"), looks := false }, kinds := [], alts := [], laidByText := true, laidKinds := [.data], laidTests := true, laidLooks := .later }
def ErasureRefusesCardSaid : Prop := Claim7.holds Tryd.pinned (.plain (OpenSpec.ofChange erasureRefusesSpec)) erasureRefusesCard

/-- THE SECOND FORM's CARD OF 'longlinerlaw06.ErasureMatchesReference'. -/
def erasureMatchesReferenceUptoCard : Claim7 := { stood := { row := erasureMatchesReferenceUptoRow, standIns := [], harness := (true, "92b18111d9a86596afe646b2e779c6765a6613db96d76a85e7e479ad3ab2eb08"), looks := false }, kinds := [], alts := [], laidByText := true, laidKinds := [.data], laidTests := true, laidLooks := .later }
def ErasureMatchesReferenceUptoCardSaid : Prop := Claim7.holds Tryd.pinned (.plain (OpenSpec.upto erasureMatchesReferenceSpec)) erasureMatchesReferenceUptoCard

/-- THE SECOND FORM's CARD OF 'longlinerlaw06.ErasureField'. -/
def erasureFieldUptoCard : Claim7 := { stood := { row := erasureFieldUptoRow, standIns := [], harness := (true, "92b18111d9a86596afe646b2e779c6765a6613db96d76a85e7e479ad3ab2eb08"), looks := false }, kinds := [], alts := [], laidByText := true, laidKinds := [.data], laidTests := true, laidLooks := .later }
def ErasureFieldUptoCardSaid : Prop := Claim7.holds Tryd.pinned (.plain (OpenSpec.upto erasureFieldSpec)) erasureFieldUptoCard

/-- THE SECOND FORM's CARD OF 'longlinerlaw06.ErasureRecovers'. -/
def erasureRecoversUptoCard : Claim7 := { stood := { row := erasureRecoversUptoRow, standIns := [], harness := (true, "92b18111d9a86596afe646b2e779c6765a6613db96d76a85e7e479ad3ab2eb08"), looks := false }, kinds := [], alts := [], laidByText := true, laidKinds := [.data], laidTests := true, laidLooks := .later }
def ErasureRecoversUptoCardSaid : Prop := Claim7.holds Tryd.pinned (.plain (OpenSpec.upto erasureRecoversSpec)) erasureRecoversUptoCard

/-- THE SECOND FORM's CARD OF 'longlinerlaw06.ErasureDistance'. -/
def erasureDistanceUptoCard : Claim7 := { stood := { row := erasureDistanceUptoRow, standIns := [], harness := (true, "92b18111d9a86596afe646b2e779c6765a6613db96d76a85e7e479ad3ab2eb08"), looks := false }, kinds := [], alts := [], laidByText := true, laidKinds := [.data], laidTests := true, laidLooks := .later }
def ErasureDistanceUptoCardSaid : Prop := Claim7.holds Tryd.pinned (.plain (OpenSpec.upto erasureDistanceSpec)) erasureDistanceUptoCard

/-- THE SECOND FORM's CARD OF 'longlinerlaw06.ErasureDetects'. -/
def erasureDetectsUptoCard : Claim7 := { stood := { row := erasureDetectsUptoRow, standIns := [], harness := (true, "92b18111d9a86596afe646b2e779c6765a6613db96d76a85e7e479ad3ab2eb08"), looks := false }, kinds := [], alts := [], laidByText := true, laidKinds := [.data], laidTests := true, laidLooks := .later }
def ErasureDetectsUptoCardSaid : Prop := Claim7.holds Tryd.pinned (.plain (OpenSpec.upto erasureDetectsSpec)) erasureDetectsUptoCard

/-- THE SECOND FORM's CARD OF 'longlinerlaw06.ErasureFrame'. -/
def erasureFrameUptoCard : Claim7 := { stood := { row := erasureFrameUptoRow, standIns := [], harness := (true, "92b18111d9a86596afe646b2e779c6765a6613db96d76a85e7e479ad3ab2eb08"), looks := false }, kinds := [], alts := [], laidByText := true, laidKinds := [.data], laidTests := true, laidLooks := .later }
def ErasureFrameUptoCardSaid : Prop := Claim7.holds Tryd.pinned (.plain (OpenSpec.upto erasureFrameSpec)) erasureFrameUptoCard

/-- THE SECOND FORM's CARD OF 'longlinerlaw06.ErasureRoots'. -/
def erasureRootsUptoCard : Claim7 := { stood := { row := erasureRootsUptoRow, standIns := [], harness := (true, "92b18111d9a86596afe646b2e779c6765a6613db96d76a85e7e479ad3ab2eb08"), looks := false }, kinds := [], alts := [], laidByText := true, laidKinds := [.data], laidTests := true, laidLooks := .later }
def ErasureRootsUptoCardSaid : Prop := Claim7.holds Tryd.pinned (.plain (OpenSpec.upto erasureRootsSpec)) erasureRootsUptoCard

/-- THE SECOND FORM's CARD OF 'longlinerlaw06.ErasureRefuses'. -/
def erasureRefusesUptoCard : Claim7 := { stood := { row := erasureRefusesUptoRow, standIns := [], harness := (true, "92b18111d9a86596afe646b2e779c6765a6613db96d76a85e7e479ad3ab2eb08"), looks := false }, kinds := [], alts := [], laidByText := true, laidKinds := [.data], laidTests := true, laidLooks := .later }
def ErasureRefusesUptoCardSaid : Prop := Claim7.holds Tryd.pinned (.plain (OpenSpec.upto erasureRefusesSpec)) erasureRefusesUptoCard
end Rows
end Go.Proofs.YtajfmhiejipaoaaDoor
