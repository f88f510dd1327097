/-
  NARROWER THAN 'FOR EVERY INPUT', by the rows' own cells (each row's printed sentence says how): ErasureMatchesReference: laid · ErasureField: laid · ErasureRecovers: laid · ErasureDistance: laid · ErasureDetects: laid · ErasureFrame: laid · ErasureRoots: laid · ErasureRefuses: laid.
  DERIVED. THE GIVEN ROWS OF THIS SEAT. 8 by the template 'for every input the law returns true; each argument reads behind the call as it read before'; 0 by the template 'total and deterministic' (their statements: YtajfmhiejipaoaaDoorTotals.lean).
  GIVEN WITH THE SEED: the statements are not yours to turn. If you find one false, say at which input.
  Laid BY PROGRAM, IN A SANDBOX (cutbox-rows.mjs): the forced cells as the released guide's own fill.sh prints them over the translation bdb7df25a75b0edc… (all of the seat's roots in one cut). By AI agents, Wed Nov 11 2026. No macro, syntax, notation, axiom, sorry.
-/
import Derived.Test.YtajfmhiejipaoaaDoorChecked
import GoSem.Claim
import GoSem.ClaimJoined
import GoSem.ClaimMapViews
import Derived.JoinedTies
import Derived.KernelRfl
namespace Go.Proofs.YtajfmhiejipaoaaDoor
/- THE CELL 'sum', in the pinned program and in every row, IS THE sha256 OF THE DUMP (.gsa) THAT YtajfmhiejipaoaaDoorProg.lean LOADS. Nothing in Lean hashes anything: it is a label: what it is worth is what the hold of that sum in a sandbox is worth. -/
noncomputable def Tryd.pinned : Pinned := { name := "ytajfmhiejipaoaadoor", sum := "bdb7df25a75b0edc1c9d8a92fea5d99e767b4a7d971c6eff337f9d6b14de27cb", checked := Tryd.checked }
namespace Rows
def none {H : Type} : Left H := { results := [], args := [] }

/- WHAT THE LISTED PACKAGE-LEVEL VARIABLES READ AS WHEN THE CALL BEGINS. Each datum BY PROGRAM (the guide's laid-datum.mjs) off the statement by which the dump's own 'gosem.cut.vars' lays the variable. In a bare row this is a premise. The card (YtajfmhiejipaoaaDoorCards.lean) ties it to the program's text. -/
def laid_longliner_digest_rounds {H : Type} : DataW H := .agg [.lit (.int .u32 1116352408), .lit (.int .u32 1899447441), .lit (.int .u32 3049323471), .lit (.int .u32 3921009573), .lit (.int .u32 961987163), .lit (.int .u32 1508970993), .lit (.int .u32 2453635748), .lit (.int .u32 2870763221), .lit (.int .u32 3624381080), .lit (.int .u32 310598401), .lit (.int .u32 607225278), .lit (.int .u32 1426881987), .lit (.int .u32 1925078388), .lit (.int .u32 2162078206), .lit (.int .u32 2614888103), .lit (.int .u32 3248222580), .lit (.int .u32 3835390401), .lit (.int .u32 4022224774), .lit (.int .u32 264347078), .lit (.int .u32 604807628), .lit (.int .u32 770255983), .lit (.int .u32 1249150122), .lit (.int .u32 1555081692), .lit (.int .u32 1996064986), .lit (.int .u32 2554220882), .lit (.int .u32 2821834349), .lit (.int .u32 2952996808), .lit (.int .u32 3210313671), .lit (.int .u32 3336571891), .lit (.int .u32 3584528711), .lit (.int .u32 113926993), .lit (.int .u32 338241895), .lit (.int .u32 666307205), .lit (.int .u32 773529912), .lit (.int .u32 1294757372), .lit (.int .u32 1396182291), .lit (.int .u32 1695183700), .lit (.int .u32 1986661051), .lit (.int .u32 2177026350), .lit (.int .u32 2456956037), .lit (.int .u32 2730485921), .lit (.int .u32 2820302411), .lit (.int .u32 3259730800), .lit (.int .u32 3345764771), .lit (.int .u32 3516065817), .lit (.int .u32 3600352804), .lit (.int .u32 4094571909), .lit (.int .u32 275423344), .lit (.int .u32 430227734), .lit (.int .u32 506948616), .lit (.int .u32 659060556), .lit (.int .u32 883997877), .lit (.int .u32 958139571), .lit (.int .u32 1322822218), .lit (.int .u32 1537002063), .lit (.int .u32 1747873779), .lit (.int .u32 1955562222), .lit (.int .u32 2024104815), .lit (.int .u32 2227730452), .lit (.int .u32 2361852424), .lit (.int .u32 2428436474), .lit (.int .u32 2756734187), .lit (.int .u32 3204031479), .lit (.int .u32 3329325298)]

/-- 'longlinerlaw06.ErasureMatchesReference': WHATEVER THE INPUT: true; the input reads as it did. -/
def erasureMatchesReferenceSpec : ChangeSpec := { name := "erasureMatchesReference", fn := fun _ => fun
  | [d1, d2, d3, d4, d5, d6, d7, d8, d9, d10] => { results := [.lit (.bool true)], args := [d1, d2, d3, d4, d5, d6, d7, d8, d9, d10] }
  | _ => none }
def erasureMatchesReferenceRow : OpenClaim := { program := "ytajfmhiejipaoaadoor", sum := "bdb7df25a75b0edc1c9d8a92fea5d99e767b4a7d971c6eff337f9d6b14de27cb", func := "longliner/longlinerlaw06.ErasureMatchesReference", spec := "erasureMatchesReference", inPlace := ["internal/abi.NoEscape", "internal/bytealg.MakeNoZero"], unfollowed := true, recurses := true, named := ["longliner/digest.rounds"], apart := false, laid := [("longliner/digest.rounds", laid_longliner_digest_rounds)] }
def ErasureMatchesReferenceSaid : Prop := erasureMatchesReferenceRow.holds Tryd.pinned (OpenSpec.ofChange erasureMatchesReferenceSpec)

/-- ITS FALSE NEIGHBOUR: 'it returns false'. Refute it at one input. -/
def erasureMatchesReferenceWrong : ChangeSpec := { name := "erasureMatchesReference", fn := fun _ => fun
  | [d1, d2, d3, d4, d5, d6, d7, d8, d9, d10] => { results := [.lit (.bool false)], args := [d1, d2, d3, d4, d5, d6, d7, d8, d9, d10] }
  | _ => none }
def ErasureMatchesReferenceWrongFalsely : Prop := erasureMatchesReferenceRow.holds Tryd.pinned (OpenSpec.ofChange erasureMatchesReferenceWrong)

/-- 'longlinerlaw06.ErasureField': WHATEVER THE INPUT: true; the input reads as it did. -/
def erasureFieldSpec : ChangeSpec := { name := "erasureField", fn := fun _ => fun
  | [d1, d2, d3, d4] => { results := [.lit (.bool true)], args := [d1, d2, d3, d4] }
  | _ => none }
def erasureFieldRow : OpenClaim := { program := "ytajfmhiejipaoaadoor", sum := "bdb7df25a75b0edc1c9d8a92fea5d99e767b4a7d971c6eff337f9d6b14de27cb", func := "longliner/longlinerlaw06.ErasureField", spec := "erasureField", inPlace := ["internal/abi.NoEscape", "internal/bytealg.MakeNoZero"], unfollowed := true, recurses := true, named := ["longliner/digest.rounds"], apart := false, laid := [("longliner/digest.rounds", laid_longliner_digest_rounds)] }
def ErasureFieldSaid : Prop := erasureFieldRow.holds Tryd.pinned (OpenSpec.ofChange erasureFieldSpec)

/-- ITS FALSE NEIGHBOUR: 'it returns false'. Refute it at one input. -/
def erasureFieldWrong : ChangeSpec := { name := "erasureField", fn := fun _ => fun
  | [d1, d2, d3, d4] => { results := [.lit (.bool false)], args := [d1, d2, d3, d4] }
  | _ => none }
def ErasureFieldWrongFalsely : Prop := erasureFieldRow.holds Tryd.pinned (OpenSpec.ofChange erasureFieldWrong)

/-- 'longlinerlaw06.ErasureRecovers': WHATEVER THE INPUT: true; the input reads as it did. -/
def erasureRecoversSpec : ChangeSpec := { name := "erasureRecovers", fn := fun _ => fun
  | [d1, d2, d3, d4, d5] => { results := [.lit (.bool true)], args := [d1, d2, d3, d4, d5] }
  | _ => none }
def erasureRecoversRow : OpenClaim := { program := "ytajfmhiejipaoaadoor", sum := "bdb7df25a75b0edc1c9d8a92fea5d99e767b4a7d971c6eff337f9d6b14de27cb", func := "longliner/longlinerlaw06.ErasureRecovers", spec := "erasureRecovers", inPlace := ["internal/abi.NoEscape", "internal/bytealg.MakeNoZero"], unfollowed := true, recurses := true, named := ["longliner/digest.rounds"], apart := false, laid := [("longliner/digest.rounds", laid_longliner_digest_rounds)] }
def ErasureRecoversSaid : Prop := erasureRecoversRow.holds Tryd.pinned (OpenSpec.ofChange erasureRecoversSpec)

/-- ITS FALSE NEIGHBOUR: 'it returns false'. Refute it at one input. -/
def erasureRecoversWrong : ChangeSpec := { name := "erasureRecovers", fn := fun _ => fun
  | [d1, d2, d3, d4, d5] => { results := [.lit (.bool false)], args := [d1, d2, d3, d4, d5] }
  | _ => none }
def ErasureRecoversWrongFalsely : Prop := erasureRecoversRow.holds Tryd.pinned (OpenSpec.ofChange erasureRecoversWrong)

/-- 'longlinerlaw06.ErasureDistance': WHATEVER THE INPUT: true; the input reads as it did. -/
def erasureDistanceSpec : ChangeSpec := { name := "erasureDistance", fn := fun _ => fun
  | [d1, d2, d3, d4, d5, d6] => { results := [.lit (.bool true)], args := [d1, d2, d3, d4, d5, d6] }
  | _ => none }
def erasureDistanceRow : OpenClaim := { program := "ytajfmhiejipaoaadoor", sum := "bdb7df25a75b0edc1c9d8a92fea5d99e767b4a7d971c6eff337f9d6b14de27cb", func := "longliner/longlinerlaw06.ErasureDistance", spec := "erasureDistance", inPlace := ["internal/abi.NoEscape", "internal/bytealg.MakeNoZero"], unfollowed := true, recurses := true, named := ["longliner/digest.rounds"], apart := false, laid := [("longliner/digest.rounds", laid_longliner_digest_rounds)] }
def ErasureDistanceSaid : Prop := erasureDistanceRow.holds Tryd.pinned (OpenSpec.ofChange erasureDistanceSpec)

/-- ITS FALSE NEIGHBOUR: 'it returns false'. Refute it at one input. -/
def erasureDistanceWrong : ChangeSpec := { name := "erasureDistance", fn := fun _ => fun
  | [d1, d2, d3, d4, d5, d6] => { results := [.lit (.bool false)], args := [d1, d2, d3, d4, d5, d6] }
  | _ => none }
def ErasureDistanceWrongFalsely : Prop := erasureDistanceRow.holds Tryd.pinned (OpenSpec.ofChange erasureDistanceWrong)

/-- 'longlinerlaw06.ErasureDetects': WHATEVER THE INPUT: true; the input reads as it did. -/
def erasureDetectsSpec : ChangeSpec := { name := "erasureDetects", fn := fun _ => fun
  | [d1, d2, d3, d4, d5, d6, d7, d8] => { results := [.lit (.bool true)], args := [d1, d2, d3, d4, d5, d6, d7, d8] }
  | _ => none }
def erasureDetectsRow : OpenClaim := { program := "ytajfmhiejipaoaadoor", sum := "bdb7df25a75b0edc1c9d8a92fea5d99e767b4a7d971c6eff337f9d6b14de27cb", func := "longliner/longlinerlaw06.ErasureDetects", spec := "erasureDetects", inPlace := ["internal/abi.NoEscape", "internal/bytealg.MakeNoZero"], unfollowed := true, recurses := true, named := ["longliner/digest.rounds"], apart := false, laid := [("longliner/digest.rounds", laid_longliner_digest_rounds)] }
def ErasureDetectsSaid : Prop := erasureDetectsRow.holds Tryd.pinned (OpenSpec.ofChange erasureDetectsSpec)

/-- ITS FALSE NEIGHBOUR: 'it returns false'. Refute it at one input. -/
def erasureDetectsWrong : ChangeSpec := { name := "erasureDetects", fn := fun _ => fun
  | [d1, d2, d3, d4, d5, d6, d7, d8] => { results := [.lit (.bool false)], args := [d1, d2, d3, d4, d5, d6, d7, d8] }
  | _ => none }
def ErasureDetectsWrongFalsely : Prop := erasureDetectsRow.holds Tryd.pinned (OpenSpec.ofChange erasureDetectsWrong)

/-- 'longlinerlaw06.ErasureFrame': WHATEVER THE INPUT: true; the input reads as it did. -/
def erasureFrameSpec : ChangeSpec := { name := "erasureFrame", fn := fun _ => fun
  | [d1, d2, d3] => { results := [.lit (.bool true)], args := [d1, d2, d3] }
  | _ => none }
def erasureFrameRow : OpenClaim := { program := "ytajfmhiejipaoaadoor", sum := "bdb7df25a75b0edc1c9d8a92fea5d99e767b4a7d971c6eff337f9d6b14de27cb", func := "longliner/longlinerlaw06.ErasureFrame", spec := "erasureFrame", inPlace := ["internal/abi.NoEscape", "internal/bytealg.MakeNoZero"], unfollowed := true, recurses := true, named := ["longliner/digest.rounds"], apart := false, laid := [("longliner/digest.rounds", laid_longliner_digest_rounds)] }
def ErasureFrameSaid : Prop := erasureFrameRow.holds Tryd.pinned (OpenSpec.ofChange erasureFrameSpec)

/-- ITS FALSE NEIGHBOUR: 'it returns false'. Refute it at one input. -/
def erasureFrameWrong : ChangeSpec := { name := "erasureFrame", fn := fun _ => fun
  | [d1, d2, d3] => { results := [.lit (.bool false)], args := [d1, d2, d3] }
  | _ => none }
def ErasureFrameWrongFalsely : Prop := erasureFrameRow.holds Tryd.pinned (OpenSpec.ofChange erasureFrameWrong)

/-- 'longlinerlaw06.ErasureRoots': WHATEVER THE INPUT: true; the input reads as it did. -/
def erasureRootsSpec : ChangeSpec := { name := "erasureRoots", fn := fun _ => fun
  | [d1, d2, d3, d4] => { results := [.lit (.bool true)], args := [d1, d2, d3, d4] }
  | _ => none }
def erasureRootsRow : OpenClaim := { program := "ytajfmhiejipaoaadoor", sum := "bdb7df25a75b0edc1c9d8a92fea5d99e767b4a7d971c6eff337f9d6b14de27cb", func := "longliner/longlinerlaw06.ErasureRoots", spec := "erasureRoots", inPlace := ["internal/abi.NoEscape", "internal/bytealg.MakeNoZero"], unfollowed := true, recurses := true, named := ["longliner/digest.rounds"], apart := false, laid := [("longliner/digest.rounds", laid_longliner_digest_rounds)] }
def ErasureRootsSaid : Prop := erasureRootsRow.holds Tryd.pinned (OpenSpec.ofChange erasureRootsSpec)

/-- ITS FALSE NEIGHBOUR: 'it returns false'. Refute it at one input. -/
def erasureRootsWrong : ChangeSpec := { name := "erasureRoots", fn := fun _ => fun
  | [d1, d2, d3, d4] => { results := [.lit (.bool false)], args := [d1, d2, d3, d4] }
  | _ => none }
def ErasureRootsWrongFalsely : Prop := erasureRootsRow.holds Tryd.pinned (OpenSpec.ofChange erasureRootsWrong)

/-- 'longlinerlaw06.ErasureRefuses': WHATEVER THE INPUT: true; the input reads as it did. -/
def erasureRefusesSpec : ChangeSpec := { name := "erasureRefuses", fn := fun _ => fun
  | [d1, d2, d3, d4, d5] => { results := [.lit (.bool true)], args := [d1, d2, d3, d4, d5] }
  | _ => none }
def erasureRefusesRow : OpenClaim := { program := "ytajfmhiejipaoaadoor", sum := "bdb7df25a75b0edc1c9d8a92fea5d99e767b4a7d971c6eff337f9d6b14de27cb", func := "longliner/longlinerlaw06.ErasureRefuses", spec := "erasureRefuses", inPlace := ["internal/abi.NoEscape", "internal/bytealg.MakeNoZero"], unfollowed := true, recurses := true, named := ["longliner/digest.rounds"], apart := false, laid := [("longliner/digest.rounds", laid_longliner_digest_rounds)] }
def ErasureRefusesSaid : Prop := erasureRefusesRow.holds Tryd.pinned (OpenSpec.ofChange erasureRefusesSpec)

/-- ITS FALSE NEIGHBOUR: 'it returns false'. Refute it at one input. -/
def erasureRefusesWrong : ChangeSpec := { name := "erasureRefuses", fn := fun _ => fun
  | [d1, d2, d3, d4, d5] => { results := [.lit (.bool false)], args := [d1, d2, d3, d4, d5] }
  | _ => none }
def ErasureRefusesWrongFalsely : Prop := erasureRefusesRow.holds Tryd.pinned (OpenSpec.ofChange erasureRefusesWrong)

/- THE SECOND FORM. 'bulk': how many values and letters a reading holds, each counted each time it is reached (what is shared counts as often as it is met; a slice's spare places count too). A statement '..UptoSaid' is the law's where the arguments, and the package variables that the reading takes, are together of bulk at most 1048576: NARROWER than '..Said'. Prove '..Said' where nothing that the law and all that it calls make is longer than what came in: it says more and counts as full. Else prove '..UptoSaid'. A law counts once. -/
mutual
def uptoBulk {H : Type} : DataW H → Nat
  | .lit (.string bytes) => bytes.length + 1
  | .lit _ => 1
  | .nil => 1
  | .ptr d => uptoBulk d + 1
  | .slice elems spare => uptoBulkAll elems + uptoBulkAll spare + 1
  | .agg parts => uptoBulkAll parts + 1
  | .iface _ d => uptoBulk d + 1
  | .map entries => uptoBulkEntries entries + 1
  | .held _ => 1
def uptoBulkAll {H : Type} : List (DataW H) → Nat
  | [] => 0
  | d :: r => uptoBulk d + uptoBulkAll r
def uptoBulkEntries {H : Type} : List (Lit × DataW H) → Nat
  | [] => 0
  | x :: r => uptoBulkEntry x + uptoBulkEntries r
def uptoBulkEntry {H : Type} : Lit × DataW H → Nat
  | (.string bytes, d) => bytes.length + uptoBulk d + 1
  | (_, d) => uptoBulk d + 1
 end
def uptoSmall : (H : Type) → List (DataW H) → Bool := fun _ ds => decide (uptoBulkAll ds ≤ 1048576)
def OpenSpec.upto (s : _root_.Go.ChangeSpec) : _root_.Go.OpenSpec := { _root_.Go.OpenSpec.ofChange s with cond := some uptoSmall }

/-- 'longlinerlaw06.ErasureMatchesReference', WHERE WHAT IT READS IS OF BULK AT MOST 1048576: true; the input reads as it did. -/
def erasureMatchesReferenceUptoRow : OpenClaim := { program := "ytajfmhiejipaoaadoor", sum := "bdb7df25a75b0edc1c9d8a92fea5d99e767b4a7d971c6eff337f9d6b14de27cb", func := "longliner/longlinerlaw06.ErasureMatchesReference", spec := "erasureMatchesReference", inPlace := ["internal/abi.NoEscape", "internal/bytealg.MakeNoZero"], unfollowed := true, recurses := true, named := ["longliner/digest.rounds"], apart := false, laid := [("longliner/digest.rounds", laid_longliner_digest_rounds)], narrowed := true }
def ErasureMatchesReferenceUptoSaid : Prop := erasureMatchesReferenceUptoRow.holds Tryd.pinned (OpenSpec.upto erasureMatchesReferenceSpec)

/-- 'longlinerlaw06.ErasureField', WHERE WHAT IT READS IS OF BULK AT MOST 1048576: true; the input reads as it did. -/
def erasureFieldUptoRow : OpenClaim := { program := "ytajfmhiejipaoaadoor", sum := "bdb7df25a75b0edc1c9d8a92fea5d99e767b4a7d971c6eff337f9d6b14de27cb", func := "longliner/longlinerlaw06.ErasureField", spec := "erasureField", inPlace := ["internal/abi.NoEscape", "internal/bytealg.MakeNoZero"], unfollowed := true, recurses := true, named := ["longliner/digest.rounds"], apart := false, laid := [("longliner/digest.rounds", laid_longliner_digest_rounds)], narrowed := true }
def ErasureFieldUptoSaid : Prop := erasureFieldUptoRow.holds Tryd.pinned (OpenSpec.upto erasureFieldSpec)

/-- 'longlinerlaw06.ErasureRecovers', WHERE WHAT IT READS IS OF BULK AT MOST 1048576: true; the input reads as it did. -/
def erasureRecoversUptoRow : OpenClaim := { program := "ytajfmhiejipaoaadoor", sum := "bdb7df25a75b0edc1c9d8a92fea5d99e767b4a7d971c6eff337f9d6b14de27cb", func := "longliner/longlinerlaw06.ErasureRecovers", spec := "erasureRecovers", inPlace := ["internal/abi.NoEscape", "internal/bytealg.MakeNoZero"], unfollowed := true, recurses := true, named := ["longliner/digest.rounds"], apart := false, laid := [("longliner/digest.rounds", laid_longliner_digest_rounds)], narrowed := true }
def ErasureRecoversUptoSaid : Prop := erasureRecoversUptoRow.holds Tryd.pinned (OpenSpec.upto erasureRecoversSpec)

/-- 'longlinerlaw06.ErasureDistance', WHERE WHAT IT READS IS OF BULK AT MOST 1048576: true; the input reads as it did. -/
def erasureDistanceUptoRow : OpenClaim := { program := "ytajfmhiejipaoaadoor", sum := "bdb7df25a75b0edc1c9d8a92fea5d99e767b4a7d971c6eff337f9d6b14de27cb", func := "longliner/longlinerlaw06.ErasureDistance", spec := "erasureDistance", inPlace := ["internal/abi.NoEscape", "internal/bytealg.MakeNoZero"], unfollowed := true, recurses := true, named := ["longliner/digest.rounds"], apart := false, laid := [("longliner/digest.rounds", laid_longliner_digest_rounds)], narrowed := true }
def ErasureDistanceUptoSaid : Prop := erasureDistanceUptoRow.holds Tryd.pinned (OpenSpec.upto erasureDistanceSpec)

/-- 'longlinerlaw06.ErasureDetects', WHERE WHAT IT READS IS OF BULK AT MOST 1048576: true; the input reads as it did. -/
def erasureDetectsUptoRow : OpenClaim := { program := "ytajfmhiejipaoaadoor", sum := "bdb7df25a75b0edc1c9d8a92fea5d99e767b4a7d971c6eff337f9d6b14de27cb", func := "longliner/longlinerlaw06.ErasureDetects", spec := "erasureDetects", inPlace := ["internal/abi.NoEscape", "internal/bytealg.MakeNoZero"], unfollowed := true, recurses := true, named := ["longliner/digest.rounds"], apart := false, laid := [("longliner/digest.rounds", laid_longliner_digest_rounds)], narrowed := true }
def ErasureDetectsUptoSaid : Prop := erasureDetectsUptoRow.holds Tryd.pinned (OpenSpec.upto erasureDetectsSpec)

/-- 'longlinerlaw06.ErasureFrame', WHERE WHAT IT READS IS OF BULK AT MOST 1048576: true; the input reads as it did. -/
def erasureFrameUptoRow : OpenClaim := { program := "ytajfmhiejipaoaadoor", sum := "bdb7df25a75b0edc1c9d8a92fea5d99e767b4a7d971c6eff337f9d6b14de27cb", func := "longliner/longlinerlaw06.ErasureFrame", spec := "erasureFrame", inPlace := ["internal/abi.NoEscape", "internal/bytealg.MakeNoZero"], unfollowed := true, recurses := true, named := ["longliner/digest.rounds"], apart := false, laid := [("longliner/digest.rounds", laid_longliner_digest_rounds)], narrowed := true }
def ErasureFrameUptoSaid : Prop := erasureFrameUptoRow.holds Tryd.pinned (OpenSpec.upto erasureFrameSpec)

/-- 'longlinerlaw06.ErasureRoots', WHERE WHAT IT READS IS OF BULK AT MOST 1048576: true; the input reads as it did. -/
def erasureRootsUptoRow : OpenClaim := { program := "ytajfmhiejipaoaadoor", sum := "bdb7df25a75b0edc1c9d8a92fea5d99e767b4a7d971c6eff337f9d6b14de27cb", func := "longliner/longlinerlaw06.ErasureRoots", spec := "erasureRoots", inPlace := ["internal/abi.NoEscape", "internal/bytealg.MakeNoZero"], unfollowed := true, recurses := true, named := ["longliner/digest.rounds"], apart := false, laid := [("longliner/digest.rounds", laid_longliner_digest_rounds)], narrowed := true }
def ErasureRootsUptoSaid : Prop := erasureRootsUptoRow.holds Tryd.pinned (OpenSpec.upto erasureRootsSpec)

/-- 'longlinerlaw06.ErasureRefuses', WHERE WHAT IT READS IS OF BULK AT MOST 1048576: true; the input reads as it did. -/
def erasureRefusesUptoRow : OpenClaim := { program := "ytajfmhiejipaoaadoor", sum := "bdb7df25a75b0edc1c9d8a92fea5d99e767b4a7d971c6eff337f9d6b14de27cb", func := "longliner/longlinerlaw06.ErasureRefuses", spec := "erasureRefuses", inPlace := ["internal/abi.NoEscape", "internal/bytealg.MakeNoZero"], unfollowed := true, recurses := true, named := ["longliner/digest.rounds"], apart := false, laid := [("longliner/digest.rounds", laid_longliner_digest_rounds)], narrowed := true }
def ErasureRefusesUptoSaid : Prop := erasureRefusesUptoRow.holds Tryd.pinned (OpenSpec.upto erasureRefusesSpec)

end Rows
end Go.Proofs.YtajfmhiejipaoaaDoor
