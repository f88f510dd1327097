/-
  No cell of these rows narrows 'for every input' (looked for: loops, veiled, ifaces, maps, wideKeys, modest, calm, conditions, laid).
  DERIVED. THE GIVEN ROWS OF THIS SEAT. 7 by the template 'for every input the law returns true; each argument reads behind the call as it read before'; 0 by the template 'total and deterministic' (their statements: YtnploljhikljfaaTotals.lean).
  GIVEN WITH THE SEED: the statements are not yours to turn. If you find one false, say at which input.
  Laid BY PROGRAM, IN A SANDBOX (cutbox-rows.mjs): the forced cells as the released guide's own fill.sh prints them over the translation 62cd58c116ef8fd1… (all of the seat's roots in one cut). By AI agents, Wed Nov 11 2026. No macro, syntax, notation, axiom, sorry.
-/
import Derived.Test.YtnploljhikljfaaChecked
import GoSem.Claim
import GoSem.ClaimJoined
import GoSem.ClaimMapViews
import Derived.JoinedTies
import Derived.KernelRfl
namespace Go.Proofs.Ytnploljhikljfaa
/- THE CELL 'sum', in the pinned program and in every row, IS THE sha256 OF THE DUMP (.gsa) THAT YtnploljhikljfaaProg.lean LOADS. Nothing in Lean hashes anything: it is a label: what it is worth is what the hold of that sum in a sandbox is worth. -/
noncomputable def Try.pinned : Pinned := { name := "ytnploljhikljfaa", sum := "62cd58c116ef8fd1adc7cb43f57de4ae992ad4b7b7157a6c3b33e922e959b248", checked := Try.checked }
namespace Rows
def none {H : Type} : Left H := { results := [], args := [] }

/-- 'longlinerlaw07.PackMatchesReference': WHATEVER THE INPUT: true; the input reads as it did. -/
def packMatchesReferenceSpec : ChangeSpec := { name := "packMatchesReference", fn := fun _ => fun
  | [d1, d2, d3, d4] => { results := [.lit (.bool true)], args := [d1, d2, d3, d4] }
  | _ => none }
def packMatchesReferenceRow : OpenClaim := { program := "ytnploljhikljfaa", sum := "62cd58c116ef8fd1adc7cb43f57de4ae992ad4b7b7157a6c3b33e922e959b248", func := "longliner/longlinerlaw07.PackMatchesReference", spec := "packMatchesReference", unfollowed := true, recurses := true, apart := false }
def PackMatchesReferenceSaid : Prop := packMatchesReferenceRow.holds Try.pinned (OpenSpec.ofChange packMatchesReferenceSpec)

/-- ITS FALSE NEIGHBOUR: 'it returns false'. Refute it at one input. -/
def packMatchesReferenceWrong : ChangeSpec := { name := "packMatchesReference", fn := fun _ => fun
  | [d1, d2, d3, d4] => { results := [.lit (.bool false)], args := [d1, d2, d3, d4] }
  | _ => none }
def PackMatchesReferenceWrongFalsely : Prop := packMatchesReferenceRow.holds Try.pinned (OpenSpec.ofChange packMatchesReferenceWrong)

/-- 'longlinerlaw07.PackLimits': WHATEVER THE INPUT: true; the input reads as it did. -/
def packLimitsSpec : ChangeSpec := { name := "packLimits", fn := fun _ => fun
  | [d1, d2] => { results := [.lit (.bool true)], args := [d1, d2] }
  | _ => none }
def packLimitsRow : OpenClaim := { program := "ytnploljhikljfaa", sum := "62cd58c116ef8fd1adc7cb43f57de4ae992ad4b7b7157a6c3b33e922e959b248", func := "longliner/longlinerlaw07.PackLimits", spec := "packLimits", unfollowed := true, recurses := true, apart := false }
def PackLimitsSaid : Prop := packLimitsRow.holds Try.pinned (OpenSpec.ofChange packLimitsSpec)

/-- ITS FALSE NEIGHBOUR: 'it returns false'. Refute it at one input. -/
def packLimitsWrong : ChangeSpec := { name := "packLimits", fn := fun _ => fun
  | [d1, d2] => { results := [.lit (.bool false)], args := [d1, d2] }
  | _ => none }
def PackLimitsWrongFalsely : Prop := packLimitsRow.holds Try.pinned (OpenSpec.ofChange packLimitsWrong)

/-- 'longlinerlaw07.PackRoundTrip': WHATEVER THE INPUT: true; the input reads as it did. -/
def packRoundTripSpec : ChangeSpec := { name := "packRoundTrip", fn := fun _ => fun
  | [d1, d2, d3, d4] => { results := [.lit (.bool true)], args := [d1, d2, d3, d4] }
  | _ => none }
def packRoundTripRow : OpenClaim := { program := "ytnploljhikljfaa", sum := "62cd58c116ef8fd1adc7cb43f57de4ae992ad4b7b7157a6c3b33e922e959b248", func := "longliner/longlinerlaw07.PackRoundTrip", spec := "packRoundTrip", unfollowed := true, recurses := true, apart := false }
def PackRoundTripSaid : Prop := packRoundTripRow.holds Try.pinned (OpenSpec.ofChange packRoundTripSpec)

/-- ITS FALSE NEIGHBOUR: 'it returns false'. Refute it at one input. -/
def packRoundTripWrong : ChangeSpec := { name := "packRoundTrip", fn := fun _ => fun
  | [d1, d2, d3, d4] => { results := [.lit (.bool false)], args := [d1, d2, d3, d4] }
  | _ => none }
def PackRoundTripWrongFalsely : Prop := packRoundTripRow.holds Try.pinned (OpenSpec.ofChange packRoundTripWrong)

/-- 'longlinerlaw07.PackBounded': WHATEVER THE INPUT: true; the input reads as it did. -/
def packBoundedSpec : ChangeSpec := { name := "packBounded", fn := fun _ => fun
  | [d1, d2] => { results := [.lit (.bool true)], args := [d1, d2] }
  | _ => none }
def packBoundedRow : OpenClaim := { program := "ytnploljhikljfaa", sum := "62cd58c116ef8fd1adc7cb43f57de4ae992ad4b7b7157a6c3b33e922e959b248", func := "longliner/longlinerlaw07.PackBounded", spec := "packBounded", unfollowed := true, recurses := true, apart := false }
def PackBoundedSaid : Prop := packBoundedRow.holds Try.pinned (OpenSpec.ofChange packBoundedSpec)

/-- ITS FALSE NEIGHBOUR: 'it returns false'. Refute it at one input. -/
def packBoundedWrong : ChangeSpec := { name := "packBounded", fn := fun _ => fun
  | [d1, d2] => { results := [.lit (.bool false)], args := [d1, d2] }
  | _ => none }
def PackBoundedWrongFalsely : Prop := packBoundedRow.holds Try.pinned (OpenSpec.ofChange packBoundedWrong)

/-- 'longlinerlaw07.PackRepeats': WHATEVER THE INPUT: true; the input reads as it did. -/
def packRepeatsSpec : ChangeSpec := { name := "packRepeats", fn := fun _ => fun
  | [d1, d2, d3] => { results := [.lit (.bool true)], args := [d1, d2, d3] }
  | _ => none }
def packRepeatsRow : OpenClaim := { program := "ytnploljhikljfaa", sum := "62cd58c116ef8fd1adc7cb43f57de4ae992ad4b7b7157a6c3b33e922e959b248", func := "longliner/longlinerlaw07.PackRepeats", spec := "packRepeats", unfollowed := true, recurses := true, apart := false }
def PackRepeatsSaid : Prop := packRepeatsRow.holds Try.pinned (OpenSpec.ofChange packRepeatsSpec)

/-- ITS FALSE NEIGHBOUR: 'it returns false'. Refute it at one input. -/
def packRepeatsWrong : ChangeSpec := { name := "packRepeats", fn := fun _ => fun
  | [d1, d2, d3] => { results := [.lit (.bool false)], args := [d1, d2, d3] }
  | _ => none }
def PackRepeatsWrongFalsely : Prop := packRepeatsRow.holds Try.pinned (OpenSpec.ofChange packRepeatsWrong)

/-- 'longlinerlaw07.PackPlain': WHATEVER THE INPUT: true; the input reads as it did. -/
def packPlainSpec : ChangeSpec := { name := "packPlain", fn := fun _ => fun
  | [d1, d2, d3] => { results := [.lit (.bool true)], args := [d1, d2, d3] }
  | _ => none }
def packPlainRow : OpenClaim := { program := "ytnploljhikljfaa", sum := "62cd58c116ef8fd1adc7cb43f57de4ae992ad4b7b7157a6c3b33e922e959b248", func := "longliner/longlinerlaw07.PackPlain", spec := "packPlain", unfollowed := true, recurses := true, apart := false }
def PackPlainSaid : Prop := packPlainRow.holds Try.pinned (OpenSpec.ofChange packPlainSpec)

/-- ITS FALSE NEIGHBOUR: 'it returns false'. Refute it at one input. -/
def packPlainWrong : ChangeSpec := { name := "packPlain", fn := fun _ => fun
  | [d1, d2, d3] => { results := [.lit (.bool false)], args := [d1, d2, d3] }
  | _ => none }
def PackPlainWrongFalsely : Prop := packPlainRow.holds Try.pinned (OpenSpec.ofChange packPlainWrong)

/-- 'longlinerlaw07.PackGreedy': WHATEVER THE INPUT: true; the input reads as it did. -/
def packGreedySpec : ChangeSpec := { name := "packGreedy", fn := fun _ => fun
  | [d1, d2] => { results := [.lit (.bool true)], args := [d1, d2] }
  | _ => none }
def packGreedyRow : OpenClaim := { program := "ytnploljhikljfaa", sum := "62cd58c116ef8fd1adc7cb43f57de4ae992ad4b7b7157a6c3b33e922e959b248", func := "longliner/longlinerlaw07.PackGreedy", spec := "packGreedy", unfollowed := true, recurses := true, apart := false }
def PackGreedySaid : Prop := packGreedyRow.holds Try.pinned (OpenSpec.ofChange packGreedySpec)

/-- ITS FALSE NEIGHBOUR: 'it returns false'. Refute it at one input. -/
def packGreedyWrong : ChangeSpec := { name := "packGreedy", fn := fun _ => fun
  | [d1, d2] => { results := [.lit (.bool false)], args := [d1, d2] }
  | _ => none }
def PackGreedyWrongFalsely : Prop := packGreedyRow.holds Try.pinned (OpenSpec.ofChange packGreedyWrong)

/- THE SECOND FORM. 'bulk': how many values and letters a reading holds, each counted each time it is reached (what is shared counts as often as it is met; a slice's spare places count too). A statement '..UptoSaid' is the law's where the arguments, and the package variables that the reading takes, are together of bulk at most 1048576: NARROWER than '..Said'. Prove '..Said' where nothing that the law and all that it calls make is longer than what came in: it says more and counts as full. Else prove '..UptoSaid'. A law counts once. -/
mutual
def uptoBulk {H : Type} : DataW H → Nat
  | .lit (.string bytes) => bytes.length + 1
  | .lit _ => 1
  | .nil => 1
  | .ptr d => uptoBulk d + 1
  | .slice elems spare => uptoBulkAll elems + uptoBulkAll spare + 1
  | .agg parts => uptoBulkAll parts + 1
  | .iface _ d => uptoBulk d + 1
  | .map entries => uptoBulkEntries entries + 1
  | .held _ => 1
def uptoBulkAll {H : Type} : List (DataW H) → Nat
  | [] => 0
  | d :: r => uptoBulk d + uptoBulkAll r
def uptoBulkEntries {H : Type} : List (Lit × DataW H) → Nat
  | [] => 0
  | x :: r => uptoBulkEntry x + uptoBulkEntries r
def uptoBulkEntry {H : Type} : Lit × DataW H → Nat
  | (.string bytes, d) => bytes.length + uptoBulk d + 1
  | (_, d) => uptoBulk d + 1
 end
def uptoSmall : (H : Type) → List (DataW H) → Bool := fun _ ds => decide (uptoBulkAll ds ≤ 1048576)
def OpenSpec.upto (s : _root_.Go.ChangeSpec) : _root_.Go.OpenSpec := { _root_.Go.OpenSpec.ofChange s with cond := some uptoSmall }

/-- 'longlinerlaw07.PackMatchesReference', WHERE WHAT IT READS IS OF BULK AT MOST 1048576: true; the input reads as it did. -/
def packMatchesReferenceUptoRow : OpenClaim := { program := "ytnploljhikljfaa", sum := "62cd58c116ef8fd1adc7cb43f57de4ae992ad4b7b7157a6c3b33e922e959b248", func := "longliner/longlinerlaw07.PackMatchesReference", spec := "packMatchesReference", unfollowed := true, recurses := true, apart := false, narrowed := true }
def PackMatchesReferenceUptoSaid : Prop := packMatchesReferenceUptoRow.holds Try.pinned (OpenSpec.upto packMatchesReferenceSpec)

/-- 'longlinerlaw07.PackLimits', WHERE WHAT IT READS IS OF BULK AT MOST 1048576: true; the input reads as it did. -/
def packLimitsUptoRow : OpenClaim := { program := "ytnploljhikljfaa", sum := "62cd58c116ef8fd1adc7cb43f57de4ae992ad4b7b7157a6c3b33e922e959b248", func := "longliner/longlinerlaw07.PackLimits", spec := "packLimits", unfollowed := true, recurses := true, apart := false, narrowed := true }
def PackLimitsUptoSaid : Prop := packLimitsUptoRow.holds Try.pinned (OpenSpec.upto packLimitsSpec)

/-- 'longlinerlaw07.PackRoundTrip', WHERE WHAT IT READS IS OF BULK AT MOST 1048576: true; the input reads as it did. -/
def packRoundTripUptoRow : OpenClaim := { program := "ytnploljhikljfaa", sum := "62cd58c116ef8fd1adc7cb43f57de4ae992ad4b7b7157a6c3b33e922e959b248", func := "longliner/longlinerlaw07.PackRoundTrip", spec := "packRoundTrip", unfollowed := true, recurses := true, apart := false, narrowed := true }
def PackRoundTripUptoSaid : Prop := packRoundTripUptoRow.holds Try.pinned (OpenSpec.upto packRoundTripSpec)

/-- 'longlinerlaw07.PackBounded', WHERE WHAT IT READS IS OF BULK AT MOST 1048576: true; the input reads as it did. -/
def packBoundedUptoRow : OpenClaim := { program := "ytnploljhikljfaa", sum := "62cd58c116ef8fd1adc7cb43f57de4ae992ad4b7b7157a6c3b33e922e959b248", func := "longliner/longlinerlaw07.PackBounded", spec := "packBounded", unfollowed := true, recurses := true, apart := false, narrowed := true }
def PackBoundedUptoSaid : Prop := packBoundedUptoRow.holds Try.pinned (OpenSpec.upto packBoundedSpec)

/-- 'longlinerlaw07.PackRepeats', WHERE WHAT IT READS IS OF BULK AT MOST 1048576: true; the input reads as it did. -/
def packRepeatsUptoRow : OpenClaim := { program := "ytnploljhikljfaa", sum := "62cd58c116ef8fd1adc7cb43f57de4ae992ad4b7b7157a6c3b33e922e959b248", func := "longliner/longlinerlaw07.PackRepeats", spec := "packRepeats", unfollowed := true, recurses := true, apart := false, narrowed := true }
def PackRepeatsUptoSaid : Prop := packRepeatsUptoRow.holds Try.pinned (OpenSpec.upto packRepeatsSpec)

/-- 'longlinerlaw07.PackPlain', WHERE WHAT IT READS IS OF BULK AT MOST 1048576: true; the input reads as it did. -/
def packPlainUptoRow : OpenClaim := { program := "ytnploljhikljfaa", sum := "62cd58c116ef8fd1adc7cb43f57de4ae992ad4b7b7157a6c3b33e922e959b248", func := "longliner/longlinerlaw07.PackPlain", spec := "packPlain", unfollowed := true, recurses := true, apart := false, narrowed := true }
def PackPlainUptoSaid : Prop := packPlainUptoRow.holds Try.pinned (OpenSpec.upto packPlainSpec)

/-- 'longlinerlaw07.PackGreedy', WHERE WHAT IT READS IS OF BULK AT MOST 1048576: true; the input reads as it did. -/
def packGreedyUptoRow : OpenClaim := { program := "ytnploljhikljfaa", sum := "62cd58c116ef8fd1adc7cb43f57de4ae992ad4b7b7157a6c3b33e922e959b248", func := "longliner/longlinerlaw07.PackGreedy", spec := "packGreedy", unfollowed := true, recurses := true, apart := false, narrowed := true }
def PackGreedyUptoSaid : Prop := packGreedyUptoRow.holds Try.pinned (OpenSpec.upto packGreedySpec)

end Rows
end Go.Proofs.Ytnploljhikljfaa
