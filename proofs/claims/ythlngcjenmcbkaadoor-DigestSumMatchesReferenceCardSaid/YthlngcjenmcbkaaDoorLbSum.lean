/-
  The law DigestSumMatchesReference: the walk.
-/
import Derived.Test.YthlngcjenmcbkaaDoorLsa
import Derived.Test.YthlngcjenmcbkaaDoorRlf
namespace Go.Proofs.YthlngcjenmcbkaaDoor
open Go.RowKit Bs

set_option maxRecDepth 100000 in
set_option maxHeartbeats 1000000 in
theorem SumMatches_any (s t : ByteArray) (w : World) (h : KAt w) :
    Calls Tryd.prog 3 #[.string s, .string t] w fun e w' => e = .returned (.bool true) ∧ Below w.heap.size w w' := by
  obtain ⟨m0, a, ⟨m0a, m0b⟩, x0, l0, e0, -⟩ := cut_string s 500
  obtain ⟨m1, b, ⟨m1a, m1b⟩, x1, l1, e1, -⟩ := cut_string t 500
  have r0 := fun w ts ty => min_run (P := Tryd.prog) s.size 500 m0 e0 500 rfl w ts ty
  have r1 := fun w ts ty => min_run (P := Tryd.prog) t.size 500 m1 e1 500 rfl w ts ty
  have ha : a.length ≤ 500 := by omega
  have hb : b.length ≤ 500 := by omega
  clear e0 l0 e1 l1
  have hq : ∀ l, ((bs l).toList == (bs l).toList) = true := fun l => bsEq_true rfl
  go_enter Tryd.func3, Tryd.ntmps3
  go_wp2_with fail
  refine (sane_any _ h).mono ?_
  rintro e w1 ⟨rfl, B1⟩
  go_wp2_with fail
  refine (Sum_any a _ (h.below B1) (by omega)).mono ?_
  rintro e w2 ⟨rfl, b2⟩
  have B2 := below_on B1 b2 B1.size; clear b2 B1
  go_wp2_with fail
  refine (refSum_any2 a _ (by omega)).mono ?_
  rintro e w3 ⟨rfl, b2⟩
  change Below w2.heap.size w2 w3 at b2
  have B3 := below_on B2 b2 B2.size; clear b2 B2
  rw [show ub (Sha.sha (nb a)) = dig a from rfl]
  go_wp2_with fail
  refine (Leaf_any b _ (h.below B3) (by omega)).mono ?_
  rintro e w4 ⟨rfl, b2⟩
  have B4 := below_on B3 b2 B3.size; clear b2 B3
  go_wp2_with fail
  refine (refLeaf_any b _ (by omega)).mono ?_
  rintro e w5 ⟨rfl, b2⟩
  have B5 := below_on B4 b2 B4.size; clear b2 B4
  go_wp2_with fail
  refine (Node_any a b _ (h.below B5) (by omega) (by omega)).mono ?_
  rintro e w6 ⟨rfl, b2⟩
  have B6 := below_on B5 b2 B5.size; clear b2 B5
  go_wp2_with fail
  refine (refNode_any a b _ (by omega) (by omega)).mono ?_
  rintro e w7 ⟨rfl, b2⟩
  have B7 := below_on B6 b2 B6.size; clear b2 B6
  go_wp2_with fail
  refine (Chain_any b a _ (h.below B7) (by omega) (by omega)).mono ?_
  rintro e w8 ⟨rfl, b2⟩
  have B8 := below_on B7 b2 B7.size; clear b2 B7
  go_wp2_with fail
  refine (refChain_any b a _ (by omega) (by omega)).mono ?_
  rintro e w9 ⟨rfl, b2⟩
  have B9 := below_on B8 b2 B8.size; clear b2 B8
  go_wp2_with fail
  go_ret
  exact ⟨rfl, B9⟩

end Go.Proofs.YthlngcjenmcbkaaDoor
