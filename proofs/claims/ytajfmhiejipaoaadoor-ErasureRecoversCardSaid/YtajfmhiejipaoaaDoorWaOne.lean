/-
  The leaves of package wire and of the laws: fold, unfold, pick: what each call returns, for every argument in its bounds.
-/
import Derived.Test.YtajfmhiejipaoaaDoorRows
import Derived.Test.YtajfmhiejipaoaaDoorMath
import Derived.WalkKit
import Derived.WalkSpells
import Derived.WalkLawsBesides
namespace Go.Proofs.YtajfmhiejipaoaaDoor
open Go.RowKit

/-- the folded integer -/
def fo (n : Int) : Int := if n < 0 then -2 * n - 1 else 2 * n
theorem fo_bd {n : Int} (h1 : -4611686018427387903 ≤ n) (h2 : n ≤ 4611686018427387903) : 0 ≤ fo n ∧ fo n ≤ 9223372036854775806 := by unfold fo; split <;> omega
/-- its inverse -/
def un (z : Int) : Int := if z % 2 = 1 then - (z / 2) - 1 else z / 2
theorem un_fo (n : Int) : un (fo n) = n := by unfold un fo; split <;> split <;> omega
theorem fo_un {z : Int} (h1 : 0 ≤ z) : fo (un z) = z := by unfold un fo; split <;> split <;> omega
theorem un_bd {z : Int} (h1 : 0 ≤ z) (h2 : z ≤ 9223372036854775806) : -4611686018427387903 ≤ un z ∧ un z ≤ 4611686018427387903 := by unfold un; split <;> omega
/-- the law's own choice of a number below n -/
def pk (c n : Int) : Int := (if c < 0 then - (c + 1) else c) % n
theorem pk_bd (c : Int) {n : Int} (h : 1 ≤ n) : 0 ≤ pk c n ∧ pk c n ≤ n - 1 := by
  unfold pk
  have h1 := Int.emod_nonneg (if c < 0 then - (c + 1) else c) (show n ≠ 0 by omega)
  have h2 := Int.emod_lt_of_pos (if c < 0 then - (c + 1) else c) (show 0 < n by omega)
  omega

set_option maxHeartbeats 400000 in
theorem fold_any (n : Int) (w : World) (h1 : -4611686018427387903 ≤ n) (h2 : n ≤ 4611686018427387903) :
    Calls Tryd.prog 74 #[.int .i64 n] w fun e w' => e = .returned (.int .u64 (fo n)) ∧ w = w' := by
  by_cases h : n < 0
  · have e : fo n = -2 * n - 1 := by unfold fo; rw [if_pos h]
    rw [e]; clear e
    go_enter Tryd.func74, Tryd.ntmps74
    go_wp2
    go_ret
    exact ⟨rfl, rfl⟩
  · have e : fo n = 2 * n := by unfold fo; rw [if_neg h]
    rw [e]; clear e
    go_enter Tryd.func74, Tryd.ntmps74
    go_wp2
    go_ret
    exact ⟨rfl, rfl⟩

set_option maxHeartbeats 400000 in
theorem unfold_any (z : Int) (w : World) (h1 : 0 ≤ z) (h2 : z ≤ 9223372036854775806) :
    Calls Tryd.prog 89 #[.int .u64 z] w fun e w' => e = .returned (.int .i64 (un z)) ∧ w = w' := by
  by_cases h : z % 2 = 1
  · have e : un z = - (z / 2) - 1 := by unfold un; rw [if_pos h]
    rw [e]; clear e
    go_enter Tryd.func89, Tryd.ntmps89
    go_wp2
    go_ret
    exact ⟨rfl, rfl⟩
  · have e : un z = z / 2 := by unfold un; rw [if_neg h]
    rw [e]; clear e
    have h' : (z % 2 == 1) = false := by simpa using h
    clear h
    go_enter Tryd.func89, Tryd.ntmps89
    go_wp2
    go_ret
    exact ⟨rfl, rfl⟩

end Go.Proofs.YtajfmhiejipaoaaDoor
