/-
  The reference implementation of layer 2: Left.
-/
import Derived.Test.YtajfmhiejipaoaaDoorBase
import Derived.Test.YtajfmhiejipaoaaDoorTr
namespace Go.Proofs.YtajfmhiejipaoaaDoor
open Go.RowKit Bs

set_option maxHeartbeats 400000 in
theorem refLeft_any (n : Nat) (w : World) (h : 2 ≤ n) (hn : n ≤ 9223372036854775807) :
    Calls Tryd.prog 56 #[.int .i64 (n : Int)] w fun e w' => e = .returned (.int .i64 (Tr.lft n : Nat)) ∧ w = w' := by
  go_enter Tryd.func56, Tryd.ntmps56
  go_wp2_with fail
  go_loop [3] (fun k => ∃ (j m : Nat), k = .int .i64 m ∧ m = 2 ^ j ∧ m < n) (fun k => n - (intOf k).toNat)
  case atStart => exact ⟨0, 1, rfl, rfl, by omega⟩
  case round =>
    obtain ⟨j, m, rfl, hm, hlt⟩ := hrel
    have Hm := Lib.hid hm
    have h1 : 1 ≤ m := by rw [hm]; exact Nat.one_le_two_pow
    clear hm
    by_cases hc : m < n - m
    · go_wp2_with fail
      go_round
      case rel => exact ⟨j + 1, 2 * m, by go_num, by rw [Nat.pow_succ, Hm.out]; omega, by omega⟩
      case measure => simp [intOf]; omega
    · have Hl := Lib.hid (show m = Tr.lft n by rw [Hm.out]; exact Tr.lft_uniq (by rw [← Hm.out]; exact hlt) (by rw [← Hm.out]; omega))
      go_wp2_with fail
      go_ret
      exact ⟨by rw [← Hl.out]; rfl, rfl⟩

end Go.Proofs.YtajfmhiejipaoaaDoor
