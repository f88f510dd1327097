/-
  Package digest: words rotated right.
-/
import Derived.Test.YtajfmhiejipaoaaDoorRsh
namespace Go.Proofs.YtajfmhiejipaoaaDoor
open Go.RowKit Bs

theorem and31 (n m : Nat) (h1 : 1 ≤ n) (hm : n + m = 32) (h2 : 1 ≤ m) : bits .and .u64 (IntKind.u64.wrap (-(n : Int))) 31 = (m : Int) := by
  have e : IntKind.u64.wrap (-(n : Int)) = ((18446744073709551616 - n : Nat) : Int) := by rw [IntKind.wrap_u64]; omega
  rw [e]
  show IntKind.u64.wrap ((BitVec.ofInt 64 ((18446744073709551616 - n : Nat) : Int) &&& BitVec.ofInt 64 (31 : Int)).toNat : Int) = _
  rw [BitVec.toNat_and, BitVec.ofInt_natCast, BitVec.toNat_ofNat, show (31 : Int) = ((31 : Nat) : Int) from rfl, BitVec.ofInt_natCast, BitVec.toNat_ofNat, Nat.mod_eq_of_lt (show 18446744073709551616 - n < 2 ^ 64 by omega),
    show 31 % 2 ^ 64 = 2 ^ 5 - 1 from rfl, Nat.and_two_pow_sub_one_eq_mod, IntKind.wrap_u64]
  omega
set_option maxHeartbeats 400000 in
theorem RotL_any (x n m : Nat) (w : World) (hx : x < 4294967296) (h1 : 1 ≤ n) (hm : n + m = 32) (h2 : 1 ≤ m) :
    Calls Tryd.prog 108 #[.int .u32 (x : Int), .int .i64 (-(n : Int))] w fun e w' => e = .returned (.int .u32 (Sha.rot x n : Nat)) ∧ w = w' := by
  have ha := and31 n m h1 hm h2
  have hr : bits .or .u32 ((x : Int) * 2 ^ m % 4294967296) ((x : Int) / 2 ^ (32 - m)) = (Sha.rot x n : Nat) := by
    have e1 : ((x : Int) / 2 ^ (32 - m)) = ((x / 2 ^ n : Nat) : Int) := by rw [show 32 - m = n by omega]; simp
    have e2 : ((x : Int) * 2 ^ m % 4294967296) = ((x * 2 ^ (32 - n) % Sha.M : Nat) : Int) := by rw [show 32 - n = m by omega]; simp [Sha.M]
    rw [e1, e2, or_w (x * 2 ^ (32 - n) % Sha.M) (x / 2 ^ n) (Nat.mod_lt _ (show 0 < Sha.M by decide)) (Nat.lt_of_le_of_lt (Nat.div_le_self _ _) hx), Nat.or_comm]
    rfl
  have hl := rot_lt x n hx
  have hm1 : min m 32 = m := by omega
  have hm2 : min (IntKind.u64.wrap (32 - (m : Int))).toNat 32 = 32 - m := by rw [IntKind.wrap_u64]; omega
  have HR := Lib.hid (show bits .or .u32 ((x : Int) * 2 ^ min m 32 % 4294967296) ((x : Int) / 2 ^ min (IntKind.u64.wrap (32 - (m : Int))).toNat 32) = (Sha.rot x n : Nat) by rw [hm1, hm2]; exact hr)
  clear hm hm1 hm2 hr
  go_enter Tryd.func108, Tryd.ntmps108
  go_wp2_with fail
  go_ret
  exact ⟨congrArg (fun i => Ending.returned (.int .u32 i)) HR.out, rfl⟩
theorem right_any (x n m : Nat) (w : World) (hx : x < 4294967296) (h1 : 1 ≤ n) (hm : n + m = 32) (h2 : 1 ≤ m) :
    Calls Tryd.prog 105 #[.int .u32 (x : Int), .int .i64 (n : Int)] w fun e w' => e = .returned (.int .u32 (Sha.rot x n : Nat)) ∧ w = w' := by
  go_enter Tryd.func105, Tryd.ntmps105
  go_wp2_with fail
  refine (RotL_any x n m _ hx h1 hm h2).mono ?_
  rintro e w' ⟨rfl, rfl⟩
  go_wp2_with fail
  go_ret
  exact ⟨rfl, rfl⟩
/-- for whatever the walk turns by whatever amount -/
theorem right_g (x : Nat) (N : Int) (w : World) (hx : x < 4294967296) (h : 1 ≤ N ∧ N ≤ 31) :
    Calls Tryd.prog 105 #[.int .u32 (x : Int), .int .i64 N] w fun e w' => e = .returned (.int .u32 (rotI (x : Int) N)) ∧ w = w' := by
  obtain ⟨n, rfl⟩ := Int.eq_ofNat_of_zero_le (show 0 ≤ N by omega)
  rw [rotI_is x n _ rfl _ rfl]
  exact right_any x n (32 - n) w hx (by omega) (by omega) (by omega)

end Go.Proofs.YtajfmhiejipaoaaDoor
