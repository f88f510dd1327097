/-
  Layer 6: Add, Mul and Inverse.
-/
import Derived.Test.YtajfmhiejipaoaaDoorEra
namespace Go.Proofs.YtajfmhiejipaoaaDoor
open Go.RowKit Bs Ef

/-- the element that is congruent modulo 256 -/
def el (a : Int) : Nat := (a % 256).toNat
theorem el_lt (a : Int) : el a < 256 := by unfold el; omega
theorem el_wrap (a : Int) : IntKind.u8.wrap a = (el a : Int) := by unfold el; rw [IntKind.wrap_u8]; omega
theorem el_nat {a : Nat} (h : a < 256) : el (a : Int) = a := by unfold el; omega
theorem fld_get0 (g : Nat) (w : World) : (Instr.field 62 (.agg #[fprod g, fquot g]) 0).run Tryd.prog w = .ok (fprod g) w := by kernel_rfl
theorem fld_get1 (g : Nat) (w : World) : (Instr.field 62 (.agg #[fprod g, fquot g]) 1).run Tryd.prog w = .ok (fquot g) w := by kernel_rfl

set_option maxRecDepth 100000 in
set_option maxHeartbeats 1000000 in
theorem Add_any (a b : Int) (w : World) :
    Calls Tryd.prog 15 #[.int .i64 a, .int .i64 b] w fun e w' => e = .returned (.int .i64 (el a ^^^ el b : Nat)) ∧ w' = w := by
  have h1 := el_wrap a
  have h2 := el_wrap b
  have h3 := xor_b (el a) (el b) (el_lt a) (el_lt b)
  obtain ⟨v, hv⟩ : ∃ v, el a ^^^ el b = v := ⟨_, rfl⟩
  have h4 : v < 256 := by rw [← hv]; exact Nat.xor_lt_two_pow (n := 8) (el_lt a) (el_lt b)
  rw [hv] at h3 ⊢
  have h5 : IntKind.i64.wrap (v : Int) = (v : Int) := by rw [IntKind.wrap_i64]; omega
  clear hv h4
  go_enter Tryd.func15, Tryd.ntmps15
  go_wp2_with fail
  go_ret
  exact ⟨rfl, rfl⟩

set_option maxRecDepth 100000 in
set_option maxHeartbeats 1000000 in
theorem Mul_any (a b : Int) (w : World) :
    Calls Tryd.prog 17 #[.int .i64 a, .int .i64 b] w fun e w' => e = .returned (.int .i64 (gm (el a) (el b) : Nat)) ∧ Below w.heap.size w w' := by
  have h1 := el_wrap a
  have h2 := el_wrap b
  have HP := Lib.hid (fun g W h => product_any g (el a) (el b) (el_lt a) (el_lt b) W h)
  have h4 := gm_lt (el a) (el b)
  obtain ⟨v, hv⟩ : ∃ v, gm (el a) (el b) = v := ⟨_, rfl⟩
  rw [hv] at h4 HP ⊢
  have h5 : IntKind.i64.wrap (v : Int) = (v : Int) := by rw [IntKind.wrap_i64]; omega
  clear hv h4
  go_enter Tryd.func17, Tryd.ntmps17
  go_wp2_with (first
    | (go_at_call 36; (with_reducible refine (newField_any _).mono ?_); rintro e w1 ⟨g, hg0, hg1, rfl, hF, hB⟩; have k0 := fld_get0 g w1; unfold fprod fquot at k0)
    | (go_at_call 61; (with_reducible refine (HP.out _ _ hF).mono ?_); rintro e w2 ⟨rfl, hB2⟩))
  go_ret
  exact ⟨rfl, below_on hB hB2 hB.size⟩

set_option maxRecDepth 100000 in
set_option maxHeartbeats 1000000 in
theorem Inverse_any (a : Int) (w : World) :
    Calls Tryd.prog 13 #[.int .i64 a] w fun e w' => e = .returned (.tuple (if 1 ≤ a ∧ a ≤ 255 then #[.int .i64 (gq 1 (el a) : Nat), .int .i64 0] else #[.int .i64 0, .int .i64 60])) ∧ Below w.heap.size w w' := by
  by_cases h : 1 ≤ a ∧ a ≤ 255
  · rw [if_pos h]
    have c1 : decide (a < 1) = false := decide_eq_false (by omega)
    have c2 : decide (255 < a) = false := decide_eq_false (by omega)
    have h1 := el_wrap a
    have HP := Lib.hid (fun (g : Nat) (W : World) (h : FldAt W g) => (show Calls Tryd.prog 62 #[.int .u8 1, .int .u8 (el a : Int), .pointer (some ⟨g, 0, none⟩), .pointer (some ⟨g + 1, 0, none⟩)] W fun e w' => e = .returned (.int .u8 (gq 1 (el a) : Nat)) ∧ Below W.heap.size W w' from quotient_any g 1 (el a) (by omega) (el_lt a) W h))
    have h4 := gq_lt 1 (el a)
    obtain ⟨v, hv⟩ : ∃ v, gq 1 (el a) = v := ⟨_, rfl⟩
    rw [hv] at h4 HP ⊢
    have h5 : IntKind.i64.wrap (v : Int) = (v : Int) := by rw [IntKind.wrap_i64]; omega
    clear hv h4
    go_enter Tryd.func13, Tryd.ntmps13
    go_wp2_with (first
      | (go_at_call 36; (with_reducible refine (newField_any _).mono ?_); rintro e w1 ⟨g, hg0, hg1, rfl, hF, hB⟩; have k0 := fld_get1 g w1; unfold fprod fquot at k0)
      | (go_at_call 62; (with_reducible refine (HP.out _ _ hF).mono ?_); rintro e w2 ⟨rfl, hB2⟩))
    go_ret2
    exact ⟨rfl, below_on hB hB2 hB.size⟩
  · rw [if_neg h]
    rcases Int.lt_or_le a 1 with h1 | h1
    · have c1 : decide (a < 1) = true := decide_eq_true h1
      go_enter Tryd.func13, Tryd.ntmps13
      go_wp2_with fail
      go_ret2
      exact ⟨rfl, Below.refl _ _⟩
    · have c1 : decide (a < 1) = false := decide_eq_false (by omega)
      have c2 : decide (255 < a) = true := decide_eq_true (by omega)
      go_enter Tryd.func13, Tryd.ntmps13
      go_wp2_with fail
      go_ret2
      exact ⟨rfl, Below.refl _ _⟩

end Go.Proofs.YtajfmhiejipaoaaDoor
