/-
  Layer 7: the reference's Decode.
-/
import Derived.Test.YtnploljhikljfaaPxe
namespace Go.Proofs.Ytnploljhikljfaa
open Go.RowKit Bs Pk

set_option maxRecDepth 100000 in
set_option maxHeartbeats 1000000 in
theorem refDecode_ok (l : List UInt8) (hg : good (nb l)) (w : World) :
    Calls Try.prog 17 #[.string (bs l)] w fun e w' => e = .returned (.tuple #[.string (bs (ub (whole (nb l)))), .int .i64 0]) ∧ Below w.heap.size w w' := by
  have hlen := good_len hg
  rw [nb_length] at hlen
  have hEx := fun (W : World) => refExpand_any l (by omega) W
  rw [rx_good hg] at hEx
  have hWl : (ub (whole (nb l))).length ≤ 4096 := by have := hg.1; simpa [ub] using this
  have hEn := fun (W : World) => refEncode_ok (ub (whole (nb l))) hWl W
  rw [nb_ub (whole_lt l), hg.2, ub_nb] at hEn
  replace hEx : ∀ W, Calls Try.prog 24 #[.string (bs l)] W fun e w' => e = .returned (.tuple #[.string (bs (ub (whole (nb l)))), .bool true]) ∧ Below W.heap.size W w' := hEx
  obtain ⟨S, hS⟩ : ∃ S, bs l = S := ⟨_, rfl⟩
  obtain ⟨T, hT⟩ : ∃ T, bs (ub (whole (nb l))) = T := ⟨_, rfl⟩
  rw [hS] at hEx hEn ⊢
  rw [hT] at hEx hEn ⊢
  have HEX := Lib.hid hEx
  have HEN := Lib.hid hEn
  clear hS hT hEx hEn hWl hg hlen
  go_enter Try.func17, Try.ntmps17
  go_wp2_with (first
    | (go_at_call 24; (with_reducible refine (HEX.out _).mono ?_); rintro e w1 ⟨rfl, hb1⟩)
    | (go_at_call 13; (with_reducible refine (HEN.out _).mono ?_); rintro e w2 ⟨rfl, hb2⟩))
  go_ret2
  exact ⟨rfl, below_on hb1 hb2 hb1.size⟩

set_option maxRecDepth 100000 in
set_option maxHeartbeats 1000000 in
theorem refDecode_no (l : List UInt8) (hl : l.length ≤ 1000000) (hg : ¬ good (nb l)) (w : World) :
    Calls Try.prog 17 #[.string (bs l)] w fun e w' => e = .returned (.tuple #[.string ByteArray.empty, .int .i64 70]) ∧ Below w.heap.size w w' := by
  have hEx := fun (W : World) => refExpand_any l hl W
  cases hrx : rx (nb l) 0 [] with
  | none =>
    rw [hrx] at hEx
    replace hEx : ∀ W, Calls Try.prog 24 #[.string (bs l)] W fun e w' => e = .returned (.tuple #[.string ByteArray.empty, .bool false]) ∧ Below W.heap.size W w' := hEx
    obtain ⟨S, hS⟩ : ∃ S, bs l = S := ⟨_, rfl⟩
    rw [hS] at hEx ⊢
    have HEX := Lib.hid hEx
    clear hS hEx hrx hg hl
    go_enter Try.func17, Try.ntmps17
    go_wp2_with (go_at_call 24; (with_reducible refine (HEX.out _).mono ?_); rintro e w1 ⟨rfl, hb1⟩)
    go_ret2
    exact ⟨rfl, hb1⟩
  | some s =>
    obtain ⟨rfl, hW⟩ := rx_some hrx
    rw [hrx] at hEx
    have hWl : (ub (whole (nb l))).length ≤ 4096 := by simpa [ub] using hW
    have hEn := fun (W : World) => refEncode_ok (ub (whole (nb l))) hWl W
    rw [nb_ub (whole_lt l)] at hEn
    replace hEx : ∀ W, Calls Try.prog 24 #[.string (bs l)] W fun e w' => e = .returned (.tuple #[.string (bs (ub (whole (nb l)))), .bool true]) ∧ Below W.heap.size W w' := hEx
    have hne : ub (enc (whole (nb l))) ≠ l := fun h => hg ⟨hW, by rw [← nb_ub (enc_lt _ (whole_lt l)), h]⟩
    have hnb : ((bs (ub (enc (whole (nb l))))).toList == (bs l).toList) = false := by rw [bs_toList, bs_toList]; exact beq_eq_false_iff_ne.2 hne
    have hnS : (bs (ub (enc (whole (nb l))))).toList ≠ (bs l).toList := by rw [bs_toList, bs_toList]; exact hne
    obtain ⟨S, hS⟩ : ∃ S, bs l = S := ⟨_, rfl⟩
    obtain ⟨R, hR⟩ : ∃ R, bs (ub (enc (whole (nb l)))) = R := ⟨_, rfl⟩
    rw [hR] at hEn hnb hnS
    rw [hS] at hEx hnb hnS ⊢
    obtain ⟨T, hT⟩ : ∃ T, bs (ub (whole (nb l))) = T := ⟨_, rfl⟩
    rw [hT] at hEx hEn
    have HEX := Lib.hid hEx
    have HEN := Lib.hid hEn
    clear hS hT hEx hEn hWl hg hR hW hne hrx hl
    go_enter Try.func17, Try.ntmps17
    go_wp2_with (first
      | (go_at_call 24; (with_reducible refine (HEX.out _).mono ?_); rintro e w1 ⟨rfl, hb1⟩)
      | (go_at_call 13; (with_reducible refine (HEN.out _).mono ?_); rintro e w2 ⟨rfl, hb2⟩))
    go_ret2
    exact ⟨rfl, below_on hb1 hb2 hb1.size⟩

end Go.Proofs.Ytnploljhikljfaa
