/-
  The fixed examples that each law of layer 1 asks first: 'sane' returns true.
-/
import Derived.Test.YtbcdigkndpjebaaDoorWaNf
namespace Go.Proofs.YtbcdigkndpjebaaDoor
open Go.RowKit

theorem TabAt.below {w w' : World} (h : TabAt w) (hb : Below w.heap.size w w') : TabAt w' := fun i hi => by
  have h0 := block_lt_of_cell (h i hi)
  exact (hb.cell (p := ⟨0, i, none⟩) h0).trans (h i hi)
theorem below_step {w w1 w2 : World} (h1 : Below w.heap.size w w1) (h2 : Below w1.heap.size w1 w2) : Below w.heap.size w w2 := h1.trans (h2.mono h1.size)

theorem s1 (w : World) : Calls Tryd.prog 12 #[.int .i64 (-64)] w fun e w' => e = .returned (.tuple #[.string ⟨#[127]⟩, .int .i64 0]) ∧ Below w.heap.size w w' :=
  (PutInt_any (-64) w (by omega) (by omega)).mono fun e w' ⟨he, hb⟩ => ⟨by rw [he, show putB (-64) = ([127], 0) from by decide +kernel]; rfl, hb⟩
theorem s2 (w : World) : Calls Tryd.prog 12 #[.int .i64 64] w fun e w' => e = .returned (.tuple #[.string ⟨#[128, 1]⟩, .int .i64 0]) ∧ Below w.heap.size w w' :=
  (PutInt_any 64 w (by omega) (by omega)).mono fun e w' ⟨he, hb⟩ => ⟨by rw [he, show putB 64 = ([128, 1], 0) from by decide +kernel]; rfl, hb⟩
theorem s3 (w : World) : Calls Tryd.prog 15 #[.string ⟨#[97, 172, 2, 98]⟩, .int .i64 1] w fun e w' => e = .returned (.tuple #[.int .i64 150, .int .i64 3, .int .i64 0]) ∧ w = w' :=
  Int_is [97, 172, 2, 98] 1 150 3 0 (by decide +kernel) w (by unfold maxLen; decide) (by omega) (by omega)
theorem s4 (w : World) : Calls Tryd.prog 15 #[.string ⟨#[128, 0]⟩, .int .i64 0] w fun e w' => e = .returned (.tuple #[.int .i64 0, .int .i64 0, .int .i64 10]) ∧ w = w' :=
  Int_is [128, 0] 0 0 0 10 (by decide +kernel) w (by unfold maxLen; decide) (by omega) (by omega)
theorem s5 (w : World) : Calls Tryd.prog 19 #[.string ⟨#[97, 98]⟩] w fun e w' => e = .returned (.tuple #[.string ⟨#[4, 97, 98]⟩, .int .i64 0]) ∧ Below w.heap.size w w' :=
  (PutString_any [97, 98] w (by decide)).mono fun e w' ⟨he, hb⟩ => ⟨by rw [he, show putS [97, 98] = ([4, 97, 98], 0) from by decide +kernel]; rfl, hb⟩
theorem s6 (w : World) : Calls Tryd.prog 17 #[.string ⟨#[4, 97, 98, 99]⟩, .int .i64 0] w fun e w' => e = .returned (.tuple #[.string ⟨#[97, 98]⟩, .int .i64 3, .int .i64 0]) ∧ w = w' :=
  (String_any [4, 97, 98, 99] 0 w (by unfold maxLen; decide) (by omega) (by omega)).mono fun e w' ⟨he, hb⟩ => ⟨by rw [he, show strB [4, 97, 98, 99] 0 = ([97, 98], 3, 0) from by decide +kernel]; rfl, hb⟩
theorem s7 (w : World) : Calls Tryd.prog 17 #[.string ⟨#[4, 97]⟩, .int .i64 0] w fun e w' => e = .returned (.tuple #[.string ⟨#[]⟩, .int .i64 0, .int .i64 10]) ∧ w = w' :=
  (String_any [4, 97] 0 w (by unfold maxLen; decide) (by omega) (by omega)).mono fun e w' ⟨he, hb⟩ => ⟨by rw [he, show strB [4, 97] 0 = ([], 0, 10) from by decide +kernel]; rfl, hb⟩
theorem s8 (w : World) : Calls Tryd.prog 12 #[.int .i64 4611686018427387904] w fun e w' => e = .returned (.tuple #[.string ⟨#[]⟩, .int .i64 10]) ∧ Below w.heap.size w w' :=
  (PutInt_any 4611686018427387904 w (by omega) (by omega)).mono fun e w' ⟨he, hb⟩ => ⟨by rw [he, show putB 4611686018427387904 = ([], 10) from by decide +kernel]; rfl, hb⟩
theorem s9 (w : World) : Calls Tryd.prog 15 #[.string ⟨#[]⟩, .int .i64 1] w fun e w' => e = .returned (.tuple #[.int .i64 0, .int .i64 0, .int .i64 2]) ∧ w = w' :=
  Int_is [] 1 0 0 2 (by decide +kernel) w (by unfold maxLen; decide) (by omega) (by omega)
theorem s10 (w : World) (h : TabAt w) : Calls Tryd.prog 21 #[.string ⟨#[49, 50, 51, 52, 53, 54, 55, 56, 57]⟩] w fun e w' => e = .returned (.int .i64 3808858755) ∧ w = w' :=
  (Sum_any [49, 50, 51, 52, 53, 54, 55, 56, 57] w (by unfold maxLen; decide) h).mono fun e w' ⟨he, hb⟩ => ⟨by rw [he, show Crc.sum (nb [49, 50, 51, 52, 53, 54, 55, 56, 57]) = 3808858755 from by decide +kernel]; rfl, hb⟩

set_option maxRecDepth 100000 in
set_option maxHeartbeats 1000000 in
theorem sane_any (w : World) (h : TabAt w) :
    Calls Tryd.prog 10 #[] w fun e w' => e = .returned (.bool true) ∧ Below w.heap.size w w' := by
  go_enter Tryd.func10, Tryd.ntmps10
  go_wp2_with fail
  refine (s1 _).mono ?_; rintro e w1 ⟨rfl, b1⟩
  go_wp2_with fail
  refine (s2 _).mono ?_; rintro e w2 ⟨rfl, b2⟩
  have B2 := below_step b1 b2; clear b1 b2
  go_wp2_with fail
  refine (s3 _).mono ?_; rintro e w' ⟨rfl, rfl⟩
  go_wp2_with fail
  refine (s4 _).mono ?_; rintro e w' ⟨rfl, rfl⟩
  go_wp2_with fail
  refine (s5 _).mono ?_; rintro e w3 ⟨rfl, b3⟩
  have B3 := below_step B2 b3; clear B2 b3
  go_wp2_with fail
  refine (s6 _).mono ?_; rintro e w' ⟨rfl, rfl⟩
  go_wp2_with fail
  refine (s7 _).mono ?_; rintro e w' ⟨rfl, rfl⟩
  go_wp2_with fail
  refine (s8 _).mono ?_; rintro e w4 ⟨rfl, b4⟩
  have B4 := below_step B3 b4; clear B3 b4
  go_wp2_with fail
  refine (s9 _).mono ?_; rintro e w' ⟨rfl, rfl⟩
  go_wp2_with fail
  refine (s10 _ (h.below B4)).mono ?_; rintro e w' ⟨rfl, rfl⟩
  go_wp2_with fail
  go_ret
  exact ⟨rfl, B4⟩

end Go.Proofs.YtbcdigkndpjebaaDoor
