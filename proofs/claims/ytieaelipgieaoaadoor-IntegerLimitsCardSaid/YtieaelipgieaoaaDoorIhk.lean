/-
  Layer 3: the fixed examples.
-/
import Derived.Test.YtieaelipgieaoaaDoorIhj
namespace Go.Proofs.YtieaelipgieaoaaDoor
open Go.RowKit Bs Ig

theorem lit_pos (l : List UInt8) (n : Nat) (hn : num l = n) (hd : ∀ c ∈ l, isDig c) (h0 : 49 ≤ (l.headD 0).toNat) : Lib.itoa (n : Int) = l := by
  cases l with
  | nil => exact absurd h0 (by decide)
  | cons c r => rw [itoa_nat, ← hn]; exact dec_num _ hd c r rfl h0
theorem lit_neg (l : List UInt8) (n : Nat) (hn : num l = n) (hd : ∀ c ∈ l, isDig c) (h0 : 49 ≤ (l.headD 0).toNat) : Lib.itoa (-(n : Int)) = 45 :: l := by
  have h := lit_pos l n hn hd h0
  rw [itoa_nat] at h
  cases l with
  | nil => exact absurd h0 (by decide)
  | cons c r =>
    have hp : 0 < n := by
      rw [← hn, num_cons]
      have : 0 < 10 ^ r.length := Nat.pow_pos (by omega)
      have := Nat.mul_le_mul_right (10 ^ r.length) (show 1 ≤ c.toNat - 48 by simp at h0; omega)
      omega
    rw [itoa_neg _ hp, h]
theorem small_big (n : Int) (h : n.natAbs < 100000000) : n.natAbs < big := Nat.lt_trans h (by decide +kernel)
theorem small_bb (n : Nat) (h : n < 100000000) : n < big * big := Nat.lt_trans h (by decide +kernel)
theorem txt_small (n : Int) (h : n.natAbs < 100000000) : txt n = Lib.itoa n := if_pos (small_big n h)
theorem err_small (n : Int) (h : n.natAbs < 100000000) : err n = 0 := if_pos (small_big n h)
theorem no_007 : ¬ IsI [48, 48, 55] := by
  rw [isI_iff]
  rintro (h | ⟨_, _, h, _⟩)
  · exact absurd h (by decide)
  · exact h rfl
theorem no_m0 : ¬ IsI [45, 48] := by
  rw [isI_iff]
  rintro (h | ⟨_, _, h, _⟩)
  · exact absurd h (by decide)
  · exact h rfl
theorem no_e : ¬ IsI [] := by
  rw [isI_iff]
  rintro (h | ⟨h, _⟩)
  · exact absurd h (by decide)
  · exact absurd h (by decide)
theorem lit_999 : Lib.itoa 999 = [57, 57, 57] := lit_pos [57, 57, 57] 999 rfl (by decide) (by decide)
theorem lit_1 : Lib.itoa 1 = [49] := lit_pos [49] 1 rfl (by decide) (by decide)
theorem lit_1000 : Lib.itoa 1000 = [49, 48, 48, 48] := lit_pos [49, 48, 48, 48] 1000 rfl (by decide) (by decide)
theorem lit_m999 : Lib.itoa (-999) = [45, 57, 57, 57] := lit_neg [57, 57, 57] 999 rfl (by decide) (by decide)
theorem lit_m12 : Lib.itoa (-12) = [45, 49, 50] := lit_neg [49, 50] 12 rfl (by decide) (by decide)
theorem lit_12 : Lib.itoa 12 = [49, 50] := lit_pos [49, 50] 12 rfl (by decide) (by decide)
theorem lit_m144 : Lib.itoa (-144) = [45, 49, 52, 52] := lit_neg [49, 52, 52] 144 rfl (by decide) (by decide)
theorem lit_m7 : Lib.itoa (-7) = [45, 55] := lit_neg [55] 7 rfl (by decide) (by decide)
theorem lit_2 : Lib.itoa 2 = [50] := lit_pos [50] 2 rfl (by decide) (by decide)
theorem lit_m4 : Lib.itoa (-4) = [45, 52] := lit_neg [52] 4 rfl (by decide) (by decide)
theorem lit_m2 : Lib.itoa (-2) = [45, 50] := lit_neg [50] 2 rfl (by decide) (by decide)
theorem lit_4 : Lib.itoa 4 = [52] := lit_pos [52] 4 rfl (by decide) (by decide)
theorem lit_m18 : Lib.itoa (-18) = [45, 49, 56] := lit_neg [49, 56] 18 rfl (by decide) (by decide)
theorem lit_6 : Lib.itoa 6 = [54] := lit_pos [54] 6 rfl (by decide) (by decide)
theorem lit_99 : Lib.itoa 99 = [57, 57] := lit_pos [57, 57] 99 rfl (by decide) (by decide)
theorem lit_9 : Lib.itoa 9 = [57] := lit_pos [57] 9 rfl (by decide) (by decide)
theorem lit_m1 : Lib.itoa (-1) = [45, 49] := lit_neg [49] 1 rfl (by decide) (by decide)
theorem lit_m8 : Lib.itoa (-8) = [45, 56] := lit_neg [56] 8 rfl (by decide) (by decide)
theorem s_add (w : World) (ht : TabP w) : Calls Tryd.prog 14 #[.string ⟨#[57, 57, 57]⟩, .string ⟨#[49]⟩] w fun e w' => e = .returned (.tuple #[.string ⟨#[49, 48, 48, 48]⟩, .int .i64 0]) ∧ Below w.heap.size w w' := by
  have h := Add_any (999) (1) (small_big _ (by decide)) (small_big _ (by decide)) (small_bb _ (by decide)) w ht
  rw [show ((999 : Int) + (1)) = (1000 : Int) by decide, txt_small _ (by decide), err_small _ (by decide), lit_999, lit_1, lit_1000] at h
  exact h
theorem s_sub (w : World) (ht : TabP w) : Calls Tryd.prog 15 #[.string ⟨#[49]⟩, .string ⟨#[49, 48, 48, 48]⟩] w fun e w' => e = .returned (.tuple #[.string ⟨#[45, 57, 57, 57]⟩, .int .i64 0]) ∧ Below w.heap.size w w' := by
  have h := Sub_any (1) (1000) (small_big _ (by decide)) (small_big _ (by decide)) (small_bb _ (by decide)) w ht
  rw [show ((1 : Int) - (1000)) = (-999 : Int) by decide, txt_small _ (by decide), err_small _ (by decide), lit_1, lit_1000, lit_m999] at h
  exact h
theorem s_mul (w : World) (ht : TabP w) : Calls Tryd.prog 16 #[.string ⟨#[45, 49, 50]⟩, .string ⟨#[49, 50]⟩] w fun e w' => e = .returned (.tuple #[.string ⟨#[45, 49, 52, 52]⟩, .int .i64 0]) ∧ Below w.heap.size w w' := by
  have h := Mul_any (-12) (12) (small_big _ (by decide)) (small_big _ (by decide)) (small_bb _ (by decide)) w ht
  rw [show ((-12 : Int) * (12)) = (-144 : Int) by decide, txt_small _ (by decide), err_small _ (by decide), lit_m12, lit_12, lit_m144] at h
  exact h
theorem s_gcd (w : World) (ht : TabP w) : Calls Tryd.prog 21 #[.string ⟨#[49, 50]⟩, .string ⟨#[45, 49, 56]⟩] w fun e w' => e = .returned (.tuple #[.string ⟨#[54]⟩, .int .i64 0]) ∧ Below w.heap.size w w' := by
  have h := Gcd_any (12) (-18) (small_big _ (by decide)) (small_big _ (by decide)) (small_bb _ (by decide)) w ht
  rw [show ((Int.gcd (12) (-18) : Nat) : Int) = (6 : Int) by decide, txt_small _ (by decide), err_small _ (by decide), lit_12, lit_m18, lit_6] at h
  exact h
theorem s_div1 (w : World) (ht : TabP w) : Calls Tryd.prog 18 #[.string ⟨#[45, 55]⟩, .string ⟨#[50]⟩] w fun e w' => e = .returned (.tuple #[.string ⟨#[45, 52]⟩, .string ⟨#[49]⟩, .int .i64 0]) ∧ Below w.heap.size w w' := by
  have h := Div_any (-7) (2) (small_big _ (by decide)) (small_big _ (by decide)) (by decide) w ht
  rw [show ((-7 : Int) / (2)) = (-4 : Int) by decide, show ((-7 : Int) % (2)) = (1 : Int) by decide, lit_m7, lit_2, lit_m4, lit_1] at h
  exact h
theorem s_div2 (w : World) (ht : TabP w) : Calls Tryd.prog 18 #[.string ⟨#[45, 55]⟩, .string ⟨#[45, 50]⟩] w fun e w' => e = .returned (.tuple #[.string ⟨#[52]⟩, .string ⟨#[49]⟩, .int .i64 0]) ∧ Below w.heap.size w w' := by
  have h := Div_any (-7) (-2) (small_big _ (by decide)) (small_big _ (by decide)) (by decide) w ht
  rw [show ((-7 : Int) / (-2)) = (4 : Int) by decide, show ((-7 : Int) % (-2)) = (1 : Int) by decide, lit_m7, lit_m2, lit_4, lit_1] at h
  exact h
theorem s_root (w : World) (ht : TabP w) : Calls Tryd.prog 22 #[.string ⟨#[57, 57]⟩] w fun e w' => e = .returned (.tuple #[.string ⟨#[57]⟩, .int .i64 0]) ∧ Below w.heap.size w w' := by
  have h := Root_any 99 (small_big _ (by decide)) (by decide) w ht
  rw [show rt (99 : Int).natAbs = 9 from (rt_unique 99 9 (by decide) (by decide)).symm, show ((9 : Nat) : Int) = 9 from rfl, lit_99, lit_9] at h
  exact h
theorem s_rootn (w : World) : Calls Tryd.prog 22 #[.string ⟨#[45, 49]⟩] w fun e w' => e = .returned (.tuple #[.string ⟨#[]⟩, .int .i64 30]) ∧ Below w.heap.size w w' := by
  have h := Root_neg (-1) (small_big _ (by decide)) (by decide) w
  rw [lit_m1] at h
  exact h
theorem s_addn (w : World) : Calls Tryd.prog 14 #[.string ⟨#[48, 48, 55]⟩, .string ⟨#[49]⟩] w fun e w' => e = .returned (.tuple #[.string ⟨#[]⟩, .int .i64 30]) ∧ Below w.heap.size w w' := Add_no [48, 48, 55] no_007 ⟨#[49]⟩ w
theorem s_v1 (w : World) : Calls Tryd.prog 19 #[.string ⟨#[45, 55]⟩] w fun e w' => e = .returned (.bool true) ∧ w' = w := by
  have h := Valid_yes (-7) (small_big _ (by decide)) w
  rw [lit_m7] at h
  exact h
theorem s_v2 (w : World) : Calls Tryd.prog 19 #[.string ⟨#[45, 48]⟩] w fun e w' => e = .returned (.bool false) ∧ w' = w := Valid_no [45, 48] no_m0 w
theorem s_v3 (w : World) : Calls Tryd.prog 19 #[.string ⟨#[]⟩] w fun e w' => e = .returned (.bool false) ∧ w' = w := Valid_no [] no_e w
theorem s_cmp (w : World) : Calls Tryd.prog 17 #[.string ⟨#[45, 56]⟩, .string ⟨#[45, 55]⟩] w fun e w' => e = .returned (.int .i64 (-1)) ∧ Below w.heap.size w w' := by
  have h := Compare_any (-8) (-7) (small_big _ (by decide)) (small_big _ (by decide)) w
  rw [lit_m8, lit_m7] at h
  exact h

set_option maxRecDepth 100000 in
set_option maxHeartbeats 4000000 in
theorem sane_any (w : World) (ht : TabP w) :
    Calls Tryd.prog 11 #[] w fun e w' => e = .returned (.bool true) ∧ Below w.heap.size w w' := by
  have HT := Lib.hid ht
  clear ht
  go_enter Tryd.func11, Tryd.ntmps11
  go_wp2_with (first
    | (go_at_call 14; (with_reducible refine (s_add _ HT.out).mono ?_); rintro e w1 ⟨rfl, B1⟩; have T1 := HT.out.later B1)
    | (go_at_call 15; (with_reducible refine (s_sub _ T1).mono ?_); rintro e w2 ⟨rfl, B2⟩; have T2 := T1.later B2; have C2 := below_on B1 B2 B1.size)
    | (go_at_call 16; (with_reducible refine (s_mul _ T2).mono ?_); rintro e w3 ⟨rfl, B3⟩; have T3 := T2.later B3; have C3 := below_on C2 B3 C2.size)
    | (go_at_call 18; (with_reducible refine (s_div1 _ T3).mono ?_); rintro e w4 ⟨rfl, B4⟩; have T4 := T3.later B4; have C4 := below_on C3 B4 C3.size)
    | (go_at_call 18; (with_reducible refine (s_div2 _ T4).mono ?_); rintro e w5 ⟨rfl, B5⟩; have T5 := T4.later B5; have C5 := below_on C4 B5 C4.size)
    | (go_at_call 21; (with_reducible refine (s_gcd _ T5).mono ?_); rintro e w6 ⟨rfl, B6⟩; have T6 := T5.later B6; have C6 := below_on C5 B6 C5.size)
    | (go_at_call 22; (with_reducible refine (s_root _ T6).mono ?_); rintro e w7 ⟨rfl, B7⟩; have T7 := T6.later B7; have C7 := below_on C6 B7 C6.size)
    | (go_at_call 22; (with_reducible refine (s_rootn _).mono ?_); rintro e w8 ⟨rfl, B8⟩; have C8 := below_on C7 B8 C7.size)
    | (go_at_call 14; (with_reducible refine (s_addn _).mono ?_); rintro e w9 ⟨rfl, B9⟩; have C9 := below_on C8 B9 C8.size)
    | (go_at_call 19; (with_reducible refine (s_v1 _).mono ?_); rintro e w10 ⟨rfl, rfl⟩)
    | (go_at_call 19; (with_reducible refine (s_v2 _).mono ?_); rintro e w10 ⟨rfl, rfl⟩)
    | (go_at_call 19; (with_reducible refine (s_v3 _).mono ?_); rintro e w10 ⟨rfl, rfl⟩)
    | (go_at_call 17; (with_reducible refine (s_cmp _).mono ?_); rintro e w11 ⟨rfl, B11⟩; have C11 := below_on C9 B11 C9.size))
  go_ret
  exact ⟨rfl, C11⟩

end Go.Proofs.YtieaelipgieaoaaDoor
