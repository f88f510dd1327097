/-
  Put together by program out of these texts, in this order: Ihk, Tbm, Ria, Rib.
-/
import Derived.Test.YtagcpjokajcdiaaGreatDoorZCaJmt08
import Derived.Test.YtagcpjokajcdiaaGreatDoorZCaJmt00
import Derived.Stop.LaidErr
import Derived.LaidSub
import Derived.Lay
import Derived.Test.YtagcpjokajcdiaaGreatDoorZCaJmt01

/-
  Layer 3: the fixed examples.
-/
namespace Go.Proofs.YtagcpjokajcdiaaGreatDoor
open Go.RowKit Bs Ig

theorem lit_pos (l : List UInt8) (n : Nat) (hn : num l = n) (hd : ∀ c ∈ l, isDig c) (h0 : 49 ≤ (l.headD 0).toNat) : Lib.itoa (n : Int) = l := by
  cases l with
  | nil => exact absurd h0 (by decide)
  | cons c r => rw [itoa_nat, ← hn]; exact dec_num _ hd c r rfl h0
theorem lit_neg (l : List UInt8) (n : Nat) (hn : num l = n) (hd : ∀ c ∈ l, isDig c) (h0 : 49 ≤ (l.headD 0).toNat) : Lib.itoa (-(n : Int)) = 45 :: l := by
  have h := lit_pos l n hn hd h0
  rw [itoa_nat] at h
  cases l with
  | nil => exact absurd h0 (by decide)
  | cons c r =>
    have hp : 0 < n := by
      rw [← hn, num_cons]
      have : 0 < 10 ^ r.length := Nat.pow_pos (by omega)
      have := Nat.mul_le_mul_right (10 ^ r.length) (show 1 ≤ c.toNat - 48 by simp at h0; omega)
      omega
    rw [itoa_neg _ hp, h]
theorem small_big (n : Int) (h : n.natAbs < 100000000) : n.natAbs < big := Nat.lt_trans h (by decide +kernel)
theorem small_bb (n : Nat) (h : n < 100000000) : n < big * big := Nat.lt_trans h (by decide +kernel)
theorem txt_small (n : Int) (h : n.natAbs < 100000000) : txt n = Lib.itoa n := if_pos (small_big n h)
theorem err_small (n : Int) (h : n.natAbs < 100000000) : err n = 0 := if_pos (small_big n h)
theorem no_007 : ¬ IsI [48, 48, 55] := by
  rw [isI_iff]
  rintro (h | ⟨_, _, h, _⟩)
  · exact absurd h (by decide)
  · exact h rfl
theorem no_m0 : ¬ IsI [45, 48] := by
  rw [isI_iff]
  rintro (h | ⟨_, _, h, _⟩)
  · exact absurd h (by decide)
  · exact h rfl
theorem no_e : ¬ IsI [] := by
  rw [isI_iff]
  rintro (h | ⟨h, _⟩)
  · exact absurd h (by decide)
  · exact absurd h (by decide)
theorem lit_999 : Lib.itoa 999 = [57, 57, 57] := lit_pos [57, 57, 57] 999 rfl (by decide) (by decide)
theorem lit_1 : Lib.itoa 1 = [49] := lit_pos [49] 1 rfl (by decide) (by decide)
theorem lit_1000 : Lib.itoa 1000 = [49, 48, 48, 48] := lit_pos [49, 48, 48, 48] 1000 rfl (by decide) (by decide)
theorem lit_m999 : Lib.itoa (-999) = [45, 57, 57, 57] := lit_neg [57, 57, 57] 999 rfl (by decide) (by decide)
theorem lit_m12 : Lib.itoa (-12) = [45, 49, 50] := lit_neg [49, 50] 12 rfl (by decide) (by decide)
theorem lit_12 : Lib.itoa 12 = [49, 50] := lit_pos [49, 50] 12 rfl (by decide) (by decide)
theorem lit_m144 : Lib.itoa (-144) = [45, 49, 52, 52] := lit_neg [49, 52, 52] 144 rfl (by decide) (by decide)
theorem lit_m7 : Lib.itoa (-7) = [45, 55] := lit_neg [55] 7 rfl (by decide) (by decide)
theorem lit_2 : Lib.itoa 2 = [50] := lit_pos [50] 2 rfl (by decide) (by decide)
theorem lit_m4 : Lib.itoa (-4) = [45, 52] := lit_neg [52] 4 rfl (by decide) (by decide)
theorem lit_m2 : Lib.itoa (-2) = [45, 50] := lit_neg [50] 2 rfl (by decide) (by decide)
theorem lit_4 : Lib.itoa 4 = [52] := lit_pos [52] 4 rfl (by decide) (by decide)
theorem lit_m18 : Lib.itoa (-18) = [45, 49, 56] := lit_neg [49, 56] 18 rfl (by decide) (by decide)
theorem lit_6 : Lib.itoa 6 = [54] := lit_pos [54] 6 rfl (by decide) (by decide)
theorem lit_99 : Lib.itoa 99 = [57, 57] := lit_pos [57, 57] 99 rfl (by decide) (by decide)
theorem lit_9 : Lib.itoa 9 = [57] := lit_pos [57] 9 rfl (by decide) (by decide)
theorem lit_m1 : Lib.itoa (-1) = [45, 49] := lit_neg [49] 1 rfl (by decide) (by decide)
theorem lit_m8 : Lib.itoa (-8) = [45, 56] := lit_neg [56] 8 rfl (by decide) (by decide)
theorem s_add (w : World) (ht : TabP w) : Calls Tryz.prog 7 #[.string ⟨#[57, 57, 57]⟩, .string ⟨#[49]⟩] w fun e w' => e = .returned (.tuple #[.string ⟨#[49, 48, 48, 48]⟩, .int .i64 0]) ∧ Below w.heap.size w w' := by
  have h := Add_any (999) (1) (small_big _ (by decide)) (small_big _ (by decide)) (small_bb _ (by decide)) w ht
  rw [show ((999 : Int) + (1)) = (1000 : Int) by decide, txt_small _ (by decide), err_small _ (by decide), lit_999, lit_1, lit_1000] at h
  exact h
theorem s_sub (w : World) (ht : TabP w) : Calls Tryz.prog 9 #[.string ⟨#[49]⟩, .string ⟨#[49, 48, 48, 48]⟩] w fun e w' => e = .returned (.tuple #[.string ⟨#[45, 57, 57, 57]⟩, .int .i64 0]) ∧ Below w.heap.size w w' := by
  have h := Sub_any (1) (1000) (small_big _ (by decide)) (small_big _ (by decide)) (small_bb _ (by decide)) w ht
  rw [show ((1 : Int) - (1000)) = (-999 : Int) by decide, txt_small _ (by decide), err_small _ (by decide), lit_1, lit_1000, lit_m999] at h
  exact h
theorem s_mul (w : World) (ht : TabP w) : Calls Tryz.prog 11 #[.string ⟨#[45, 49, 50]⟩, .string ⟨#[49, 50]⟩] w fun e w' => e = .returned (.tuple #[.string ⟨#[45, 49, 52, 52]⟩, .int .i64 0]) ∧ Below w.heap.size w w' := by
  have h := Mul_any (-12) (12) (small_big _ (by decide)) (small_big _ (by decide)) (small_bb _ (by decide)) w ht
  rw [show ((-12 : Int) * (12)) = (-144 : Int) by decide, txt_small _ (by decide), err_small _ (by decide), lit_m12, lit_12, lit_m144] at h
  exact h
theorem s_gcd (w : World) (ht : TabP w) : Calls Tryz.prog 15 #[.string ⟨#[49, 50]⟩, .string ⟨#[45, 49, 56]⟩] w fun e w' => e = .returned (.tuple #[.string ⟨#[54]⟩, .int .i64 0]) ∧ Below w.heap.size w w' := by
  have h := Gcd_any (12) (-18) (small_big _ (by decide)) (small_big _ (by decide)) (small_bb _ (by decide)) w ht
  rw [show ((Int.gcd (12) (-18) : Nat) : Int) = (6 : Int) by decide, txt_small _ (by decide), err_small _ (by decide), lit_12, lit_m18, lit_6] at h
  exact h
theorem s_div1 (w : World) (ht : TabP w) : Calls Tryz.prog 13 #[.string ⟨#[45, 55]⟩, .string ⟨#[50]⟩] w fun e w' => e = .returned (.tuple #[.string ⟨#[45, 52]⟩, .string ⟨#[49]⟩, .int .i64 0]) ∧ Below w.heap.size w w' := by
  have h := Div_any (-7) (2) (small_big _ (by decide)) (small_big _ (by decide)) (by decide) w ht
  rw [show ((-7 : Int) / (2)) = (-4 : Int) by decide, show ((-7 : Int) % (2)) = (1 : Int) by decide, lit_m7, lit_2, lit_m4, lit_1] at h
  exact h
theorem s_div2 (w : World) (ht : TabP w) : Calls Tryz.prog 13 #[.string ⟨#[45, 55]⟩, .string ⟨#[45, 50]⟩] w fun e w' => e = .returned (.tuple #[.string ⟨#[52]⟩, .string ⟨#[49]⟩, .int .i64 0]) ∧ Below w.heap.size w w' := by
  have h := Div_any (-7) (-2) (small_big _ (by decide)) (small_big _ (by decide)) (by decide) w ht
  rw [show ((-7 : Int) / (-2)) = (4 : Int) by decide, show ((-7 : Int) % (-2)) = (1 : Int) by decide, lit_m7, lit_m2, lit_4, lit_1] at h
  exact h
theorem s_root (w : World) (ht : TabP w) : Calls Tryz.prog 17 #[.string ⟨#[57, 57]⟩] w fun e w' => e = .returned (.tuple #[.string ⟨#[57]⟩, .int .i64 0]) ∧ Below w.heap.size w w' := by
  have h := Root_any 99 (small_big _ (by decide)) (by decide) w ht
  rw [show rt (99 : Int).natAbs = 9 from (rt_unique 99 9 (by decide) (by decide)).symm, show ((9 : Nat) : Int) = 9 from rfl, lit_99, lit_9] at h
  exact h
theorem s_rootn (w : World) : Calls Tryz.prog 17 #[.string ⟨#[45, 49]⟩] w fun e w' => e = .returned (.tuple #[.string ⟨#[]⟩, .int .i64 30]) ∧ Below w.heap.size w w' := by
  have h := Root_neg (-1) (small_big _ (by decide)) (by decide) w
  rw [lit_m1] at h
  exact h
theorem s_addn (w : World) : Calls Tryz.prog 7 #[.string ⟨#[48, 48, 55]⟩, .string ⟨#[49]⟩] w fun e w' => e = .returned (.tuple #[.string ⟨#[]⟩, .int .i64 30]) ∧ Below w.heap.size w w' := Add_no [48, 48, 55] no_007 ⟨#[49]⟩ w
theorem s_v1 (w : World) : Calls Tryz.prog 21 #[.string ⟨#[45, 55]⟩] w fun e w' => e = .returned (.bool true) ∧ w' = w := by
  have h := Valid_yes (-7) (small_big _ (by decide)) w
  rw [lit_m7] at h
  exact h
theorem s_v2 (w : World) : Calls Tryz.prog 21 #[.string ⟨#[45, 48]⟩] w fun e w' => e = .returned (.bool false) ∧ w' = w := Valid_no [45, 48] no_m0 w
theorem s_v3 (w : World) : Calls Tryz.prog 21 #[.string ⟨#[]⟩] w fun e w' => e = .returned (.bool false) ∧ w' = w := Valid_no [] no_e w
theorem s_cmp (w : World) : Calls Tryz.prog 23 #[.string ⟨#[45, 56]⟩, .string ⟨#[45, 55]⟩] w fun e w' => e = .returned (.int .i64 (-1)) ∧ Below w.heap.size w w' := by
  have h := Compare_any (-8) (-7) (small_big _ (by decide)) (small_big _ (by decide)) w
  rw [lit_m8, lit_m7] at h
  exact h

set_option maxRecDepth 100000 in
set_option maxHeartbeats 4000000 in
theorem sane_any (w : World) (ht : TabP w) :
    Calls Tryz.prog 4 #[] w fun e w' => e = .returned (.bool true) ∧ Below w.heap.size w w' := by
  have HT := Lib.hid ht
  clear ht
  go_enter Tryz.func4, Tryz.ntmps4
  go_wp2_with (first
    | (go_at_call 7; (with_reducible refine (s_add _ HT.out).mono ?_); rintro e w1 ⟨rfl, B1⟩; have T1 := HT.out.later B1)
    | (go_at_call 9; (with_reducible refine (s_sub _ T1).mono ?_); rintro e w2 ⟨rfl, B2⟩; have T2 := T1.later B2; have C2 := below_on B1 B2 B1.size)
    | (go_at_call 11; (with_reducible refine (s_mul _ T2).mono ?_); rintro e w3 ⟨rfl, B3⟩; have T3 := T2.later B3; have C3 := below_on C2 B3 C2.size)
    | (go_at_call 13; (with_reducible refine (s_div1 _ T3).mono ?_); rintro e w4 ⟨rfl, B4⟩; have T4 := T3.later B4; have C4 := below_on C3 B4 C3.size)
    | (go_at_call 13; (with_reducible refine (s_div2 _ T4).mono ?_); rintro e w5 ⟨rfl, B5⟩; have T5 := T4.later B5; have C5 := below_on C4 B5 C4.size)
    | (go_at_call 15; (with_reducible refine (s_gcd _ T5).mono ?_); rintro e w6 ⟨rfl, B6⟩; have T6 := T5.later B6; have C6 := below_on C5 B6 C5.size)
    | (go_at_call 17; (with_reducible refine (s_root _ T6).mono ?_); rintro e w7 ⟨rfl, B7⟩; have T7 := T6.later B7; have C7 := below_on C6 B7 C6.size)
    | (go_at_call 17; (with_reducible refine (s_rootn _).mono ?_); rintro e w8 ⟨rfl, B8⟩; have C8 := below_on C7 B8 C7.size)
    | (go_at_call 7; (with_reducible refine (s_addn _).mono ?_); rintro e w9 ⟨rfl, B9⟩; have C9 := below_on C8 B9 C8.size)
    | (go_at_call 21; (with_reducible refine (s_v1 _).mono ?_); rintro e w10 ⟨rfl, rfl⟩)
    | (go_at_call 21; (with_reducible refine (s_v2 _).mono ?_); rintro e w10 ⟨rfl, rfl⟩)
    | (go_at_call 21; (with_reducible refine (s_v3 _).mono ?_); rintro e w10 ⟨rfl, rfl⟩)
    | (go_at_call 23; (with_reducible refine (s_cmp _).mono ?_); rintro e w11 ⟨rfl, B11⟩; have C11 := below_on C9 B11 C9.size))
  go_ret
  exact ⟨rfl, C11⟩

end Go.Proofs.YtagcpjokajcdiaaGreatDoor

/-
  What the rows of layer 3 list: the table of the decimal powers, and the error for numbers that no int holds; and a world for the witnesses.
-/
namespace Go.Proofs.YtagcpjokajcdiaaGreatDoor
open Go.RowKit
/-- what the laws of layer 3 read of the memory -/
def TabE (W : World) : Prop := TabP W ∧ ErrP W
theorem TabE.later {W W' : World} (h : TabE W) (hb : Below W.heap.size W W') : TabE W' := ⟨h.1.later hb, h.2.later hb⟩
namespace Tab
open Go.ChangeShapes Go.WideShapes Go.ChangeAt Go.RowKit

theorem own : ownKnob Tryz.prog.godebug = none := by kernel_rfl
theorem laidOut : laidOutB Tryz.prog = true := by kernel_rfl
theorem gTab : Tryz.prog.globalNamed "internal/strconv.uint64pow10" = some 2 := by kernel_rfl
theorem gTabType : (Tryz.prog.globals[2]?).map (·.type) = some 122 := by kernel_rfl
theorem cellsT : Tryz.prog.cellsOf 122 = 20 := by kernel_rfl
theorem cellsE : Tryz.prog.cellsOf 103 = 1 := by kernel_rfl
theorem gER : Tryz.prog.globalNamed "strconv.ErrRange" = some 1 := by kernel_rfl
theorem gERType : (Tryz.prog.globals[1]?).map (·.type) = some 63 := by kernel_rfl
theorem cellsS : Tryz.prog.cellsOf 120 = 1 := by kernel_rfl
theorem cells9 : Tryz.prog.cellsOf 9 = 1 := by kernel_rfl
theorem star : "*" ++ "errors.errorString" = "*errors.errorString" := by decide
theorem rowS (u : TypeId) (h : Tryz.prog.typeName? 3 u = some "*errors.errorString") : u = 118 :=
  typeName_ptr_named (nm := "errors.errorString") (by rw [star]; kernel_rfl) (by kernel_rfl) (by decide) u (by rw [star]; exact h)
theorem table {W : World} (h : laidMetH Tryz.prog Rows.integerMatchesReferenceRow.laid W) : TabE W := by
  have h1 := (laidMetH_iff.1 h).1
  refine ⟨?_, ?_⟩
  · have h2 := h1.filter fun x => x.1 == "internal/strconv.uint64pow10"
    exact Lib.tabIs_of_head (rest := []) gTab gTabType Tryz.underlying122 Tryz.underlying103 cellsE cellsT h2
  · have h2 : laidMet Tryz.prog [("strconv.ErrRange", Rows.laid_strconv_ErrRange)] W := h1.filter fun x => x.1 == "strconv.ErrRange"
    obtain ⟨a1, s1, hv1, -, -, -⟩ := laid_sentinel h2 gER gERType Tryz.underlying63 rowS Tryz.underlying118 Tryz.underlying120 rfl rfl Tryz.underlying9 cellsS cells9
    exact ⟨_, by have h0 := World.var?_cell gER hv1 0; simpa using h0, .inr ⟨_, _, rfl⟩⟩
/-- a world for the witness -/
noncomputable def laidWorld (os : Os) : World := World.laidAll Tryz.prog os Rows.integerMatchesReferenceRow.laid
theorem laidWorld_os (os : Os) : (laidWorld os).os = os := World.laidAll_os _ _ _
theorem laid_met (os : Os) (args : Array Value) : laidMet Tryz.prog Rows.integerMatchesReferenceRow.laid ((laidWorld os).forCall (fun _ _ => 0) ⟨#[], args, []⟩).memory :=
  laidMet_laidAll _ (by kernel_rfl) (by kernel_rfl)
end Tab
end Go.Proofs.YtagcpjokajcdiaaGreatDoor

/-
  Layer 3, the reference: the order of two lists of digits, and their sum.
-/
namespace Go.Proofs.YtagcpjokajcdiaaGreatDoor
open Go.RowKit Bs Ig

/-- the decimal digits of n, the least first -/
def D (n : Nat) : List Nat := dgs 8 n
theorem D_lt (n : Nat) : ∀ x ∈ D n, x < 10 := dgs_lt 8 n
theorem D_val (n : Nat) : val 10 (D n) = n := val_dgs 8 n
theorem D_len {W : World} {a : Option Addr} {n c x : Nat} (h : IsZ W a n c (zs (D x))) : (D x).length = n := by rw [← zs_length]; exact h.len
theorem D_lt_pow {x n : Nat} (h : (D x).length = n) : x < 10 ^ n := by have := dgs_lt_pow 8 x; rwa [show (dgs 8 x).length = n from h] at this
theorem D_le_pow {x n : Nat} (h : (D x).length = n) (hx : 0 < n) : 10 ^ (n - 1) ≤ x := by
  have h0 : 0 < x := Nat.pos_of_ne_zero fun e => by subst e; rw [show D 0 = [] from dgs_zero 8] at h; simp at h; omega
  have := dgs_le_pow 8 x h0
  rwa [show (dgs 8 x).length = n from h] at this
/-- digits without a 0 in front are the digits of what they stand for -/
theorem D_of (l : List Nat) (z : Nat) (h : ∀ x ∈ l, x < 10) (hv : val 10 l = z) (hl : l = [] ∨ 10 ^ (l.length - 1) ≤ z) : l = D z := by
  rcases List.eq_nil_or_concat l with e | ⟨r, x, e⟩
  · subst e; subst hv; exact (dgs_zero 8).symm
  · have hne : l ≠ [] := by rw [e]; simp
    have hl := hl.resolve_left hne
    rw [List.concat_eq_append] at e
    have hlast : x ≠ 0 := by
      intro h0
      subst h0
      have hv2 : val 10 r = z := by rw [← hv, e, val_snoc0]
      have hl2 : l.length = r.length + 1 := by rw [e]; simp
      have hlt := val_lt 10 r (fun y hy => h y (by rw [e]; exact List.mem_append_left _ hy))
      rw [hl2, Nat.add_sub_cancel] at hl
      omega
    rw [← hv]
    refine (dgs_val 8 l h ?_).symm
    rw [e]
    simpa using hlast
theorem mod_step (x i : Nat) : x % 10 ^ (i + 1) = x % 10 ^ i + 10 ^ i * (x / 10 ^ i % 10) := Nat.mod_pow_succ

set_option maxRecDepth 100000 in
set_option maxHeartbeats 1000000 in
theorem order_any (a : Option Addr) (n c : Nat) (b : Option Addr) (k d : Nat) (x y : Nat) (w : World) (hl : IsZ w a n c (zs (D x))) (hm : IsZ w b k d (zs (D y))) (hn : n ≤ 1000000) (hk : k ≤ 1000000) :
    Calls Tryz.prog 45 #[.slice a n c, .slice b k d] w fun e w' => e = .returned (.int .i64 (cmp x y)) ∧ Below w.heap.size w w' := by
  have hxl := D_len hl
  have hyl := D_len hm
  have hnc := hl.cap
  have hkd := hm.cap
  rcases Decidable.em (n = k) with hnk | hnk
  · subst hnk
    have hst := same_top 8 x y (by rw [show (dgs 8 x).length = n from hxl, show (dgs 8 y).length = n from hyl])
    rw [show (dgs 8 x).length = n from hxl] at hst
    go_enter Tryz.func45, Tryz.ntmps45
    go_wp2_with fail
    go_loopw [5] (fun u wr => ∃ j : Nat, j ≤ n ∧ u = .int .i64 ((j : Int) - 1) ∧ x / 10 ^ j = y / 10 ^ j ∧ Below w.heap.size w wr) (fun u _ => (intOf u + 1).toNat)
    case atStart => exact ⟨n, Nat.le_refl _, rfl, hst, Below.refl _ _⟩
    case round =>
      obtain ⟨j, hj, rfl, he, hw⟩ := hrel
      rcases Nat.eq_zero_or_pos j with h0 | h0
      · subst h0
        rw [Nat.pow_zero, Nat.div_one, Nat.div_one] at he
        subst he
        clear hl hm
        go_wp2_with fail
        go_ret
        exact ⟨by rw [cmp_self]; rfl, hw⟩
      · obtain ⟨i, rfl⟩ : ∃ i, j = i + 1 := ⟨j - 1, by omega⟩
        obtain ⟨g, off, rfl, hI⟩ := (hl.later hw).at (by omega)
        obtain ⟨g2, off2, rfl, hI2⟩ := (hm.later hw).at (by omega)
        have hc1 := hI i (by rw [zs_length]; omega)
        have hc2 := hI2 i (by rw [zs_length]; omega)
        rw [zs_getD] at hc1 hc2
        have e1 : ((i + 1 : Nat) : Int) - 1 = (i : Int) := by omega
        rw [e1]
        have hat := cmp_at 8 x y i he
        have hsm := same_step 8 x y i he
        obtain ⟨u, hu⟩ : ∃ u, (D x).getD i 0 = u := ⟨_, rfl⟩
        obtain ⟨v, hv⟩ : ∃ v, (D y).getD i 0 = v := ⟨_, rfl⟩
        rw [show (dgs 8 x).getD i 0 = u from hu, show (dgs 8 y).getD i 0 = v from hv] at hat hsm
        rw [hu] at hc1
        rw [hv] at hc2
        rcases Nat.lt_trichotomy u v with h | h | h
        · have h1 : ((u : Int) == (v : Int)) = false := beq_false_of_ne (by omega)
          have h2 : decide ((u : Int) < (v : Int)) = true := decide_eq_true (by omega)
          have h3 : (u == v) = false := beq_false_of_ne (by omega)
          have h4 : decide (u < v) = true := decide_eq_true h
          have Hc := Lib.hid (show cmp x y = -1 by rw [hat (by omega), cmp_lt h])
          clear hl hm hI hI2 hat hsm hu hv he hst
          go_wp2_with fail
          go_quiet (fail)
          have d1 : (wr.drewN nq).cell? ⟨g, off + i, none⟩ = some (.int .i64 (u : Int)) := hc1
          have d2 : (wr.drewN nq).cell? ⟨g2, off2 + i, none⟩ = some (.int .i64 (v : Int)) := hc2
          have hw2 := below_drewN hw nq
          clear hc1 hc2 hw
          generalize wr.drewN nq = W2 at *
          go_wp2_with fail
          go_quiet (fail)
          go_wp2_with fail
          go_ret
          exact ⟨by rw [Hc.out]; rfl, below_drewN hw2 nq⟩
        · have he2 := hsm h
          subst h
          clear hl hm hI hI2 hat hsm hu hv hst
          have He := Lib.hid he2
          clear he he2
          go_wp2_with fail
          go_quiet (fail)
          have hw2 := below_drewN hw nq
          go_wp2_with fail
          go_roundw
          case rel => exact ⟨i, by omega, by go_num, He.out, hw2⟩
          case measure => simp [intOf]
        · have h1 : ((u : Int) == (v : Int)) = false := beq_false_of_ne (by omega)
          have h2 : decide ((u : Int) < (v : Int)) = false := decide_eq_false (by omega)
          have h3 : (u == v) = false := beq_false_of_ne (by omega)
          have h4 : decide (u < v) = false := decide_eq_false (by omega)
          have Hc := Lib.hid (show cmp x y = 1 by rw [hat (by omega), cmp_gt h])
          clear hl hm hI hI2 hat hsm hu hv he hst
          go_wp2_with fail
          go_quiet (fail)
          have d1 : (wr.drewN nq).cell? ⟨g, off + i, none⟩ = some (.int .i64 (u : Int)) := hc1
          have d2 : (wr.drewN nq).cell? ⟨g2, off2 + i, none⟩ = some (.int .i64 (v : Int)) := hc2
          have hw2 := below_drewN hw nq
          clear hc1 hc2 hw
          generalize wr.drewN nq = W2 at *
          go_wp2_with fail
          go_quiet (fail)
          go_wp2_with fail
          go_ret
          exact ⟨by rw [Hc.out]; rfl, below_drewN hw2 nq⟩
  · have h1 : ((n : Int) == (k : Int)) = false := beq_false_of_ne (by omega)
    have h3 : (n == k) = false := beq_false_of_ne hnk
    rcases Nat.lt_or_gt_of_ne hnk with h | h
    · have h2 : decide ((n : Int) < (k : Int)) = true := decide_eq_true (by omega)
      have h4 : decide (n < k) = true := decide_eq_true h
      rw [cmp_lt (dgs_length_lt (k := 8) (by rw [show (dgs 8 x).length = n from hxl, show (dgs 8 y).length = k from hyl]; exact h))]
      clear hl hm
      go_enter Tryz.func45, Tryz.ntmps45
      go_wp2_with fail
      go_ret
      exact ⟨rfl, Below.refl _ _⟩
    · have h2 : decide ((n : Int) < (k : Int)) = false := decide_eq_false (by omega)
      have h4 : decide (n < k) = false := decide_eq_false (by omega)
      rw [cmp_gt (dgs_length_lt (k := 8) (by rw [show (dgs 8 x).length = n from hxl, show (dgs 8 y).length = k from hyl]; exact h))]
      clear hl hm
      go_enter Tryz.func45, Tryz.ntmps45
      go_wp2_with fail
      go_ret
      exact ⟨rfl, Below.refl _ _⟩

end Go.Proofs.YtagcpjokajcdiaaGreatDoor

/-
  Layer 3, the reference: sums of lists of digits.
-/
namespace Go.Proofs.YtagcpjokajcdiaaGreatDoor
open Go.RowKit Bs Ig

theorem own_sl {W : World} {base : Nat} {t : TypeId} {k : IntKind} {v : Value} {l : List Nat} (h : Bs.Own W base t k v l) : ∃ a n c, v = .slice a n c := h.row.2.elim (fun h => ⟨_, _, _, h.1⟩) (fun ⟨g, cap, cur, hv, _⟩ => ⟨_, _, _, hv⟩)
theorem tm10 (N : Nat) (E : Int) (h : E = (N : Int)) : E.tmod 10 = ((N % 10 : Nat) : Int) ∧ E.tdiv 10 = ((N / 10 : Nat) : Int) := by
  subst h
  exact ⟨(Int.ofNat_tmod N 10).symm, (Int.ofNat_tdiv N 10).symm⟩
/-- what a round of the sum keeps -/
structure Pl (x y n k : Nat) (C : List Nat) (cr i : Nat) : Prop where
  len : C.length = i
  lt : ∀ z ∈ C, z < 10
  sum : Ig.val 10 C + 10 ^ i * cr = x % 10 ^ i + y % 10 ^ i
  car : cr ≤ 1
  top : i = 0 ∨ 10 ^ (i - 1) ≤ x + y
  end_ : i ≤ max n k ∨ i = max n k + 1 ∧ cr = 0
theorem Pl.start (x y n k : Nat) : Pl x y n k [] 0 0 := ⟨rfl, fun z hz => (by cases hz), by simp [Ig.val, Nat.mod_one], by omega, .inl rfl, .inl (Nat.zero_le _)⟩
theorem div_high {x n i : Nat} (h : (D x).length = n) (hi : n ≤ i) : x / 10 ^ i = 0 := Nat.div_eq_of_lt (Nat.lt_of_lt_of_le (D_lt_pow h) (Nat.pow_le_pow_right (by omega) hi))
theorem Pl.next {x y n k : Nat} {C : List Nat} {cr i : Nat} (h : Pl x y n k C cr i) (hx : (D x).length = n) (hy : (D y).length = k) (hgo : i < n ∨ i < k ∨ 0 < cr) :
    Pl x y n k (C ++ [(cr + x / 10 ^ i % 10 + y / 10 ^ i % 10) % 10]) ((cr + x / 10 ^ i % 10 + y / 10 ^ i % 10) / 10) (i + 1) := by
  obtain ⟨h1, h2, h3, h4, h5, h6⟩ := h
  have hu : x / 10 ^ i % 10 < 10 := Nat.mod_lt _ (by omega)
  have hv : y / 10 ^ i % 10 < 10 := Nat.mod_lt _ (by omega)
  have hN := Nat.mod_add_div (cr + x / 10 ^ i % 10 + y / 10 ^ i % 10) 10
  refine ⟨by rw [List.length_append, h1]; rfl, fun z hz => ?_, ?_, by omega, .inr ?_, ?_⟩
  · rcases List.mem_append.1 hz with hz | hz
    · exact h2 z hz
    · rw [List.mem_singleton.1 hz]; exact Nat.mod_lt _ (by omega)
  · rw [val_append, h1, mod_step, mod_step, Nat.pow_succ]
    obtain ⟨N, hNe⟩ : ∃ N, cr + x / 10 ^ i % 10 + y / 10 ^ i % 10 = N := ⟨_, rfl⟩
    rw [hNe] at hN ⊢
    have key : 10 ^ i * (N % 10) + 10 ^ i * 10 * (N / 10) = 10 ^ i * cr + 10 ^ i * (x / 10 ^ i % 10) + 10 ^ i * (y / 10 ^ i % 10) := by
      rw [Nat.mul_assoc, ← Nat.mul_add, hN, ← hNe, Nat.mul_add, Nat.mul_add]
    show Ig.val 10 C + 10 ^ i * (N % 10) + 10 ^ i * 10 * (N / 10) = _
    omega
  · rw [Nat.add_sub_cancel]
    rcases hgo with h | h | h
    · have := D_le_pow hx (by omega)
      have := Nat.pow_le_pow_right (n := 10) (by omega) (show i ≤ n - 1 by omega)
      omega
    · have := D_le_pow hy (by omega)
      have := Nat.pow_le_pow_right (n := 10) (by omega) (show i ≤ k - 1 by omega)
      omega
    · have e1 := Nat.mod_le x (10 ^ i)
      have e2 := Nat.mod_le y (10 ^ i)
      have e3 : 10 ^ i ≤ 10 ^ i * cr := Nat.le_mul_of_pos_right _ h
      omega
  · rcases Nat.lt_or_ge i (max n k) with h | h
    · exact .inl (by omega)
    · right
      have e1 := div_high hx (show n ≤ i by omega)
      have e2 := div_high hy (show k ≤ i by omega)
      rw [e1, e2]
      refine ⟨by omega, by simp; omega⟩
theorem Pl.done {x y n k : Nat} {C : List Nat} {i : Nat} (h : Pl x y n k C 0 i) (hx : (D x).length = n) (hy : (D y).length = k) (h1 : n ≤ i) (h2 : k ≤ i) : C = D (x + y) := by
  have e1 : x % 10 ^ i = x := Nat.mod_eq_of_lt (Nat.lt_of_lt_of_le (D_lt_pow hx) (Nat.pow_le_pow_right (by omega) h1))
  have e2 : y % 10 ^ i = y := Nat.mod_eq_of_lt (Nat.lt_of_lt_of_le (D_lt_pow hy) (Nat.pow_le_pow_right (by omega) h2))
  have hv := h.sum
  rw [e1, e2, Nat.mul_zero, Nat.add_zero] at hv
  refine D_of C (x + y) h.lt hv ?_
  rcases h.top with h0 | h0
  · exact .inl (List.length_eq_zero_iff.1 (by rw [h.len]; exact h0))
  · right; rw [h.len]; exact h0


set_option maxRecDepth 100000 in
set_option maxHeartbeats 2000000 in
theorem rplus_any (a : Option Addr) (n c : Nat) (b : Option Addr) (k d : Nat) (x y : Nat) (w : World) (hl : IsZ w a n c (zs (D x))) (hm : IsZ w b k d (zs (D y))) (hn : n ≤ 100000) (hk : k ≤ 100000) :
    Calls Tryz.prog 41 #[.slice a n c, .slice b k d] w fun e w' => ∃ a' n' c', e = .returned (.slice a' n' c') ∧ IsZ w' a' n' c' (zs (D (x + y))) ∧ Below w.heap.size w w' := by
  have hxl := D_len hl
  have hyl := D_len hm
  have hnc := hl.cap
  have hkd := hm.cap
  obtain ⟨i0, hi, hz0, hz1, hz2⟩ := info_parts infoInt
  go_enter Tryz.func41, Tryz.ntmps41
  go_wp2_with fail
  go_loopw [5, 6, 7] (fun u v q wr => ∃ (C : List Nat) (cr i : Nat), v = .int .i64 (cr : Int) ∧ q = .int .i64 (i : Int) ∧ Pl x y n k C cr i ∧ Bs.Own wr w.heap.size 3 .i64 u C ∧ Below w.heap.size w wr) (fun _ _ q _ => (n + k + 2 - intOf q).toNat)
  case atStart => exact ⟨[], 0, 0, rfl, rfl, Pl.start x y n k, Bs.Own.nil _ _ _ _, Below.refl _ _⟩
  case round =>
    obtain ⟨C, cr, i, rfl, rfl, hp, hown, hw⟩ := hrel
    have hcr := hp.car
    have hlen := hp.len
    have hend := hp.end_
    have hs := hw.size
    rcases Decidable.em (i < n ∨ i < k ∨ 0 < cr) with hgo | hno
    · have hnx := hp.next hxl hyl hgo
      have hdx := dgs_getD 8 x i
      have hdy := dgs_getD 8 y i
      have hu0 : n ≤ i → x / 10 ^ i % 10 = 0 := fun h => by rw [div_high hxl h]
      have hv0 : k ≤ i → y / 10 ^ i % 10 = 0 := fun h => by rw [div_high hyl h]
      have hu9 : x / 10 ^ i % 10 < 10 := Nat.mod_lt _ (by omega)
      have hv9 : y / 10 ^ i % 10 < 10 := Nat.mod_lt _ (by omega)
      obtain ⟨u, hu⟩ : ∃ u, x / 10 ^ i % 10 = u := ⟨_, rfl⟩
      obtain ⟨v, hv⟩ : ∃ v, y / 10 ^ i % 10 = v := ⟨_, rfl⟩
      rw [hu, hv] at hnx
      rw [hu] at hu0 hu9
      rw [hv] at hv0 hv9
      rw [show (8 + 2 : Nat) = 10 from rfl, hu] at hdx
      rw [show (8 + 2 : Nat) = 10 from rfl, hv] at hdy
      have Hnx := Lib.hid hnx
      have hC : C.length ≤ 2000000 := by omega
      have HC := Lib.hid hC
      have Hown := Lib.hid hown
      have Hw := Lib.hid hw
      have ha : i < n → ∃ g off, a = some ⟨g, off, none⟩ ∧ wr.cell? ⟨g, off + i, none⟩ = some (.int .i64 (u : Int)) := fun h => by
        obtain ⟨g, off, e, hI⟩ := (hl.later hw).at (by omega)
        have hc := hI i (by rw [zs_length]; omega)
        rw [zs_getD, show (D x).getD i 0 = u from hdx] at hc
        exact ⟨g, off, e, hc⟩
      have hb : i < k → ∃ g off, b = some ⟨g, off, none⟩ ∧ wr.cell? ⟨g, off + i, none⟩ = some (.int .i64 (v : Int)) := fun h => by
        obtain ⟨g, off, e, hI⟩ := (hm.later hw).at (by omega)
        have hc := hI i (by rw [zs_length]; omega)
        rw [zs_getD, show (D y).getD i 0 = v from hdy] at hc
        exact ⟨g, off, e, hc⟩
      clear hnx hdx hdy hu hv hp hl hm hxl hyl hlen hC hown hw
      rcases Nat.lt_or_ge i n with h1 | h1 <;> rcases Nat.lt_or_ge i k with h2 | h2
      · obtain ⟨g, off, rfl, hc1⟩ := ha h1
        obtain ⟨g2, off2, rfl, hc2⟩ := hb h2
        obtain ⟨t1, t2⟩ := tm10 (cr + u + v) ((cr : Int) + (u : Int) + (v : Int)) (by omega)
        obtain ⟨s1, hs1⟩ : ∃ s1, (cr + u + v) % 10 = s1 := ⟨_, rfl⟩
        obtain ⟨s2, hs2⟩ : ∃ s2, (cr + u + v) / 10 = s2 := ⟨_, rfl⟩
        have Hs := Lib.hid (And.intro hs1 hs2)
        have b1 : s1 < 10 := by omega
        have b2 : s2 ≤ 2 := by omega
        have b3 : i ≤ n + k + 1 := by omega
        rw [hs1] at t1
        rw [hs2] at t2
        have f1 : decide (i < n) = true := decide_eq_true h1
        have f2 : decide (i < k) = true := decide_eq_true h2
        clear hs1 hs2 ha hb hu0 hv0 hgo hend
        go_wp2_with (at_builtin; refine wpList_push rfl _ _ 38 rfl w.heap.size 3 i0 (.int .i64 0) 8 Tryz.underlying38 hi hz0 hz1 hz2 rfl (by omega) .i64 _ C rfl (Hown.out.alloc _) ⟨wr.heap.size, 0, none⟩ 1 s1 rfl ?c1 ?c2 ?c3 ?_)
        case c1 => simp [Addr.add]
        case c2 => exact HC.out
        case c3 => simp; omega
        intro v' w1 hown' hb'
        have Hown2 := Lib.hid hown'
        have Hw2 := Lib.hid ((Hw.out.alloc hs _).trans hb')
        clear hown' hb'
        go_wp2_with fail
        go_roundw
        case rel => exact ⟨C ++ [s1], s2, i + 1, rfl, by go_num, by rw [← Hs.out.1, ← Hs.out.2]; exact Hnx.out, Hown2.out, Hw2.out⟩
        case measure => simp [intOf]; omega
      · obtain ⟨g, off, rfl, hc1⟩ := ha h1
        have hv := hv0 h2
        obtain ⟨t1, t2⟩ := tm10 (cr + u + v) ((cr : Int) + (u : Int)) (by omega)
        obtain ⟨s1, hs1⟩ : ∃ s1, (cr + u + v) % 10 = s1 := ⟨_, rfl⟩
        obtain ⟨s2, hs2⟩ : ∃ s2, (cr + u + v) / 10 = s2 := ⟨_, rfl⟩
        have Hs := Lib.hid (And.intro hs1 hs2)
        have b1 : s1 < 10 := by omega
        have b2 : s2 ≤ 2 := by omega
        have b3 : i ≤ n + k + 1 := by omega
        rw [hs1] at t1
        rw [hs2] at t2
        have f1 : decide (i < n) = true := decide_eq_true h1
        have f2 : decide (i < k) = false := decide_eq_false (by omega)
        clear hs1 hs2 ha hb hu0 hv0 hgo hend
        go_wp2_with (at_builtin; refine wpList_push rfl _ _ 38 rfl w.heap.size 3 i0 (.int .i64 0) 8 Tryz.underlying38 hi hz0 hz1 hz2 rfl (by omega) .i64 _ C rfl (Hown.out.alloc _) ⟨wr.heap.size, 0, none⟩ 1 s1 rfl ?c1 ?c2 ?c3 ?_)
        case c1 => simp [Addr.add]
        case c2 => exact HC.out
        case c3 => simp; omega
        intro v' w1 hown' hb'
        have Hown2 := Lib.hid hown'
        have Hw2 := Lib.hid ((Hw.out.alloc hs _).trans hb')
        clear hown' hb'
        go_wp2_with fail
        go_roundw
        case rel => exact ⟨C ++ [s1], s2, i + 1, rfl, by go_num, by rw [← Hs.out.1, ← Hs.out.2]; exact Hnx.out, Hown2.out, Hw2.out⟩
        case measure => simp [intOf]; omega
      · have hu := hu0 h1
        obtain ⟨g2, off2, rfl, hc2⟩ := hb h2
        obtain ⟨t1, t2⟩ := tm10 (cr + u + v) ((cr : Int) + (v : Int)) (by omega)
        obtain ⟨s1, hs1⟩ : ∃ s1, (cr + u + v) % 10 = s1 := ⟨_, rfl⟩
        obtain ⟨s2, hs2⟩ : ∃ s2, (cr + u + v) / 10 = s2 := ⟨_, rfl⟩
        have Hs := Lib.hid (And.intro hs1 hs2)
        have b1 : s1 < 10 := by omega
        have b2 : s2 ≤ 2 := by omega
        have b3 : i ≤ n + k + 1 := by omega
        rw [hs1] at t1
        rw [hs2] at t2
        have f1 : decide (i < n) = false := decide_eq_false (by omega)
        have f2 : decide (i < k) = true := decide_eq_true h2
        clear hs1 hs2 ha hb hu0 hv0 hgo hend
        go_wp2_with (at_builtin; refine wpList_push rfl _ _ 38 rfl w.heap.size 3 i0 (.int .i64 0) 8 Tryz.underlying38 hi hz0 hz1 hz2 rfl (by omega) .i64 _ C rfl (Hown.out.alloc _) ⟨wr.heap.size, 0, none⟩ 1 s1 rfl ?c1 ?c2 ?c3 ?_)
        case c1 => simp [Addr.add]
        case c2 => exact HC.out
        case c3 => simp; omega
        intro v' w1 hown' hb'
        have Hown2 := Lib.hid hown'
        have Hw2 := Lib.hid ((Hw.out.alloc hs _).trans hb')
        clear hown' hb'
        go_wp2_with fail
        go_roundw
        case rel => exact ⟨C ++ [s1], s2, i + 1, rfl, by go_num, by rw [← Hs.out.1, ← Hs.out.2]; exact Hnx.out, Hown2.out, Hw2.out⟩
        case measure => simp [intOf]; omega
      · have hu := hu0 h1
        have hv := hv0 h2
        obtain ⟨t1, t2⟩ := tm10 (cr + u + v) ((cr : Int)) (by omega)
        obtain ⟨s1, hs1⟩ : ∃ s1, (cr + u + v) % 10 = s1 := ⟨_, rfl⟩
        obtain ⟨s2, hs2⟩ : ∃ s2, (cr + u + v) / 10 = s2 := ⟨_, rfl⟩
        have Hs := Lib.hid (And.intro hs1 hs2)
        have b1 : s1 < 10 := by omega
        have b2 : s2 ≤ 2 := by omega
        have b3 : i ≤ n + k + 1 := by omega
        rw [hs1] at t1
        rw [hs2] at t2
        have f1 : decide (i < n) = false := decide_eq_false (by omega)
        have f2 : decide (i < k) = false := decide_eq_false (by omega)
        have f3 : decide (0 < cr) = true := decide_eq_true (by omega)
        clear hs1 hs2 ha hb hu0 hv0 hgo hend
        go_wp2_with (at_builtin; refine wpList_push rfl _ _ 38 rfl w.heap.size 3 i0 (.int .i64 0) 8 Tryz.underlying38 hi hz0 hz1 hz2 rfl (by omega) .i64 _ C rfl (Hown.out.alloc _) ⟨wr.heap.size, 0, none⟩ 1 s1 rfl ?c1 ?c2 ?c3 ?_)
        case c1 => simp [Addr.add]
        case c2 => exact HC.out
        case c3 => simp; omega
        intro v' w1 hown' hb'
        have Hown2 := Lib.hid hown'
        have Hw2 := Lib.hid ((Hw.out.alloc hs _).trans hb')
        clear hown' hb'
        go_wp2_with fail
        go_roundw
        case rel => exact ⟨C ++ [s1], s2, i + 1, rfl, by go_num, by rw [← Hs.out.1, ← Hs.out.2]; exact Hnx.out, Hown2.out, Hw2.out⟩
        case measure => simp [intOf]; omega
    · obtain rfl : cr = 0 := by omega
      obtain ⟨a', n', c', rfl⟩ := own_sl hown
      have hd := hp.done hxl hyl (by omega) (by omega)
      have hz := hown.isZ
      rw [hd] at hz
      have Hz := Lib.hid hz
      have Hw := Lib.hid hw
      have f1 : decide (i < n) = false := decide_eq_false (by omega)
      have f2 : decide (i < k) = false := decide_eq_false (by omega)
      clear hd hz hw hown hp hl hm hxl hyl hlen hend
      go_wp2_with fail
      go_ret
      exact ⟨a', n', c', rfl, Hz.out, Hw.out⟩

end Go.Proofs.YtagcpjokajcdiaaGreatDoor
