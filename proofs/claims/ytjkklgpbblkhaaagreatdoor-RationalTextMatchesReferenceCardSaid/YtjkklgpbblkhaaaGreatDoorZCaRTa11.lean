/-
  Put together by program out of these texts, in this order: Ihj, Ihk, Jba, Jmd, Jme, Rdg.
-/
import Derived.Test.YtjkklgpbblkhaaaGreatDoorZCaRTa10
import Derived.BigQuiet
import Derived.Test.YtjkklgpbblkhaaaGreatDoorZCaRTa06

/-
  Layer 3: quotients and roots.
-/
namespace Go.Proofs.YtjkklgpbblkhaaaGreatDoor
open Go.RowKit Bs Ig

theorem itoa_zero (y : Int) (hy : y ≠ 0) : (Lib.itoa y == [48]) = false := by
  refine beq_false_of_ne (fun h => hy (itoa_inj (y := 0) ?_))
  rw [h, show (0 : Int) = ((0 : Nat) : Int) from rfl, itoa_nat, dec_small (by omega)]; rfl
theorem itoa_pos (z : Int) (h : 0 ≤ z) : Lib.itoa z = Lib.decDigits z.natAbs := by
  obtain ⟨n, rfl⟩ : ∃ n : Nat, z = n := ⟨z.natAbs, by omega⟩
  rw [itoa_nat]; rfl
theorem results_tmp3 {fn : Func} {t u v : Tmp} (h : fn.results = #[.tmp t, .tmp u, .tmp v]) (tmps : Array Value) (P : Program) (w : World) :
    (results fn tmps).run P w = .ok (.tuple #[tmps.getD t undef, tmps.getD u undef, tmps.getD v undef]) w := by
  simp [results, h]
theorem big_sq : big ≤ big * big := Nat.le_mul_of_pos_right _ (Nat.pow_pos (by omega))

set_option maxRecDepth 100000 in
set_option maxHeartbeats 1000000 in
theorem Div_any (x y : Int) (hx : x.natAbs < big) (hy : y.natAbs < big) (hy0 : y ≠ 0) (w : World) (ht : TabP w) :
    Calls Tryz.prog 50 #[.string (bs (Lib.itoa x)), .string (bs (Lib.itoa y))] w fun e w' => e = .returned (.tuple #[.string (bs (Lib.itoa (x / y))), .string (bs (Lib.itoa (x % y))), .int .i64 0]) ∧ Below w.heap.size w w' := by
  have hq : (x / y).natAbs < big := Nat.lt_of_le_of_lt (Int.natAbs_ediv_le_natAbs x y) hx
  have hr0 : 0 ≤ x % y := Int.emod_nonneg x hy0
  have hr1 : (x % y).natAbs < big := by
    have := Int.emod_lt x hy0
    omega
  have HV1 := Lib.hid (Valid_yes x hx)
  have HV2 := Lib.hid (Valid_yes y hy)
  have HN1 := Lib.hid (numberOf_any x hx)
  have HN2 := Lib.hid (numberOf_any y hy)
  have HK := Lib.hid (ndivide_any x y hy0)
  have HR := Lib.hid (fun (W : World) (a : Option Addr) (n c : Nat) (h : IsZ W a n c (zs (G (x / y).natAbs))) (hb : Below w.heap.size w W) => (show Calls Tryz.prog 81 #[numV (x / y) a n c] W (fun e w' => e = .returned (.tuple #[.string (bs (Lib.itoa (x / y))), .int .i64 0]) ∧ Below W.heap.size W w') from by
    have := valid_any (x / y) a n c W h (len_z h (Nat.lt_of_lt_of_le hq big_sq)) (ht.later hb)
    unfold txt err at this
    rw [if_pos hq, if_pos hq] at this
    exact this))
  have HD := Lib.hid (fun (W : World) (a : Option Addr) (n c : Nat) (h : IsZ W a n c (zs (G (x % y).natAbs))) (hb : Below w.heap.size w W) => (show Calls Tryz.prog 82 #[.slice a n c] W (fun e w' => e = .returned (.string (bs (Lib.itoa (x % y)))) ∧ Below W.heap.size W w') from by
    have := digits_any a n c (x % y).natAbs W h (len_z h (Nat.lt_of_lt_of_le hr1 big_sq)) (ht.later hb)
    rw [itoa_pos _ hr0]
    exact this))
  unfold numV at HN1 HN2 HK HR
  obtain ⟨bx, hbx⟩ : ∃ bx, decide (x < 0) = bx := ⟨_, rfl⟩
  obtain ⟨bz, hbz⟩ : ∃ bz, decide (y < 0) = bz := ⟨_, rfl⟩
  obtain ⟨bq, hbq⟩ : ∃ bq, decide (x / y < 0) = bq := ⟨_, rfl⟩
  obtain ⟨br, hbr⟩ : ∃ br, decide (x % y < 0) = br := ⟨_, rfl⟩
  simp only [hbx, hbz, hbq, hbr] at HN1 HN2 HR HK
  have hne : ((bs (Lib.itoa y)).toList == [48]) = false := by rw [bs_toList]; exact itoa_zero y hy0
  generalize bs (Lib.itoa x) = S at *
  generalize bs (Lib.itoa y) = T at *
  generalize bs (Lib.itoa (x / y)) = U at *
  generalize bs (Lib.itoa (x % y)) = V at *
  clear hx hy hy0 hq hr0 hr1 ht hbx hbz hbq hbr
  go_enter Tryz.func50, Tryz.ntmps50
  go_wp2_with (first
    | (go_at_call 78; (with_reducible refine (HV1.out _).mono ?_); rintro e w1 ⟨rfl, rfl⟩)
    | (go_at_call 78; (with_reducible refine (HV2.out _).mono ?_); rintro e w1 ⟨rfl, rfl⟩)
    | (go_at_call 79; (with_reducible refine (HN2.out _).mono ?_); rintro e w3 ⟨a2, n2, c2, rfl, z2, l2, B2⟩; have z12 := z1.later B2; have B12 := below_on B1 B2 B1.size)
    | (go_at_call 79; (with_reducible refine (HN1.out _).mono ?_); rintro e w2 ⟨a1, n1, c1, rfl, z1, l1, B1⟩)
    | (go_at_call 80; (with_reducible refine (HK.out _ _ _ _ _ _ _ z12 z2 (by omega) (by omega)).mono ?_); rintro e w4 ⟨qa, qn, qc, ra, rn, rc, rfl, z3, z4, B3⟩; have B23 := below_on B12 B3 B12.size; have hr7 : ((w4.alloc (.cells #[.bool false, .slice none 0 0] 91)).alloc (.cells #[.bool false, .slice none 0 0] 91)).heap[w4.heap.size]? = some (.cells #[.bool false, .slice none 0 0] 91 (0, 0)) := ((heap_alloc_old _ _ (by simp)).trans (heap_alloc_new _ _)); have hr8 : ((w4.alloc (.cells #[.bool false, .slice none 0 0] 91)).alloc (.cells #[.bool false, .slice none 0 0] 91)).heap[w4.heap.size + 1]? = some (.cells #[.bool false, .slice none 0 0] 91 (0, 0)) := (by have := heap_alloc_new (w4.alloc (.cells #[.bool false, .slice none 0 0] 91)) (.cells #[.bool false, .slice none 0 0] 91); simp only [World.size_alloc] at this; exact this); have hr9 := (Go.setRow_other _ w4.heap.size (w4.heap.size + 1) #[.bool bq, .slice qa qn qc] (by omega)).trans hr8; have hA := (Go.setRow_other _ (w4.heap.size + 1) w4.heap.size #[.bool br, .slice ra rn rc] (by omega)).trans (setRow_heap _ w4.heap.size _ #[.bool bq, .slice qa qn qc] _ _ hr7); have hBB := setRow_heap _ (w4.heap.size + 1) _ #[.bool br, .slice ra rn rc] _ _ hr9; have hB4 := below_row (below_row (((Below.refl _ w4).alloc (Nat.le_refl _) (.cells #[.bool false, .slice none 0 0] 91)).alloc (by simp) (.cells #[.bool false, .slice none 0 0] 91)) (Nat.le_refl _) #[.bool bq, .slice qa qn qc]) (show w4.heap.size ≤ w4.heap.size + 1 by omega) #[.bool br, .slice ra rn rc]; have z5 := z3.later hB4; have z6 := z4.later hB4; have B5 := below_on B23 hB4 B23.size)
    | (refine wpList_load_row rfl 91 _ rfl w4.heap.size rfl 91 _ _ _ hA Tryz.underlying91 rfl ?l1 ?_)
    | (go_at_call 81; (with_reducible refine (HR.out _ _ _ _ z5 B5).mono ?_); rintro e w5 ⟨rfl, B6⟩; have z7 := z6.later B6; have B56 := below_on B5 B6 B5.size; have hc8 : w5.cell? ⟨w4.heap.size + 1, 1, none⟩ = some (.slice ra rn rc) := (by rw [cell_of_row _ _ 1 _ _ _ ((B6.block _ (Array.getElem?_eq_some_iff.1 hBB).1).trans hBB)]; rfl))
    | (go_at_call 82; (with_reducible refine (HD.out _ _ _ _ z7 B56).mono ?_); rintro e w6 ⟨rfl, B7⟩)
    | (refine wpList_store_row rfl 91 _ _ rfl w4.heap.size _ rfl rfl 91 _ hr7 ?s1 ?s2 ?s3 ?_)
    | (refine wpList_store_row rfl 91 _ _ rfl (w4.heap.size + 1) _ rfl rfl 91 _ hr9 ?s4 ?s5 ?s6 ?_))
  case s1 => kernel_rfl
  case s2 => rfl
  case s3 => exact two_cells _ _ _ _
  case s4 => kernel_rfl
  case s5 => rfl
  case s6 => exact two_cells _ _ _ _
  case l1 => kernel_rfl
  exact bodyPost_ret (results_tmp3 rfl _ _ _) rfl ⟨rfl, below_on B56 B7 B56.size⟩

set_option maxRecDepth 100000 in
set_option maxHeartbeats 1000000 in
theorem Div_zero (x : Int) (hx : x.natAbs < big) (w : World) :
    Calls Tryz.prog 50 #[.string (bs (Lib.itoa x)), .string (bs (Lib.itoa 0))] w fun e w' => e = .returned (.tuple #[.string (bs []), .string (bs []), .int .i64 30]) ∧ Below w.heap.size w w' := by
  have HV1 := Lib.hid (Valid_yes x hx)
  have HV2 := Lib.hid (Valid_yes 0 (Nat.pow_pos (by omega)))
  have hne : ((bs (Lib.itoa 0)).toList == [48]) = true := by
    rw [bs_toList, show (0 : Int) = ((0 : Nat) : Int) from rfl, itoa_nat, dec_small (by omega)]; rfl
  generalize bs (Lib.itoa x) = S at *
  generalize bs (Lib.itoa 0) = T at *
  clear hx
  go_enter Tryz.func50, Tryz.ntmps50
  go_wp2_with (first
    | (go_at_call 78; (with_reducible refine (HV1.out _).mono ?_); rintro e w1 ⟨rfl, rfl⟩)
    | (go_at_call 78; (with_reducible refine (HV2.out _).mono ?_); rintro e w1 ⟨rfl, rfl⟩))
  exact bodyPost_ret (results_tmp3 rfl _ _ _) rfl ⟨rfl, Below.refl _ _⟩

end Go.Proofs.YtjkklgpbblkhaaaGreatDoor

/-
  Layer 3: the fixed examples.
-/
namespace Go.Proofs.YtjkklgpbblkhaaaGreatDoor
open Go.RowKit Bs Ig

theorem lit_pos (l : List UInt8) (n : Nat) (hn : num l = n) (hd : ∀ c ∈ l, isDig c) (h0 : 49 ≤ (l.headD 0).toNat) : Lib.itoa (n : Int) = l := by
  cases l with
  | nil => exact absurd h0 (by decide)
  | cons c r => rw [itoa_nat, ← hn]; exact dec_num _ hd c r rfl h0
theorem lit_neg (l : List UInt8) (n : Nat) (hn : num l = n) (hd : ∀ c ∈ l, isDig c) (h0 : 49 ≤ (l.headD 0).toNat) : Lib.itoa (-(n : Int)) = 45 :: l := by
  have h := lit_pos l n hn hd h0
  rw [itoa_nat] at h
  cases l with
  | nil => exact absurd h0 (by decide)
  | cons c r =>
    have hp : 0 < n := by
      rw [← hn, num_cons]
      have : 0 < 10 ^ r.length := Nat.pow_pos (by omega)
      have := Nat.mul_le_mul_right (10 ^ r.length) (show 1 ≤ c.toNat - 48 by simp at h0; omega)
      omega
    rw [itoa_neg _ hp, h]
theorem small_big (n : Int) (h : n.natAbs < 100000000) : n.natAbs < big := Nat.lt_trans h (by decide +kernel)
theorem small_bb (n : Nat) (h : n < 100000000) : n < big * big := Nat.lt_trans h (by decide +kernel)
theorem txt_small (n : Int) (h : n.natAbs < 100000000) : txt n = Lib.itoa n := if_pos (small_big n h)
theorem err_small (n : Int) (h : n.natAbs < 100000000) : err n = 0 := if_pos (small_big n h)
theorem no_007 : ¬ IsI [48, 48, 55] := by
  rw [isI_iff]
  rintro (h | ⟨_, _, h, _⟩)
  · exact absurd h (by decide)
  · exact h rfl
theorem no_m0 : ¬ IsI [45, 48] := by
  rw [isI_iff]
  rintro (h | ⟨_, _, h, _⟩)
  · exact absurd h (by decide)
  · exact h rfl
theorem no_e : ¬ IsI [] := by
  rw [isI_iff]
  rintro (h | ⟨h, _⟩)
  · exact absurd h (by decide)
  · exact absurd h (by decide)
theorem lit_999 : Lib.itoa 999 = [57, 57, 57] := lit_pos [57, 57, 57] 999 rfl (by decide) (by decide)
theorem lit_1 : Lib.itoa 1 = [49] := lit_pos [49] 1 rfl (by decide) (by decide)
theorem lit_1000 : Lib.itoa 1000 = [49, 48, 48, 48] := lit_pos [49, 48, 48, 48] 1000 rfl (by decide) (by decide)
theorem lit_m999 : Lib.itoa (-999) = [45, 57, 57, 57] := lit_neg [57, 57, 57] 999 rfl (by decide) (by decide)
theorem lit_m12 : Lib.itoa (-12) = [45, 49, 50] := lit_neg [49, 50] 12 rfl (by decide) (by decide)
theorem lit_12 : Lib.itoa 12 = [49, 50] := lit_pos [49, 50] 12 rfl (by decide) (by decide)
theorem lit_m144 : Lib.itoa (-144) = [45, 49, 52, 52] := lit_neg [49, 52, 52] 144 rfl (by decide) (by decide)
theorem lit_m7 : Lib.itoa (-7) = [45, 55] := lit_neg [55] 7 rfl (by decide) (by decide)
theorem lit_2 : Lib.itoa 2 = [50] := lit_pos [50] 2 rfl (by decide) (by decide)
theorem lit_m4 : Lib.itoa (-4) = [45, 52] := lit_neg [52] 4 rfl (by decide) (by decide)
theorem lit_m2 : Lib.itoa (-2) = [45, 50] := lit_neg [50] 2 rfl (by decide) (by decide)
theorem lit_4 : Lib.itoa 4 = [52] := lit_pos [52] 4 rfl (by decide) (by decide)
theorem lit_m18 : Lib.itoa (-18) = [45, 49, 56] := lit_neg [49, 56] 18 rfl (by decide) (by decide)
theorem lit_6 : Lib.itoa 6 = [54] := lit_pos [54] 6 rfl (by decide) (by decide)
theorem lit_99 : Lib.itoa 99 = [57, 57] := lit_pos [57, 57] 99 rfl (by decide) (by decide)
theorem lit_9 : Lib.itoa 9 = [57] := lit_pos [57] 9 rfl (by decide) (by decide)
theorem lit_m1 : Lib.itoa (-1) = [45, 49] := lit_neg [49] 1 rfl (by decide) (by decide)
theorem lit_m8 : Lib.itoa (-8) = [45, 56] := lit_neg [56] 8 rfl (by decide) (by decide)
theorem s_add (w : World) (ht : TabP w) : Calls Tryz.prog 67 #[.string ⟨#[57, 57, 57]⟩, .string ⟨#[49]⟩] w fun e w' => e = .returned (.tuple #[.string ⟨#[49, 48, 48, 48]⟩, .int .i64 0]) ∧ Below w.heap.size w w' := by
  have h := Add_any (999) (1) (small_big _ (by decide)) (small_big _ (by decide)) (small_bb _ (by decide)) w ht
  rw [show ((999 : Int) + (1)) = (1000 : Int) by decide, txt_small _ (by decide), err_small _ (by decide), lit_999, lit_1, lit_1000] at h
  exact h
theorem s_sub (w : World) (ht : TabP w) : Calls Tryz.prog 72 #[.string ⟨#[49]⟩, .string ⟨#[49, 48, 48, 48]⟩] w fun e w' => e = .returned (.tuple #[.string ⟨#[45, 57, 57, 57]⟩, .int .i64 0]) ∧ Below w.heap.size w w' := by
  have h := Sub_any (1) (1000) (small_big _ (by decide)) (small_big _ (by decide)) (small_bb _ (by decide)) w ht
  rw [show ((1 : Int) - (1000)) = (-999 : Int) by decide, txt_small _ (by decide), err_small _ (by decide), lit_1, lit_1000, lit_m999] at h
  exact h
theorem s_mul (w : World) (ht : TabP w) : Calls Tryz.prog 70 #[.string ⟨#[45, 49, 50]⟩, .string ⟨#[49, 50]⟩] w fun e w' => e = .returned (.tuple #[.string ⟨#[45, 49, 52, 52]⟩, .int .i64 0]) ∧ Below w.heap.size w w' := by
  have h := Mul_any (-12) (12) (small_big _ (by decide)) (small_big _ (by decide)) (small_bb _ (by decide)) w ht
  rw [show ((-12 : Int) * (12)) = (-144 : Int) by decide, txt_small _ (by decide), err_small _ (by decide), lit_m12, lit_12, lit_m144] at h
  exact h
theorem s_gcd (w : World) (ht : TabP w) : Calls Tryz.prog 63 #[.string ⟨#[49, 50]⟩, .string ⟨#[45, 49, 56]⟩] w fun e w' => e = .returned (.tuple #[.string ⟨#[54]⟩, .int .i64 0]) ∧ Below w.heap.size w w' := by
  have h := Gcd_any (12) (-18) (small_big _ (by decide)) (small_big _ (by decide)) (small_bb _ (by decide)) w ht
  rw [show ((Int.gcd (12) (-18) : Nat) : Int) = (6 : Int) by decide, txt_small _ (by decide), err_small _ (by decide), lit_12, lit_m18, lit_6] at h
  exact h
theorem s_div1 (w : World) (ht : TabP w) : Calls Tryz.prog 50 #[.string ⟨#[45, 55]⟩, .string ⟨#[50]⟩] w fun e w' => e = .returned (.tuple #[.string ⟨#[45, 52]⟩, .string ⟨#[49]⟩, .int .i64 0]) ∧ Below w.heap.size w w' := by
  have h := Div_any (-7) (2) (small_big _ (by decide)) (small_big _ (by decide)) (by decide) w ht
  rw [show ((-7 : Int) / (2)) = (-4 : Int) by decide, show ((-7 : Int) % (2)) = (1 : Int) by decide, lit_m7, lit_2, lit_m4, lit_1] at h
  exact h
theorem s_div2 (w : World) (ht : TabP w) : Calls Tryz.prog 50 #[.string ⟨#[45, 55]⟩, .string ⟨#[45, 50]⟩] w fun e w' => e = .returned (.tuple #[.string ⟨#[52]⟩, .string ⟨#[49]⟩, .int .i64 0]) ∧ Below w.heap.size w w' := by
  have h := Div_any (-7) (-2) (small_big _ (by decide)) (small_big _ (by decide)) (by decide) w ht
  rw [show ((-7 : Int) / (-2)) = (4 : Int) by decide, show ((-7 : Int) % (-2)) = (1 : Int) by decide, lit_m7, lit_m2, lit_4, lit_1] at h
  exact h
theorem s_addn (w : World) : Calls Tryz.prog 67 #[.string ⟨#[48, 48, 55]⟩, .string ⟨#[49]⟩] w fun e w' => e = .returned (.tuple #[.string ⟨#[]⟩, .int .i64 30]) ∧ Below w.heap.size w w' := Add_no [48, 48, 55] no_007 ⟨#[49]⟩ w
theorem s_v1 (w : World) : Calls Tryz.prog 78 #[.string ⟨#[45, 55]⟩] w fun e w' => e = .returned (.bool true) ∧ w' = w := by
  have h := Valid_yes (-7) (small_big _ (by decide)) w
  rw [lit_m7] at h
  exact h
theorem s_v2 (w : World) : Calls Tryz.prog 78 #[.string ⟨#[45, 48]⟩] w fun e w' => e = .returned (.bool false) ∧ w' = w := Valid_no [45, 48] no_m0 w
theorem s_v3 (w : World) : Calls Tryz.prog 78 #[.string ⟨#[]⟩] w fun e w' => e = .returned (.bool false) ∧ w' = w := Valid_no [] no_e w
theorem s_cmp (w : World) : Calls Tryz.prog 51 #[.string ⟨#[45, 56]⟩, .string ⟨#[45, 55]⟩] w fun e w' => e = .returned (.int .i64 (-1)) ∧ Below w.heap.size w w' := by
  have h := Compare_any (-8) (-7) (small_big _ (by decide)) (small_big _ (by decide)) w
  rw [lit_m8, lit_m7] at h
  exact h

end Go.Proofs.YtjkklgpbblkhaaaGreatDoor

/-
  Layer 3, for the laws: what the functions of the package answer, the numerals as a letter.
-/
namespace Go.Proofs.YtjkklgpbblkhaaaGreatDoor
open Go.RowKit Bs Ig

/-- where a law stands: what was there is as it was, and the table lies where it lay -/
structure Now (w W : World) : Prop where
  below : Below w.heap.size w W
  tab : TabP W
theorem Now.start {w : World} (h : TabP w) : Now w w := ⟨Below.refl _ _, h⟩
theorem Now.step {w W W' : World} (h : Now w W) (hb : Below W.heap.size W W') : Now w W' := ⟨below_on h.below hb h.below.size, h.tab.later hb⟩

theorem int_bigs {n : Int} (h : isInt n) : n.natAbs < big := Nat.lt_trans (show n.natAbs < 10000000000000000000 by have := h.1; have := h.2; omega) (by decide +kernel)
theorem lt_bb {n : Nat} (h : n < big) : n < big * big := Nat.lt_of_lt_of_le h big_sq
theorem lit_0 : Lib.itoa 0 = [48] := by rw [show (0 : Int) = ((0 : Nat) : Int) from rfl, itoa_nat, dec_small (by omega)]; rfl
theorem gcd_big {x y : Int} (hx : x.natAbs < big) (hy : y.natAbs < big) : Int.gcd x y < big := by
  rcases Nat.eq_zero_or_pos y.natAbs with h | h
  · unfold Int.gcd; rw [h, Nat.gcd_zero_right]; exact hx
  · exact Nat.lt_of_le_of_lt (Nat.gcd_le_right _ h) hy
end Go.Proofs.YtjkklgpbblkhaaaGreatDoor

/-
  Layer 3: the integers that strings determine.
-/
namespace Go.Proofs.YtjkklgpbblkhaaaGreatDoor
open Go.RowKit Bs Ig

/-- digits, the least first, as bytes, the greatest first -/
def dl (l : List Nat) : List Nat := (l.map fun d => 48 + d).reverse
theorem dl_lt (l : List Nat) (h : ∀ x ∈ l, x < 10) : ∀ b ∈ dl l, 48 ≤ b ∧ b ≤ 57 := by
  intro b hb
  obtain ⟨d, hd, rfl⟩ := List.mem_map.1 (List.mem_reverse.1 hb)
  have := h d hd
  omega
theorem ub_length (l : List Nat) : (ub l).length = l.length := by simp [ub]
/-- what such bytes spell -/
theorem dl_num (neg : Bool) (l : List Nat) (h : ∀ x ∈ l, x < 10) (h0 : 0 < l.length) (hlast : l.getD (l.length - 1) 0 ≠ 0) :
    ∃ z : Int, z.natAbs < 10 ^ l.length ∧ ub ((if neg = true then [45] else []) ++ dl l) = Lib.itoa z := by
  have hb := dl_lt l h
  have hd : ∀ c ∈ ub (dl l), isDig c := by
    intro c hc
    obtain ⟨b, hb1, rfl⟩ := List.mem_map.1 hc
    have := hb b hb1
    unfold isDig
    rw [show (UInt8.ofNat b).toNat = b by rw [UInt8.toNat_ofNat']; exact Nat.mod_eq_of_lt (by omega)]
    exact this
  obtain ⟨r, x, hx⟩ : ∃ r x, l = r ++ [x] := by
    rcases List.eq_nil_or_concat l with e | ⟨r, x, e⟩
    · rw [e] at h0; cases h0
    · exact ⟨r, x, by rw [e, List.concat_eq_append]⟩
  have hx0 : x ≠ 0 := by
    rw [hx] at hlast
    simpa using hlast
  have hx9 : x < 10 := h x (by rw [hx]; simp)
  have hdl : ub (dl l) = UInt8.ofNat (48 + x) :: ub (dl r) := by
    rw [hx]; simp [dl, ub]
  have hnum := dec_num (ub (dl l)) hd _ _ hdl (by rw [UInt8.toNat_ofNat', Nat.mod_eq_of_lt (by omega)]; omega)
  have hlt := num_lt _ hd
  rw [ub_length, show (dl l).length = l.length by simp [dl]] at hlt
  cases neg with
  | false => exact ⟨(num (ub (dl l)) : Nat), by rw [Int.natAbs_natCast]; exact hlt, by rw [itoa_nat, hnum]; rfl⟩
  | true =>
    have hpos : 0 < num (ub (dl l)) := by
      rw [hdl, num_cons, UInt8.toNat_ofNat', Nat.mod_eq_of_lt (by omega)]
      have h1 : 0 < 10 ^ (ub (dl r)).length := Nat.pow_pos (by omega)
      have := Nat.mul_le_mul_right (10 ^ (ub (dl r)).length) (show 1 ≤ 48 + x - 48 by omega)
      omega
    exact ⟨-((num (ub (dl l)) : Nat) : Int), by rw [Int.natAbs_neg, Int.natAbs_natCast]; exact hlt, by rw [itoa_neg _ hpos, hnum]; rfl⟩

set_option maxRecDepth 100000 in
set_option maxHeartbeats 1000000 in
theorem trim_any (a : Option Addr) (n c : Nat) (l : List Nat) (w : World) (hl : IsZ w a n c (zs l)) (h : ∀ x ∈ l, x < 10) (hn : n ≤ 1000000) :
    Calls Tryz.prog 104 #[.slice a n c] w fun e w' => ∃ m, e = .returned (.slice a m c) ∧ m ≤ n ∧ IsZ w' a m c (zs (l.take m)) ∧ (m = 0 ∨ l.getD (m - 1) 0 ≠ 0) ∧ Below w.heap.size w w' := by
  have hll : l.length = n := by rw [← zs_length]; exact hl.len
  have hc := hl.cap
  have hm := hl.max
  go_enter Tryz.func104, Tryz.ntmps104
  go_wp2_with fail
  go_loopw [0] (fun v wr => ∃ m : Nat, m ≤ n ∧ v = .slice a m c ∧ Below w.heap.size w wr) (fun v _ => lenOf v)
  case atStart => exact ⟨n, Nat.le_refl _, rfl, Below.refl _ _⟩
  case round =>
    obtain ⟨m, hmn, rfl, hw⟩ := hrel
    have hfin := ((hl.later hw).take hmn)
    rw [zs_take] at hfin
    rcases Nat.eq_zero_or_pos m with h0 | h0
    · subst h0
      have Hf := Lib.hid hfin
      clear hl h hfin
      go_wp2_with fail
      go_ret
      exact ⟨0, rfl, Nat.zero_le _, Hf.out, .inl rfl, hw⟩
    · obtain ⟨g, off, rfl, hI⟩ := (hl.later hw).at (by omega)
      have hcell := hI (m - 1) (by rw [zs_length]; omega)
      rw [zs_getD] at hcell
      obtain ⟨x, hx⟩ : ∃ x, l.getD (m - 1) 0 = x := ⟨_, rfl⟩
      have HX := Lib.hid hx
      rw [hx] at hcell
      rcases Nat.eq_zero_or_pos x with hx0 | hx0
      · subst hx0
        have hsl := slc_h wr 40 Tryz.underlying40 (some ⟨g, off, none⟩) m c (m - 1) ((m : Int) - 1) (by omega) (by omega) (by kernel_rfl)
        clear hl h hI hx hfin
        go_wp2_with fail
        go_roundw
        case rel => exact ⟨m - 1, by omega, by go_num, hw⟩
        case measure => simp [lenOf]; omega
      · have hx1 : decide ((x : Int) = 0) = false := by simp; omega
        have Hf := Lib.hid hfin
        clear hl h hI hx hfin
        go_wp2_with fail
        go_ret
        exact ⟨m, rfl, hmn, Hf.out, .inr (by rw [HX.out]; omega), hw⟩

end Go.Proofs.YtjkklgpbblkhaaaGreatDoor

/-
  Layer 3: the integers that strings determine, whole.
-/
namespace Go.Proofs.YtjkklgpbblkhaaaGreatDoor
open Go.RowKit Bs Ig

theorem infoU8 : (Tryz.prog.info? 5).map (fun i => (i.zero, i.size, i.bytes)) = some (some (.int .u8 0), 1, 1) := by kernel_rfl
theorem strOfNums_bytes (l : List UInt8) : strOfNums (l.map (fun b => (b.toNat : Int))) = ⟨l.toArray⟩ := by
  show ByteArray.mk ((l.map (fun b => (b.toNat : Int))).map fun n => UInt8.ofNat n.toNat).toArray = _
  rw [List.map_map, show ((fun n : Int => UInt8.ofNat n.toNat) ∘ fun b : UInt8 => (b.toNat : Int)) = id from by funext b; simp, List.map_id]
/-- a slice of bytes as a string -/
theorem own_str {W : World} {base g cap n : Nat} {l : List Nat} (h : Bs.Own W base 5 .u8 (.slice (some ⟨g, 0, none⟩) n cap) l) (hn : l.length = n) (hl : ∀ b ∈ l, b < 256) :
    (convert 48 9 (.slice (some ⟨g, 0, none⟩) n cap)).run Tryz.prog W = .ok (.string (bs (ub l))) W := by
  have e : l.map (fun (b : Nat) => (b : Int)) = (ub l).map (fun b => (b.toNat : Int)) := by
    unfold ub
    rw [List.map_map]
    apply List.map_congr_left
    intro b hb
    have := hl b hb
    simp; omega
  rw [run_convert_bytes_arg W 48 5 Tryz.underlying48 Tryz.underlying5 g 0 n cap (l.map (fun (b : Nat) => (b : Int))) (by simpa using hn) (fun i hi => by
    rw [Nat.zero_add, h.get i (by omega)]
    congr 2
    rw [List.getD_eq_getElem?_getD, List.getD_eq_getElem?_getD, List.getElem?_map, List.getElem?_eq_getElem (show i < l.length by omega)]; rfl) 9 Tryz.underlying9, e, strOfNums_bytes]
  rfl
theorem dl_step (l : List Nat) (i : Nat) (hi : i < l.length) : dl (l.drop (i + 1)) ++ [48 + l.getD i 0] = dl (l.drop i) := by
  unfold dl
  rw [List.drop_eq_getElem_cons hi, List.map_cons, List.reverse_cons, List.getD_eq_getElem?_getD, List.getElem?_eq_getElem hi]
  rfl

set_option maxRecDepth 100000 in
set_option maxHeartbeats 2000000 in
theorem text0_any (neg : Bool) (a : Option Addr) (c : Nat) (w : World) :
    Calls Tryz.prog 73 #[.bool neg, .slice a 0 c] w fun e w' => e = .returned (.tuple #[.string ⟨#[48]⟩, .bool true]) ∧ Below w.heap.size w w' := by
  go_enter Tryz.func73, Tryz.ntmps73
  go_wp2_with fail
  go_ret2
  exact ⟨rfl, Below.refl _ _⟩

set_option maxRecDepth 100000 in
set_option maxHeartbeats 2000000 in
theorem textG_any (neg : Bool) (a : Option Addr) (n c : Nat) (l : List Nat) (w : World) (hl : IsZ w a n c (zs l)) (h : ∀ x ∈ l, x < 10) (h0 : 0 < n) (hn : n ≤ 1000000) (fit : Bool) (hd2 : decide ((n : Int) ≤ 200) = fit) :
    Calls Tryz.prog 73 #[.bool neg, .slice a n c] w fun e w' => e = .returned (.tuple #[.string (bs (ub ((if neg = true then [45] else []) ++ dl l))), .bool fit]) ∧ Below w.heap.size w w' := by
  have hll : l.length = n := by rw [← zs_length]; exact hl.len
  have hcap := hl.cap
  have hmx := hl.max
  have hd0 : ((n : Int) == 0) = false := beq_false_of_ne (by omega)
  obtain ⟨i0, hi, hz0, hz1, hz2⟩ := info_parts infoU8
  have hloop : ∀ (pre : List Nat), (∀ x ∈ pre, x < 256) → pre.length ≤ 1 → ∀ b ∈ pre ++ dl l, b < 256 := by
    intro pre hp _ b hb
    rcases List.mem_append.1 hb with hb | hb
    · exact hp b hb
    · have := dl_lt l h b hb; omega
  have hdg : ∀ i, i < n → l.getD i 0 < 10 := fun i hi => by
    rw [List.getD_eq_getElem?_getD, List.getElem?_eq_getElem (show i < l.length by omega)]
    exact h _ (List.getElem_mem _)
  have Hl := Lib.hid hl
  have Hdg := Lib.hid hdg
  have Hlp := Lib.hid hloop
  have Hll := Lib.hid hll
  clear hl h hloop hdg hll
  cases neg with
  | false =>
    go_enter Tryz.func73, Tryz.ntmps73
    go_wp2_with fail
    go_loopw [6, 7] (fun v i wr => ∃ j : Nat, j ≤ n ∧ i = .int .i64 ((j : Int) - 1) ∧ Bs.Own wr w.heap.size 5 .u8 v ([] ++ dl (l.drop j)) ∧ Below w.heap.size w wr) (fun _ i _ => (intOf i + 1).toNat)
    case atStart => exact ⟨n, Nat.le_refl _, rfl, by rw [List.drop_of_length_le (by rw [Hll.out]; omega)]; exact Bs.Own.nil _ _ _ _, Below.refl _ _⟩
    case round =>
      obtain ⟨j, hj, rfl, hown, hw⟩ := hrel
      have hs := hw.size
      rcases Nat.eq_zero_or_pos j with hj0 | hj0
      · subst hj0
        rw [List.drop_zero] at hown
        have hlen : ([] ++ dl l).length = n := by rw [List.nil_append]; simp [dl]; exact Hll.out
        obtain ⟨g, cap, rfl⟩ := hown.shape hlen h0
        have hcv := own_str hown hlen (Hlp.out [] (by simp) (by simp))
        have Hw := Lib.hid hw
        clear hown hlen hw
        go_wp2_with fail
        go_ret2
        exact ⟨rfl, Hw.out⟩
      · obtain ⟨i, rfl⟩ : ∃ i, j = i + 1 := ⟨j - 1, by omega⟩
        obtain ⟨g, off, rfl, hI⟩ := (Hl.out.later hw).at (by omega)
        have hcell := hI i (by rw [zs_length, Hll.out]; omega)
        rw [zs_getD] at hcell
        have hdi := Hdg.out i (by omega)
        have hst := dl_step l i (by rw [Hll.out]; omega)
        obtain ⟨x, hx⟩ : ∃ x, l.getD i 0 = x := ⟨_, rfl⟩
        rw [hx] at hcell hdi hst
        have e1 : ((i + 1 : Nat) : Int) - 1 = (i : Int) := by omega
        rw [e1]
        have Hst := Lib.hid hst
        have Hlen := Lib.hid (show ([] ++ dl (l.drop (i + 1))).length ≤ 2000000 by rw [List.nil_append]; simp [dl]; have := Hll.out; omega)
        clear hI hx hst
        go_wp2_with (at_builtin; refine wpList_push rfl _ _ 48 rfl w.heap.size 5 i0 (.int .u8 0) 1 Tryz.underlying48 hi hz0 hz1 hz2 rfl (by omega) .u8 _ ([] ++ dl (l.drop (i + 1))) rfl (hown.alloc _) ⟨wr.heap.size, 0, none⟩ 1 (48 + x) rfl ?c1 ?c2 ?c3 ?_)
        case c1 => simp [Addr.add]
        case c2 => exact Hlen.out
        case c3 => simp; omega
        intro v' w1 hown' hb
        rw [Hst.out] at hown'
        have Hown := Lib.hid hown'
        have Hw := Lib.hid ((hw.alloc hs _).trans hb)
        clear hown hown' hb hw
        go_wp2_with fail
        go_roundw
        case rel => exact ⟨i, by omega, by go_num, Hown.out, Hw.out⟩
        case measure => simp [intOf]
  | true =>
    go_enter Tryz.func73, Tryz.ntmps73
    go_wp2_with (at_builtin; refine wpList_push rfl _ _ 48 rfl w.heap.size 5 i0 (.int .u8 0) 1 Tryz.underlying48 hi hz0 hz1 hz2 rfl (by omega) .u8 _ [] rfl (Bs.Own.nil _ _ _ _) ⟨w.heap.size, 0, none⟩ 1 45 rfl ?b1 ?b2 ?b3 ?_)
    case b1 => simp [Addr.add]
    case b2 => simp
    case b3 => simp
    intro v1 w1 hown1 hb1
    have hw1 : Below w.heap.size w w1 := ((Below.refl _ w).alloc (Nat.le_refl _) _).trans hb1
    have Hown1 := Lib.hid hown1
    have Hw1 := Lib.hid hw1
    clear hown1 hb1 hw1
    go_wp2_with fail
    go_loopw [6, 7] (fun v i wr => ∃ j : Nat, j ≤ n ∧ i = .int .i64 ((j : Int) - 1) ∧ Bs.Own wr w.heap.size 5 .u8 v ([45] ++ dl (l.drop j)) ∧ Below w.heap.size w wr) (fun _ i _ => (intOf i + 1).toNat)
    case atStart => exact ⟨n, Nat.le_refl _, rfl, by rw [List.drop_of_length_le (by rw [Hll.out]; omega)]; exact Hown1.out, Hw1.out⟩
    case round =>
      obtain ⟨j, hj, rfl, hown, hw⟩ := hrel
      have hs := hw.size
      rcases Nat.eq_zero_or_pos j with hj0 | hj0
      · subst hj0
        rw [List.drop_zero] at hown
        have hlen : ([45] ++ dl l).length = n + 1 := by simp [dl]; exact Hll.out
        obtain ⟨g, cap, rfl⟩ := hown.shape hlen (by omega)
        have hcv := own_str hown hlen (Hlp.out [45] (by simp) (by simp))
        have Hw := Lib.hid hw
        clear hown hlen hw
        go_wp2_with fail
        go_ret2
        exact ⟨rfl, Hw.out⟩
      · obtain ⟨i, rfl⟩ : ∃ i, j = i + 1 := ⟨j - 1, by omega⟩
        obtain ⟨g, off, rfl, hI⟩ := (Hl.out.later hw).at (by omega)
        have hcell := hI i (by rw [zs_length, Hll.out]; omega)
        rw [zs_getD] at hcell
        have hdi := Hdg.out i (by omega)
        have hst := dl_step l i (by rw [Hll.out]; omega)
        obtain ⟨x, hx⟩ : ∃ x, l.getD i 0 = x := ⟨_, rfl⟩
        rw [hx] at hcell hdi hst
        have e1 : ((i + 1 : Nat) : Int) - 1 = (i : Int) := by omega
        rw [e1]
        have Hst := Lib.hid hst
        have Hlen := Lib.hid (show ([45] ++ dl (l.drop (i + 1))).length ≤ 2000000 by simp [dl]; have := Hll.out; omega)
        clear hI hx hst
        go_wp2_with (at_builtin; refine wpList_push rfl _ _ 48 rfl w.heap.size 5 i0 (.int .u8 0) 1 Tryz.underlying48 hi hz0 hz1 hz2 rfl (by omega) .u8 _ ([45] ++ dl (l.drop (i + 1))) rfl (hown.alloc _) ⟨wr.heap.size, 0, none⟩ 1 (48 + x) rfl ?c1 ?c2 ?c3 ?_)
        case c1 => simp [Addr.add]
        case c2 => exact Hlen.out
        case c3 => simp; omega
        intro v' w2 hown' hb
        rw [Hst.out] at hown'
        have Hown := Lib.hid hown'
        have Hw := Lib.hid ((hw.alloc hs _).trans hb)
        clear hown hown' hb hw
        go_wp2_with fail
        go_roundw
        case rel => exact ⟨i, by omega, by go_num, Hown.out, Hw.out⟩
        case measure => simp [intOf]

theorem text_any (neg : Bool) (a : Option Addr) (n c : Nat) (l : List Nat) (w : World) (hl : IsZ w a n c (zs l)) (h : ∀ x ∈ l, x < 10) (h0 : 0 < n) (hn : n ≤ 200) :
    Calls Tryz.prog 73 #[.bool neg, .slice a n c] w fun e w' => e = .returned (.tuple #[.string (bs (ub ((if neg = true then [45] else []) ++ dl l))), .bool true]) ∧ Below w.heap.size w w' :=
  textG_any neg a n c l w hl h h0 (by omega) true (decide_eq_true (by omega))

end Go.Proofs.YtjkklgpbblkhaaaGreatDoor

/-
  Layer 3, the reference: the digits of an integer.
-/
namespace Go.Proofs.YtjkklgpbblkhaaaGreatDoor
open Go.RowKit Bs Ig

theorem D_pos {n : Nat} (h : 0 < n) : D n = n % 10 :: D (n / 10) := dgs_pos 8 h
theorem D_zero : D 0 = [] := dgs_zero 8
theorem ub_append (l m : List Nat) : ub (l ++ m) = ub l ++ ub m := by simp [ub]
theorem dl_cons (x : Nat) (l : List Nat) : dl (x :: l) = dl l ++ [48 + x] := by simp [dl]
theorem dec_dl {n : Nat} (h : 0 < n) : Lib.decDigits n = ub (dl (D n)) := by
  induction n using Nat.strongRecOn with
  | _ n ih =>
    rw [D_pos h, dl_cons, ub_append]
    rcases Nat.lt_or_ge n 10 with h1 | h1
    · rw [dec_small h1, Nat.div_eq_of_lt h1, D_zero, Nat.mod_eq_of_lt h1]; rfl
    · rw [dec_big h1, ih (n / 10) (by omega) (by omega)]; rfl
/-- the bytes of a numeral, from behind -/
theorem byte_dl {B : ByteArray} {n : Nat} (h : 0 < n) (hB : B.data.toList = Lib.decDigits n) : B.size = (D n).length ∧ ∀ j (hj : j < B.size), (B[B.size - 1 - j]'(by omega)).toNat = 48 + (D n).getD j 0 := by
  have hlen : B.size = (D n).length := by
    have : B.data.toList.length = B.size := rfl
    rw [← this, hB, dec_dl h, ub_length]; simp [dl]
  refine ⟨hlen, fun j hj => ?_⟩
  have h1 := getD_str B (B.size - 1 - j) (by omega)
  rw [hB, dec_dl h] at h1
  rw [← h1]
  have h2 : (dl (D n))[B.size - 1 - j]? = some (48 + (D n).getD j 0) := by
    unfold dl
    rw [List.getElem?_reverse (by rw [List.length_map]; omega), List.length_map, ← hlen, show B.size - 1 - (B.size - 1 - j) = j by omega, List.getElem?_map, List.getElem?_eq_getElem (by omega), List.getD_eq_getElem?_getD, List.getElem?_eq_getElem (by omega)]
    rfl
  rw [List.getD_eq_getElem?_getD]
  unfold ub
  rw [List.getElem?_map, h2]
  have h3 : (D n).getD j 0 < 10 := by
    rw [List.getD_eq_getElem?_getD, List.getElem?_eq_getElem (by omega)]
    exact D_lt n _ (List.getElem_mem _)
  show (UInt8.ofNat (48 + (D n).getD j 0)).toNat = _
  exact dig_toNat h3
theorem D_len200 {n : Nat} (h : n < big) : (D n).length ≤ 200 := dgs_length_le 8 200 n h
theorem take_D (n j : Nat) (hj : j < (D n).length) : (D n).take j ++ [(D n).getD j 0] = (D n).take (j + 1) := by
  rw [List.take_succ_eq_append_getElem hj, List.getD_eq_getElem?_getD, List.getElem?_eq_getElem hj]; rfl
theorem u8_sub (d : Nat) (h : d < 10) : IntKind.u8.wrap (((48 + d : Nat) : Int) - 48) = (d : Int) := by rw [IntKind.wrap_u8]; omega

set_option maxRecDepth 100000 in
set_option maxHeartbeats 4000000 in
theorem digits0 (w : World) : Calls Tryz.prog 74 #[.string ⟨#[48]⟩] w fun e w' => e = .returned (.tuple #[.bool false, .slice none 0 0]) ∧ w' = w := by
  obtain ⟨S, hS⟩ : ∃ S, (⟨#[48]⟩ : ByteArray) = S := ⟨_, rfl⟩
  have g1 : S.size = 1 := by rw [← hS]; rfl
  have g2 : 0 < S.size := by omega
  have g3 : (S[0]'g2).toNat = 48 := by subst hS; rfl
  have g4 : (S.toList == [48]) = true := by rw [← hS, toList_eq]; rfl
  have g5 : decide (0 < (S.size : Int)) = true := decide_eq_true (by omega)
  rw [hS]
  clear hS
  go_enter Tryz.func74, Tryz.ntmps74
  go_wp2_with fail
  go_loopw [5, 6] (fun v p wr => v = .slice none 0 0 ∧ p = .int .i64 0 ∧ wr = w) (fun _ _ _ => 0)
  case atStart => exact ⟨rfl, by go_num, rfl⟩
  case round =>
    obtain ⟨rfl, rfl, rfl⟩ := hrel
    go_wp2_with fail
    go_ret2
    exact ⟨rfl, rfl⟩

set_option maxRecDepth 100000 in
set_option maxHeartbeats 4000000 in
theorem digitsP (B : ByteArray) (n : Nat) (h0 : 0 < n) (hn : n < big) (hB : B.data.toList = Lib.decDigits n) (w : World) :
    Calls Tryz.prog 74 #[.string B] w fun e w' => ∃ a m c, e = .returned (.tuple #[.bool false, .slice a m c]) ∧ IsZ w' a m c (zs (D n)) ∧ Below w.heap.size w w' := by
  obtain ⟨hlen, hbyte⟩ := byte_dl h0 hB
  have hl200 := D_len200 hn
  have hpos : 0 < (D n).length := by rw [D_pos h0]; simp
  have g1 : 0 < B.size := by omega
  have hfirst := hbyte (B.size - 1) (by omega)
  have g0 : ∃ q, (B[0]'g1).toNat = q ∧ 48 ≤ q := by
    refine ⟨_, rfl, ?_⟩
    have e : (B[B.size - 1 - (B.size - 1)]'(by omega)) = B[0]'g1 := by congr 1; omega
    rw [e] at hfirst
    omega
  obtain ⟨q, hq, hq48⟩ := g0
  have g2 : ((q : Int) == 45) = false := beq_false_of_ne (by omega)
  have g3 : (q == 45) = false := beq_false_of_ne (by omega)
  have g4 : decide (0 < (B.size : Int)) = true := decide_eq_true (by omega)
  have g5 : (B.toList == [48]) = false := by
    rw [toList_eq, hB]
    refine beq_false_of_ne (fun e => ?_)
    have := num_dec n
    rw [e] at this
    have h' : num [48] = 0 := rfl
    omega
  have g6 : (B.toList != [48]) = true := by rw [bne, g5]; rfl
  obtain ⟨i0, hi, hz0, hz1, hz2⟩ := info_parts infoInt
  have HB := Lib.hid hbyte
  have HL := Lib.hid hlen
  clear hbyte hfirst hB h0
  go_enter Tryz.func74, Tryz.ntmps74
  go_wp2_with fail
  go_loopw [5, 6] (fun v p wr => ∃ j : Nat, j ≤ B.size ∧ p = .int .i64 ((B.size : Int) - 1 - (j : Int)) ∧ Bs.Own wr w.heap.size 3 .i64 v ((D n).take j) ∧ Below w.heap.size w wr) (fun _ p _ => (intOf p + 1).toNat)
  case atStart => exact ⟨0, Nat.zero_le _, by go_num, Bs.Own.nil _ _ _ _, Below.refl _ _⟩
  case round =>
    obtain ⟨j, hj, rfl, hown, hw⟩ := hrel
    have hsz := hw.size
    rcases Nat.lt_or_ge j B.size with h1 | h1
    · have hb := HB.out j h1
      have ht := take_D n j (by have := HL.out; omega)
      obtain ⟨d, hd⟩ : ∃ d, (D n).getD j 0 = d := ⟨_, rfl⟩
      have hd9 : d < 10 := by
        rw [← hd, List.getD_eq_getElem?_getD, List.getElem?_eq_getElem (by have := HL.out; omega)]
        exact D_lt n _ (List.getElem_mem _)
      rw [hd] at hb ht
      obtain ⟨i, hi2, hii⟩ : ∃ i, B.size - 1 - j = i ∧ (B.size : Int) - 1 - (j : Int) = (i : Int) := ⟨_, rfl, by omega⟩
      have hilt : i < B.size := by omega
      have hb2 : (B[i]'hilt).toNat = 48 + d := by rw [← hb]; congr 2; exact hi2.symm
      rw [hii]
      have e1 : decide (0 ≤ (i : Int)) = true := decide_eq_true (by omega)
      have e2 : decide ((i : Int) < (B.size : Int)) = true := decide_eq_true (by omega)
      have e3 := u8_sub d hd9
      have hjl : ((D n).take j).length ≤ 2000000 := by rw [List.length_take]; omega
      have Ht := Lib.hid ht
      have Hjl := Lib.hid hjl
      have Hii := Lib.hid hii
      obtain ⟨k, hk⟩ : ∃ k, 48 + d = k := ⟨_, rfl⟩
      rw [hk] at hb2 e3
      clear hb ht hd hjl hi2 hii
      go_wp2_with (at_builtin; refine wpList_push rfl _ _ 40 rfl w.heap.size 3 i0 (.int .i64 0) 8 Tryz.underlying40 hi hz0 hz1 hz2 rfl (by omega) .i64 _ ((D n).take j) rfl (hown.alloc _) ⟨wr.heap.size, 0, none⟩ 1 d rfl ?c1 ?c2 ?c3 ?_)
      case c1 => simp [Addr.add]
      case c2 => exact Hjl.out
      case c3 => simp; omega
      intro v' w1 hown' hb
      rw [Ht.out] at hown'
      have Hown := Lib.hid hown'
      have Hw := Lib.hid ((hw.alloc hsz _).trans hb)
      clear hown hown' hb hw
      go_wp2_with fail
      go_roundw
      case rel => exact ⟨j + 1, h1, by have := Hii.out; go_num, Hown.out, Hw.out⟩
      case measure => simp [intOf]
    · obtain rfl : j = B.size := by omega
      have e1 : decide (0 ≤ (B.size : Int) - 1 - (B.size : Int)) = false := decide_eq_false (by omega)
      obtain ⟨a, m, c, rfl⟩ := own_sl hown
      have hzz := hown.isZ
      rw [List.take_of_length_le (by have := HL.out; omega)] at hzz
      have Hz := Lib.hid hzz
      clear hown hzz
      go_wp2_with fail
      go_ret2
      exact ⟨a, m, c, rfl, Hz.out, hw⟩

set_option maxRecDepth 100000 in
set_option maxHeartbeats 4000000 in
theorem digitsN (s : ByteArray) (n : Nat) (h0 : 0 < n) (hn : n < big) (hs : s.data.toList = 45 :: Lib.decDigits n) (w : World) :
    Calls Tryz.prog 74 #[.string s] w fun e w' => ∃ a m c, e = .returned (.tuple #[.bool true, .slice a m c]) ∧ IsZ w' a m c (zs (D n)) ∧ Below w.heap.size w w' := by
  have hss : s.size = (Lib.decDigits n).length + 1 := by have : s.data.toList.length = s.size := rfl; rw [hs] at this; simp at this; omega
  obtain ⟨B, hBx⟩ : ∃ B, s.extract 1 s.size = B := ⟨_, rfl⟩
  have hB : B.data.toList = Lib.decDigits n := by
    have hx := bs_extract s.data.toList 1 s.size
    rw [bs_bytes, hs] at hx
    rw [← hBx, hx]
    show (bs _).data.toList = _
    simp only [bs, List.drop_succ_cons, List.drop_zero]
    exact List.take_of_length_le (by omega)
  have y0 : 0 < s.size := by omega
  have y1 : (s[0]'y0).toNat = 45 := by have := getD_str s 0 y0; rw [hs] at this; rw [← this]; rfl
  have y2 : decide (1 ≤ s.size) = true := decide_eq_true (by omega)
  have y3 : decide (1 ≤ (s.size : Int)) = true := decide_eq_true (by omega)
  have y4 : decide (0 < (s.size : Int)) = true := decide_eq_true (by omega)
  clear hs hss
  obtain ⟨hlen, hbyte⟩ := byte_dl h0 hB
  have hl200 := D_len200 hn
  have hpos : 0 < (D n).length := by rw [D_pos h0]; simp
  have g1 : 0 < B.size := by omega
  have g4 : decide (0 < (B.size : Int)) = true := decide_eq_true (by omega)
  have g5 : (B.toList == [48]) = false := by
    rw [toList_eq, hB]
    refine beq_false_of_ne (fun e => ?_)
    have := num_dec n
    rw [e] at this
    have h' : num [48] = 0 := rfl
    omega
  have g6 : (B.toList != [48]) = true := by rw [bne, g5]; rfl
  obtain ⟨i0, hi, hz0, hz1, hz2⟩ := info_parts infoInt
  have HB := Lib.hid hbyte
  have HL := Lib.hid hlen
  clear hbyte hB h0
  go_enter Tryz.func74, Tryz.ntmps74
  go_wp2_with fail
  go_loopw [5, 6] (fun v p wr => ∃ j : Nat, j ≤ B.size ∧ p = .int .i64 ((B.size : Int) - 1 - (j : Int)) ∧ Bs.Own wr w.heap.size 3 .i64 v ((D n).take j) ∧ Below w.heap.size w wr) (fun _ p _ => (intOf p + 1).toNat)
  case atStart => exact ⟨0, Nat.zero_le _, by go_num, Bs.Own.nil _ _ _ _, Below.refl _ _⟩
  case round =>
    obtain ⟨j, hj, rfl, hown, hw⟩ := hrel
    have hsz := hw.size
    rcases Nat.lt_or_ge j B.size with h1 | h1
    · have hb := HB.out j h1
      have ht := take_D n j (by have := HL.out; omega)
      obtain ⟨d, hd⟩ : ∃ d, (D n).getD j 0 = d := ⟨_, rfl⟩
      have hd9 : d < 10 := by
        rw [← hd, List.getD_eq_getElem?_getD, List.getElem?_eq_getElem (by have := HL.out; omega)]
        exact D_lt n _ (List.getElem_mem _)
      rw [hd] at hb ht
      obtain ⟨i, hi2, hii⟩ : ∃ i, B.size - 1 - j = i ∧ (B.size : Int) - 1 - (j : Int) = (i : Int) := ⟨_, rfl, by omega⟩
      have hilt : i < B.size := by omega
      have hb2 : (B[i]'hilt).toNat = 48 + d := by rw [← hb]; congr 2; exact hi2.symm
      rw [hii]
      have e1 : decide (0 ≤ (i : Int)) = true := decide_eq_true (by omega)
      have e2 : decide ((i : Int) < (B.size : Int)) = true := decide_eq_true (by omega)
      have e3 := u8_sub d hd9
      have hjl : ((D n).take j).length ≤ 2000000 := by rw [List.length_take]; omega
      have Ht := Lib.hid ht
      have Hjl := Lib.hid hjl
      have Hii := Lib.hid hii
      obtain ⟨k, hk⟩ : ∃ k, 48 + d = k := ⟨_, rfl⟩
      rw [hk] at hb2 e3
      clear hb ht hd hjl hi2 hii
      go_wp2_with (at_builtin; refine wpList_push rfl _ _ 40 rfl w.heap.size 3 i0 (.int .i64 0) 8 Tryz.underlying40 hi hz0 hz1 hz2 rfl (by omega) .i64 _ ((D n).take j) rfl (hown.alloc _) ⟨wr.heap.size, 0, none⟩ 1 d rfl ?c1 ?c2 ?c3 ?_)
      case c1 => simp [Addr.add]
      case c2 => exact Hjl.out
      case c3 => simp; omega
      intro v' w1 hown' hb
      rw [Ht.out] at hown'
      have Hown := Lib.hid hown'
      have Hw := Lib.hid ((hw.alloc hsz _).trans hb)
      clear hown hown' hb hw
      go_wp2_with fail
      go_roundw
      case rel => exact ⟨j + 1, h1, by have := Hii.out; go_num, Hown.out, Hw.out⟩
      case measure => simp [intOf]
    · obtain rfl : j = B.size := by omega
      have e1 : decide (0 ≤ (B.size : Int) - 1 - (B.size : Int)) = false := decide_eq_false (by omega)
      obtain ⟨a, m, c, rfl⟩ := own_sl hown
      have hzz := hown.isZ
      rw [List.take_of_length_le (by have := HL.out; omega)] at hzz
      have Hz := Lib.hid hzz
      clear hown hzz
      go_wp2_with fail
      go_ret2
      exact ⟨a, m, c, rfl, Hz.out, hw⟩

end Go.Proofs.YtjkklgpbblkhaaaGreatDoor
