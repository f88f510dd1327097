/-
  Layer 6: the laws' sane holds; pick and parameters.
-/
import Derived.Test.YtajfmhiejipaoaaDoorErn
namespace Go.Proofs.YtajfmhiejipaoaaDoor
open Go.RowKit Bs Ef

theorem build_x (w : World) : (Instr.build 40 #[(0, .int .i64 3), (1, .string ⟨#[120]⟩)]).run Tryd.prog w = .ok (.agg #[.int .i64 3, .string ⟨#[120]⟩]) w := by kernel_rfl

theorem exC_six {W : World} {g : Nat} (h : CkRow W g exC) : W.cell? ⟨g, 2, none⟩ = some (.int .i64 1) ∧ W.cell? ⟨g, 3, none⟩ = some (.string ⟨#[97]⟩) ∧ W.cell? ⟨g, 4, none⟩ = some (.int .i64 2) ∧ W.cell? ⟨g, 5, none⟩ = some (.string ⟨#[98]⟩) ∧ W.cell? ⟨g, 6, none⟩ = some (.int .i64 3) ∧ W.cell? ⟨g, 7, none⟩ = some (.string ⟨#[7]⟩) :=
  have k := exC_cells h
  ⟨k.2.2.1, k.2.2.2.1, k.2.2.2.2.1, k.2.2.2.2.2.1, k.2.2.2.2.2.2.1, k.2.2.2.2.2.2.2⟩
theorem exC_six0 {W : World} {g : Nat} (h : CkRow W g exC) : W.cell? ⟨g, 0, none⟩ = some (.int .i64 0) ∧ W.cell? ⟨g, 1, none⟩ = some (.string ⟨#[4]⟩) ∧ W.cell? ⟨g, 2, none⟩ = some (.int .i64 1) ∧ W.cell? ⟨g, 3, none⟩ = some (.string ⟨#[97]⟩) ∧ W.cell? ⟨g, 4, none⟩ = some (.int .i64 2) ∧ W.cell? ⟨g, 5, none⟩ = some (.string ⟨#[98]⟩) :=
  have k := exC_cells h
  ⟨k.1, k.2.1, k.2.2.1, k.2.2.2.1, k.2.2.2.2.1, k.2.2.2.2.2.1⟩
theorem exC_four {W : World} {g : Nat} (h : CkRow W g exC) : W.cell? ⟨g, 2, none⟩ = some (.int .i64 1) ∧ W.cell? ⟨g, 3, none⟩ = some (.string ⟨#[97]⟩) ∧ W.cell? ⟨g, 6, none⟩ = some (.int .i64 3) ∧ W.cell? ⟨g, 7, none⟩ = some (.string ⟨#[7]⟩) :=
  have k := exC_cells h
  ⟨k.2.2.1, k.2.2.2.1, k.2.2.2.2.2.2.1, k.2.2.2.2.2.2.2⟩

set_option maxRecDepth 100000 in
set_option maxHeartbeats 8000000 in
theorem esane_any (w : World) (hT : KAt w) :
    Calls Tryd.prog 11 #[] w fun e w' => e = .returned (.bool true) ∧ Below w.heap.size w w' := by
  have I2 := Lib.hid e_inv2
  have I0 := Lib.hid e_inv0
  have EN := Lib.hid e_enc
  have EX := Lib.hid e_encx
  have DD := Lib.hid e_decD
  have DT := Lib.hid e_decT
  have DB := Lib.hid e_decB
  have CC := Lib.hid e_conC
  have CB := Lib.hid e_conB
  have RO := Lib.hid e_root
  have DR := Lib.hid e_droot
  have AD := Lib.hid e_add
  have M1 := Lib.hid e_mul1
  have M2 := Lib.hid e_mul2
  have HB := Lib.hid (Below.refl w.heap.size w)
  go_enter Tryd.func11, Tryd.ntmps11
  go_upto_region 6 with (first
    | (go_at_call 13; (with_reducible refine (I2.out _).mono ?_); rintro e w1 ⟨rfl, hB⟩; replace HB := Lib.hid (below_on HB.out hB HB.out.size); clear hB)
    | (go_at_call 13; (with_reducible refine (I0.out _).mono ?_); rintro e w2 ⟨rfl, hB⟩; replace HB := Lib.hid (below_on HB.out hB HB.out.size); clear hB)
    | (go_at_call 20; (with_reducible refine (EN.out _).mono ?_); rintro e w3 ⟨ga, hga, rfl, hR, hB⟩; replace HB := Lib.hid (below_on HB.out hB HB.out.size); clear hB))
  have HR := Lib.hid hR
  clear hR
  obtain ⟨c0, c1, c2, c3, c4, c5, c6, c7⟩ := exC_cells HR.out
  have hgl := HR.out.lt
  have hwl := HB.out.size
  go_region_held3 (fun w' => w'.cell? ⟨ga, 2, none⟩ = some (.int .i64 1) ∧ w'.cell? ⟨ga, 3, none⟩ = some (.string ⟨#[97]⟩) ∧ w'.cell? ⟨ga, 4, none⟩ = some (.int .i64 2) ∧ w'.cell? ⟨ga, 5, none⟩ = some (.string ⟨#[98]⟩) ∧ w'.cell? ⟨ga, 6, none⟩ = some (.int .i64 3) ∧ w'.cell? ⟨ga, 7, none⟩ = some (.string ⟨#[7]⟩)) (first | exact ⟨c2, c3, c4, c5, c6, c7⟩ | exact exC_six HR.out | go_keep)
    (first
      | (go_at_call 27; (with_reducible refine (DD.out _ _ ?hrow).mono ?_); (case hrow => exact heap_alloc_new _ _); rintro e w4 ⟨rfl, hB⟩; replace HR := Lib.hid (show CkRow w4 ga exC from (hB.block ga (by simp; omega)).trans ((heap_alloc_old _ _ hgl).trans HR.out)); replace HB := Lib.hid (below_on (((HB.out.alloc hwl (.cells #[.int .i64 3, .string ⟨#[7]⟩, .int .i64 1, .string ⟨#[97]⟩, .int .i64 2, .string ⟨#[98]⟩] 40))).drew) hB (by simp; omega)); clear hB))
  clear c0 c1 c2 c3 c4 c5 c6 c7 hgl hwl
  go_upto_region 7 with fail
  obtain ⟨c0, c1, c2, c3, c4, c5, c6, c7⟩ := exC_cells HR.out
  have hgl := HR.out.lt
  have hwl := HB.out.size
  go_region_held3 (fun w' => w'.cell? ⟨ga, 2, none⟩ = some (.int .i64 1) ∧ w'.cell? ⟨ga, 3, none⟩ = some (.string ⟨#[97]⟩) ∧ w'.cell? ⟨ga, 6, none⟩ = some (.int .i64 3) ∧ w'.cell? ⟨ga, 7, none⟩ = some (.string ⟨#[7]⟩)) (first | exact ⟨c2, c3, c6, c7⟩ | exact exC_four HR.out | go_keep)
    (first
      | (go_at_call 27; (with_reducible refine (DT.out _ _ ?hrow).mono ?_); (case hrow => exact heap_alloc_new _ _); rintro e w5 ⟨rfl, hB⟩; replace HR := Lib.hid (show CkRow w5 ga exC from (hB.block ga (by simp; omega)).trans ((heap_alloc_old _ _ hgl).trans HR.out)); replace HB := Lib.hid (below_on (((HB.out.alloc hwl (.cells #[.int .i64 3, .string ⟨#[7]⟩, .int .i64 1, .string ⟨#[97]⟩] 40))).drew) hB (by simp; omega)); clear hB))
  clear c0 c1 c2 c3 c4 c5 c6 c7 hgl hwl
  go_upto_region 8 with fail
  obtain ⟨c0, c1, c2, c3, c4, c5, c6, c7⟩ := exC_cells HR.out
  have hgl := HR.out.lt
  have hwl := HB.out.size
  have hbx := build_x
  go_region_held3 (fun w' => w'.cell? ⟨ga, 0, none⟩ = some (.int .i64 0) ∧ w'.cell? ⟨ga, 1, none⟩ = some (.string ⟨#[4]⟩) ∧ w'.cell? ⟨ga, 2, none⟩ = some (.int .i64 1) ∧ w'.cell? ⟨ga, 3, none⟩ = some (.string ⟨#[97]⟩) ∧ w'.cell? ⟨ga, 4, none⟩ = some (.int .i64 2) ∧ w'.cell? ⟨ga, 5, none⟩ = some (.string ⟨#[98]⟩)) (first | exact ⟨c0, c1, c2, c3, c4, c5⟩ | go_keep) (fail)
  go_upto_region 9 with fail
  obtain ⟨gb, hgb⟩ : ∃ g, w5.heap.size = g := ⟨_, rfl⟩
  have hrb : CkRow (w5.alloc (.cells #[.int .i64 0, .string ⟨#[4]⟩, .int .i64 1, .string ⟨#[97]⟩, .int .i64 2, .string ⟨#[98]⟩, .int .i64 3, .string ⟨#[120]⟩] 40)).drew w5.heap.size exB := heap_alloc_new _ _
  have hra : CkRow (w5.alloc (.cells #[.int .i64 0, .string ⟨#[4]⟩, .int .i64 1, .string ⟨#[97]⟩, .int .i64 2, .string ⟨#[98]⟩, .int .i64 3, .string ⟨#[120]⟩] 40)).drew ga exC := (heap_alloc_old _ _ hgl).trans HR.out
  have hbb := (HB.out.alloc hwl (.cells #[.int .i64 0, .string ⟨#[4]⟩, .int .i64 1, .string ⟨#[97]⟩, .int .i64 2, .string ⟨#[98]⟩, .int .i64 3, .string ⟨#[120]⟩] 40)).drew
  refine wp_here fun W hW => ?_
  rw [← hW] at hrb hra hbb
  rw [hgb] at hrb ⊢
  replace HR := Lib.hid hra
  replace HB := Lib.hid hbb
  have HRB := Lib.hid hrb
  clear hW hrb hra hbb hgb c0 c1 c2 c3 c4 c5 c6 c7 hgl hwl hbx
  go_upto_region 11 with (first
    | (go_at_call 27; (with_reducible refine (DB.out _ _ HRB.out).mono ?_); rintro e w6 ⟨rfl, hB⟩; replace HR := Lib.hid (HR.out.later hB); replace HRB := Lib.hid (HRB.out.later hB); replace HB := Lib.hid (below_on HB.out hB HB.out.size); clear hB)
    | (go_at_call 20; (with_reducible refine (EX.out _).mono ?_); rintro e w7 ⟨rfl, hB⟩; replace HR := Lib.hid (HR.out.later hB); replace HRB := Lib.hid (HRB.out.later hB); replace HB := Lib.hid (below_on HB.out hB HB.out.size); clear hB))
  go_wp2_with (first
    | (go_at_call 15; (with_reducible refine (AD.out _).mono ?_); rintro e ww ⟨rfl, hww⟩; rw [hww]; clear hww ww)
    | (go_at_call 17; (with_reducible refine (M1.out _).mono ?_); rintro e w8 ⟨rfl, hB⟩; replace HR := Lib.hid (HR.out.later hB); replace HRB := Lib.hid (HRB.out.later hB); replace HB := Lib.hid (below_on HB.out hB HB.out.size); clear hB)
    | (go_at_call 17; (with_reducible refine (M2.out _).mono ?_); rintro e w9 ⟨rfl, hB⟩; replace HR := Lib.hid (HR.out.later hB); replace HRB := Lib.hid (HRB.out.later hB); replace HB := Lib.hid (below_on HB.out hB HB.out.size); clear hB; obtain ⟨c0, c1, c2, c3, c4, c5, c6, c7⟩ := exC_cells HR.out)
    | (go_at_call 29; (with_reducible refine (CC.out _ _ HR.out).mono ?_); rintro e w10 ⟨rfl, hB⟩; clear c0 c1 c2 c3 c4 c5 c6 c7; replace HR := Lib.hid (HR.out.later hB); replace HRB := Lib.hid (HRB.out.later hB); replace HB := Lib.hid (below_on HB.out hB HB.out.size); clear hB)
    | (go_at_call 29; (with_reducible refine (CB.out _ _ HRB.out).mono ?_); rintro e w11 ⟨rfl, hB⟩; replace HR := Lib.hid (HR.out.later hB); replace HRB := Lib.hid (HRB.out.later hB); replace HB := Lib.hid (below_on HB.out hB HB.out.size); clear hB)
    | (go_at_call 23; (with_reducible refine (RO.out _ _ HR.out (hT.below HB.out)).mono ?_); rintro e w12 ⟨rfl, hB⟩; replace HR := Lib.hid (HR.out.later hB); replace HRB := Lib.hid (HRB.out.later hB); replace HB := Lib.hid (below_on HB.out hB HB.out.size); clear hB)
    | (go_at_call 35; (with_reducible refine (DR.out _ _ ?hrow (hT.below (HB.out.alloc HB.out.size (.cells #[.string ⟨#[4]⟩, .string ⟨#[97]⟩, .string ⟨#[98]⟩, .string ⟨#[7]⟩] 9)))).mono ?_); (case hrow => exact heap_alloc_new _ _); rintro e w13 ⟨rfl, hB⟩))
  go_ret
  exact ⟨by simp, below_on (HB.out.alloc HB.out.size (.cells #[.string ⟨#[4]⟩, .string ⟨#[97]⟩, .string ⟨#[98]⟩, .string ⟨#[7]⟩] 9)) hB (by have := HB.out.size; simp; omega)⟩

/-! pick and parameters -/
set_option maxRecDepth 100000 in
set_option maxHeartbeats 4000000 in
theorem epick_any (c : Int) (h0 : -9223372036854775808 ≤ c) (h1 : c ≤ 9223372036854775807) (m : Nat) (M : Int) (hM : M = (m : Int)) (hm : 0 < m) :
    ∃ k : Nat, k < m ∧ ∀ w, Calls Tryd.prog 26 #[.int .i64 c, .int .i64 M] w fun e w' => e = .returned (.int .i64 (k : Int)) ∧ w' = w := by
  subst hM
  have hm0 : ((m : Int) == 0) = false := beq_false_of_ne (by omega)
  have hm1 : decide ((m : Int) = 0) = false := decide_eq_false (by omega)
  rcases Int.lt_or_le c 0 with h | h
  · obtain ⟨d, he⟩ : ∃ d : Nat, -(c + 1) = (d : Int) := ⟨(-(c + 1)).toNat, by omega⟩
    have hd : decide (c < 0) = true := decide_eq_true h
    have ht : (d : Int).tmod (m : Int) = ((d % m : Nat) : Int) := (Int.ofNat_tmod d m).symm
    have hlt := Nat.mod_lt d hm
    obtain ⟨k, hk⟩ : ∃ k, d % m = k := ⟨_, rfl⟩
    rw [hk] at ht hlt
    clear hk
    refine ⟨k, hlt, fun w => ?_⟩
    go_enter Tryd.func26, Tryd.ntmps26
    go_wp2_with fail
    go_ret
    exact ⟨rfl, rfl⟩
  · obtain ⟨d, rfl⟩ : ∃ d : Nat, c = (d : Int) := ⟨c.toNat, by omega⟩
    have ht : (d : Int).tmod (m : Int) = ((d % m : Nat) : Int) := (Int.ofNat_tmod d m).symm
    have hlt := Nat.mod_lt d hm
    obtain ⟨k, hk⟩ : ∃ k, d % m = k := ⟨_, rfl⟩
    rw [hk] at ht hlt
    clear hk h
    refine ⟨k, hlt, fun w => ?_⟩
    go_enter Tryd.func26, Tryd.ntmps26
    go_wp2_with fail
    go_ret
    exact ⟨rfl, rfl⟩

set_option maxRecDepth 100000 in
set_option maxHeartbeats 1000000 in
theorem params_any (a b : Int) (h0 : -9223372036854775808 ≤ a) (h1 : a ≤ 9223372036854775807) (h2 : -9223372036854775808 ≤ b) (h3 : b ≤ 9223372036854775807) :
    ∃ need count : Nat, 1 ≤ need ∧ need ≤ 8 ∧ need ≤ count ∧ count ≤ 16 ∧ ∀ w, Calls Tryd.prog 19 #[.int .i64 a, .int .i64 b] w fun e w' => e = .returned (.tuple #[.int .i64 (need : Int), .int .i64 (count : Int)]) ∧ w' = w := by
  obtain ⟨x, hx, PX⟩ := epick_any a h0 h1 8 8 rfl (by omega)
  obtain ⟨y, hy, PY⟩ := epick_any b h2 h3 9 9 rfl (by omega)
  refine ⟨1 + x, 1 + x + y, by omega, by omega, by omega, by omega, fun w => ?_⟩
  have PX := Lib.hid PX
  have PY := Lib.hid PY
  have e1 : IntKind.i64.wrap (1 + (x : Int)) = ((1 + x : Nat) : Int) := by rw [IntKind.wrap_i64]; omega
  have e2 : IntKind.i64.wrap (((1 + x : Nat) : Int) + (y : Int)) = ((1 + x + y : Nat) : Int) := by rw [IntKind.wrap_i64]; omega
  obtain ⟨p, hp⟩ : ∃ p, 1 + x = p := ⟨_, rfl⟩
  obtain ⟨q, hq⟩ : ∃ q, 1 + x + y = q := ⟨_, rfl⟩
  have e3 : 1 + (x : Int) = (p : Int) := by omega
  have e4 : (p : Int) + (y : Int) = (q : Int) := by omega
  rw [hq, hp] at e2
  rw [hp] at e1
  rw [hq, hp]
  clear hp hq
  go_enter Tryd.func19, Tryd.ntmps19
  go_wp2_with (first
    | (go_at_call 26; (with_reducible refine (PX.out _).mono ?_); rintro e ww ⟨rfl, hww⟩; rw [hww]; clear hww ww)
    | (go_at_call 26; (with_reducible refine (PY.out _).mono ?_); rintro e ww ⟨rfl, hww⟩; rw [hww]; clear hww ww))
  go_ret2
  exact ⟨rfl, rfl⟩

end Go.Proofs.YtajfmhiejipaoaaDoor
