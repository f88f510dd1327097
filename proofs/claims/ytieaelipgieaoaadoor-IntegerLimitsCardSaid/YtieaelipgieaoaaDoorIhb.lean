/-
  Layer 3: differences, products, greatest common divisors and quotients of numbers with signs.
-/
import Derived.Test.YtieaelipgieaoaaDoorIha
import Derived.BigQuiet
namespace Go.Proofs.YtieaelipgieaoaaDoor
open Go.RowKit Bs Ig

set_option maxRecDepth 100000 in
set_option maxHeartbeats 2000000 in
theorem nminus_any (x y : Int) (a : Option Addr) (n c : Nat) (b : Option Addr) (k d : Nat) (w : World) (hl : IsZ w a n c (zs (G x.natAbs))) (hm : IsZ w b k d (zs (G y.natAbs))) (hn : n ≤ 400) (hk : k ≤ 400) :
    Calls Tryd.prog 29 #[numV x a n c, numV y b k d] w fun e w' => ∃ a1 n1 c1, e = .returned (numV (x - y) a1 n1 c1) ∧ IsZ w' a1 n1 c1 (zs (G (x - y).natAbs)) ∧ Below w.heap.size w w' := by
  have hst := Bx.start w (decide (x < 0)) a n c (decide (y < 0)) b k d
  have hny : ∀ a n c, numV (-y) a n c = numV (if (!decide (y < 0)) = true then -(y.natAbs : Int) else (y.natAbs : Int)) a n c := fun a n c => by
    congr 1
    by_cases h : y < 0
    · simp [h]; omega
    · simp [h]; omega
  have HS := Lib.hid (fun (W : World) (hb : Bx w W (decide (x < 0)) a n c (decide (y < 0)) b k d) => (show Calls Tryd.prog 44 #[.bool (!decide (y < 0)), .slice b k d] W (fun e w' => e = .returned (numV (-y) b k d) ∧ Below W.heap.size W w') from (signed_any (!decide (y < 0)) b k d y.natAbs W (hm.later hb.below)).mono (fun e w' h2 => by rw [hny]; exact h2)))
  have HP := Lib.hid (fun (W : World) (hb : Bx w W (decide (x < 0)) a n c (decide (y < 0)) b k d) => (show Calls Tryd.prog 28 #[numV x a n c, numV (-y) b k d] W (fun e w' => ∃ a1 n1 c1, e = .returned (numV (x - y) a1 n1 c1) ∧ IsZ w' a1 n1 c1 (zs (G (x - y).natAbs)) ∧ Below W.heap.size W w') from by
    have := nplus_any x (-y) a n c b k d W (hl.later hb.below) (by rw [Int.natAbs_neg]; exact hm.later hb.below) hn hk
    rw [show x + -y = x - y by omega] at this
    exact this))
  unfold numV at *
  obtain ⟨bx, hbx⟩ : ∃ bx, decide (x < 0) = bx := ⟨_, rfl⟩
  obtain ⟨bz, hbz⟩ : ∃ bz, decide (y < 0) = bz := ⟨_, rfl⟩
  obtain ⟨bn, hbn⟩ : ∃ bn, decide (-y < 0) = bn := ⟨_, rfl⟩
  obtain ⟨br, hbr⟩ : ∃ br, decide (x - y < 0) = br := ⟨_, rfl⟩
  rw [hbx, hbz] at hst
  simp only [hbx, hbz, hbn, hbr] at HS HP ⊢
  clear hl hm hny hbx hbz hbn hbr
  go_enter Tryd.func29, Tryd.ntmps29
  go_wp2_with fail
  refine wp_world fun W hW => ?_
  rw [← hW] at hst
  have hd := hst.later (Below.refl _ W).drew
  have c0 := hst.c00
  have c1 := hst.c01
  have c2 := hst.c10
  have c3 := hst.c11
  clear hW
  go_region_held3 (fun w' => w'.cell? ⟨w.heap.size, 0, none⟩ = some (.bool bx) ∧ w'.cell? ⟨w.heap.size, 1, none⟩ = some (.slice a n c) ∧ w'.cell? ⟨w.heap.size + 1, 0, none⟩ = some (.bool bz) ∧ w'.cell? ⟨w.heap.size + 1, 1, none⟩ = some (.slice b k d)) (first | exact ⟨far2 (ne0 _) k60, far2 (ne0 _) k61, far2 (ne1 _) k62, far2 (ne1 _) k63⟩ | go_keep)
    (first
      | (go_at_call 44; (with_reducible refine (HS.out _ hd).mono ?_); rintro e w5 ⟨rfl, B5⟩; have x5 := hd.later B5; have k50 := x5.c00; have k51 := x5.c01; have k52 := x5.c10; have k53 := x5.c11)
      | (go_at_call 28; (with_reducible refine (HP.out _ x5).mono ?_); rintro e w6 ⟨a5, n5, c5, rfl, z6, B6⟩; have x6 := x5.later B6; have k60 := x6.c00; have k61 := x6.c01; have k62 := x6.c10; have k63 := x6.c11; obtain ⟨b0, s0, m0, e0, r6⟩ := x6.r2; have q0 : w6.cell? ⟨w.heap.size + 1 + 1, 0, none⟩ = some (.bool b0) := (by rw [cell_of_row _ _ 0 _ _ _ r6]; rfl); have q1 : w6.cell? ⟨w.heap.size + 1 + 1, 1, none⟩ = some (.slice s0 m0 e0) := (by rw [cell_of_row _ _ 1 _ _ _ r6]; rfl); have f0 : w6.frozen? ⟨w.heap.size + 1 + 1, 0, none⟩ = false := frozen_of_row _ _ 0 _ _ r6; have f1 : w6.frozen? ⟨w.heap.size + 1 + 1, 1, none⟩ = false := frozen_of_row _ _ 1 _ _ r6))
  have hfin := two_sets r6 br a5 n5 c5
  have hz := IsZ.two r6 br a5 n5 c5 z6
  have hB := (x6.below.setCell (p := ⟨w.heap.size + 1 + 1, 0, none⟩) (by show w.heap.size ≤ w.heap.size + 1 + 1; omega) (.bool br)).setCell (p := ⟨w.heap.size + 1 + 1, 1, none⟩) (by show w.heap.size ≤ w.heap.size + 1 + 1; omega) (.slice a5 n5 c5)
  go_wp2_with fail
  exact bodyPost_ret (results_cell_row rfl _ _ (w.heap.size + 1 + 1) 51 #[.bool br, .slice a5 n5 c5] _ _ rfl hfin Tryd.underlying51 rfl (by kernel_rfl)) rfl ⟨a5, n5, c5, rfl, hz, hB⟩

theorem mul_sign (x y : Int) : x * y = if (decide (x < 0) != decide (y < 0)) = true then -((x.natAbs * y.natAbs : Nat) : Int) else ((x.natAbs * y.natAbs : Nat) : Int) := by
  have d0 : ∀ n : Nat, decide ((n : Int) < 0) = false := fun n => by simp
  have d1 : ∀ n : Nat, 0 < n → decide (-(n : Int) < 0) = true := fun n h => by simp; omega
  rcases int_cases x with ⟨p, rfl⟩ | ⟨p, hp, rfl⟩ <;> rcases int_cases y with ⟨q, rfl⟩ | ⟨q, hq, rfl⟩
  · rw [d0, d0, if_neg (by decide), Int.natAbs_natCast, Int.natAbs_natCast, Int.natCast_mul]
  · rw [d0, d1 q hq, if_pos (by decide), Int.natAbs_natCast, Int.natAbs_neg, Int.natAbs_natCast, Int.natCast_mul, Int.mul_neg]
  · rw [d0, d1 p hp, if_pos (by decide), Int.natAbs_natCast, Int.natAbs_neg, Int.natAbs_natCast, Int.natCast_mul, Int.neg_mul]
  · rw [d1 p hp, d1 q hq, if_neg (by decide), Int.natAbs_neg, Int.natAbs_neg, Int.natAbs_natCast, Int.natAbs_natCast, Int.natCast_mul, Int.neg_mul_neg]

set_option maxRecDepth 100000 in
set_option maxHeartbeats 2000000 in
theorem ntimes_any (x y : Int) (a : Option Addr) (n c : Nat) (b : Option Addr) (k d : Nat) (w : World) (hl : IsZ w a n c (zs (G x.natAbs))) (hm : IsZ w b k d (zs (G y.natAbs))) (hn : n ≤ 400) (hk : k ≤ 400) :
    Calls Tryd.prog 30 #[numV x a n c, numV y b k d] w fun e w' => ∃ a1 n1 c1, e = .returned (numV (x * y) a1 n1 c1) ∧ IsZ w' a1 n1 c1 (zs (G (x * y).natAbs)) ∧ Below w.heap.size w w' := by
  have hst := Bx.start w (decide (x < 0)) a n c (decide (y < 0)) b k d
  have hsum := mul_sign x y
  unfold numV
  obtain ⟨bx, hbx⟩ : ∃ bx, decide (x < 0) = bx := ⟨_, rfl⟩
  obtain ⟨bz, hbz⟩ : ∃ bz, decide (y < 0) = bz := ⟨_, rfl⟩
  rw [hbx, hbz] at hst hsum ⊢
  obtain ⟨m, hm'⟩ : ∃ m, x.natAbs * y.natAbs = m := ⟨_, rfl⟩
  rw [hm'] at hsum
  have hab : (x * y).natAbs = m := by rw [Int.natAbs_mul]; exact hm'
  obtain ⟨bd, hbd⟩ : ∃ bd, (bx != bz) = bd := ⟨_, rfl⟩
  rw [hbd] at hsum
  obtain ⟨bb, hbb⟩ : ∃ bb, (bd && decide (0 < m)) = bb := ⟨_, rfl⟩
  have hnv : ∀ a n c, numV (x * y) a n c = .agg #[.bool bb, .slice a n c] := fun a n c => by rw [hsum, numV_eq, hbb]
  have HS := Lib.hid (fun (W : World) (a : Option Addr) (n c : Nat) (h : IsZ W a n c (zs (G m))) => (show Calls Tryd.prog 44 #[.bool bd, .slice a n c] W (fun e w' => e = .returned (.agg #[.bool bb, .slice a n c]) ∧ Below W.heap.size W w') from (signed_any bd a n c m W h).mono (fun e w' h2 => by rw [numV_eq, hbb] at h2; exact h2)))
  have HR := Lib.hid (And.intro hnv hab)
  have HP := Lib.hid (fun (W : World) (hb : Bx w W bx a n c bz b k d) => times_any a n c (G x.natAbs) b k d (G y.natAbs) x.natAbs y.natAbs W (hl.later hb.below) (hm.later hb.below) (G_lt _) (G_lt _) (V_G _) (V_G _) (by omega) (by omega))
  rw [hm'] at HP
  have hbd2 : (!(bx == bz)) = bd := hbd
  clear hl hm hbx hbz hm' hsum hab hnv hbb hbd
  go_enter Tryd.func30, Tryd.ntmps30
  go_wp2_with fail
  refine wp_world fun W hW => ?_
  rw [← hW] at hst
  have hd := hst.later (Below.refl _ W).drew
  have c0 := hst.c00
  have c1 := hst.c01
  have c2 := hst.c10
  have c3 := hst.c11
  clear hW
  go_region_held3 (fun w' => w'.cell? ⟨w.heap.size, 0, none⟩ = some (.bool bx) ∧ w'.cell? ⟨w.heap.size, 1, none⟩ = some (.slice a n c) ∧ w'.cell? ⟨w.heap.size + 1, 0, none⟩ = some (.bool bz) ∧ w'.cell? ⟨w.heap.size + 1, 1, none⟩ = some (.slice b k d)) (first | exact ⟨far2 (ne0 _) k60, far2 (ne0 _) k61, far2 (ne1 _) k62, far2 (ne1 _) k63⟩ | go_keep)
    (first
      | (go_at_call 48; (with_reducible refine (HP.out _ hd).mono ?_); rintro e w5 ⟨a5, n5, c5, rfl, z5, B5⟩; have x5 := hd.later B5; have k50 := x5.c00; have k51 := x5.c01; have k52 := x5.c10; have k53 := x5.c11)
      | (go_at_call 44; (with_reducible refine (HS.out _ _ _ _ z5).mono ?_); rintro e w6 ⟨rfl, B6⟩; have x6 := x5.later B6; have z6 := z5.later B6; have k60 := x6.c00; have k61 := x6.c01; have k62 := x6.c10; have k63 := x6.c11; obtain ⟨b0, s0, m0, e0, r6⟩ := x6.r2; have q0 : w6.cell? ⟨w.heap.size + 1 + 1, 0, none⟩ = some (.bool b0) := (by rw [cell_of_row _ _ 0 _ _ _ r6]; rfl); have q1 : w6.cell? ⟨w.heap.size + 1 + 1, 1, none⟩ = some (.slice s0 m0 e0) := (by rw [cell_of_row _ _ 1 _ _ _ r6]; rfl); have f0 : w6.frozen? ⟨w.heap.size + 1 + 1, 0, none⟩ = false := frozen_of_row _ _ 0 _ _ r6; have f1 : w6.frozen? ⟨w.heap.size + 1 + 1, 1, none⟩ = false := frozen_of_row _ _ 1 _ _ r6))
  have hfin := two_sets r6 bb (some a5) n5 c5
  have hz := IsZ.two r6 bb (some a5) n5 c5 z6
  have hB := (x6.below.setCell (p := ⟨w.heap.size + 1 + 1, 0, none⟩) (by show w.heap.size ≤ w.heap.size + 1 + 1; omega) (.bool bb)).setCell (p := ⟨w.heap.size + 1 + 1, 1, none⟩) (by show w.heap.size ≤ w.heap.size + 1 + 1; omega) (.slice (some a5) n5 c5)
  go_wp2_with fail
  exact bodyPost_ret (results_cell_row rfl _ _ (w.heap.size + 1 + 1) 51 #[.bool bb, .slice (some a5) n5 c5] _ _ rfl hfin Tryd.underlying51 rfl (by kernel_rfl)) rfl ⟨some a5, n5, c5, congrArg Ending.returned (HR.out.1 _ _ _).symm, by rw [HR.out.2]; exact hz, hB⟩

end Go.Proofs.YtieaelipgieaoaaDoor
