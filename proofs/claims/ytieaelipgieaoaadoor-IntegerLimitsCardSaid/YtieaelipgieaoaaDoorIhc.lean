/-
  Layer 3: greatest common divisors and quotients of numbers with signs.
-/
import Derived.Test.YtieaelipgieaoaaDoorIhe
namespace Go.Proofs.YtieaelipgieaoaaDoor
open Go.RowKit Bs Ig

set_option maxRecDepth 100000 in
set_option maxHeartbeats 2000000 in
theorem ngcd_any (x y : Int) (a : Option Addr) (n c : Nat) (b : Option Addr) (k d : Nat) (w : World) (hl : IsZ w a n c (zs (G x.natAbs))) (hm : IsZ w b k d (zs (G y.natAbs))) (hn : n ≤ 400) (hk : k ≤ 400) :
    Calls Tryd.prog 39 #[numV x a n c, numV y b k d] w fun e w' => ∃ a1 n1 c1, e = .returned (numV (Int.gcd x y : Nat) a1 n1 c1) ∧ IsZ w' a1 n1 c1 (zs (G (Int.gcd x y))) ∧ Below w.heap.size w w' := by
  have hst := Bx.start w (decide (x < 0)) a n c (decide (y < 0)) b k d
  have hgc : Int.gcd x y = Nat.gcd x.natAbs y.natAbs := rfl
  have hl2 := hl.later hst.below
  have hm2 := hm.later hst.below
  obtain ⟨M, hM⟩ := numOf
  have HM := Lib.hid hM
  unfold numV
  obtain ⟨bx, hbx⟩ : ∃ bx, decide (x < 0) = bx := ⟨_, rfl⟩
  obtain ⟨bz, hbz⟩ : ∃ bz, decide (y < 0) = bz := ⟨_, rfl⟩
  rw [hbx, hbz] at hst hl2 hm2 ⊢
  rw [show decide (((Int.gcd x y : Nat) : Int) < 0) = false by simp]
  obtain ⟨gg, hgg⟩ : ∃ gg, Int.gcd x y = gg := ⟨_, rfl⟩
  rw [hgg] at hgc ⊢
  have Hg := Lib.hid hgc.symm
  clear hl hm hbx hbz hgg hgc hM
  go_enter Tryd.func39, Tryd.ntmps39
  go_wp2_with fail
  refine wp_world fun W hW => ?_
  rw [← hW] at hst hl2 hm2
  have c1 := hst.c01
  have c3 := hst.c11
  have Hl := Lib.hid (And.intro hl2 hm2)
  clear hW hl2 hm2
  go_quiet (fail)
  have hst1 := hst.later (Below.refl _ W)
  have hB1 : Below W.heap.size W (W.drewN nq) := below_drewN (Below.refl _ _) nq
  have hst2 := hst.later hB1
  have H2 := Lib.hid (And.intro (Hl.out.1.later hB1) (Hl.out.2.later hB1))
  clear c1 c3 hst hst1 hB1 Hl
  generalize W.drewN nq = W2 at *
  go_wp2_with fail
  go_loopw [5, 6] (fun p q wr => ∃ (pa : Option Addr) (pn pc u : Nat) (qa : Option Addr) (qn qc v : Nat), p = .slice pa pn pc ∧ q = .slice qa qn qc ∧ IsZ wr pa pn pc (zs (G u)) ∧ IsZ wr qa qn qc (zs (G v)) ∧ Nat.gcd u v = gg ∧ pn ≤ 400 ∧ qn ≤ 400 ∧ Below W2.heap.size W2 wr) (fun _ q wr => M q wr)
  case atStart => exact ⟨a, n, c, x.natAbs, b, k, d, y.natAbs, rfl, rfl, H2.out.1, H2.out.2, Hg.out, hn, hk, Below.refl _ _⟩
  case round =>
    obtain ⟨pa, pn, pc, u, qa, qn, qc, v, rfl, rfl, hu, hv, hg, hpn, hqn, hw⟩ := hrel
    have hlp := len_pos hv
    rcases Nat.eq_zero_or_pos v with h0 | h0
    · have hq0 : qn = 0 := by omega
      subst hq0
      subst h0
      rw [Nat.gcd_zero_right] at hg
      subst hg
      have hx := hst2.later hw
      have hsg := signed_any false pa pn pc u wr hu
      rw [show (if false = true then -(u : Int) else (u : Int)) = (u : Int) from rfl] at hsg
      unfold numV at hsg
      rw [show decide ((u : Int) < 0) = false by simp] at hsg
      have HS := Lib.hid hsg
      have Hu := Lib.hid hu
      clear hu hv hlp hsg
      go_wp2_with (go_at_call 44; (with_reducible refine HS.out.mono ?_); rintro e w6 ⟨rfl, B6⟩; have x6 := hx.later B6; obtain ⟨b0, s0, m0, e0, r6⟩ := x6.r2; have q0 : w6.cell? ⟨w.heap.size + 1 + 1, 0, none⟩ = some (.bool b0) := (by rw [cell_of_row _ _ 0 _ _ _ r6]; rfl); have q1 : w6.cell? ⟨w.heap.size + 1 + 1, 1, none⟩ = some (.slice s0 m0 e0) := (by rw [cell_of_row _ _ 1 _ _ _ r6]; rfl); have f0 : w6.frozen? ⟨w.heap.size + 1 + 1, 0, none⟩ = false := frozen_of_row _ _ 0 _ _ r6; have f1 : w6.frozen? ⟨w.heap.size + 1 + 1, 1, none⟩ = false := frozen_of_row _ _ 1 _ _ r6)
      have hfin := two_sets r6 false pa pn pc
      have hz := IsZ.two r6 false pa pn pc (Hu.out.later B6)
      have hB := (x6.below.setCell (p := ⟨w.heap.size + 1 + 1, 0, none⟩) (by show w.heap.size ≤ w.heap.size + 1 + 1; omega) (.bool false)).setCell (p := ⟨w.heap.size + 1 + 1, 1, none⟩) (by show w.heap.size ≤ w.heap.size + 1 + 1; omega) (.slice pa pn pc)
      exact bodyPost_ret (results_cell_row rfl _ _ (w.heap.size + 1 + 1) 51 #[.bool false, .slice pa pn pc] _ _ rfl hfin Tryd.underlying51 rfl (by kernel_rfl)) rfl ⟨pa, pn, pc, rfl, hz, hB⟩
    · have hdq : decide (0 < qn) = true := decide_eq_true (by omega)
      have hdq2 : decide (0 < (qn : Int)) = true := decide_eq_true (by omega)
      have hd := divide_any pa pn pc qa qn qc u v wr hu hv h0 (by omega) (by omega)
      have HD := Lib.hid hd
      have Hv := Lib.hid (And.intro hv hg)
      have hmod := Nat.mod_lt u h0
      have hgc2 : Nat.gcd v (u % v) = gg := by rw [Nat.gcd_comm v, ← Nat.gcd_rec, Nat.gcd_comm]; exact hg
      have Hm := Lib.hid (And.intro hmod hgc2)
      clear hu hv hlp hd hg hmod hgc2
      go_wp2_with (go_at_call 51; refine HD.out.mono ?_; rintro e w4 ⟨a1, n1, c1, a2, n2, c2, rfl, hz1, hz2, hb4⟩)
      go_roundw
      case rel =>
        refine ⟨qa, qn, qc, v, a2, n2, c2, u % v, rfl, rfl, Hv.out.1.later hb4, hz2, Hm.out.2, hqn, ?_, below_on hw hb4 hw.size⟩
        rw [← hz2.glen]
        exact Nat.le_trans (dgs_length_mono (Nat.le_of_lt Hm.out.1)) (by rw [show (dgs 9998 v).length = qn from Hv.out.1.glen]; exact hqn)
      case measure =>
        rw [HM.out _ _ _ _ _ hz2, HM.out _ _ _ _ _ Hv.out.1]
        exact Hm.out.1

end Go.Proofs.YtieaelipgieaoaaDoor
