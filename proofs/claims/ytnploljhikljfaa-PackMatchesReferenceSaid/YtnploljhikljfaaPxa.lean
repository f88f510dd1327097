/-
  Layer 7: the reference's best.
-/
import Derived.Test.YtnploljhikljfaaPwj
namespace Go.Proofs.Ytnploljhikljfaa
open Go.RowKit Bs Pk

set_option maxRecDepth 100000 in
set_option maxHeartbeats 1000000 in
theorem refBest_any (u : List UInt8) (p : Nat) (hp : p ≤ u.length) (hL : u.length ≤ 1000000) (w : World) :
    Calls Try.prog 20 #[.string (bs u), .int .i64 (p : Int)] w fun e w' => e = .returned (.tuple #[.int .i64 ((best (nb u) p).1 : Nat), .int .i64 ((best (nb u) p).2 : Nat)]) ∧ Below w.heap.size w w' := by
  have HIX := Lib.hid (fun r hr W => str_at u r hr W)
  obtain ⟨n0, hn0⟩ : ∃ n, u.length = n := ⟨_, rfl⟩
  have hLl : (nb u).length = n0 := by rw [nb_length, hn0]
  have hsz : (bs u).size = n0 := by rw [bs_size, hn0]
  rw [hn0] at hp hL HIX
  have HL := Lib.hid hLl
  obtain ⟨L, hLL⟩ : ∃ L, nb u = L := ⟨_, rfl⟩
  rw [hLL] at HIX HL ⊢
  obtain ⟨S, hS⟩ : ∃ S, bs u = S := ⟨_, rfl⟩
  rw [hS] at HIX hsz ⊢
  obtain ⟨m, hm⟩ : ∃ m, min p 255 = m := ⟨_, rfl⟩
  have hmp : m ≤ p := by omega
  have hm2 : m ≤ 255 := by omega
  have hm3 : ∀ k, k = m → ¬ (k + 1 ≤ 255 ∧ k + 1 ≤ p) := by omega
  obtain ⟨B, hB⟩ : ∃ B, best L p = B := ⟨_, rfl⟩
  have HB := Lib.hid (show bst L p m = B by rw [← hB, ← hm]; rfl)
  rw [hB]
  clear hn0 hLl hLL hS hB hm
  go_enter Try.func20, Try.ntmps20
  go_wp2_with fail
  go_loopw [6, 7, 8] (fun x y i wr => ∃ k : Nat, k ≤ m ∧ i = .int .i64 ((k + 1 : Nat) : Int) ∧ x = .int .i64 ((bst L p k).1 : Nat) ∧ y = .int .i64 ((bst L p k).2 : Nat) ∧ Below w.heap.size w wr) (fun _ _ i _ => m + 1 - (intOf i).toNat)
  case atStart => exact ⟨0, by omega, rfl, rfl, rfl, Below.refl _ _⟩
  case round =>
    obtain ⟨k, hk, rfl, rfl, rfl, hW⟩ := hrel
    have HW := Lib.hid hW
    clear hW
    have hm4 := hm3 k
    clear hm3
    obtain ⟨K, hK⟩ : ∃ K, k + 1 = K := ⟨_, rfl⟩
    rw [hK] at hm4
    rw [hK]
    have hst := Lib.hid (show bst L p (k + 1) = if (bst L p k).1 < mat L p (k + 1) 131 then (mat L p (k + 1) 131, k + 1) else bst L p k from rfl)
    rw [hK] at hst
    obtain ⟨A, hA⟩ : ∃ A, (bst L p k).1 = A := ⟨_, rfl⟩
    obtain ⟨D, hD⟩ : ∃ D, (bst L p k).2 = D := ⟨_, rfl⟩
    have HAD := Lib.hid (And.intro hA hD)
    rw [hA] at hst
    rw [hA, hD]
    have hAl : A ≤ 131 := by
      rw [← hA]
      rcases Nat.eq_zero_or_pos (bst L p k).1 with h0 | h0
      · omega
      · rw [← ((bst_dist L p k).2 h0).2]; exact mat_le _ _ _ _
    clear hA hD
    rcases Nat.lt_or_ge m K with hlt | hge
    · obtain rfl : k = m := by omega
      have hm5 := hm4 rfl
      clear hm4
      by_cases g1 : K ≤ 255
      · have d1 : decide ((K : Int) ≤ 255) = true := decide_eq_true (by omega)
        have d1' : decide (K ≤ 255) = true := decide_eq_true (by omega)
        have d2 : decide ((K : Int) ≤ (p : Int)) = false := decide_eq_false (by omega)
        have d2' : decide (K ≤ p) = false := decide_eq_false (by omega)
        clear hm5
        go_wp2_with fail
        go_ret2
        exact ⟨by rw [← HB.out, HAD.out.1, HAD.out.2]; rfl, HW.out⟩
      · have d1 : decide ((K : Int) ≤ 255) = false := decide_eq_false (by omega)
        have d1' : decide (K ≤ 255) = false := decide_eq_false (by omega)
        clear hm5
        go_wp2_with fail
        go_ret2
        exact ⟨by rw [← HB.out, HAD.out.1, HAD.out.2]; rfl, HW.out⟩
    · have e1 : decide ((K : Int) ≤ 255) = true := decide_eq_true (by omega)
      have e1' : decide (K ≤ 255) = true := decide_eq_true (by omega)
      have e2 : decide ((K : Int) ≤ (p : Int)) = true := decide_eq_true (by omega)
      have e2' : decide (K ≤ p) = true := decide_eq_true (by omega)
      obtain ⟨M, hM⟩ : ∃ M, mat L p K 131 = M := ⟨_, rfl⟩
      have hMl : M ≤ 131 := by rw [← hM]; exact mat_le _ _ _ _
      have HMM := Lib.hid hM
      rw [hM] at hst
      have hwK : IntKind.i64.wrap ((K : Int) + 1) = ((K + 1 : Nat) : Int) := by rw [IntKind.wrap_i64]; omega
      have hKp : 1 ≤ K ∧ K ≤ p := ⟨by omega, by omega⟩
      clear hM hm4 hK
      go_wp2_with fail
      clear e1 e2 e1' e2'
      go_loopw [9] (fun i wr => ∃ j : Nat, j ≤ 131 ∧ i = .int .i64 j ∧ p + j ≤ n0 ∧ j + mat L (p + j) K (131 - j) = M ∧ Below w.heap.size w wr) (fun i _ => 131 - (intOf i).toNat)
      case atStart => exact ⟨0, by omega, rfl, by omega, by rw [← HMM.out]; simp, HW.out⟩
      case round =>
        clear HW
        obtain ⟨j, hj, rfl, hpj, hm, hB⟩ := hrel
        have hm' := Lib.hid hm
        have hw1 : IntKind.i64.wrap ((p : Int) + (j : Int)) = ((p + j : Nat) : Int) := by rw [IntKind.wrap_i64]; omega
        obtain ⟨q, hq⟩ : ∃ q, p + j = q := ⟨_, rfl⟩
        have hw2 : IntKind.i64.wrap ((q : Int) - (K : Int)) = ((q - K : Nat) : Int) := by rw [IntKind.wrap_i64]; omega
        obtain ⟨q', hq'⟩ : ∃ q', q - K = q' := ⟨_, rfl⟩
        rw [hq] at hw1 hpj
        rw [hq'] at hw2
        clear hm
        by_cases g1 : j < 131
        · by_cases g2 : q < n0
          · have c1 := HIX.out q g2
            have c2 := HIX.out q' (by omega)
            obtain ⟨x, hx⟩ : ∃ x, L.getD q 0 = x := ⟨_, rfl⟩
            obtain ⟨y, hy⟩ : ∃ y, L.getD q' 0 = y := ⟨_, rfl⟩
            rw [hx] at c1
            rw [hy] at c2
            have d1 : decide ((j : Int) < 131) = true := decide_eq_true (by omega)
            have d2 : decide ((q : Int) < (n0 : Int)) = true := decide_eq_true (by omega)
            have hq1 : p + (j + 1) ≤ n0 := by omega
            by_cases g3 : x = y
            · have hst2 := Lib.hid (mat_step L p K j g1 (by rw [hq, HL.out]; exact g2) (by rw [hq, hq', hx, hy, g3]))
              subst g3
              clear hx hy hq hq'
              go_wp2_with fail
              go_quiet (fail)
              go_wp2_with fail
              go_roundw
              case rel => exact ⟨j + 1, by omega, by go_num, hq1, by have := hst2.out; have := hm'.out; omega, below_drewN hB nq⟩
              case measure => simp [intOf]; omega
            · have hst2 := Lib.hid (mat_stop L p K j (by rw [hq, hq', hx, hy]; omega))
              have d3 : decide ((x : Int) = (y : Int)) = false := decide_eq_false (by omega)
              clear hx hy hq hq'
              have ej : j = M := by have := hst2.out; have := hm'.out; omega
              have HEJ := Lib.hid ej
              have HBJ := Lib.hid hB
              rcases Nat.lt_or_ge A j with hAM | hAM
              · have d9 : decide ((A : Int) < (j : Int)) = true := decide_eq_true (by omega)
                have d9' : decide (A < j) = true := decide_eq_true (by omega)
                have hst3 := Lib.hid (show bst L p K = (M, K) by rw [hst.out, if_pos (by omega)])
                clear ej hB hm' hst2 hst
                go_wp2_with fail
                go_quiet (fail)
                go_wp2_with fail
                go_roundw
                case rel => exact ⟨K, hge, rfl, by rw [hst3.out, HEJ.out], by rw [hst3.out], below_drewN HBJ.out nq⟩
                case measure => simp [intOf]; omega
              · have d9 : decide ((A : Int) < (j : Int)) = false := decide_eq_false (by omega)
                have d9' : decide (A < j) = false := decide_eq_false (by omega)
                have hst3 := Lib.hid (show bst L p K = bst L p k by rw [hst.out, if_neg (by omega)])
                clear ej hB hm' hst2 hst
                go_wp2_with fail
                go_quiet (fail)
                go_wp2_with fail
                go_roundw
                case rel => exact ⟨K, hge, rfl, by rw [hst3.out, HAD.out.1], by rw [hst3.out, HAD.out.2], below_drewN HBJ.out nq⟩
                case measure => simp [intOf]; omega
          · have d1 : decide ((j : Int) < 131) = true := decide_eq_true (by omega)
            have d2 : decide ((q : Int) < (n0 : Int)) = false := decide_eq_false (by omega)
            have hst2 := Lib.hid (mat_stop L p K j (by rw [hq, HL.out]; omega))
            clear hq hq'
            have ej : j = M := by have := hst2.out; have := hm'.out; omega
            have HEJ := Lib.hid ej
            have HBJ := Lib.hid hB
            rcases Nat.lt_or_ge A j with hAM | hAM
            · have d9 : decide ((A : Int) < (j : Int)) = true := decide_eq_true (by omega)
              have d9' : decide (A < j) = true := decide_eq_true (by omega)
              have hst3 := Lib.hid (show bst L p K = (M, K) by rw [hst.out, if_pos (by omega)])
              clear ej hB hm' hst2 hst
              go_wp2_with fail
              go_quiet (fail)
              go_wp2_with fail
              go_roundw
              case rel => exact ⟨K, hge, rfl, by rw [hst3.out, HEJ.out], by rw [hst3.out], below_drewN HBJ.out nq⟩
              case measure => simp [intOf]; omega
            · have d9 : decide ((A : Int) < (j : Int)) = false := decide_eq_false (by omega)
              have d9' : decide (A < j) = false := decide_eq_false (by omega)
              have hst3 := Lib.hid (show bst L p K = bst L p k by rw [hst.out, if_neg (by omega)])
              clear ej hB hm' hst2 hst
              go_wp2_with fail
              go_quiet (fail)
              go_wp2_with fail
              go_roundw
              case rel => exact ⟨K, hge, rfl, by rw [hst3.out, HAD.out.1], by rw [hst3.out, HAD.out.2], below_drewN HBJ.out nq⟩
              case measure => simp [intOf]; omega
        · have d1 : decide ((j : Int) < 131) = false := decide_eq_false (by omega)
          have hst2 := Lib.hid (mat_stop L p K j (by omega))
          clear hq hq'
          have ej : j = M := by have := hst2.out; have := hm'.out; omega
          have HEJ := Lib.hid ej
          have HBJ := Lib.hid hB
          rcases Nat.lt_or_ge A j with hAM | hAM
          · have d9 : decide ((A : Int) < (j : Int)) = true := decide_eq_true (by omega)
            have d9' : decide (A < j) = true := decide_eq_true (by omega)
            have hst3 := Lib.hid (show bst L p K = (M, K) by rw [hst.out, if_pos (by omega)])
            clear ej hB hm' hst2 hst
            go_wp2_with fail
            go_quiet (fail)
            go_wp2_with fail
            go_roundw
            case rel => exact ⟨K, hge, rfl, by rw [hst3.out, HEJ.out], by rw [hst3.out], below_drewN HBJ.out nq⟩
            case measure => simp [intOf]; omega
          · have d9 : decide ((A : Int) < (j : Int)) = false := decide_eq_false (by omega)
            have d9' : decide (A < j) = false := decide_eq_false (by omega)
            have hst3 := Lib.hid (show bst L p K = bst L p k by rw [hst.out, if_neg (by omega)])
            clear ej hB hm' hst2 hst
            go_wp2_with fail
            go_quiet (fail)
            go_wp2_with fail
            go_roundw
            case rel => exact ⟨K, hge, rfl, by rw [hst3.out, HAD.out.1], by rw [hst3.out, HAD.out.2], below_drewN HBJ.out nq⟩
            case measure => simp [intOf]; omega

end Go.Proofs.Ytnploljhikljfaa
