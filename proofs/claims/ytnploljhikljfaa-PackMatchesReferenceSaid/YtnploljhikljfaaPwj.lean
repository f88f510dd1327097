/-
  Layer 7: the law's matched, on strings; slices of strings.
-/
import Derived.Test.YtnploljhikljfaaPwi
import Derived.Test.YtnploljhikljfaaPmc
namespace Go.Proofs.Ytnploljhikljfaa
open Go.RowKit Bs Pk

theorem str_at (u : List UInt8) (r : Nat) (hr : r < u.length) (W : World) : (Instr.index 9 (.string (bs u)) (.int .i64 (r : Int))).run Try.prog W = .ok (.int .u8 (((nb u).getD r 0 : Nat) : Int)) W := by
  rw [run_index_string (h := Try.underlying9), dif_pos (by rw [bs_size]; omega)]
  congr 3
  have e : (nb u).getD r 0 = (u[r]'hr).toNat := by
    unfold nb
    rw [List.getD_eq_getElem?_getD, List.getElem?_map, List.getElem?_eq_getElem hr]; rfl
  rw [e]
  rfl
theorem str_cut (u : List UInt8) (a b : Nat) (h1 : a ≤ b) (h2 : b ≤ u.length) (W : World) : (Instr.sliceAt 9 (.string (bs u)) (some (.int .i64 (a : Int))) (some (.int .i64 (b : Int))) none).run Try.prog W = .ok (.string (bs ((u.drop a).take (b - a)))) W := by
  rw [run_sliceAt_string _ _ _ _ _ _ Try.underlying9, run_slice_string_if _ _ _ _ _ _ _ Try.underlying9, if_pos (by refine ⟨by omega, ?_⟩; rw [bs_size]; omega), if_pos (by omega)]
  rw [Int.toNat_natCast, Int.toNat_natCast, bs_extract]

set_option maxRecDepth 100000 in
set_option maxHeartbeats 1000000 in
theorem matched_any (u : List UInt8) (p d : Nat) (hd : 1 ≤ d) (hdp : d ≤ p) (hp : p ≤ u.length) (hL : u.length ≤ 1000000) (w : World) :
    Calls Try.prog 18 #[.string (bs u), .int .i64 (p : Int), .int .i64 (d : Int)] w fun e w' => e = .returned (.int .i64 (mat (nb u) p d 131 : Nat)) ∧ Below w.heap.size w w' := by
  have HIX := Lib.hid (fun r hr W => str_at u r hr W)
  obtain ⟨n0, hn0⟩ : ∃ n, u.length = n := ⟨_, rfl⟩
  have hLl : (nb u).length = n0 := by rw [nb_length, hn0]
  have hsz : (bs u).size = n0 := by rw [bs_size, hn0]
  rw [hn0] at hp hL HIX
  have HL := Lib.hid hLl
  obtain ⟨L, hLL⟩ : ∃ L, nb u = L := ⟨_, rfl⟩
  rw [hLL] at HIX HL ⊢
  obtain ⟨S, hS⟩ : ∃ S, bs u = S := ⟨_, rfl⟩
  rw [hS] at HIX hsz ⊢
  obtain ⟨r, hr⟩ : ∃ r, mat L p d 131 = r := ⟨_, rfl⟩
  have HR := Lib.hid hr
  rw [hr]
  clear hn0 hr hLl hLL hS
  go_enter Try.func18, Try.ntmps18
  go_wp2_with fail
  go_loopw [7] (fun i wr => ∃ j : Nat, j ≤ 131 ∧ i = .int .i64 j ∧ p + j ≤ n0 ∧ j + mat L (p + j) d (131 - j) = r ∧ Below w.heap.size w wr) (fun i _ => 131 - (intOf i).toNat)
  case atStart => exact ⟨0, by omega, rfl, by omega, by rw [← HR.out]; simp, Below.refl _ _⟩
  case round =>
    obtain ⟨j, hj, rfl, hpj, hm, hB⟩ := hrel
    have hm' := Lib.hid hm
    have hw1 : IntKind.i64.wrap ((p : Int) + (j : Int)) = ((p + j : Nat) : Int) := by rw [IntKind.wrap_i64]; omega
    obtain ⟨q, hq⟩ : ∃ q, p + j = q := ⟨_, rfl⟩
    have hw2 : IntKind.i64.wrap ((q : Int) - (d : Int)) = ((q - d : Nat) : Int) := by rw [IntKind.wrap_i64]; omega
    obtain ⟨q', hq'⟩ : ∃ q', q - d = q' := ⟨_, rfl⟩
    rw [hq] at hw1 hpj
    rw [hq'] at hw2
    clear hm
    by_cases g1 : j < 131
    · by_cases g2 : q < n0
      · have c1 := HIX.out q g2
        have c2 := HIX.out q' (by omega)
        obtain ⟨x, hx⟩ : ∃ x, L.getD q 0 = x := ⟨_, rfl⟩
        obtain ⟨y, hy⟩ : ∃ y, L.getD q' 0 = y := ⟨_, rfl⟩
        rw [hx] at c1
        rw [hy] at c2
        have d1 : decide ((j : Int) < 131) = true := decide_eq_true (by omega)
        have d2 : decide ((q : Int) < (n0 : Int)) = true := decide_eq_true (by omega)
        have hq1 : p + (j + 1) ≤ n0 := by omega
        by_cases g3 : x = y
        · have hst := Lib.hid (mat_step L p d j g1 (by rw [hq, HL.out]; exact g2) (by rw [hq, hq', hx, hy, g3]))
          subst g3
          clear hx hy hq hq'
          go_wp2_with fail
          go_quiet (fail)
          go_wp2_with fail
          go_roundw
          case rel => exact ⟨j + 1, by omega, by go_num, hq1, by have := hst.out; have := hm'.out; omega, below_drewN hB nq⟩
          case measure => simp [intOf]; omega
        · have hst := Lib.hid (mat_stop L p d j (by rw [hq, hq', hx, hy]; omega))
          have d3 : decide ((x : Int) = (y : Int)) = false := decide_eq_false (by omega)
          clear hx hy hq hq'
          go_wp2_with fail
          go_quiet (fail)
          go_wp2_with fail
          go_ret
          refine ⟨?_, below_drewN hB nq⟩
          have := hst.out; have := hm'.out
          have e : j = r := by omega
          rw [e]; rfl
      · have d1 : decide ((j : Int) < 131) = true := decide_eq_true (by omega)
        have d2 : decide ((q : Int) < (n0 : Int)) = false := decide_eq_false (by omega)
        have hst := Lib.hid (mat_stop L p d j (by rw [hq, HL.out]; omega))
        clear hq hq'
        go_wp2_with fail
        go_quiet (fail)
        go_wp2_with fail
        go_ret
        refine ⟨?_, below_drewN hB nq⟩
        have := hst.out; have := hm'.out
        have e : j = r := by omega
        rw [e]; rfl
    · have d1 : decide ((j : Int) < 131) = false := decide_eq_false (by omega)
      have hst := Lib.hid (mat_stop L p d j (by omega))
      clear hq hq'
      go_wp2_with fail
      go_quiet (fail)
      go_wp2_with fail
      go_ret
      refine ⟨?_, below_drewN hB nq⟩
      have := hst.out; have := hm'.out
      have e : j = r := by omega
      rw [e]; rfl

end Go.Proofs.Ytnploljhikljfaa
