/-
  Layer 7: the reference's Encode.
-/
import Derived.Test.YtnploljhikljfaaPxa
import Derived.Test.YtnploljhikljfaaPxb
import Derived.Test.YtnploljhikljfaaPrw
namespace Go.Proofs.Ytnploljhikljfaa
open Go.RowKit Bs Pk

theorem nums_one (W : World) (X : Nat) : Hid (Nums (W.alloc (Obj.cells #[Value.int .u8 (X : Int)] 5)) W.heap.size 0 1 .u8 [X]) := Lib.hid (by
  have := Nums.fresh (W := W) (t := 5) (k := .u8) [X] 1 rfl
  exact this)
theorem nums_two (W : World) (X Y : Nat) : Hid (Nums (W.alloc (Obj.cells #[Value.int .u8 (X : Int), Value.int .u8 (Y : Int)] 5)) W.heap.size 0 2 .u8 [X, Y]) := Lib.hid (by
  have := Nums.fresh (W := W) (t := 5) (k := .u8) [X, Y] 2 rfl
  exact this)

set_option maxRecDepth 100000 in
set_option maxHeartbeats 4000000 in
theorem refEncode_ok (u : List UInt8) (hu : u.length ≤ 4096) (w : World) :
    Calls Try.prog 13 #[.string (bs u)] w fun e w' => e = .returned (.tuple #[.string (bs (ub (enc (nb u)))), .int .i64 0]) ∧ Below w.heap.size w w' := by
  obtain ⟨i0, hi, hz0, hz1, hz2⟩ := infoB_parts
  have HBE := Lib.hid (fun (p : Nat) (hp : p ≤ u.length) (W : World) => refBest_any u p hp (by omega) W)
  have HIX := Lib.hid (fun (r : Nat) (hr : r < u.length) (W : World) => str_at u r hr W)
  have hsz : (bs u).size = u.length := bs_size u
  have HL := Lib.hid (nb_length u)
  have HLT := Lib.hid (enc_lt (nb u) (nb_lt u))
  have HX6 := Lib.hid (nb_lt u)
  have HRO := Lib.hid (best_room (nb u))
  have HLE := Lib.hid (best_le (nb u))
  have HOK := Lib.hid (best_ok (nb u))
  obtain ⟨n0, hn0⟩ : ∃ n, u.length = n := ⟨_, rfl⟩
  rw [hn0] at hu HBE HIX hsz HL
  obtain ⟨L, hLL⟩ : ∃ L, nb u = L := ⟨_, rfl⟩
  rw [hLL] at HBE HIX HL HLT HRO HLE HOK HX6 ⊢
  obtain ⟨S, hS⟩ : ∃ S, bs u = S := ⟨_, rfl⟩
  rw [hS] at HBE HIX hsz ⊢
  clear hn0 hLL hS
  obtain ⟨B, hBB⟩ : ∃ B, enc L = B := ⟨_, rfl⟩
  have HEB := Lib.hid hBB
  rw [hBB] at HLT ⊢
  clear hBB
  obtain ⟨R, hR⟩ : ∃ R, bs (ub B) = R := ⟨_, rfl⟩
  have HR := Lib.hid hR
  rw [hR]
  clear hR
  have f1 : decide ((4096 : Int) < (n0 : Int)) = false := decide_eq_false (by omega)
  have f1' : decide (4096 < n0) = false := decide_eq_false (by omega)
  go_enter Try.func13, Try.ntmps13
  go_wp2_with fail
  clear f1 f1'
  go_loopw [4, 5, 6, 7] (fun v r s p wr => ∃ (ps rr st : Nat) (cur : List Nat), r = .int .i64 (rr : Int) ∧ s = .int .i64 (st : Int) ∧ p = .int .i64 (ps : Int) ∧ ps ≤ n0 ∧ rr ≤ 128 ∧ st ≤ 10000 ∧ cur.length ≤ 2 * ps ∧ Rd L ps rr st cur ∧ Bs.Own wr w.heap.size 5 .u8 v cur ∧ Below w.heap.size w wr) (fun _ _ _ p _ => n0 - (intOf p).toNat)
  case atStart => exact ⟨0, 0, 0, [], rfl, rfl, rfl, Nat.zero_le _, by omega, by omega, by simp, Rd.start L, Bs.Own.nil _ _ _ _, Below.refl _ _⟩
  case round =>
    obtain ⟨ps, rr, st, cur, rfl, rfl, rfl, hps, hrr, hst, hcl, hrd, hown, hB⟩ := hrel
    obtain ⟨av, cv, rfl⟩ := own_shp hown
    have hws := hB.size
    have HRD := Lib.hid hrd
    have HB := Lib.hid hB
    rcases Nat.lt_or_ge ps n0 with g0 | g0
    · have d0 : decide ((ps : Int) < (n0 : Int)) = true := decide_eq_true (by omega)
      have d0' : decide (ps < n0) = true := decide_eq_true g0
      have HBP := Lib.hid (HBE.out ps hps)
      have hM1 := HLE.out ps
      have hM2 := HRO.out ps (by rw [HL.out]; omega)
      rw [HL.out] at hM2
      have hD0 : 4 ≤ (best L ps).1 → (best L ps).2 ≤ 255 := fun h4 => (HOK.out ps h4).2.1
      obtain ⟨M, hM⟩ : ∃ M, (best L ps).1 = M := ⟨_, rfl⟩
      obtain ⟨D, hD⟩ : ∃ D, (best L ps).2 = D := ⟨_, rfl⟩
      rw [hM] at HBP hM1 hM2 hD0
      rw [hD] at HBP hD0
      have HM := Lib.hid hM
      have HD := Lib.hid hD
      obtain ⟨n, hn⟩ : ∃ n, cur.length = n := ⟨_, rfl⟩
      have HN := Lib.hid hn
      rw [hn] at hown hcl ⊢
      have HOW := Lib.hid hown
      clear hM hD hn hown hrd hB
      rcases Nat.lt_or_ge M 4 with g4 | g4
      · have d4 : decide ((4 : Int) ≤ (M : Int)) = false := decide_eq_false (by omega)
        have d4' : decide (4 ≤ M) = false := decide_eq_false (by omega)
        have h4n : Hid (¬ 4 ≤ (best L ps).1) := Lib.hid (by rw [HM.out]; omega)
        have cx := HIX.out ps g0
        obtain ⟨X, hX⟩ : ∃ X, L.getD ps 0 = X := ⟨_, rfl⟩
        rw [hX] at cx
        have HX := Lib.hid hX
        have hwp : IntKind.i64.wrap ((ps : Int) + 1) = ((ps + 1 : Nat) : Int) := by rw [IntKind.wrap_i64]; omega
        clear hX
        by_cases gr : rr = 0 ∨ rr = 128
        · have HGR := Lib.hid gr
          rcases gr with g1 | g1
          · have e1 : decide ((rr : Int) = 0) = true := decide_eq_true (by omega)
            have b0 : ((rr : Int) == 0) = true := by rw [beq_iff_eq]; omega
            have e1' : decide (rr = 0) = true := decide_eq_true (by omega)
            have hwn : IntKind.i64.wrap (n : Int) = (n : Int) := by rw [IntKind.wrap_i64]; omega
            go_wp2_with (first
              | (go_at_call 20; (with_reducible refine (HBP.out _).mono ?_); rintro e w1 ⟨rfl, hB1⟩; have HO1 := Lib.hid (HOW.out.later hB1); have hs1 := hB1.size; have HB1 := Lib.hid (HB.out.trans (hB1.mono hws)); have HN1 := nums_one w1 0; clear hB1)
              | (refine wpList_pushN rfl _ _ 29 rfl w.heap.size 5 i0 (.int .u8 0) 1 Try.underlying29 hi hz0 hz1 hz2 rfl (by omega) .u8 _ cur rfl (HO1.out.alloc _) w1.heap.size 0 1 1 [0] rfl HN1.out rfl (by rw [HN.out]; omega) (by rw [World.size_alloc]; omega) ?_))
            intro v2 w2 hown2 hB2
            have hws2 : w.heap.size ≤ w2.heap.size := by have := hB2.size; simp at this; omega
            obtain ⟨c2, hc2⟩ : ∃ c2, cur ++ [0] = c2 := ⟨_, rfl⟩
            have hl2 : c2.length = n + 1 := by rw [← hc2]; simp [HN.out]
            rw [hc2] at hown2
            have HC2 := Lib.hid hc2
            have HL2 := Lib.hid hl2
            clear hc2 hl2
            have HO2 := Lib.hid hown2
            have HB2 := Lib.hid ((HB1.out.alloc (by omega) _).trans hB2)
            have HN2 := nums_one w2 X
            clear hown2 hB2 HO1 HN1
            go_wp2_with (refine wpList_pushN rfl _ _ 29 rfl w.heap.size 5 i0 (.int .u8 0) 1 Try.underlying29 hi hz0 hz1 hz2 rfl (by omega) .u8 _ c2 rfl (HO2.out.alloc _) w2.heap.size 0 1 1 [X] rfl HN2.out rfl (by rw [HL2.out]; omega) (by rw [World.size_alloc]; omega) ?_)
            intro v5 w5 hown5 hB5
            obtain ⟨c5, hc5⟩ : ∃ c5, c2 ++ [X] = c5 := ⟨_, rfl⟩
            have hl5 : c5.length = n + 2 := by rw [← hc5]; simp [HL2.out]
            rw [hc5] at hown5
            obtain ⟨g, cap, rfl⟩ := hown5.shape (n := n + 2) hl5 (by omega)
            have hgc := hown5.get n (by omega)
            have hgf := own_free hown5 hl5 n
            have HC5 := Lib.hid hc5
            have HL5 := Lib.hid hl5
            clear hc5 hl5
            have HO5 := Lib.hid hown5
            have HB5 := Lib.hid ((HB2.out.alloc hws2 _).trans hB5)
            have i1 : (0 : Int) ≤ (n : Int) := by omega
            have i2 : (n : Int) < ((n + 2 : Nat) : Int) := by omega
            obtain ⟨n1, hn1⟩ : ∃ n1, n + 2 = n1 := ⟨_, rfl⟩
            rw [hn1] at i2 HO5 ⊢
            have HN1' := Lib.hid hn1
            clear hown5 hB5 hn1
            go_wp2_with fail
            go_roundw
            case rel =>
              refine ⟨ps + 1, 1, n, c5.set n 0, rfl, rfl, by go_num, g0, by omega, by omega, by rw [List.length_set, HL5.out]; omega, ?_, own_set HO5.out (by rw [HL5.out, HN1'.out]) n _ 0 rfl, HB5.out.setCell (p := ⟨g, n, none⟩) (HO5.out.block g rfl) _⟩
              have := HRD.out.fresh HGR.out (by rw [HL.out]; exact g0) h4n.out
              rw [HX.out, HN.out, HC2.out, HC5.out] at this
              exact this
            case measure => simp [intOf]; omega
          · have e1 : decide ((rr : Int) = 0) = false := decide_eq_false (by omega)
            have b0 : ((rr : Int) == 0) = false := by rw [beq_eq_false_iff_ne]; omega
            have e1' : decide (rr = 0) = false := decide_eq_false (by omega)
            have e3 : ¬ (rr = 0) := by omega
            have e2 : decide ((rr : Int) = 128) = true := decide_eq_true (by omega)
            have b128 : ((rr : Int) == 128) = true := by rw [beq_iff_eq]; omega
            have e2' : decide (rr = 128) = true := decide_eq_true (by omega)
            clear g1
            have hwn : IntKind.i64.wrap (n : Int) = (n : Int) := by rw [IntKind.wrap_i64]; omega
            go_wp2_with (first
              | (go_at_call 20; (with_reducible refine (HBP.out _).mono ?_); rintro e w1 ⟨rfl, hB1⟩; have HO1 := Lib.hid (HOW.out.later hB1); have hs1 := hB1.size; have HB1 := Lib.hid (HB.out.trans (hB1.mono hws)); have HN1 := nums_one w1 0; clear hB1)
              | (refine wpList_pushN rfl _ _ 29 rfl w.heap.size 5 i0 (.int .u8 0) 1 Try.underlying29 hi hz0 hz1 hz2 rfl (by omega) .u8 _ cur rfl (HO1.out.alloc _) w1.heap.size 0 1 1 [0] rfl HN1.out rfl (by rw [HN.out]; omega) (by rw [World.size_alloc]; omega) ?_))
            intro v2 w2 hown2 hB2
            have hws2 : w.heap.size ≤ w2.heap.size := by have := hB2.size; simp at this; omega
            obtain ⟨c2, hc2⟩ : ∃ c2, cur ++ [0] = c2 := ⟨_, rfl⟩
            have hl2 : c2.length = n + 1 := by rw [← hc2]; simp [HN.out]
            rw [hc2] at hown2
            have HC2 := Lib.hid hc2
            have HL2 := Lib.hid hl2
            clear hc2 hl2
            have HO2 := Lib.hid hown2
            have HB2 := Lib.hid ((HB1.out.alloc (by omega) _).trans hB2)
            have HN2 := nums_one w2 X
            clear hown2 hB2 HO1 HN1
            go_wp2_with (refine wpList_pushN rfl _ _ 29 rfl w.heap.size 5 i0 (.int .u8 0) 1 Try.underlying29 hi hz0 hz1 hz2 rfl (by omega) .u8 _ c2 rfl (HO2.out.alloc _) w2.heap.size 0 1 1 [X] rfl HN2.out rfl (by rw [HL2.out]; omega) (by rw [World.size_alloc]; omega) ?_)
            intro v5 w5 hown5 hB5
            obtain ⟨c5, hc5⟩ : ∃ c5, c2 ++ [X] = c5 := ⟨_, rfl⟩
            have hl5 : c5.length = n + 2 := by rw [← hc5]; simp [HL2.out]
            rw [hc5] at hown5
            obtain ⟨g, cap, rfl⟩ := hown5.shape (n := n + 2) hl5 (by omega)
            have hgc := hown5.get n (by omega)
            have hgf := own_free hown5 hl5 n
            have HC5 := Lib.hid hc5
            have HL5 := Lib.hid hl5
            clear hc5 hl5
            have HO5 := Lib.hid hown5
            have HB5 := Lib.hid ((HB2.out.alloc hws2 _).trans hB5)
            have i1 : (0 : Int) ≤ (n : Int) := by omega
            have i2 : (n : Int) < ((n + 2 : Nat) : Int) := by omega
            obtain ⟨n1, hn1⟩ : ∃ n1, n + 2 = n1 := ⟨_, rfl⟩
            rw [hn1] at i2 HO5 ⊢
            have HN1' := Lib.hid hn1
            clear hown5 hB5 hn1
            go_wp2_with fail
            go_roundw
            case rel =>
              refine ⟨ps + 1, 1, n, c5.set n 0, rfl, rfl, by go_num, g0, by omega, by omega, by rw [List.length_set, HL5.out]; omega, ?_, own_set HO5.out (by rw [HL5.out, HN1'.out]) n _ 0 rfl, HB5.out.setCell (p := ⟨g, n, none⟩) (HO5.out.block g rfl) _⟩
              have := HRD.out.fresh HGR.out (by rw [HL.out]; exact g0) h4n.out
              rw [HX.out, HN.out, HC2.out, HC5.out] at this
              exact this
            case measure => simp [intOf]; omega
        · have e1 : decide ((rr : Int) = 0) = false := decide_eq_false (by omega)
          have b0 : ((rr : Int) == 0) = false := by rw [beq_eq_false_iff_ne]; omega
          have e1' : decide (rr = 0) = false := decide_eq_false (by omega)
          have e2 : decide ((rr : Int) = 128) = false := decide_eq_false (by omega)
          have b128 : ((rr : Int) == 128) = false := by rw [beq_eq_false_iff_ne]; omega
          have e2' : decide (rr = 128) = false := decide_eq_false (by omega)
          have e3 : ¬ (rr = 0) := by omega
          have e4 : ¬ (rr = 128) := by omega
          have hat : Hid (st < n) := Lib.hid (by rw [← HN.out]; exact HRD.out.at (by omega) (by omega))
          have hwr : IntKind.i64.wrap ((rr : Int) + 1) = ((rr + 1 : Nat) : Int) := by rw [IntKind.wrap_i64]; omega
          have hwu : IntKind.u8.wrap (rr : Int) = (rr : Int) := by rw [IntKind.wrap_u8]; omega
          go_wp2_with (first
            | (go_at_call 20; (with_reducible refine (HBP.out _).mono ?_); rintro e w1 ⟨rfl, hB1⟩; have HO1 := Lib.hid (HOW.out.later hB1); have hs1 := hB1.size; have HB1 := Lib.hid (HB.out.trans (hB1.mono hws)); have HN1 := nums_one w1 X; clear hB1)
            | (refine wpList_pushN rfl _ _ 29 rfl w.heap.size 5 i0 (.int .u8 0) 1 Try.underlying29 hi hz0 hz1 hz2 rfl (by omega) .u8 _ cur rfl (HO1.out.alloc _) w1.heap.size 0 1 1 [X] rfl HN1.out rfl (by rw [HN.out]; omega) (by rw [World.size_alloc]; omega) ?_))
          intro v5 w5 hown5 hB5
          obtain ⟨c5, hc5⟩ : ∃ c5, cur ++ [X] = c5 := ⟨_, rfl⟩
          have hl5 : c5.length = n + 1 := by rw [← hc5]; simp [HN.out]
          rw [hc5] at hown5
          obtain ⟨g, cap, rfl⟩ := hown5.shape (n := n + 1) hl5 (by omega)
          have hgc := hown5.get st (by have := hat.out; omega)
          have hgf := own_free hown5 hl5 st
          have HC5 := Lib.hid hc5
          have HL5 := Lib.hid hl5
          clear hc5 hl5
          have HO5 := Lib.hid hown5
          have HB5 := Lib.hid ((HB1.out.alloc (by omega) _).trans hB5)
          have i1 : (0 : Int) ≤ (st : Int) := by omega
          have i2 : (st : Int) < ((n + 1 : Nat) : Int) := by have := hat.out; omega
          obtain ⟨n1, hn1⟩ : ∃ n1, n + 1 = n1 := ⟨_, rfl⟩
          rw [hn1] at i2 HO5 ⊢
          have HN1' := Lib.hid hn1
          clear hown5 hB5 hn1
          go_wp2_with fail
          go_roundw
          case rel =>
            refine ⟨ps + 1, rr + 1, st, c5.set st rr, by go_num, rfl, by go_num, g0, by omega, hst, by rw [List.length_set, HL5.out]; omega, ?_, own_set HO5.out (by rw [HL5.out, HN1'.out]) st _ rr rfl, HB5.out.setCell (p := ⟨g, st, none⟩) (HO5.out.block g rfl) _⟩
            have := HRD.out.more (by omega) (by omega) (by rw [HL.out]; exact g0) h4n.out
            rw [HX.out, HC5.out] at this
            exact this
          case measure => simp [intOf]; omega
      · have d4 : decide ((4 : Int) ≤ (M : Int)) = true := decide_eq_true (by omega)
        have d4' : decide (4 ≤ M) = true := decide_eq_true g4
        have hD := hD0 (by omega)
        have hw1 : IntKind.i64.wrap (124 + (M : Int)) = ((124 + M : Nat) : Int) := by rw [IntKind.wrap_i64]; omega
        have hw2 : IntKind.u8.wrap ((124 + M : Nat) : Int) = ((124 + M : Nat) : Int) := by rw [IntKind.wrap_u8]; omega
        obtain ⟨q, hq⟩ : ∃ q, 124 + M = q := ⟨_, rfl⟩
        rw [hq] at hw1 hw2
        have HQ := Lib.hid hq
        have hw3 : IntKind.u8.wrap (D : Int) = (D : Int) := by rw [IntKind.wrap_u8]; omega
        have hwp : IntKind.i64.wrap ((ps : Int) + (M : Int)) = ((ps + M : Nat) : Int) := by rw [IntKind.wrap_i64]; omega
        clear hq hD0
        go_wp2_with (first
          | (go_at_call 20; (with_reducible refine (HBP.out _).mono ?_); rintro e w1 ⟨rfl, hB1⟩; have HO1 := Lib.hid (HOW.out.later hB1); have hs1 := hB1.size; have HB1 := Lib.hid (HB.out.trans (hB1.mono hws)); have HN1 := nums_two w1 q D; clear hB1)
          | (refine wpList_pushN rfl _ _ 29 rfl w.heap.size 5 i0 (.int .u8 0) 1 Try.underlying29 hi hz0 hz1 hz2 rfl (by omega) .u8 _ cur rfl (HO1.out.alloc _) w1.heap.size 0 2 2 [q, D] rfl HN1.out rfl (by rw [HN.out]; omega) (by rw [World.size_alloc]; omega) ?_))
        intro v5 w5 hown5 hB5
        go_wp2_with fail
        go_roundw
        case rel =>
          refine ⟨ps + M, 0, st, cur ++ [q, D], rfl, rfl, by go_num, by omega, by omega, hst, by simp [HN.out]; omega, ?_, hown5, (HB1.out.alloc (by omega) _).trans hB5⟩
          have := HRD.out.copy (by rw [HL.out]; exact g0) (by rw [HM.out]; omega)
          rw [HM.out, HD.out, HQ.out] at this
          exact this
        case measure => simp [intOf]; omega
    · have d0 : decide ((ps : Int) < (n0 : Int)) = false := decide_eq_false (by omega)
      have d0' : decide (ps < n0) = false := decide_eq_false (by omega)
      have hcB : cur = B := by rw [← HEB.out]; exact hrd.done (by rw [HL.out]; omega)
      subst hcB
      have hcv := conv_own hown HLT.out
      rw [HR.out] at hcv
      obtain ⟨n, hn⟩ : ∃ n, cur.length = n := ⟨_, rfl⟩
      rw [hn] at hcv ⊢
      clear hrd hown hB hn
      go_wp2_with fail
      go_ret2
      exact ⟨rfl, HB.out⟩

theorem refEncode_no (s : ByteArray) (hl : 4096 < s.size) (w : World) :
    Calls Try.prog 13 #[.string s] w fun e w' => e = .returned (.tuple #[.string ByteArray.empty, .int .i64 70]) ∧ w' = w := by
  have d1 : decide ((4096 : Int) < (s.size : Int)) = true := decide_eq_true (by omega)
  have d2 : decide (4096 < s.size) = true := decide_eq_true (by omega)
  go_enter Try.func13, Try.ntmps13
  go_wp2_with fail
  go_ret2
  exact ⟨rfl, rfl⟩

end Go.Proofs.Ytnploljhikljfaa
