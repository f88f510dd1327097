/-
  Layer 7: the reference's Expand.
-/
import Derived.Test.YtnploljhikljfaaPxc
import Derived.Test.YtnploljhikljfaaPxd
import Derived.Lib.AppendStr
namespace Go.Proofs.Ytnploljhikljfaa
open Go.RowKit Bs Pk

/-- a string's bytes more -/
theorem wpList_pushS {P : Program} {w : World} {ops : Array Oper} {rest : List Oper} {o : Oper} {a : Act} {Q : Exit → Act → World → Prop} (hgd : o.guard = none) (sl x : Operand) (t u : TypeId)
    (ho : o.op = .call { callee := .builtin .append, args := #[sl, x], argTypes := #[t, u] })
    (base : Nat) (e : TypeId) (i : TypeInfo) (ht : P.underlying t = some (.slice e)) (hu : P.underlying u = some .string) (hi : P.info? e = some i) (hz : i.zero = some (.int .u8 0))
    (hsize : i.size = 1) (hby : i.bytes = 1)
    (v : Value) (l : List Nat) (hs : a.eval sl = v) (hown : Bs.Own w base e .u8 v l) (z : List UInt8) (hx : a.eval x = .string (bs z))
    (hlen : l.length + z.length ≤ 2000000) (hbase : base ≤ w.heap.size)
    (h : ∀ v' w', Bs.Own w' base e .u8 v' (l ++ nb z) → Below base w w' → wpList P ops Q rest (a.put o.dst v') w') : wpList P ops Q (o :: rest) a w := by
  refine Lib.wpList_append_own_string w hgd sl x t u ho base e i ht hu hi hz hsize hby v l.length (iv .u8 l) hs hown.row (bs z) hx (by rw [bs_size]; unfold maxLen; omega) (by rw [bs_size]; omega) hbase ?_
  intro v' w' h1 h2 _
  refine h v' w' ⟨?_⟩ ((Below.refl base w).grown h2 hbase hown.block)
  rw [List.length_append, nb_length, iv_append, show iv .u8 (nb z) = Lib.strCells (bs z) by simp [iv, nb, Lib.strCells, bs]]
  rw [bs_size] at h1
  exact h1
theorem nb_cut (u : List UInt8) (a b : Nat) : nb ((u.drop a).take b) = ((nb u).drop a).take b := by simp [nb, List.map_take, List.map_drop]
/-- what Expand answers -/
def rxE : Option (List Nat) → Ending
  | some s => .returned (.tuple #[.string (bs (ub s)), .bool true])
  | none => .returned (.tuple #[.string ByteArray.empty, .bool false])

set_option maxRecDepth 100000 in
set_option maxHeartbeats 4000000 in
theorem refExpand_any (u : List UInt8) (hu : u.length ≤ 1000000) (w : World) :
    Calls Try.prog 24 #[.string (bs u)] w fun e w' => e = rxE (rx (nb u) 0 []) ∧ Below w.heap.size w w' := by
  obtain ⟨i0, hi, hz0, hz1, hz2⟩ := infoB_parts
  have HIX := Lib.hid (fun (r : Nat) (hr : r < u.length) (W : World) => str_at u r hr W)
  have HCU := Lib.hid (fun (a b : Nat) (h1 : a ≤ b) (h2 : b ≤ u.length) (W : World) => str_cut u a b h1 h2 W)
  have HNC := Lib.hid (fun a b => nb_cut u a b)
  have HZL := Lib.hid (fun (a b : Nat) => show ((u.drop a).take b).length ≤ b by rw [List.length_take]; omega)
  have hsz : (bs u).size = u.length := bs_size u
  have HL := Lib.hid (nb_length u)
  have HX6 := Lib.hid (nb_lt u)
  obtain ⟨n0, hn0⟩ : ∃ n, u.length = n := ⟨_, rfl⟩
  rw [hn0] at hu HIX hsz HL HCU
  obtain ⟨C, hLL⟩ : ∃ L, nb u = L := ⟨_, rfl⟩
  rw [hLL] at HIX HL HX6 HNC ⊢
  obtain ⟨S, hS⟩ : ∃ S, bs u = S := ⟨_, rfl⟩
  rw [hS] at HIX hsz HCU ⊢
  clear hn0 hLL hS
  obtain ⟨R0, hR0⟩ : ∃ R, rx C 0 [] = R := ⟨_, rfl⟩
  have HR0 := Lib.hid hR0
  rw [hR0]
  clear hR0
  go_enter Try.func24, Try.ntmps24
  go_wp2_with fail
  go_loopw [4, 5] (fun v p wr => ∃ (ip : Nat) (cur : List Nat), p = .int .i64 (ip : Int) ∧ ip ≤ n0 ∧ cur.length ≤ 4096 ∧ (∀ b ∈ cur, b < 256) ∧ rx C ip cur = R0 ∧ Bs.Own wr w.heap.size 5 .u8 v cur ∧ Below w.heap.size w wr) (fun _ p _ => n0 - (intOf p).toNat)
  case atStart => exact ⟨0, [], rfl, Nat.zero_le _, by simp, by simp, HR0.out, Bs.Own.nil _ _ _ _, Below.refl _ _⟩
  case round =>
    clear HR0
    obtain ⟨ip, cur, rfl, hip, hcl, hc6, hrx, hown, hB⟩ := hrel
    obtain ⟨av, cv, rfl⟩ := own_shp hown
    have hws := hB.size
    have HRX := Lib.hid hrx
    have HB := Lib.hid hB
    have HC6 := Lib.hid hc6
    obtain ⟨n, hn⟩ : ∃ n, cur.length = n := ⟨_, rfl⟩
    have HN := Lib.hid hn
    rcases Nat.lt_or_ge ip n0 with g0 | g0
    · rw [hn] at hown hcl ⊢
      have HOW := Lib.hid hown
      clear hn hrx hown hB hc6
      have d0 : decide ((ip : Int) < (n0 : Int)) = true := decide_eq_true (by omega)
      have d0' : decide (ip < n0) = true := decide_eq_true g0
      have hgC : Hid (ip < C.length) := Lib.hid (by rw [HL.out]; exact g0)
      have c1 := HIX.out ip g0
      obtain ⟨m, hm⟩ : ∃ m, C.getD ip 0 = m := ⟨_, rfl⟩
      have hm6 : m < 256 := by
        rw [← hm, List.getD_eq_getElem?_getD, List.getElem?_eq_getElem hgC.out]
        exact HX6.out _ (List.getElem_mem _)
      rw [hm] at c1
      have HMM := Lib.hid hm
      have hwc : IntKind.i64.wrap (m : Int) = (m : Int) := by rw [IntKind.wrap_i64]; omega
      have hw1 : IntKind.i64.wrap ((ip : Int) + 1) = ((ip + 1 : Nat) : Int) := by rw [IntKind.wrap_i64]; omega
      obtain ⟨p1, hp1⟩ : ∃ p1, ip + 1 = p1 := ⟨_, rfl⟩
      rw [hp1] at hw1
      clear hm
      by_cases g1 : m < 128
      · have d1 : decide ((m : Int) < 128) = true := decide_eq_true (by omega)
        have d1' : decide (m < 128) = true := decide_eq_true g1
        have hw2 : IntKind.i64.wrap ((p1 : Int) + (m : Int)) = ((p1 + m : Nat) : Int) := by rw [IntKind.wrap_i64]; omega
        obtain ⟨p2, hp2⟩ : ∃ p2, p1 + m = p2 := ⟨_, rfl⟩
        rw [hp2] at hw2
        have hw3 : IntKind.i64.wrap ((p2 : Int) + 1) = ((p2 + 1 : Nat) : Int) := by rw [IntKind.wrap_i64]; omega
        obtain ⟨p3, hp3⟩ : ∃ p3, p2 + 1 = p3 := ⟨_, rfl⟩
        rw [hp3] at hw3
        by_cases g2 : n0 < p3
        · have d2 : decide ((n0 : Int) < (p3 : Int)) = true := decide_eq_true (by omega)
          have d2' : decide (n0 < p3) = true := decide_eq_true g2
          have hno := Lib.hid (rx_short C ip cur m hgC.out HMM.out g1 (by rw [HL.out]; omega))
          clear hp1 hp2 hp3
          go_wp2_with fail
          go_ret2
          exact ⟨by rw [← HRX.out, hno.out]; rfl, HB.out⟩
        · have d2 : decide ((n0 : Int) < (p3 : Int)) = false := decide_eq_false (by omega)
          have d2' : decide (n0 < p3) = false := decide_eq_false g2
          have hst := Lib.hid (rx_run C ip cur m hgC.out HMM.out g1 (by rw [HL.out]; omega))
          have hcu := HCU.out p1 p3 (by omega) (by omega)
          have hncu := HNC.out p1 (p3 - p1)
          have hzl := HZL.out p1 (p3 - p1)
          have hzl2 : ((u.drop p1).take (p3 - p1)).length = p3 - p1 := by
            have := congrArg List.length hncu
            rw [nb_length] at this
            rw [this, List.length_take, List.length_drop, HL.out]
            omega
          rw [show ip + 2 + m = p3 by omega, hp1, show m + 1 = p3 - p1 by omega] at hst
          obtain ⟨zz, hzz⟩ : ∃ zz, (u.drop p1).take (p3 - p1) = zz := ⟨_, rfl⟩
          rw [hzz] at hcu hncu hzl2
          rw [← hncu] at hst
          have hz6 := Lib.hid (nb_lt zz)
          have HZ2 := Lib.hid hzl2
          have hpp : p3 - p1 ≤ 128 := by omega
          have hpi : ip < p3 := by omega
          clear hp1 hp2 hp3 hzl hzl2 hncu hzz
          go_wp2_with (refine wpList_pushS rfl _ _ 29 9 rfl w.heap.size 5 i0 Try.underlying29 Try.underlying9 hi hz0 hz1 hz2 _ cur rfl HOW.out zz rfl (by rw [HN.out, HZ2.out]; omega) hws ?_)
          intro v5 w5 hown5 hB5
          obtain ⟨c5, hc5⟩ : ∃ c5, cur ++ nb zz = c5 := ⟨_, rfl⟩
          have h56 : ∀ b ∈ c5, b < 256 := by
            intro b hb
            rw [← hc5, List.mem_append] at hb
            exact hb.elim (HC6.out b) (hz6.out b)
          rw [hc5] at hown5 hst
          obtain ⟨av5, cv5, rfl⟩ := own_shp hown5
          obtain ⟨n5, hn5⟩ : ∃ n5, c5.length = n5 := ⟨_, rfl⟩
          rw [hn5] at hown5 hst ⊢
          have HB5 := Lib.hid (HB.out.trans hB5)
          have HO5 := Lib.hid hown5
          have H56 := Lib.hid h56
          have hnn : n5 ≤ 5000 := by rw [← hn5, ← hc5, List.length_append, nb_length, HZ2.out, HN.out]; omega
          have HN5 := Lib.hid hn5
          clear hown5 hB5 h56 hc5 hn5 hcu hpp
          by_cases g3 : 4096 < n5
          · have d3 : decide ((4096 : Int) < (n5 : Int)) = true := decide_eq_true (by omega)
            have d3' : decide (4096 < n5) = true := decide_eq_true g3
            go_wp2_with fail
            go_ret2
            exact ⟨by rw [← HRX.out, hst.out, if_pos g3]; rfl, HB5.out⟩
          · have d3 : decide ((4096 : Int) < (n5 : Int)) = false := decide_eq_false (by omega)
            have d3' : decide (4096 < n5) = false := decide_eq_false g3
            go_wp2_with fail
            go_roundw
            case rel => exact ⟨p3, c5, rfl, by omega, by rw [HN5.out]; omega, H56.out, by rw [← HRX.out, hst.out, if_neg g3], HO5.out, HB5.out⟩
            case measure => simp [intOf]; omega
      · have d1 : decide ((m : Int) < 128) = false := decide_eq_false (by omega)
        have d1' : decide (m < 128) = false := decide_eq_false g1
        by_cases g2 : n0 ≤ p1
        · have d2 : decide ((n0 : Int) ≤ (p1 : Int)) = true := decide_eq_true (by omega)
          have d2' : decide (n0 ≤ p1) = true := decide_eq_true g2
          have hno := Lib.hid (rx_last C ip cur m hgC.out HMM.out g1 (by rw [HL.out]; omega))
          clear hp1
          go_wp2_with fail
          go_ret2
          exact ⟨by rw [← HRX.out, hno.out]; rfl, HB.out⟩
        · have d2 : decide ((n0 : Int) ≤ (p1 : Int)) = false := decide_eq_false (by omega)
          have d2' : decide (n0 ≤ p1) = false := decide_eq_false g2
          have c2 := HIX.out p1 (by omega)
          obtain ⟨d, hd⟩ : ∃ d, C.getD p1 0 = d := ⟨_, rfl⟩
          have hd6 : d < 256 := by
            rw [← hd, List.getD_eq_getElem?_getD, List.getElem?_eq_getElem (by rw [HL.out]; omega)]
            exact HX6.out _ (List.getElem_mem _)
          rw [hd] at c2
          have HDD : Hid (C.getD (ip + 1) 0 = d) := Lib.hid (by rw [hp1]; exact hd)
          have HP1 : Hid (ip + 1 < C.length) := Lib.hid (by rw [HL.out]; omega)
          have hwd : IntKind.i64.wrap (d : Int) = (d : Int) := by rw [IntKind.wrap_i64]; omega
          have hw2 : IntKind.i64.wrap ((p1 : Int) + 1) = ((p1 + 1 : Nat) : Int) := by rw [IntKind.wrap_i64]; omega
          obtain ⟨p2, hp2⟩ : ∃ p2, p1 + 1 = p2 := ⟨_, rfl⟩
          rw [hp2] at hw2
          have hp3 : ip + 2 = p2 := by omega
          have HP2 := Lib.hid hp3
          have hp4 : p2 ≤ n0 := by omega
          have hp5 : ip < p2 := by omega
          clear hd hp1 hp2 hp3
          by_cases g3 : d = 0 ∨ n < d
          · have hno := Lib.hid (rx_far C ip cur m d HP1.out HMM.out HDD.out g1 (by rw [HN.out]; exact g3))
            by_cases g4 : d = 0
            · have d3 : decide ((d : Int) = 0) = true := decide_eq_true (by omega)
              have d3' : decide (d = 0) = true := decide_eq_true (by omega)
              have d4 : ((d : Int) == 0) = true := by rw [beq_iff_eq]; omega
              clear g3
              go_wp2_with fail
              go_ret2
              exact ⟨by rw [← HRX.out, hno.out]; rfl, HB.out⟩
            · have g5 : n < d := by omega
              have d3 : decide ((d : Int) = 0) = false := decide_eq_false (by omega)
              have d3' : decide (d = 0) = false := decide_eq_false (by omega)
              have d4 : ((d : Int) == 0) = false := by rw [beq_eq_false_iff_ne]; omega
              have d5 : decide ((n : Int) < (d : Int)) = true := decide_eq_true (by omega)
              have d5' : decide (n < d) = true := decide_eq_true g5
              clear g3
              go_wp2_with fail
              go_ret2
              exact ⟨by rw [← HRX.out, hno.out]; rfl, HB.out⟩
          · have hst := Lib.hid (rx_copy C ip cur m d HP1.out HMM.out HDD.out g1 (by rw [HN.out]; exact g3))
            rw [HP2.out] at hst
            have g4 : ¬ (d = 0) := by omega
            have g5 : d ≤ n := by omega
            have d3 : decide ((d : Int) = 0) = false := decide_eq_false (by omega)
            have d3' : decide (d = 0) = false := decide_eq_false (by omega)
            have d4 : ((d : Int) == 0) = false := by rw [beq_eq_false_iff_ne]; omega
            have d5 : decide ((n : Int) < (d : Int)) = false := decide_eq_false (by omega)
            have d5' : decide (n < d) = false := decide_eq_false (by omega)
            have hw3 : IntKind.i64.wrap ((m : Int) - 128) = ((m - 128 : Nat) : Int) := by rw [IntKind.wrap_i64]; omega
            obtain ⟨a1, ha1⟩ : ∃ a1, m - 128 = a1 := ⟨_, rfl⟩
            rw [ha1] at hw3
            have hw4 : IntKind.i64.wrap ((a1 : Int) + 4) = ((a1 + 4 : Nat) : Int) := by rw [IntKind.wrap_i64]; omega
            obtain ⟨N, hN⟩ : ∃ N, a1 + 4 = N := ⟨_, rfl⟩
            rw [hN] at hw4
            have hNl : N ≤ 131 := by omega
            rw [show m - 124 = N by omega] at hst
            obtain ⟨T, hT⟩ : ∃ T, cp cur d N = T := ⟨_, rfl⟩
            have HT := Lib.hid hT
            rw [hT] at hst
            clear g3 hT ha1 hN
            go_wp2_with fail
            clear c1 c2
            go_loopw [4, 8] (fun v i wr => ∃ (k : Nat) (c : List Nat), k ≤ N ∧ i = .int .i64 (k : Int) ∧ c.length = n + k ∧ (∀ b ∈ c, b < 256) ∧ cp c d (N - k) = T ∧ Bs.Own wr w.heap.size 5 .u8 v c ∧ Below w.heap.size w wr) (fun _ i _ => N - (intOf i).toNat)
            case atStart => exact ⟨0, cur, Nat.zero_le _, rfl, by rw [HN.out]; rfl, HC6.out, by rw [Nat.sub_zero]; exact HT.out, HOW.out, HB.out⟩
            case round =>
              clear HC6 HOW HB HT
              obtain ⟨k, c, hk, rfl, hcl2, hc62, hcp, hown2, hB2⟩ := hrel
              obtain ⟨av2, cv2, rfl⟩ := own_shp hown2
              obtain ⟨lc, hlc⟩ : ∃ lc, c.length = lc := ⟨_, rfl⟩
              have hws2 := hB2.size
              rcases Nat.lt_or_ge k N with g6 | g6
              · have d6 : decide ((k : Int) < (N : Int)) = true := decide_eq_true (by omega)
                have d6' : decide (k < N) = true := decide_eq_true g6
                obtain ⟨gx, capx, hav, _, _, hgc⟩ := hown2.cells (by omega)
                injection hav with e1 e2 e3
                subst e1
                have hw5 : IntKind.i64.wrap ((lc : Int) - (d : Int)) = ((lc - d : Nat) : Int) := by rw [IntKind.wrap_i64]; omega
                have cx := hgc (lc - d) (by omega)
                obtain ⟨q, hq⟩ : ∃ q, lc - d = q := ⟨_, rfl⟩
                obtain ⟨X, hX⟩ : ∃ X, c.getD (lc - d) 0 = X := ⟨_, rfl⟩
                have hX6 : Hid (X < 256) := Lib.hid (by
                  rw [← hX, List.getD_eq_getElem?_getD, List.getElem?_eq_getElem (by omega)]
                  exact hc62 _ (List.getElem_mem _))
                rw [hX] at cx
                rw [hq] at hw5 cx
                have hcp2 : Hid (cp (c ++ [X]) d (N - (k + 1)) = T) := Lib.hid (by
                  rw [← hcp, show N - k = N - (k + 1) + 1 by omega, cp, hlc, hX])
                have i1 : (0 : Int) ≤ (q : Int) := by omega
                have i2 : (q : Int) < (lc : Int) := by omega
                have hlb : lc ≤ 5000 := by omega
                rw [hlc] at hown2 ⊢
                have HLC := Lib.hid hlc
                have HCL2 := Lib.hid hcl2
                have HO2 := Lib.hid hown2
                have HB2 := Lib.hid hB2
                have HC62 := Lib.hid hc62
                have HN1 := nums_one wr X
                clear hlc hcl2 hown2 hB2 hc62 hcp hgc hX hq e2 e3
                go_wp2_with (refine wpList_pushN rfl _ _ 29 rfl w.heap.size 5 i0 (.int .u8 0) 1 Try.underlying29 hi hz0 hz1 hz2 rfl (by omega) .u8 _ c rfl (HO2.out.alloc _) wr.heap.size 0 1 1 [X] rfl HN1.out rfl (by rw [HLC.out]; omega) (by rw [World.size_alloc]; omega) ?_)
                intro v5 w5 hown5 hB5
                go_wp2_with fail
                go_roundw
                case rel =>
                  refine ⟨k + 1, c ++ [X], g6, by go_num, by have := HCL2.out; simp; omega, fun b hb => ?_, hcp2.out, hown5, (HB2.out.alloc hws2 _).trans hB5⟩
                  simp only [List.mem_append, List.mem_singleton] at hb
                  rcases hb with hb | rfl
                  · exact HC62.out b hb
                  · exact hX6.out
                case measure => simp [intOf]; omega
              · have d6 : decide ((k : Int) < (N : Int)) = false := decide_eq_false (by omega)
                have d6' : decide (k < N) = false := decide_eq_false (by omega)
                have hcT : c = T := by
                  rw [show N - k = 0 by omega, cp] at hcp
                  exact hcp
                subst hcT
                have HLC := Lib.hid hlc
                have HO2 := Lib.hid hown2
                have HB2 := Lib.hid hB2
                have HC62 := Lib.hid hc62
                rw [hlc] at hst ⊢
                clear hlc hcl2 hown2 hB2 hc62 hcp
                by_cases g7 : 4096 < lc
                · have d7 : decide ((4096 : Int) < (lc : Int)) = true := decide_eq_true (by omega)
                  have d7' : decide (4096 < lc) = true := decide_eq_true g7
                  go_wp2_with fail
                  go_ret2
                  exact ⟨by rw [← HRX.out, hst.out, if_pos g7]; rfl, HB2.out⟩
                · have d7 : decide ((4096 : Int) < (lc : Int)) = false := decide_eq_false (by omega)
                  have d7' : decide (4096 < lc) = false := decide_eq_false g7
                  go_wp2_with fail
                  go_roundw
                  case rel => exact ⟨p2, c, rfl, hp4, by rw [HLC.out]; omega, HC62.out, by rw [← HRX.out, hst.out, if_neg g7], by rw [← HLC.out]; exact HO2.out, HB2.out⟩
                  case measure => simp [intOf]; omega
    · have d0 : decide ((ip : Int) < (n0 : Int)) = false := decide_eq_false (by omega)
      have d0' : decide (ip < n0) = false := decide_eq_false (by omega)
      have hcv := conv_own hown hc6
      rw [rx_end C ip cur (by rw [HL.out]; omega)] at hrx
      subst hrx
      rw [hn] at hcv ⊢
      clear hown hB hc6 hn
      go_wp2_with fail
      go_ret2
      exact ⟨rfl, HB.out⟩

end Go.Proofs.Ytnploljhikljfaa
