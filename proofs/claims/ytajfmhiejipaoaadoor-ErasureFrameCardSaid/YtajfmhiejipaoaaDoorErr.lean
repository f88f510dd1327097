/-
  ErasureFrame: for every string and every two integers, and in every memory in which the table of SHA-256 holds its numbers, the law returns true.
-/
import Derived.Test.YtajfmhiejipaoaaDoorErq
namespace Go.Proofs.YtajfmhiejipaoaaDoor
open Go.RowKit Bs Ef

set_option maxRecDepth 100000 in
set_option maxHeartbeats 16000000 in
theorem ErasureFrame_any (s : ByteArray) (a0 b0 : Int) (ha0 : -9223372036854775808 ≤ a0) (ha1 : a0 ≤ 9223372036854775807) (hb0 : -9223372036854775808 ≤ b0) (hb1 : b0 ≤ 9223372036854775807) (w : World) (hT : KAt w) :
    Calls Tryd.prog 8 #[.string s, .int .i64 a0, .int .i64 b0] w fun e w' => e = .returned (.bool true) ∧ Below w.heap.size w w' := by
  obtain ⟨m0, t, ⟨m0a, m0b⟩, x0, l0, e0, -⟩ := cut_string s 300
  have r0 := fun w ts ty => min_run (P := Tryd.prog) s.size 300 m0 e0 300 rfl w ts ty
  have ht : t.length ≤ 300 := by omega
  obtain ⟨need, count, n1, n8, nc, c16, PR⟩ := params_any a0 b0 ha0 ha1 hb0 hb1
  have hEnc := fun (W : World) => Encode_ok t need count n1 nc c16 (by omega) W
  have hPut := fun (W : World) => PutString_any t W (by omega)
  rw [show putS t = (encI t.length ++ t, 0) from if_pos (by omega)] at hPut
  unfold Ret2 at hPut
  simp only at hPut
  have hcl := encI_length t.length
  have hclen : (encI t.length ++ t).length ≤ 309 ∧ 1 ≤ (encI t.length ++ t).length := by rw [List.length_append]; omega
  have hsz : (bs (encI t.length ++ t)).size = (encI t.length ++ t).length := bs_size _
  have hmc := mOf_ceil t need n1
  have hml := (mOf_spec t need n1 (by omega) (by omega)).2.2
  have hEl := encL_len t need count
  have hEg := encL_get t need count
  have hEs := encL_size t need count
  have hEb := fun i j => encL_byte t need count i j n1 (by omega)
  have hCb : ∀ p (h : p < (encI t.length ++ t).length) (h2 : p < (bs (encI t.length ++ t)).size), ((bs (encI t.length ++ t))[p]'h2).toNat = ((encI t.length ++ t).getD p 0).toNat := fun p h h2 => by
    rw [List.getD_eq_getElem?_getD, List.getElem?_eq_getElem h]; rfl
  have hC0 : ∀ p, (encI t.length ++ t).length ≤ p → ((encI t.length ++ t).getD p 0).toNat = 0 := fun p h => by
    rw [List.getD_eq_getElem?_getD, List.getElem?_eq_none h]; rfl
  obtain ⟨E, hE⟩ : ∃ E, encL t need count = E := ⟨_, rfl⟩
  obtain ⟨m, hm⟩ : ∃ m, mOf t need = m := ⟨_, rfl⟩
  rw [hE] at hEl
  have hEi : ∀ i (h : i < E.length), (E[i]).1 = (i : Int) ∧ (E[i]).2.size = m := fun i h => by
    subst hE; exact ⟨by rw [hEg i h], by rw [hEs i h, hm]⟩
  have hEj : ∀ i j, i < need → i < count → j < m → ∀ (h3 : i < E.length) (h4 : j < (E[i]).2.size), ((E[i]).2[j]).toNat = ((encI t.length ++ t).getD (j * need + i) 0).toNat := fun i j p1 p2 p3 h3 h4 => by
    subst hE; exact hEb i j p1 p2 (by rw [hm]; exact p3) h3 h4
  rw [hE] at hEnc
  rw [hm] at hmc hml
  obtain ⟨C, hC⟩ : ∃ C, encI t.length ++ t = C := ⟨_, rfl⟩
  rw [hC] at hPut hclen hsz hmc hCb hC0 hEj
  obtain ⟨cl, hcle⟩ : ∃ c, C.length = c := ⟨_, rfl⟩
  obtain ⟨Cs, hCs⟩ : ∃ S, bs C = S := ⟨_, rfl⟩
  rw [hCs] at hPut hsz hCb
  rw [hcle] at hclen hsz hmc hCb hC0
  obtain ⟨q, hq⟩ : ∃ q, cl + need = q := ⟨_, rfl⟩
  obtain ⟨r, hr⟩ : ∃ r, q - 1 = r := ⟨_, rfl⟩
  rw [hq, hr] at hmc
  have d1 : (cl : Int) + (need : Int) = (q : Int) := by omega
  have d2 : (q : Int) - 1 = (r : Int) := by omega
  have d3 : (r : Int).tdiv (need : Int) = (m : Int) := by rw [hmc, Int.tdiv_eq_ediv_of_nonneg (by omega)]; rfl
  have d4 : ((need : Int) == 0) = false := beq_false_of_ne (by omega)
  have d5 : decide ((need : Int) = 0) = false := decide_eq_false (by omega)
  have d6 : IntKind.i64.wrap ((cl : Int) + (need : Int)) = (q : Int) := by rw [IntKind.wrap_i64]; omega
  have d7 : IntKind.i64.wrap ((q : Int) - 1) = (r : Int) := by rw [IntKind.wrap_i64]; omega
  have hqb : q ≤ 400 := by omega
  obtain ⟨S0, hS0⟩ : ∃ S, Bs.bs t = S := ⟨_, rfl⟩
  rw [hS0] at x0
  replace hEnc : ∀ W : World, Calls Tryd.prog 20 #[.string S0, .int .i64 (need : Int), .int .i64 (count : Int)] W fun e w' => ∃ gv, W.heap.size ≤ gv ∧ e = .returned (.tuple #[.slice (some ⟨gv, 0, none⟩) count count, .int .i64 0]) ∧ CkRow w' gv E ∧ Below W.heap.size W w' := fun W => by rw [← hS0]; exact hEnc W
  replace hPut : ∀ W : World, Calls Tryd.prog 31 #[.string S0] W fun e w' => e = .returned (.tuple #[.string Cs, .int .i64 0]) ∧ Below W.heap.size W w' := fun W => by rw [← hS0]; exact hPut W
  have HE := Lib.hid hEnc
  have HP := Lib.hid hPut
  have HS := Lib.hid esane_any
  replace PR := Lib.hid PR
  have HEI := Lib.hid hEi
  have HEJ := Lib.hid hEj
  have HCB := Lib.hid hCb
  have HC0 := Lib.hid hC0
  have HB := Lib.hid (Below.refl w.heap.size w)
  clear hEnc hPut hEi hEj hCb hC0 hEg hEs hEb hE hm hC hcle hCs hS0 hcl hmc hr l0 e0 ha0 ha1 hb0 hb1
  go_enter Tryd.func8, Tryd.ntmps8
  go_upto_region 9 with (first
    | (go_at_call 11; (with_reducible refine (HS.out _ (hT.below HB.out)).mono ?_); rintro e w0 ⟨rfl, hB⟩; replace HB := Lib.hid (below_on HB.out hB HB.out.size); clear hB)
    | (go_at_call 19; (with_reducible refine (PR.out _).mono ?_); rintro e ww ⟨rfl, hww⟩; rw [hww]; clear hww ww)
    | (go_at_call 20; (with_reducible refine (HE.out _).mono ?_); rintro e w1 ⟨ge, hge, rfl, hR, hB⟩; replace HB := Lib.hid (below_on HB.out hB HB.out.size); clear hB)
    | (go_at_call 31; (with_reducible refine (HP.out _).mono ?_); rintro e w2 ⟨rfl, hB⟩; have HR := Lib.hid (hR.later hB); replace HB := Lib.hid (below_on HB.out hB HB.out.size); clear hB))
  clear HE HP HS PR hR
  go_wp2_with fail
  go_loopw [14] (fun v wr => ∃ i : Nat, i ≤ count ∧ v = .int .i64 i ∧ wr = w2) (fun v _ => count - (intOf v).toNat)
  case atStart => exact ⟨0, Nat.zero_le _, rfl, rfl⟩
  case round =>
    obtain ⟨i, hi, rfl, hww⟩ := hrel
    rw [hww]
    clear hww wr
    rcases Nat.lt_or_ge i count with hic | hic
    · obtain ⟨q1, q2⟩ := HR.out.cell i (by omega)
      obtain ⟨k1, k2⟩ := HEI.out i (by omega)
      have HJ := Lib.hid (fun j p1 p3 => HEJ.out i j p1 hic p3 (by omega))
      obtain ⟨S, hS⟩ : ∃ S, (E[i]'(by omega)).2 = S := ⟨_, rfl⟩
      rw [k1] at q1
      rw [hS] at q2 k2
      replace HJ : Hid (∀ j, i < need → j < m → ∀ (h4 : j < S.size), (S[j]).toNat = (C.getD (j * need + i) 0).toNat) := Lib.hid (fun j p1 p3 h4 => by subst hS; exact HJ.out j p1 p3 h4)
      clear k1 hS
      go_wp2_with fail
      go_loopw [15] (fun v wr => ∃ j : Nat, j ≤ m ∧ v = .int .i64 j ∧ wr = w2) (fun v _ => m - (intOf v).toNat)
      case atStart => exact ⟨0, Nat.zero_le _, rfl, rfl⟩
      case round =>
        obtain ⟨j, hj, rfl, hww⟩ := hrel
        rw [hww]
        clear hww wr
        rcases Nat.lt_or_ge j m with hjm | hjm
        · have j1 : decide (j < m) = true := decide_eq_true hjm
          rcases Nat.lt_or_ge i need with hin | hin
          · have i1 : decide (i < need) = true := decide_eq_true hin
            have g2 : j < S.size := by omega
            have g4 := HJ.out j hin hjm g2
            have hjn : j * need ≤ 5000 * 8 := Nat.mul_le_mul (by omega) n8
            obtain ⟨x, hx⟩ : ∃ x, j * need = x := ⟨_, rfl⟩
            have v1 : IntKind.i64.wrap ((j : Int) * (need : Int)) = (x : Int) := by rw [show (j : Int) * (need : Int) = (x : Int) from by rw [← hx, Int.natCast_mul], IntKind.wrap_i64]; omega
            rw [hx] at hjn g4
            obtain ⟨p, hp⟩ : ∃ p, x + i = p := ⟨_, rfl⟩
            have v2 : (x : Int) + (i : Int) = (p : Int) := by omega
            have v3 : IntKind.i64.wrap ((x : Int) + (i : Int)) = (p : Int) := by rw [IntKind.wrap_i64]; omega
            rw [hp] at g4
            clear hx hp
            rcases Nat.lt_or_ge p cl with hpc | hpc
            · have p1 : decide (p < cl) = true := decide_eq_true hpc
              have g5 : p < Cs.size := by omega
              have g6 := HCB.out p hpc g5
              obtain ⟨v, hv⟩ : ∃ v, (C.getD p 0).toNat = v := ⟨_, rfl⟩
              rw [hv] at g4 g6
              clear hv
              go_wp2_with fail
              go_roundw
              case rel => exact ⟨j + 1, hjm, by go_num, by simp⟩
              case measure => simp [intOf]; omega
            · have p1 : decide (p < cl) = false := decide_eq_false (by omega)
              rw [HC0.out p hpc] at g4
              go_wp2_with fail
              go_roundw
              case rel => exact ⟨j + 1, hjm, by go_num, by simp⟩
              case measure => simp [intOf]; omega
          · have i1 : decide (i < need) = false := decide_eq_false (by omega)
            go_wp2_with fail
            go_roundw
            case rel => exact ⟨i + 1, hic, by go_num, by simp⟩
            case measure => simp [intOf]; omega
        · have j1 : decide (j < m) = false := decide_eq_false (by omega)
          go_wp2_with fail
          go_roundw
          case rel => exact ⟨i + 1, hic, by go_num, by simp⟩
          case measure => simp [intOf]; omega
    · obtain rfl : i = count := by omega
      go_wp2_with fail
      go_ret
      exact ⟨rfl, HB.out⟩

end Go.Proofs.YtajfmhiejipaoaaDoor
