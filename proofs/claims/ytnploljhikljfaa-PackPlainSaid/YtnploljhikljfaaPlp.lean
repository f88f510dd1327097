/-
  PackPlain: for every byte and two integers the law returns true.
-/
import Derived.Test.YtnploljhikljfaaPwi
import Derived.Test.YtnploljhikljfaaPmb
import Derived.Deep.Cut
namespace Go.Proofs.Ytnploljhikljfaa
open Go.RowKit Bs Pk

theorem ub_len (l : List Nat) : (ub l).length = l.length := by simp [ub]
theorem own_shape {W : World} {base : Nat} {t : TypeId} {k : IntKind} {v : Value} {l : List Nat} (h : Bs.Own W base t k v l) : ∃ av cv, v = .slice av l.length cv := by
  rcases h.row.2 with ⟨rfl, h0⟩ | ⟨go, cap, cur, rfl, _⟩
  · exact ⟨none, 0, by rw [h0]⟩
  · exact ⟨_, _, rfl⟩
theorem cut_lh (W : World) (g l h n c : Nat) (h1 : l < c) (h2 : l ≤ h) (h3 : h ≤ c) :
    (Instr.sliceAt 29 (.slice (some ⟨g, 0, none⟩) n c) (some (.int .i64 (l : Int))) (some (.int .i64 (h : Int))) none).run Try.prog W = .ok (.slice (some ⟨g, l, none⟩) (h - l) (c - l)) W := by
  have hu : Try.prog.underlying 29 = some (.slice (Try.prog.elem 29)) := by kernel_rfl
  rw [run_sliceAt_slice (h := hu), run_slice_lh (ht := hu) (h0 := by omega) (h1 := by omega) (h2 := by omega)]
  have hz : (sizeOf (Try.prog.elem 29)).run Try.prog W = .ok 1 W := by kernel_rfl
  rcases Nat.eq_zero_or_pos l with h0 | h0
  · subst h0
    simp [hz, Result.andThen, sliced, Addr.add]
  · simp [hz, Result.andThen, sliced, show c ≠ l by omega, Addr.add, show l ≠ 0 by omega]
/-- the bytes with a step -/
def stp (f o n : Nat) : List Nat := (List.range n).map (fun i => (f + i * o) % 256)
theorem stp_len (f o n : Nat) : (stp f o n).length = n := by simp [stp]
theorem stp_succ (f o n : Nat) : stp f o (n + 1) = stp f o n ++ [(f + n * o) % 256] := by simp [stp, List.range_succ]
theorem stp_lt (f o n : Nat) : ∀ x ∈ stp f o n, x < 256 := by
  intro x hx
  simp only [stp, List.mem_map] at hx
  obtain ⟨i, _, rfl⟩ := hx
  exact Nat.mod_lt _ (by omega)
theorem stp_get (f o n i : Nat) (hi : i < n) : (stp f o n).getD i 0 = (f + i * o) % 256 := by simp [stp, List.getD_eq_getElem?_getD, hi]
theorem odd_mul (o k : Nat) (ho : o % 2 = 1) : ∀ (e : Nat), (k * o) % 2 ^ e = 0 → k % 2 ^ e = 0
  | 0, _ => by simp [Nat.mod_one]
  | e + 1, h => by
    have h2 : (k * o) % 2 ^ e = 0 := by
      have := Nat.mod_mod_of_dvd (k * o) (show 2 ^ e ∣ 2 ^ (e + 1) from ⟨2, by rw [Nat.pow_succ]⟩)
      rw [h] at this; simpa using this.symm
    obtain ⟨q, hq⟩ := Nat.dvd_of_mod_eq_zero (odd_mul o k ho e h2)
    subst hq
    have h3 : 2 ^ (e + 1) ∣ 2 ^ e * q * o := Nat.dvd_of_mod_eq_zero h
    rw [Nat.pow_succ, Nat.mul_assoc] at h3
    have h4 : 2 ∣ q * o := Nat.dvd_of_mul_dvd_mul_left (Nat.pow_pos (by omega)) h3
    have h5 : q % 2 = 0 := by
      have : (q * o) % 2 = 0 := Nat.mod_eq_zero_of_dvd h4
      rw [Nat.mul_mod, ho] at this
      omega
    obtain ⟨r, hr⟩ := Nat.dvd_of_mod_eq_zero h5
    subst hr
    rw [Nat.pow_succ, ← Nat.mul_assoc]
    exact Nat.mul_mod_right _ _
theorem stp_diff (f o n : Nat) (ho : o % 2 = 1) (hn : n ≤ 256) (i j : Nat) (hij : i < j) (hj : j < (stp f o n).length) : (stp f o n).getD j 0 ≠ (stp f o n).getD i 0 := by
  rw [stp_len] at hj
  rw [stp_get f o n j hj, stp_get f o n i (by omega)]
  intro h
  have e : j * o = i * o + (j - i) * o := by rw [← Nat.add_mul]; congr 1; omega
  have h2 : ((j - i) * o) % 256 = 0 := by
    rw [e] at h
    omega
  have := odd_mul o (j - i) ho 8 h2
  have h3 : (j - i) % 256 = j - i := Nat.mod_eq_of_lt (by omega)
  have h4 : (j - i) % 256 = 0 := this
  omega

set_option maxRecDepth 100000 in
set_option maxHeartbeats 4000000 in
theorem PackPlain_any (b st len : Int) (b0 : 0 ≤ b) (b1 : b ≤ 255) (s0 : -9223372036854775808 ≤ st) (s1 : st ≤ 9223372036854775807) (l0 : -9223372036854775808 ≤ len) (l1 : len ≤ 9223372036854775807) (w : World) :
    Calls Try.prog 8 #[.int .u8 b, .int .i64 st, .int .i64 len] w fun e w' => e = .returned (.bool true) ∧ Below w.heap.size w w' := by
  obtain ⟨f, rfl⟩ : ∃ f : Nat, b = (f : Int) := ⟨b.toNat, by omega⟩
  obtain ⟨n, hn, PN⟩ := ppick_any len l0 l1 256 256 rfl (by omega)
  obtain ⟨q, hq, PQ⟩ := ppick_any st s0 s1 128 128 rfl (by omega)
  replace PN := Lib.hid PN
  replace PQ := Lib.hid PQ
  have hw1 : IntKind.i64.wrap (2 * (q : Int)) = ((2 * q : Nat) : Int) := by rw [IntKind.wrap_i64]; omega
  have hw2 : IntKind.i64.wrap (((2 * q : Nat) : Int) + 1) = ((2 * q + 1 : Nat) : Int) := by rw [IntKind.wrap_i64]; omega
  obtain ⟨q2, hq2⟩ : ∃ q2, 2 * q = q2 := ⟨_, rfl⟩
  rw [hq2] at hw1 hw2
  obtain ⟨o, ho⟩ : ∃ o, q2 + 1 = o := ⟨_, rfl⟩
  rw [ho] at hw2
  have ho2 : o % 2 = 1 := by omega
  have ho3 : o ≤ 255 := by omega
  have hdiff := Lib.hid (best_diff (stp f o n) (stp_diff f o n ho2 (by omega)))
  obtain ⟨i0, hi, hz0, hz1, hz2⟩ := infoB_parts
  have HS := Lib.hid psane_any
  have HB := Lib.hid (Below.refl w.heap.size w)
  have hf : f ≤ 255 := by omega
  clear ho hq2 hq b0 b1
  go_enter Try.func8, Try.ntmps8
  go_wp2_with (first
    | (go_at_call 10; (with_reducible refine (HS.out _).mono ?_); rintro e w1 ⟨rfl, hB⟩; replace HB := Lib.hid (below_on HB.out hB HB.out.size); clear hB)
    | (go_at_call 14; (with_reducible refine (PN.out _).mono ?_); rintro e ww ⟨rfl, hww⟩; rw [hww]; clear hww ww)
    | (go_at_call 14; (with_reducible refine (PQ.out _).mono ?_); rintro e ww ⟨rfl, hww⟩; rw [hww]; clear hww ww))
  go_loopw [10, 11] (fun v i wr => ∃ (j : Nat), j ≤ n ∧ i = .int .i64 j ∧ Bs.Own wr w.heap.size 5 .u8 v (stp f o j) ∧ Below w.heap.size w wr) (fun _ i _ => n - (intOf i).toNat)
  case atStart => exact ⟨0, Nat.zero_le _, rfl, Bs.Own.nil _ _ _ _, HB.out⟩
  case round =>
    clear HB
    obtain ⟨j, hj, rfl, hown, hB⟩ := hrel
    rcases Nat.lt_or_ge j n with g1 | g1
    · have d1 : decide ((j : Int) < (n : Int)) = true := decide_eq_true (by omega)
      have hjo : j * o ≤ 255 * 255 := Nat.mul_le_mul (by omega) ho3
      have hw3 : IntKind.i64.wrap (f : Int) = (f : Int) := by rw [IntKind.wrap_i64]; omega
      have hw4 : IntKind.i64.wrap ((j : Int) * (o : Int)) = ((j * o : Nat) : Int) := by rw [← Int.natCast_mul, IntKind.wrap_i64]; omega
      obtain ⟨r, hr⟩ : ∃ r, j * o = r := ⟨_, rfl⟩
      rw [hr] at hw4 hjo
      have hw5 : IntKind.i64.wrap ((f : Int) + (r : Int)) = ((f + r : Nat) : Int) := by rw [IntKind.wrap_i64]; omega
      obtain ⟨r2, hr2⟩ : ∃ r2, f + r = r2 := ⟨_, rfl⟩
      rw [hr2] at hw5
      have hw6 : IntKind.u8.wrap (r2 : Int) = ((r2 % 256 : Nat) : Int) := by rw [IntKind.wrap_u8]; omega
      obtain ⟨x, hx⟩ : ∃ x, r2 % 256 = x := ⟨_, rfl⟩
      rw [hx] at hw6
      have HX := Lib.hid (show stp f o j ++ [x] = stp f o (j + 1) by rw [stp_succ, hr, hr2, hx])
      have hcl := stp_len f o j
      obtain ⟨C, hC⟩ : ∃ C, stp f o j = C := ⟨_, rfl⟩
      rw [hC] at hown HX hcl
      have hCl : C.length ≤ 300 := by omega
      have HOW := Lib.hid hown
      have HB := Lib.hid hB
      have HN1 : Hid (Nums (wr.alloc (Obj.cells #[Value.int .u8 (x : Int)] 5)) wr.heap.size 0 1 .u8 [x]) := Lib.hid (by
        have := Nums.fresh (W := wr) (t := 5) (k := .u8) [x] 1 rfl
        exact this)
      have hws := hB.size
      clear hr hr2 hx hC hcl hown hB
      go_wp2_with (refine wpList_pushN rfl _ _ 29 rfl w.heap.size 5 i0 (.int .u8 0) 1 Try.underlying29 hi hz0 hz1 hz2 rfl (by omega) .u8 _ C rfl (HOW.out.alloc _) wr.heap.size 0 1 1 [x] rfl HN1.out rfl (by omega) (by rw [World.size_alloc]; omega) ?_)
      intro v' w4 hown4 hB4
      rw [HX.out] at hown4
      go_wp2_with fail
      go_roundw
      case rel => exact ⟨j + 1, by omega, by go_num, hown4, (HB.out.alloc hws _).trans hB4⟩
      case measure => simp [intOf]; omega
    · obtain rfl : j = n := by omega
      have d1 : decide ((j : Int) < (j : Int)) = false := decide_eq_false (by omega)
      have hL256 := stp_lt f o j
      have hLl := stp_len f o j
      obtain ⟨L, hL⟩ : ∃ L, stp f o j = L := ⟨_, rfl⟩
      rw [hL] at hown hL256 hLl hdiff
      obtain ⟨av, cv, rfl⟩ := own_shape hown
      rw [hLl] at hown ⊢
      have hcv := conv_own hown hL256
      have EN := fun W => Encode_ok (ub L) (by rw [ub_len]; omega) W
      rw [nb_ub hL256] at EN
      obtain ⟨S, hS⟩ : ∃ S, bs (ub L) = S := ⟨_, rfl⟩
      obtain ⟨T, hT⟩ : ∃ T, bs (ub (enc L)) = T := ⟨_, rfl⟩
      rw [hS] at hcv EN
      rw [hT] at EN
      have HT := Lib.hid hT
      have HE := Lib.hid EN
      have HOW := Lib.hid hown
      have HB := Lib.hid hB
      have HLL := Lib.hid hLl
      have HL6 := Lib.hid hL256
      clear hS hT EN hown hB hL hLl hL256
      go_wp2_with (go_at_call 15; (with_reducible refine (HE.out _).mono ?_); rintro e w3 ⟨rfl, hB3⟩)
      replace HOW := Lib.hid (HOW.out.later hB3)
      replace HB := Lib.hid (below_on HB.out hB3 HB.out.size)
      have hws := HB.out.size
      clear hcv hB3 HE HS PN PQ
      go_loopw [14, 15] (fun v i wr => ∃ (k : Nat) (W : List Nat), k ≤ j + 127 ∧ i = .int .i64 k ∧ Bs.Own wr w3.heap.size 5 .u8 v W ∧ W ++ spells L (div L (min k j) (min k j)) = enc L ∧ Below w3.heap.size w3 wr ∧ W.length ≤ 130 * (k / 128) ∧ (∀ x ∈ W, x < 256)) (fun _ i _ => j + 128 - (intOf i).toNat)
      case atStart => exact ⟨0, [], by omega, rfl, Bs.Own.nil _ _ _ _, by rw [Nat.zero_min]; rfl, Below.refl _ _, by simp, by simp⟩
      case round =>
        obtain ⟨k, W, hk, rfl, hown, hsp, hB, hWl, hW6⟩ := hrel
        rcases Nat.lt_or_ge k j with g2 | g2
        · have d2 : decide ((k : Int) < (j : Int)) = true := decide_eq_true (by omega)
          have hdr := div_run L hdiff.out k (by rw [HLL.out]; exact g2)
          rw [HLL.out] at hdr
          rw [show min k j = k by omega, hdr, spells_cons] at hsp
          obtain ⟨m, hm⟩ : ∃ m, min 128 (j - k) = m := ⟨_, rfl⟩
          rw [hm] at hsp
          have hm1 : 1 ≤ m := by omega
          have hm2 : m ≤ 128 := by omega
          have hm3 : k + m ≤ j := by omega
          have hw3 : IntKind.i64.wrap ((k : Int) + 128) = ((k + 128 : Nat) : Int) := by rw [IntKind.wrap_i64]; omega
          obtain ⟨k2, hk2⟩ : ∃ k2, k + 128 = k2 := ⟨_, rfl⟩
          rw [hk2] at hw3
          obtain ⟨km, hkm⟩ : ∃ km, k + m = km := ⟨_, rfl⟩
          have r0 := fun w ts ty => min_run (P := Try.prog) k2 j km (by omega) (j : Int) rfl w ts ty
          have hmin : min k2 j = km := by omega
          have hsp' : (W ++ [m - 1] ++ (L.drop k).take m) ++ spells L (div L (min k2 j) (min k2 j)) = enc L := by
            rw [hmin, ← hkm, ← hsp]
            simp [spell, List.append_assoc]
          obtain ⟨g, cap, hav, hgb, hgl, hgc⟩ := HOW.out.cells (by rw [HLL.out]; omega)
          injection hav with e1 e2 e3
          subst e1
          rw [HLL.out] at hgc
          have hcap : j ≤ cv := by
            rcases HOW.out.row.2 with ⟨h0, _⟩ | ⟨go, cap', cur, h0, _, _, h1, _⟩
            · cases h0
            · injection h0 with f1 f2 f3
              have := HLL.out
              omega
          clear e2 e3
          have hsl : (Instr.sliceAt 29 (.slice (some ⟨g, 0, none⟩) j cv) (some (.int .i64 (k : Int))) (some (.int .i64 (km : Int))) none).run Try.prog = fun W => .ok (.slice (some ⟨g, k, none⟩) m (cv - k)) W := by
            funext W
            have h := cut_lh W g k km j cv (by omega) (by omega) (by omega)
            rw [show km - k = m by omega] at h
            exact h
          have hw4 : IntKind.i64.wrap ((m : Int) - 1) = ((m - 1 : Nat) : Int) := by rw [IntKind.wrap_i64]; omega
          have hw5 : IntKind.u8.wrap ((m - 1 : Nat) : Int) = ((m - 1 : Nat) : Int) := by rw [IntKind.wrap_u8]; omega
          obtain ⟨m1, hm1'⟩ : ∃ m1, m - 1 = m1 := ⟨_, rfl⟩
          rw [hm1'] at hw4 hw5 hsp'
          have hNl : ((L.drop k).take m).length = m := by rw [List.length_take, List.length_drop, HLL.out]; omega
          have hN6 : ∀ x ∈ (L.drop k).take m, x < 256 := fun x hx => HL6.out x (List.mem_of_mem_drop (List.mem_of_mem_take hx))
          have hNum : Nums w3 g k m .u8 ((L.drop k).take m) := ⟨fun i hi' => by
            rw [hgc (k + i) (by omega)]
            congr 3
            rw [List.getD_eq_getElem?_getD, List.getD_eq_getElem?_getD, List.getElem?_take, if_pos hi', List.getElem?_drop], fun _ => HOW.out.lt g rfl⟩
          obtain ⟨P, hP⟩ : ∃ P, (L.drop k).take m = P := ⟨_, rfl⟩
          rw [hP] at hsp' hNl hN6 hNum
          have hgw := HOW.out.lt g rfl
          have HNUM := Lib.hid hNum
          have HNL := Lib.hid hNl
          have HSP := Lib.hid hsp'
          have HO := Lib.hid hown
          have HBB := Lib.hid hB
          have HW6 := Lib.hid hW6
          have HN6 := Lib.hid hN6
          have HM1 : Hid (m1 < 128) := Lib.hid (by omega)
          have hWl2 : W.length ≤ 260 := by omega
          have hk128 : k2 / 128 = k / 128 + 1 := by omega
          have HKK : Hid (k2 ≤ j + 127 ∧ W.length ≤ 130 * (k / 128)) := Lib.hid ⟨by omega, hWl⟩
          have HNx : Hid (Nums (wr.alloc (Obj.cells #[Value.int .u8 (m1 : Int)] 5)) wr.heap.size 0 1 .u8 [m1]) := Lib.hid (by
            have := Nums.fresh (W := wr) (t := 5) (k := .u8) [m1] 1 rfl
            exact this)
          have hbs := hB.size
          clear hm1' hP hNum hNl hsp hsp' hdr hm hown hB hgc hkm hN6 hW6 hWl hmin hk2
          go_wp2_with (refine wpList_pushN rfl _ _ 29 rfl w3.heap.size 5 i0 (.int .u8 0) 1 Try.underlying29 hi hz0 hz1 hz2 rfl (by omega) .u8 _ W rfl (HO.out.alloc _) wr.heap.size 0 1 1 [m1] rfl HNx.out rfl (by omega) (by rw [World.size_alloc]; omega) ?_)
          intro v4 w4 hown4 hB4
          have HO4 := Lib.hid hown4
          have HB4 := Lib.hid ((HBB.out.alloc hbs _).trans hB4)
          have hbs4 := HB4.out.size
          clear hown4 hB4
          go_wp2_with (refine wpList_pushN rfl _ _ 29 rfl w3.heap.size 5 i0 (.int .u8 0) 1 Try.underlying29 hi hz0 hz1 hz2 rfl (by omega) .u8 _ (W ++ [m1]) rfl HO4.out g k m (cv - k) P rfl (HNUM.out.below HB4.out (fun _ => hgw)) HNL.out (by simp; omega) hbs4 ?_)
          intro v5 w5 hown5 hB5
          go_wp2_with fail
          go_roundw
          case rel =>
            refine ⟨k2, W ++ [m1] ++ P, HKK.out.1, rfl, (by rw [List.append_assoc]; exact hown5), HSP.out, HB4.out.trans hB5, ?_, ?_⟩
            · simp only [List.length_append, List.length_cons, List.length_nil, HNL.out]
              have := HKK.out.2
              omega
            · intro x hx
              simp only [List.mem_append, List.mem_singleton] at hx
              rcases hx with (hx | rfl) | hx
              · exact HW6.out x hx
              · have := HM1.out; omega
              · exact HN6.out x hx
          case measure => simp [intOf]; omega
        · have d2 : decide ((k : Int) < (j : Int)) = false := decide_eq_false (by omega)
          rw [show min k j = j by omega, div_nil L j (by rw [HLL.out]; exact Nat.le_refl _)] at hsp
          have hWe : W = enc L := by simpa [spells] using hsp
          subst hWe
          obtain ⟨av2, cv2, rfl⟩ := own_shape hown
          have hcv2 := conv_own hown hW6
          rw [HT.out] at hcv2
          have HBB := Lib.hid hB
          clear hown hsp hB hWl hW6
          go_wp2_with fail
          go_ret
          exact ⟨rfl, below_on HB.out HBB.out hws⟩

end Go.Proofs.Ytnploljhikljfaa
