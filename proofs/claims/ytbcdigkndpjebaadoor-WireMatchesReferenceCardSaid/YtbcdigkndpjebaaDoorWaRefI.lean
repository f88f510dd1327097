/-
  The reference's Int, PutString, String and Sum.
-/
import Derived.Test.YtbcdigkndpjebaaDoorWaRef
namespace Go.Proofs.YtbcdigkndpjebaaDoor
open Go.RowKit

theorem refPutInt_bad (n : Int) (w : World) (h0 : -9223372036854775808 ≤ n) (h3 : n ≤ 9223372036854775807) (h : ¬ (-4611686018427387903 ≤ n ∧ n ≤ 4611686018427387903)) :
    Calls Tryd.prog 13 #[.int .i64 n] w fun e w' => e = .returned (.tuple #[.string (bs []), .int .i64 10]) ∧ w = w' := by
  by_cases hn : n < -4611686018427387903
  · go_enter Tryd.func13, Tryd.ntmps13
    go_wp2
    go_ret2
    exact ⟨rfl, rfl⟩
  · have h2 : 4611686018427387903 < n := by omega
    go_enter Tryd.func13, Tryd.ntmps13
    go_wp2
    go_ret2
    exact ⟨rfl, rfl⟩
theorem refPutInt_any (n : Int) (w : World) (h0 : -9223372036854775808 ≤ n) (h3 : n ≤ 9223372036854775807) :
    Calls Tryd.prog 13 #[.int .i64 n] w fun e w' => e = Ret2 (putB n) ∧ Below w.heap.size w w' := by
  by_cases h : -4611686018427387903 ≤ n ∧ n ≤ 4611686018427387903
  · rw [show putB n = (encI n, 0) from if_pos h]; exact refPutInt_ok n w h.1 h.2
  · rw [show putB n = ([], 10) from if_neg h]
    refine (refPutInt_bad n w h0 h3 h).mono ?_
    rintro e w' ⟨he, rfl⟩
    exact ⟨he, Below.refl _ _⟩

set_option maxHeartbeats 400000 in
theorem refPutString_any (s : List UInt8) (w : World) (hs : s.length ≤ 9223372036854775807) :
    Calls Tryd.prog 20 #[.string (bs s)] w fun e w' => e = Ret2 (putS s) ∧ Below w.heap.size w w' := by
  have hz : (bs s).size = s.length := bs_size s
  by_cases h : s.length ≤ 65536
  · rw [show putS s = (encI s.length ++ s, 0) from if_pos h]
    have l2 := (encI_length s.length).2
    go_enter Tryd.func20, Tryd.ntmps20
    have hz2 : (bs (encI (s.length : Int))).size = (encI (s.length : Int)).length := bs_size _
    go_wp2_with (go_at_call 13; refine (refPutInt_ok _ _ (by omega) (by omega)).mono ?_; rintro e w' ⟨rfl, hB⟩)
    go_ret2
    refine ⟨?_, hB⟩
    show Ending.returned (.tuple #[.string (bs (encI s.length) ++ bs s), .int .i64 0]) = _
    rw [bs_append]; rfl
  · rw [show putS s = ([], 10) from if_neg h]
    go_enter Tryd.func20, Tryd.ntmps20
    go_wp2
    go_ret2
    exact ⟨rfl, Below.refl _ _⟩

/-- where the reference's loop stands -/
structure RefAt (s : ByteArray) (k j a : Nat) : Prop where
  inv : M1.Inv ((bN s).drop k) j a

theorem leb_short (f a j : Nat) (hj : 1 ≤ j) (ha : a < 128 ^ j) : (M1.leb f a).length ≤ j := by
  induction f generalizing a j with
  | zero => simp [M1.leb]
  | succ f ih =>
    unfold M1.leb
    split
    · simpa using hj
    · rename_i h
      cases j with
      | zero => omega
      | succ j =>
        have h1 : a / 128 < 128 ^ j := by rw [Nat.div_lt_iff_lt_mul (by omega)]; rw [Nat.pow_succ] at ha; omega
        cases j with
        | zero => simp at h1; omega
        | succ j => simpa using ih (a / 128) (j + 1) (by omega) h1

/-- the group that ends an encoding: what the reference finds, and what Int says -/
theorem ref_end {s : ByteArray} {k j a : Nat} (h : RefAt s k j a) (hj : j < 9) (hk : k + j < s.size) (hb : s[k + j].toNat < 128) :
    ∃ Z : Nat, Z = a + 128 ^ j * (s[k + j].toNat % 128) ∧ Z < 9223372036854775808 ∧
      ((9223372036854775806 < Z ∧ intB (bN s) (k : Int) = (0, 0, 10)) ∨
       (Z ≤ 9223372036854775806 ∧ ∃ T : List UInt8, s.extract k (k + j + 1) = bs T ∧
         ((encI (un Z) = T ∧ intB (bN s) (k : Int) = (un Z, (k : Int) + j + 1, 0)) ∨ (encI (un Z) ≠ T ∧ intB (bN s) (k : Int) = (0, 0, 10))))) := by
  have hl : j < ((bN s).drop k).length := by rw [List.length_drop, bN_length]; omega
  have hget : ((bN s).drop k)[j] = s[k + j].toNat := by
    rw [List.getElem_drop]; exact bN_get s (k + j) hk _
  have hg := M1.inv_go h.inv hj hl
  have hlt : a + 128 ^ j * (s[k + j].toNat % 128) < 9223372036854775808 := by
    have h1 := h.inv.1
    have h2 : 128 ^ j * (s[k + j].toNat % 128) ≤ 128 ^ j * 127 := Nat.mul_le_mul_left _ (by omega)
    have h3 : 128 ^ (j + 1) ≤ 128 ^ 9 := Nat.pow_le_pow_right (by omega) (by omega)
    rw [Nat.pow_succ, pow128_9] at h3
    omega
  have hib : ¬ ((k : Int) < 0 ∨ ((bN s).length : Int) < k) := by rw [bN_length]; omega
  have hx : s.extract k (k + j + 1) = bs ((s.data.toList.drop k).take (j + 1)) := by
    have := bs_extract s.data.toList k (k + j + 1)
    rwa [bs_bytes, show k + j + 1 - k = j + 1 from by omega] at this
  refine ⟨_, rfl, hlt, ?_⟩
  by_cases hz : s[k + j].toNat = 0 ∧ 0 < j
  · have hd := M1.inv_zero h.inv hj hl hz.2 (by rw [hget]; exact hz.1)
    have hi : intB (bN s) (k : Int) = (0, 0, 10) := by
      unfold intB
      rw [if_neg hib, Int.toNat_natCast, if_pos]
      left; unfold numB; rw [hd]; rfl
    rw [hz.1, Nat.zero_mod, Nat.mul_zero, Nat.add_zero] at hlt ⊢
    have ha : a ≤ 9223372036854775806 := by
      have h1 := h.inv.1
      have h3 : 128 ^ j ≤ 128 ^ 8 := Nat.pow_le_pow_right (by omega) (by omega)
      have h4 : (128 : Nat) ^ 8 = 72057594037927936 := by decide
      omega
    refine .inr ⟨ha, _, hx, .inr ⟨fun e => ?_, hi⟩⟩
    have hlen := congrArg List.length e
    have hs1 := leb_short 9 a j hz.2 h.inv.1
    rw [List.length_take, List.length_drop] at hlen
    have hs2 : s.data.toList.length = s.size := rfl
    unfold encI lebU at hlen
    rw [fo_un (by omega), Int.toNat_natCast, List.length_map] at hlen
    omega
  · have hd := M1.inv_stop h.inv hj hl (by rw [hget]; exact hz) (by rw [hget]; exact hb)
    rw [hget] at hd
    rw [Nat.mod_eq_of_lt hb] at hlt ⊢
    have hn : numB ((bN s).drop k) = (a + 128 ^ j * s[k + j].toNat, j + 1) := by unfold numB; rw [hd]; rfl
    rcases Nat.lt_or_ge 9223372036854775806 (a + 128 ^ j * s[k + j].toNat) with hbig | hbig
    · refine .inl ⟨hbig, ?_⟩
      unfold intB
      rw [if_neg hib, Int.toNat_natCast, if_pos]
      right; rw [hn]; exact hbig
    · refine .inr ⟨hbig, _, hx, .inl ⟨?_, ?_⟩⟩
      · have hbl : ∀ b ∈ (bN s).drop k, b < 256 := fun b hb => bN_lt s b (List.mem_of_mem_drop hb)
        obtain ⟨e1, -⟩ := M1.leb_dec true 9 _ _ _ hbl hd
        unfold encI lebU
        rw [fo_un (by omega), Int.toNat_natCast, e1]
        unfold bN
        rw [← List.map_drop, ← List.map_take, List.map_map]
        conv => rhs; rw [← List.map_id ((s.data.toList.drop k).take (j + 1))]
        apply List.map_congr_left
        intro b _
        simp
      · unfold intB
        rw [if_neg hib, Int.toNat_natCast, if_neg (by rw [hn]; simp only; omega), hn]
        simp only
        congr 2
theorem ref_go {s : ByteArray} {k j a : Nat} (h : RefAt s k j a) (hj : j < 9) (hk : k + j < s.size) (hb : 128 ≤ s[k + j].toNat) : RefAt s k (j + 1) (a + 128 ^ j * (s[k + j].toNat % 128)) := by
  have hl : j < ((bN s).drop k).length := by rw [List.length_drop, bN_length]; omega
  have hget : ((bN s).drop k)[j] = s[k + j].toNat := by
    rw [List.getElem_drop]; exact bN_get s (k + j) hk _
  have hg := M1.inv_go h.inv hj hl (by rw [hget]; exact hb) (by rw [hget]; exact s[k + j].toNat_lt)
  rw [hget] at hg
  exact ⟨hg⟩
theorem ref_over {s : ByteArray} {k j a : Nat} (h : RefAt s k j a) (hj : j ≤ 9) (hk : k + j ≤ s.size) (hc : ¬ (j < 9 ∧ k + j < s.size)) : intB (bN s) (k : Int) = (0, 0, 10) := by
  have hl : ((bN s).drop k).length = s.size - k := by rw [List.length_drop, bN_length]
  have hd := M1.inv_end h.inv hj (by omega) (by omega)
  unfold intB
  rw [if_neg (by rw [bN_length]; omega), Int.toNat_natCast, if_pos]
  left; unfold numB; rw [hd]; rfl
theorem add_val (a j b : Nat) (hj : j < 9) (ha : a < 128 ^ j) (hb : b < 256) :
    IntKind.u64.wrap ((a : Int) + IntKind.u64.wrap ((b : Int) % 128 * 2 ^ (7 * j))) = ((a + 128 ^ j * (b % 128) : Nat) : Int) := by
  have h2 : 128 ^ j * (b % 128) ≤ 128 ^ j * 127 := Nat.mul_le_mul_left _ (by omega)
  have h3 : 128 ^ (j + 1) ≤ 128 ^ 9 := Nat.pow_le_pow_right (by omega) (by omega)
  rw [Nat.pow_succ, pow128_9] at h3
  have e : ((b : Int) % 128 * 2 ^ (7 * j)) = ((128 ^ j * (b % 128) : Nat) : Int) := by
    rw [M1.pow128, Int.mul_comm]; simp
  have h4 : IntKind.u64.wrap (((128 ^ j * (b % 128) : Nat) : Int)) = ((128 ^ j * (b % 128) : Nat) : Int) := by
    rw [IntKind.wrap_u64, Int.emod_eq_of_lt (by omega) (by omega)]
  rw [e, h4, IntKind.wrap_u64, Int.emod_eq_of_lt (by omega) (by omega)]
  omega

set_option maxRecDepth 100000 in
set_option maxHeartbeats 1000000 in
theorem refInt_any (s : ByteArray) (at_ : Int) (w : World) (hs : s.size ≤ 1000) (h1 : -9223372036854775808 ≤ at_) (h2 : at_ ≤ 9223372036854775807) :
    Calls Tryd.prog 16 #[.string s, .int .i64 at_] w fun e w' => e = Ret3 (intB (bN s) at_) ∧ Below w.heap.size w w' := by
  by_cases ha : at_ < 0
  · have e : intB (bN s) at_ = (0, 0, 2) := by unfold intB; rw [if_pos (.inl ha)]
    rw [e]; clear e
    go_enter Tryd.func16, Tryd.ntmps16
    go_wp2
    go_ret3
    exact ⟨rfl, Below.refl _ _⟩
  by_cases hb : (s.size : Int) < at_
  · have e : intB (bN s) at_ = (0, 0, 2) := by unfold intB; rw [if_pos (.inr (by rw [bN_length]; exact hb))]
    rw [e]; clear e
    go_enter Tryd.func16, Tryd.ntmps16
    go_wp2
    go_ret3
    exact ⟨rfl, Below.refl _ _⟩
  obtain ⟨k, rfl⟩ := Int.eq_ofNat_of_zero_le (show 0 ≤ at_ by omega)
  have hks : k ≤ s.size := by omega
  clear ha hb h1 h2
  have g1 : decide ((k : Int) < 0) = false := decide_eq_false (by omega)
  have g2 : decide ((s.size : Int) < (k : Int)) = false := decide_eq_false (by omega)
  have g3 : decide (s.size < k) = false := decide_eq_false (by omega)
  go_enter Tryd.func16, Tryd.ntmps16
  go_wp2_with fail
  go_loop [7, 8] (fun z i => ∃ j a : Nat, j ≤ 9 ∧ k + j ≤ s.size ∧ i = .int .i64 j ∧ z = .int .u64 a ∧ RefAt s k j a) (fun _ i => 9 - (intOf i).toNat)
  case atStart => exact ⟨0, 0, by omega, by omega, rfl, rfl, ⟨M1.inv_start _⟩⟩
  case round =>
    obtain ⟨j, a, hj, hkj, rfl, rfl, hI⟩ := hrel
    by_cases hc : j < 9 ∧ k + j < s.size
    · obtain ⟨hc1, hc2⟩ := hc
      have hb0 : s[k + j].toNat < 256 := s[k + j].toNat_lt
      have hv := add_val a j s[k + j].toNat hc1 hI.inv.1 hb0
      rcases Nat.lt_or_ge s[k + j].toNat 128 with hlo | hhi
      · obtain ⟨Z, hZ, hZb, hcase⟩ := ref_end hI hc1 hc2 hlo
        rw [← hZ] at hv
        clear hZ
        rcases hcase with ⟨hbig, hi⟩ | ⟨hok, T, hx, hcase⟩
        · have Hi := Lib.hid hi
          clear hi
          have hp' : ((Z : Int) % 2 == 1) = true := beq_iff_eq.2 (by omega)
          go_wp2_with (go_at_call 13; refine (refPutInt_bad _ _ (by omega) (by omega) (by omega)).mono ?_; rintro e w' ⟨rfl, rfl⟩)
          go_ret3
          exact ⟨by rw [Hi.out]; rfl, Below.refl _ _⟩
        · have hun1 : -4611686018427387903 ≤ un Z := by unfold un; split <;> omega
          have hun2 : un Z ≤ 4611686018427387903 := by unfold un; split <;> omega
          rcases hcase with ⟨he, hi⟩ | ⟨he, hi⟩
          · have Hi := Lib.hid hi
            have He := Lib.hid he
            clear hi he
            have q1 : ((bs T).toList == (bs T).toList) = true := beq_self_eq_true _
            by_cases hp : Z % 2 = 1
            · have hp' : ((Z : Int) % 2 == 1) = true := beq_iff_eq.2 (by omega)
              have Hu := Lib.hid (show -((Z : Int) / 2) - 1 = un Z by unfold un; rw [if_pos (by omega)])
              clear hp
              go_wp2_with (go_at_call 13; rw [Hu.out]; refine (refPutInt_ok _ _ hun1 hun2).mono ?_; rintro e w' ⟨rfl, hB⟩; rw [He.out])
              go_ret3
              exact ⟨by rw [Hi.out]; rfl, hB⟩
            · have hp' : ((Z : Int) % 2 == 1) = false := beq_eq_false_iff_ne.2 (by omega)
              have Hu := Lib.hid (show (Z : Int) / 2 = un Z by unfold un; rw [if_neg (by omega)])
              clear hp
              go_wp2_with (go_at_call 13; rw [Hu.out]; refine (refPutInt_ok _ _ hun1 hun2).mono ?_; rintro e w' ⟨rfl, hB⟩; rw [He.out])
              go_ret3
              exact ⟨by rw [Hi.out]; rfl, hB⟩
          · have Hi := Lib.hid hi
            obtain ⟨E, hE⟩ : ∃ E, encI (un Z) = E := ⟨_, rfl⟩
            rw [hE] at he
            have He := Lib.hid hE
            have q1 : ((bs E).toList == (bs T).toList) = false := beq_eq_false_iff_ne.2 (by rw [bs_toList, bs_toList]; exact he)
            clear hi he hE
            by_cases hp : Z % 2 = 1
            · have hp' : ((Z : Int) % 2 == 1) = true := beq_iff_eq.2 (by omega)
              have Hu := Lib.hid (show -((Z : Int) / 2) - 1 = un Z by unfold un; rw [if_pos (by omega)])
              clear hp
              go_wp2_with (go_at_call 13; rw [Hu.out]; refine (refPutInt_ok _ _ hun1 hun2).mono ?_; rintro e w' ⟨rfl, hB⟩; rw [He.out])
              go_ret3
              exact ⟨by rw [Hi.out]; rfl, hB⟩
            · have hp' : ((Z : Int) % 2 == 1) = false := beq_eq_false_iff_ne.2 (by omega)
              have Hu := Lib.hid (show (Z : Int) / 2 = un Z by unfold un; rw [if_neg (by omega)])
              clear hp
              go_wp2_with (go_at_call 13; rw [Hu.out]; refine (refPutInt_ok _ _ hun1 hun2).mono ?_; rintro e w' ⟨rfl, hB⟩; rw [He.out])
              go_ret3
              exact ⟨by rw [Hi.out]; rfl, hB⟩
      · go_wp2_with fail
        go_round
        case rel => exact ⟨j + 1, _, by omega, by omega, by go_num, by go_num, ref_go hI hc1 hc2 hhi⟩
        case measure => simp [intOf]; omega
    · have Hi := Lib.hid (ref_over hI hj hkj hc)
      go_wp2_with fail
      all_goals
        go_ret3
        exact ⟨by rw [Hi.out]; rfl, Below.refl _ _⟩

theorem refInt_is (l : List UInt8) (at_ n next e : Int) (h : intB (nb l) at_ = (n, next, e)) (w : World) (hs : l.length ≤ 1000) (h1 : -9223372036854775808 ≤ at_) (h2 : at_ ≤ 9223372036854775807) :
    Calls Tryd.prog 16 #[.string (bs l), .int .i64 at_] w fun x w' => x = .returned (.tuple #[.int .i64 n, .int .i64 next, .int .i64 e]) ∧ Below w.heap.size w w' := by
  have := refInt_any (bs l) at_ w (by rw [bs_size]; exact hs) h1 h2
  rw [bN_bs, h] at this
  exact this

set_option maxRecDepth 100000 in
set_option maxHeartbeats 400000 in
theorem refString_any (l : List UInt8) (at_ : Int) (w : World) (hs : l.length ≤ 1000) (h1 : -9223372036854775808 ≤ at_) (h2 : at_ ≤ 9223372036854775807) :
    Calls Tryd.prog 18 #[.string (bs l), .int .i64 at_] w fun e w' => e = RetS (strB l at_) ∧ Below w.heap.size w w' := by
  have hz : (bs l).size = l.length := bs_size l
  obtain ⟨n, next, e, hi⟩ : ∃ n next e, intB (nb l) at_ = (n, next, e) := ⟨_, _, _, rfl⟩
  have hbd := intB_bd l at_
  have her := intB_err l at_
  have hst : strB l at_ = if e ≠ 0 then ([], 0, e) else if n < 0 ∨ 65536 < n ∨ (l.length : Int) - next < n then ([], 0, 10) else ((l.drop next.toNat).take n.toNat, next + n, 0) := by
    unfold strB; rw [hi]
  rw [hi] at hbd her
  simp only at hbd her
  have Hi := Lib.hid hi
  clear hi
  by_cases he : e = 0
  · subst he
    obtain ⟨b1, b2, b3, b4, b5⟩ := hbd rfl
    clear hbd her
    rw [if_neg (by omega)] at hst
    obtain ⟨nx, rfl⟩ := Int.eq_ofNat_of_zero_le (show 0 ≤ next by omega)
    by_cases c1 : n < 0
    · rw [if_pos (.inl c1)] at hst
      rw [hst]; clear hst
      go_enter Tryd.func18, Tryd.ntmps18
      go_wp2_with (go_at_call 16; refine (refInt_is _ _ _ _ _ Hi.out _ hs (by omega) (by omega)).mono ?_; rintro e w' ⟨rfl, hB⟩)
      go_ret3
      exact ⟨rfl, hB⟩
    · by_cases c2 : 65536 < n
      · rw [if_pos (.inr (.inl c2))] at hst
        rw [hst]; clear hst
        go_enter Tryd.func18, Tryd.ntmps18
        go_wp2_with (go_at_call 16; refine (refInt_is _ _ _ _ _ Hi.out _ hs (by omega) (by omega)).mono ?_; rintro e w' ⟨rfl, hB⟩)
        go_ret3
        exact ⟨rfl, hB⟩
      · by_cases c3 : (l.length : Int) - nx < n
        · rw [if_pos (.inr (.inr c3))] at hst
          rw [hst]; clear hst
          go_enter Tryd.func18, Tryd.ntmps18
          go_wp2_with (go_at_call 16; refine (refInt_is _ _ _ _ _ Hi.out _ hs (by omega) (by omega)).mono ?_; rintro e w' ⟨rfl, hB⟩)
          go_ret3
          exact ⟨rfl, hB⟩
        · rw [if_neg (by omega)] at hst
          rw [hst]; clear hst
          obtain ⟨k, rfl⟩ := Int.eq_ofNat_of_zero_le (show 0 ≤ n by omega)
          go_enter Tryd.func18, Tryd.ntmps18
          go_wp2_with (go_at_call 16; refine (refInt_is _ _ _ _ _ Hi.out _ hs (by omega) (by omega)).mono ?_; rintro e w' ⟨rfl, hB⟩)
          go_ret3
          refine ⟨?_, hB⟩
          show Ending.returned (.tuple #[.string ((bs l).extract nx (nx + k)), .int .i64 ((nx : Int) + k), .int .i64 0]) = Ending.returned (.tuple #[.string (bs ((l.drop nx).take k)), .int .i64 ((nx : Int) + k), .int .i64 0])
          rw [bs_extract, show nx + k - nx = k from by omega]
  · obtain ⟨r1, r2, r3⟩ := her he
    clear hbd her
    rw [if_pos he] at hst
    rw [hst]; clear hst
    have he' : (e != 0) = true := by rw [bne_iff_ne]; exact he
    clear he
    go_enter Tryd.func18, Tryd.ntmps18
    go_wp2_with (go_at_call 16; refine (refInt_is _ _ _ _ _ Hi.out _ hs (by omega) (by omega)).mono ?_; rintro e w' ⟨rfl, hB⟩)
    go_ret3
    exact ⟨rfl, hB⟩

/-- the register within a byte: m bits are done -/
structure BitAt (V m y : Nat) : Prop where
  eq : Crc.bitk (8 - m) y = V
  lt : y < 4294967296
theorem bit1_lt {y : Nat} (h : y < 4294967296) : Crc.bit1 y < 4294967296 := by
  unfold Crc.bit1
  refine Crc.xor_lt32 (by omega) ?_
  split
  · unfold Crc.P; omega
  · omega
theorem bitAt_start {c b : Nat} (h : c ^^^ b < 4294967296) : BitAt (Crc.bstep c b) 0 (c ^^^ b) := ⟨(Crc.bstep_bits c b).symm, h⟩
theorem bitAt_next {V m y : Nat} (h : BitAt V m y) (hm : m < 8) : BitAt V (m + 1) (Crc.bit1 y) := by
  refine ⟨?_, bit1_lt h.lt⟩
  rw [← h.eq, show 8 - m = (8 - (m + 1)) + 1 from by omega]
  rfl
theorem bitAt_end {V m y : Nat} (h : BitAt V m y) (hm : ¬ m < 8) : y = V := by
  rw [← h.eq, show 8 - m = 0 from by omega]; rfl

set_option maxRecDepth 100000 in
set_option maxHeartbeats 400000 in
theorem refSum_bytes (s : ByteArray) (l : List UInt8) (hsl : s.data.toList = l) (w : World) (hs : l.length ≤ maxLen) :
    Calls Tryd.prog 22 #[.string s] w fun e w' => e = .returned (.int .i64 (Crc.sum (nb l))) ∧ w = w' := by
  have hm := hs
  unfold maxLen at hm
  have hz : s.size = l.length := by rw [← hsl]; rfl
  have Hsl := Lib.hid hsl
  clear hsl
  go_enter Tryd.func22, Tryd.ntmps22
  go_wp2
  go_loop [3, 4] (fun r i => ∃ (k c : Nat), k ≤ l.length ∧ i = .int .i64 k ∧ r = .int .u32 c ∧ SumAt l k c) (fun _ i => l.length - (intOf i).toNat)
  case atStart => exact ⟨0, 4294967295, by omega, rfl, rfl, sumAt_start l⟩
  case round =>
    obtain ⟨k, c, hk, rfl, rfl, hc⟩ := hrel
    have hcl := hc.lt
    rcases Nat.lt_or_ge k l.length with hlt | hlt
    · have hb0 : s[k].toNat < 256 := s[k].toNat_lt
      obtain ⟨x1, e1⟩ : ∃ x1, x1 = c ^^^ s[k].toNat := ⟨_, rfl⟩
      have l1 : x1 < 4294967296 := by rw [e1]; exact Crc.xor_lt32 hcl (by omega)
      have q1 : bits .xor .u32 (c : Int) (s[k].toNat : Int) = x1 := by
        rw [xor_u32 c _ hcl (by omega), ← e1]
      obtain ⟨V, hV⟩ : ∃ V, V = Crc.bstep c s[k].toNat := ⟨_, rfl⟩
      have hst : BitAt V 0 x1 := by rw [e1, hV]; exact bitAt_start (by rw [← e1]; exact l1)
      have HV := Lib.hid hV
      clear e1 hV
      go_wp2
      go_loop [3, 5] (fun r i => ∃ (m y : Nat), m ≤ 8 ∧ i = .int .i64 m ∧ r = .int .u32 y ∧ BitAt V m y) (fun _ i => 8 - (intOf i).toNat)
      case atStart => exact ⟨0, x1, by omega, rfl, rfl, hst⟩
      case round =>
        obtain ⟨m, y, hm8, rfl, rfl, hy⟩ := hrel
        have hyl := hy.lt
        rcases Nat.lt_or_ge m 8 with hm1 | hm1
        · obtain ⟨z, hz1⟩ : ∃ z, z = Crc.bit1 y := ⟨_, rfl⟩
          have hn := bitAt_next hy hm1
          rw [← hz1] at hn
          by_cases hp : y % 2 = 1
          · have q2 : bits .xor .u32 ((y : Int) / 2) 2197175160 = z := (xor_u32 (y / 2) 2197175160 (by omega) (by omega)).trans (by rw [hz1]; unfold Crc.bit1; rw [if_pos hp]; rfl)
            clear hz1
            go_wp2
            go_round
            case rel => exact ⟨m + 1, z, by omega, by go_num, rfl, hn⟩
            case measure => simp [intOf]; omega
          · have hz2 : z = y / 2 := by rw [hz1]; unfold Crc.bit1; rw [if_neg hp, Nat.xor_zero]
            clear hz1
            go_wp2
            go_round
            case rel => exact ⟨m + 1, z, by omega, by go_num, by rw [hz2]; go_num, hn⟩
            case measure => simp [intOf]; omega
        · have hyV := bitAt_end hy (by omega)
          go_wp2
          go_round
          case rel => exact ⟨k + 1, y, by omega, by go_num, rfl, by rw [hyV, HV.out]; exact sumAt_next hc hlt (by have := Hsl.out; subst this; rfl)⟩
          case measure => simp [intOf]; omega
    · go_wp2
      go_ret
      exact ⟨sumAt_end hc (by omega) hk (not_u32 c hcl), rfl⟩

theorem refSum_any (l : List UInt8) (w : World) (hs : l.length ≤ maxLen) :
    Calls Tryd.prog 22 #[.string (bs l)] w fun e w' => e = .returned (.int .i64 (Crc.sum (nb l))) ∧ w = w' :=
  refSum_bytes (bs l) l rfl w hs

end Go.Proofs.YtbcdigkndpjebaaDoor
