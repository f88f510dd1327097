/-
  IntegerLimits: for every string and every two ints, and in every memory in which the table of the decimal powers holds its numbers, the law returns true.
-/
import Derived.Test.YtieaelipgieaoaaDoorJnn
namespace Go.Proofs.YtieaelipgieaoaaDoor
open Go.RowKit Bs Ig

theorem nn_numN (k : Nat) : num (nn k) = 10 ^ k - 1 := by have := nn_num k; omega
theorem nn_itoaN (k : Nat) (hk : 0 < k) : Lib.itoa ((10 ^ k - 1 : Nat) : Int) = nn k := by
  obtain ⟨j, rfl⟩ : ∃ j, k = j + 1 := ⟨k - 1, by omega⟩
  exact lit_pos _ _ (nn_numN _) (nn_dig _) (show 49 ≤ (57 : UInt8).toNat by decide)
theorem nn_negN (k : Nat) (hk : 0 < k) : Lib.itoa (-((10 ^ k - 1 : Nat) : Int)) = 45 :: nn k := by
  obtain ⟨j, rfl⟩ : ∃ j, k = j + 1 := ⟨k - 1, by omega⟩
  exact lit_neg _ _ (nn_numN _) (nn_dig _) (show 49 ≤ (57 : UInt8).toNat by decide)
theorem nn_twoN (k : Nat) : Lib.itoa ((2 * 10 ^ k - 1 : Nat) : Int) = 49 :: nn k := by
  refine lit_pos _ _ ?_ (fun c hc => ?_) (show 49 ≤ (49 : UInt8).toNat by decide)
  · rw [num_cons, nn_length, nn_numN, show (49 : UInt8).toNat - 48 = 1 from rfl]
    have : 0 < 10 ^ k := Nat.pow_pos (by omega)
    omega
  · rcases List.mem_cons.1 hc with rfl | hc
    · decide
    · exact nn_dig k c hc
theorem prod_len (m n : Nat) : 10 ^ (m + n) ≤ 10 ^ m * (2 * 10 ^ n - 1) ∧ 10 ^ m * (2 * 10 ^ n - 1) < 10 ^ (m + n + 1) := by
  have h1 : 0 < 10 ^ m := Nat.pow_pos (by omega)
  have h2 : 0 < 10 ^ n := Nat.pow_pos (by omega)
  rw [Nat.pow_succ, Nat.pow_add, Nat.mul_assoc]
  exact ⟨Nat.mul_le_mul_left _ (by omega), Nat.mul_lt_mul_of_pos_left (by omega) h1⟩
theorem dec_len_eq {Z k : Nat} (h1 : 10 ^ k ≤ Z) (h2 : Z < 10 ^ (k + 1)) : (Lib.decDigits Z).length = k + 1 := by
  have h3 := (dec_length_le Z (k + 1) (by omega)).2 h2
  have h4 : ¬ (Lib.decDigits Z).length ≤ k := fun h => by
    rcases Nat.eq_zero_or_pos k with h0 | h0
    · have := dec_pos Z; omega
    · have := (dec_length_le Z k h0).1 h; omega
  omega
theorem opmT : ∃ T : Int → ByteArray, (∀ n, bs (Lib.itoa n) = T n) ∧ Opm T := by
  obtain ⟨T, hT, HO⟩ := ops
  refine ⟨T, hT, HO, fun s hs most M hM hmo W => (Made_any s hs most M hM hmo W).mono ?_⟩
  rintro e w' ⟨z, h1, rfl, hb⟩
  exact ⟨z, h1, by rw [hT], hb⟩
theorem big5 : 100000 * 100000 ≤ big := by decide +kernel
theorem over_add (x y : Int) (hx : x.natAbs < big) (hy : y.natAbs < big) (hz : big ≤ (x + y).natAbs) (W : World) (hW : TabP W) :
    Calls Tryd.prog 14 #[.string (bs (Lib.itoa x)), .string (bs (Lib.itoa y))] W fun e w' => e = .returned (.tuple #[.string ⟨#[]⟩, .int .i64 30]) ∧ Below W.heap.size W w' := by
  have h5 := big5
  have h := Add_any x y hx hy (by
    have := Int.natAbs_add_le x y
    have h2 : 2 * big ≤ big * big := Nat.mul_le_mul_right _ (by omega)
    omega) W hW
  unfold txt err at h
  rw [if_neg (by omega), if_neg (by omega)] at h
  exact h
theorem over_sub (x y : Int) (hx : x.natAbs < big) (hy : y.natAbs < big) (hz : big ≤ (x - y).natAbs) (W : World) (hW : TabP W) :
    Calls Tryd.prog 15 #[.string (bs (Lib.itoa x)), .string (bs (Lib.itoa y))] W fun e w' => e = .returned (.tuple #[.string ⟨#[]⟩, .int .i64 30]) ∧ Below W.heap.size W w' := by
  have h5 := big5
  have h := Sub_any x y hx hy (by
    have := Int.natAbs_sub_le x y
    have h2 : 2 * big ≤ big * big := Nat.mul_le_mul_right _ (by omega)
    omega) W hW
  unfold txt err at h
  rw [if_neg (by omega), if_neg (by omega)] at h
  exact h
theorem over_mul (x y : Int) (hx : x.natAbs < big) (hy : y.natAbs < big) (hz : big ≤ (x * y).natAbs) (W : World) (hW : TabP W) :
    Calls Tryd.prog 16 #[.string (bs (Lib.itoa x)), .string (bs (Lib.itoa y))] W fun e w' => e = .returned (.tuple #[.string ⟨#[]⟩, .int .i64 30]) ∧ Below W.heap.size W w' := by
  have h := Mul_any x y hx hy (by rw [Int.natAbs_mul]; exact Nat.mul_lt_mul'' hx hy) W hW
  unfold txt err at h
  rw [if_neg (by omega), if_neg (by omega)] at h
  exact h

set_option maxRecDepth 100000 in
set_option maxHeartbeats 8000000 in
theorem IntegerLimits_any (a : ByteArray) (ha : a.size ≤ 9223372036854775807) (cm cn : Int) (hm0 : -9223372036854775808 ≤ cm) (hm1 : cm ≤ 9223372036854775807) (hn0 : -9223372036854775808 ≤ cn) (hn1 : cn ≤ 9223372036854775807) (w : World) (ht : TabP w) :
    Calls Tryd.prog 10 #[.string a, .int .i64 cm, .int .i64 cn] w fun e w' => e = .returned (.bool true) ∧ Below w.heap.size w w' := by
  obtain ⟨T, hT, HO⟩ := opmT
  have HN := Lib.hid (Now.start ht)
  have Ma := Lib.hid (HO.made a ha 5 5 rfl (by omega))
  obtain ⟨M, hM⟩ : ∃ M, bs (nn 200) = M := ⟨_, rfl⟩
  have hMs : M.size = 200 := by rw [← hM, bs_size, nn_length]
  have HMs := Lib.hid hMs
  have n2 := fun W => nines_any 200 (by omega) 200 rfl W
  rw [hM] at n2
  have N2 := Lib.hid n2
  have K1 := Lib.hid (fun W => pick_any cm hm0 hm1 W)
  have K2 := Lib.hid (fun W => pick_any cn hn0 hn1 W)
  have H := Lib.hid HO
  have HTT := Lib.hid hT
  have HM := Lib.hid hM
  clear HO ha ht hM n2 hT hMs
  go_enter Tryd.func10, Tryd.ntmps10
  go_wp2_with (first
      | (go_at_call 11; (with_reducible refine (sane_any _ HN.out.tab).mono ?_); rintro e ww ⟨rfl, hB⟩; have HN := Lib.hid (HN.out.step hB); clear hB)
      | (go_at_call 20; (with_reducible refine (Ma.out _).mono ?_); rintro e ww ⟨x, hx, rfl, hB⟩; have HN := Lib.hid (HN.out.step hB); clear hB)
      | (go_at_call 23; (with_reducible refine (N2.out _).mono ?_); rintro e ww ⟨rfl, rfl⟩))
  have HO := H.out.ops
  have hT := HTT.out
  have h5 := big5
  have hx5 : x.natAbs < 100000 := hx
  have hMs := HMs.out
  have hnl1 : ¬ 9223372036854775807 < 1 + 200 := by omega
  have hB1 : ((big - 1 : Nat) : Int).natAbs < big := by rw [Int.natAbs_natCast]; omega
  have hMB : T ((big - 1 : Nat) : Int) = M := by rw [← hT, show Lib.itoa ((big - 1 : Nat) : Int) = nn 200 from nn_itoaN 200 (by omega)]; exact HM.out
  have hMN : T (-((big - 1 : Nat) : Int)) = ⟨#[45]⟩ ++ M := by
    rw [← hT, show Lib.itoa (-((big - 1 : Nat) : Int)) = 45 :: nn 200 from nn_negN 200 (by omega), ← HM.out]
    exact (bs_append [45] (nn 200)).symm
  have v1 := HO.valid (-((big - 1 : Nat) : Int)) (by rw [Int.natAbs_neg]; exact hB1)
  rw [hMN] at v1
  have V1 := Lib.hid v1
  have v2 : ∀ W, Calls Tryd.prog 19 #[.string (M ++ ⟨#[57]⟩)] W fun e w' => e = .returned (.bool false) ∧ w' = W := fun W => by
    have h := Valid_no (nn 201) (nn_no 201 (by omega)) W
    rw [← nn_snoc 200, ← bs_append, HM.out] at h
    exact h
  have V2 := Lib.hid v2
  have c1 := HO.cmp x 0 _ (lt_big hx (by omega)) zero_big rfl
  rw [HO.zero] at c1
  have C1 := Lib.hid c1
  have hAS : ∃ (E F : ByteArray) (er : Int) (gr : Bool), (∀ W, TabP W → Calls Tryd.prog 14 #[.string M, .string (T x)] W fun e w' => e = .returned (.tuple #[.string E, .int .i64 er]) ∧ Below W.heap.size W w') ∧
      (∀ W, TabP W → Calls Tryd.prog 15 #[.string (⟨#[45]⟩ ++ M), .string (T x)] W fun e w' => e = .returned (.tuple #[.string F, .int .i64 er]) ∧ Below W.heap.size W w') ∧ decide (0 < cmpZ x 0) = gr ∧ (gr = false ∧ er = 0 ∨ gr = true ∧ er = 30 ∧ E = ⟨#[]⟩ ∧ F = ⟨#[]⟩) := by
    rcases Int.lt_or_le 0 x with h | h
    · refine ⟨⟨#[]⟩, ⟨#[]⟩, 30, true, fun W hW => ?_, fun W hW => ?_, ?_, .inr ⟨rfl, rfl, rfl, rfl⟩⟩
      · have h := over_add ((big - 1 : Nat) : Int) x hB1 (lt_big hx (by omega)) (by omega) W hW
        rw [hT, hT, hMB] at h
        exact h
      · have h := over_sub (-((big - 1 : Nat) : Int)) x (by rw [Int.natAbs_neg]; exact hB1) (lt_big hx (by omega)) (by omega) W hW
        rw [hT, hT, hMN] at h
        exact h
      · unfold cmpZ; rw [if_neg (by omega), if_pos h]; rfl
    · refine ⟨T (((big - 1 : Nat) : Int) + x), T (-((big - 1 : Nat) : Int) - x), 0, false, fun W hW => ?_, fun W hW => ?_, ?_, .inl ⟨rfl, rfl⟩⟩
      · have h := HO.add ((big - 1 : Nat) : Int) x _ hB1 (lt_big hx (by omega)) rfl (by omega) W hW
        rw [hMB] at h
        exact h
      · have h := HO.sub (-((big - 1 : Nat) : Int)) x _ (by rw [Int.natAbs_neg]; exact hB1) (lt_big hx (by omega)) rfl (by omega) W hW
        rw [hMN] at h
        exact h
      · unfold cmpZ
        by_cases h' : x < 0
        · rw [if_pos h']; rfl
        · rw [if_neg h', if_neg (by omega)]; rfl
  obtain ⟨E, F, er, gr, a1, s1, hgr, hgc⟩ := hAS
  have A1 := Lib.hid a1
  have S1 := Lib.hid s1
  generalize cmpZ x 0 = v at *
  generalize T x = X at *
  have Hgc := Lib.hid hgc
  clear hx hx5 hB1 hMB hMN v1 v2 c1 a1 s1 hgc h5
  go_wp2_with (first
      | (go_at_call 14; (with_reducible refine (A1.out _ HN.out.tab).mono ?_); rintro e ww ⟨rfl, hB⟩; have HN := Lib.hid (HN.out.step hB); clear hB)
      | (go_at_call 15; (with_reducible refine (S1.out _ HN.out.tab).mono ?_); rintro e ww ⟨rfl, hB⟩; have HN := Lib.hid (HN.out.step hB); clear hB)
      | (go_at_call 24; (with_reducible refine (K1.out _).mono ?_); rintro e ww ⟨m, hm, rfl, rfl⟩)
      | (go_at_call 24; (with_reducible refine (K2.out _).mono ?_); rintro e ww ⟨n, hn, rfl, rfl⟩))
  obtain ⟨Sm, hSm⟩ : ∃ Sm, bs (nn m) = Sm := ⟨_, rfl⟩
  obtain ⟨Sn, hSn⟩ : ∃ Sn, bs (nn n) = Sn := ⟨_, rfl⟩
  have hsn : Sn.size = n := by rw [← hSn, bs_size, nn_length]
  have hnl2 : ¬ 9223372036854775807 < 1 + n := by omega
  have nm := fun W => nines_any m (by omega) (m : Int) rfl W
  have n3 := fun W => nines_any n (by omega) (n : Int) rfl W
  rw [hSm] at nm
  rw [hSn] at n3
  have Nm := Lib.hid nm
  have Nn := Lib.hid n3
  have hp1 : ((10 ^ m : Nat) : Int).natAbs < big := by rw [Int.natAbs_natCast]; exact Nat.pow_lt_pow_right (by omega) hm
  have hp2 : ((2 * 10 ^ n - 1 : Nat) : Int).natAbs < big := by
    rw [Int.natAbs_natCast]
    have h := Nat.pow_le_pow_right (n := 10) (by omega) (show n + 1 ≤ 200 by omega)
    rw [Nat.pow_succ] at h
    have h' : 0 < 10 ^ n := Nat.pow_pos (by omega)
    show 2 * 10 ^ n - 1 < 10 ^ 200
    omega
  have hT2 : T ((2 * 10 ^ n - 1 : Nat) : Int) = ⟨#[49]⟩ ++ Sn := by
    rw [← hT, nn_twoN, ← hSn]
    exact (bs_append [49] (nn n)).symm
  obtain ⟨P1, hP1⟩ : ∃ P1, T ((10 ^ m : Nat) : Int) = P1 := ⟨_, rfl⟩
  have hpl := prod_len m n
  have hpe : ((10 ^ m : Nat) : Int) * ((2 * 10 ^ n - 1 : Nat) : Int) = ((10 ^ m * (2 * 10 ^ n - 1) : Nat) : Int) := (Int.natCast_mul ..).symm
  have hMul : ∃ (P : ByteArray) (L : Nat) (eh : Int) (sm : Bool), (∀ W, TabP W → Calls Tryd.prog 16 #[.string P1, .string (⟨#[49]⟩ ++ Sn)] W fun e w' => e = .returned (.tuple #[.string P, .int .i64 eh]) ∧ Below W.heap.size W w') ∧ P.size = L ∧
      decide ((m : Int) + (n : Int) < 200) = sm ∧ decide (m + n < 200) = sm ∧ (sm = true ∧ eh = 0 ∧ L = m + n + 1 ∨ sm = false ∧ eh = 30 ∧ P = ⟨#[]⟩) := by
    rcases Nat.lt_or_ge (m + n) 200 with h | h
    · refine ⟨T ((10 ^ m * (2 * 10 ^ n - 1) : Nat) : Int), m + n + 1, 0, true, fun W hW => ?_, ?_, decide_eq_true (by omega), decide_eq_true h, .inl ⟨rfl, rfl, rfl⟩⟩
      · have hh := HO.mul _ _ _ hp1 hp2 hpe (by rw [Int.natAbs_natCast]; exact Nat.lt_of_lt_of_le hpl.2 (Nat.pow_le_pow_right (by omega) (by omega))) W hW
        rw [hP1, hT2] at hh
        exact hh
      · rw [← hT, bs_size, itoa_nat, dec_len_eq hpl.1 hpl.2]
    · refine ⟨⟨#[]⟩, 0, 30, false, fun W hW => ?_, rfl, decide_eq_false (by omega), decide_eq_false (by omega), .inr ⟨rfl, rfl, rfl⟩⟩
      have hh := over_mul _ _ hp1 hp2 (by rw [hpe, Int.natAbs_natCast]; exact Nat.le_trans (Nat.pow_le_pow_right (by omega) h) hpl.1) W hW
      rw [hT, hT, hP1, hT2] at hh
      exact hh
  obtain ⟨P, L, eh, sm, m1, hPL, hd1, hd2, hcs⟩ := hMul
  have M1 := Lib.hid m1
  have hm0 : (((m : Int) == 0) = true ∧ (m == 0) = true ∧ (∀ W, Calls Tryd.prog 14 #[.string Sm, .string ⟨#[49]⟩] W fun e w' => e = .returned (.tuple #[.string ⟨#[]⟩, .int .i64 30]) ∧ Below W.heap.size W w') ∧ (∀ W, TabP W → Calls Tryd.prog 14 #[.string ⟨#[48]⟩, .string ⟨#[49]⟩] W fun e w' => e = .returned (.tuple #[.string P1, .int .i64 0]) ∧ Below W.heap.size W w')) ∨
      (((m : Int) == 0) = false ∧ (m == 0) = false ∧ (∀ W, TabP W → Calls Tryd.prog 14 #[.string Sm, .string ⟨#[49]⟩] W fun e w' => e = .returned (.tuple #[.string P1, .int .i64 0]) ∧ Below W.heap.size W w')) := by
    rcases Nat.eq_zero_or_pos m with h | h
    · subst h
      refine .inl ⟨rfl, rfl, fun W => ?_, fun W hW => ?_⟩
      · rw [← hSm]
        exact Add_no [] no_e ⟨#[49]⟩ W
      · have hh := HO.add 0 1 ((10 ^ 0 : Nat) : Int) zero_big one_big rfl one_big W hW
        rw [HO.zero, HO.one, hP1] at hh
        exact hh
    · refine .inr ⟨beq_false_of_ne (by omega), beq_false_of_ne (by omega), fun W hW => ?_⟩
      have h10 : 0 < 10 ^ m := Nat.pow_pos (by omega)
      have hh := HO.add ((10 ^ m - 1 : Nat) : Int) 1 ((10 ^ m : Nat) : Int) (by rw [Int.natAbs_natCast] at hp1 ⊢; omega) one_big (by omega) hp1 W hW
      rw [HO.one, hP1, ← hT ((10 ^ m - 1 : Nat) : Int), nn_itoaN m h, hSm] at hh
      exact hh
  have hgc := Hgc.out
  clear Hgc hp1 hp2 hT2 hP1 hpl hpe m1 nm n3 hSm hSn HO hT H HTT HM Ma K1 K2 N2
  rcases hgc with ⟨rfl, rfl⟩ | ⟨rfl, rfl, rfl, rfl⟩ <;> rcases hcs with ⟨rfl, rfl, hL⟩ | ⟨rfl, rfl, rfl⟩ <;> rcases hm0 with ⟨e1, e2, b1, b2⟩ | ⟨e1, e2, b1⟩
  all_goals
    try have l1 : ((L : Int) == (m : Int) + (n : Int) + 1) = true := beq_of_eq (by omega)
    try have l2 : (L == m + n + 1) = true := beq_of_eq hL
    try clear hL
    have A2 := Lib.hid b1
    try have A3 := Lib.hid b2
    clear b1
    try clear b2
    go_wp2_with (first
        | (go_at_call 14; (with_reducible refine (A2.out _ HN.out.tab).mono ?_); rintro e ww ⟨rfl, hB⟩; have HN := Lib.hid (HN.out.step hB); clear hB)
        | (go_at_call 14; (with_reducible refine (A2.out _).mono ?_); rintro e ww ⟨rfl, hB⟩; have HN := Lib.hid (HN.out.step hB); clear hB)
        | (go_at_call 14; (with_reducible refine (A3.out _ HN.out.tab).mono ?_); rintro e ww ⟨rfl, hB⟩; have HN := Lib.hid (HN.out.step hB); clear hB)
        | (go_at_call 23; (with_reducible refine (Nm.out _).mono ?_); rintro e ww ⟨rfl, rfl⟩)
        | (go_at_call 23; (with_reducible refine (Nn.out _).mono ?_); rintro e ww ⟨rfl, rfl⟩)
        | (go_at_call 16; (with_reducible refine (M1.out _ HN.out.tab).mono ?_); rintro e ww ⟨rfl, hB⟩; have HN := Lib.hid (HN.out.step hB); clear hB)
        | (go_at_call 17; (with_reducible refine (C1.out _).mono ?_); rintro e ww ⟨rfl, hB⟩; have HN := Lib.hid (HN.out.step hB); clear hB)
        | (go_at_call 19; (with_reducible refine (V1.out _).mono ?_); rintro e ww ⟨rfl, rfl⟩)
        | (go_at_call 19; (with_reducible refine (V2.out _).mono ?_); rintro e ww ⟨rfl, rfl⟩))
    go_ret
    exact ⟨rfl, HN.out.below⟩

end Go.Proofs.YtieaelipgieaoaaDoor
