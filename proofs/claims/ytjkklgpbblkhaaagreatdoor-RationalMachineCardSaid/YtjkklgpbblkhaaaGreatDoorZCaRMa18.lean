/-
  Put together by program out of these texts, in this order: Rst, Rsd, Rmu, Rsu.
-/
import Derived.Test.YtjkklgpbblkhaaaGreatDoorZCaRMa17
import Derived.Test.YtjkklgpbblkhaaaGreatDoorZCaRMa16

/-
  Layer 3, the reference: the order, the greatest common divisor and quotients of integers as strings.
-/
namespace Go.Proofs.YtjkklgpbblkhaaaGreatDoor
open Go.RowKit Bs Ig

theorem D_m {W : World} {a : Option Addr} {m c n : Nat} (h : IsZ W a m c (zs (D n))) (hn : n < big) : m ≤ 200 := by
  have := D_len h
  have := D_len200 hn
  omega
/-- a call of the reference that answers an order -/
theorem cmp_signs (x y : Int) : cmpZ x y = if decide (x < 0) = decide (y < 0) then (if decide (x < 0) = true then cmp y.natAbs x.natAbs else cmp x.natAbs y.natAbs) else (if decide (x < 0) = true then -1 else 1) := by
  unfold cmpZ cmp
  rcases Int.lt_or_le x 0 with hx | hx <;> rcases Int.lt_or_le y 0 with hy | hy
  · rw [decide_eq_true hx, decide_eq_true hy]; simp only [if_true]; repeat' split
    all_goals omega
  · rw [decide_eq_true hx, decide_eq_false (show ¬ y < 0 by omega)]; simp only [if_true, Bool.true_eq_false, if_false]; rw [if_pos (by omega)]
  · rw [decide_eq_false (show ¬ x < 0 by omega), decide_eq_true hy]; simp only [Bool.false_eq_true, if_false]; rw [if_neg (by omega), if_pos (by omega)]
  · rw [decide_eq_false (show ¬ x < 0 by omega), decide_eq_false (show ¬ y < 0 by omega)]; simp only [if_true, Bool.false_eq_true, if_false]; repeat' split
    all_goals omega

set_option maxRecDepth 100000 in
set_option maxHeartbeats 4000000 in
theorem rCompare_T (x y : Int) (hx : x.natAbs < big) (hy : y.natAbs < big) (w : World) :
    Calls Tryz.prog 53 #[.string (bs (Lib.itoa x)), .string (bs (Lib.itoa y))] w fun e w' => e = .returned (.int .i64 (cmpZ x y)) ∧ Below w.heap.size w w' := by
  have HV1 := Lib.hid (fun (W : World) => (show Calls Tryz.prog 61 #[.string (bs (Lib.itoa x))] W fun e w' => e = .returned (.bool true) ∧ w' = W from by
    have h := rvalid_rd (bs (Lib.itoa x)) (by rw [bs_size]; have := itoa_len hx; omega) W
    rw [rd_some hx] at h; exact h))
  have HV2 := Lib.hid (fun (W : World) => (show Calls Tryz.prog 61 #[.string (bs (Lib.itoa y))] W fun e w' => e = .returned (.bool true) ∧ w' = W from by
    have h := rvalid_rd (bs (Lib.itoa y)) (by rw [bs_size]; have := itoa_len hy; omega) W
    rw [rd_some hy] at h; exact h))
  have HD1 := Lib.hid (fun W => digits_T x hx W)
  have HD2 := Lib.hid (fun W => digits_T y hy W)
  have HO1 := Lib.hid (fun (W : World) a n c b k d (h1 : IsZ W a n c (zs (D x.natAbs))) (h2 : IsZ W b k d (zs (D y.natAbs))) => order_any a n c b k d x.natAbs y.natAbs W h1 h2 (by have := D_m h1 hx; omega) (by have := D_m h2 hy; omega))
  have HO2 := Lib.hid (fun (W : World) a n c b k d (h1 : IsZ W a n c (zs (D y.natAbs))) (h2 : IsZ W b k d (zs (D x.natAbs))) => order_any a n c b k d y.natAbs x.natAbs W h1 h2 (by have := D_m h1 hy; omega) (by have := D_m h2 hx; omega))
  rw [cmp_signs]
  obtain ⟨s1, hs1⟩ : ∃ s, decide (x < 0) = s := ⟨_, rfl⟩
  obtain ⟨s2, hs2⟩ : ∃ s, decide (y < 0) = s := ⟨_, rfl⟩
  rw [hs1] at HD1 ⊢
  rw [hs2] at HD2 ⊢
  obtain ⟨c1, hc1⟩ : ∃ c, cmp x.natAbs y.natAbs = c := ⟨_, rfl⟩
  obtain ⟨c2, hc2⟩ : ∃ c, cmp y.natAbs x.natAbs = c := ⟨_, rfl⟩
  rw [hc1] at HO1 ⊢
  rw [hc2] at HO2 ⊢
  generalize bs (Lib.itoa x) = X at *
  generalize bs (Lib.itoa y) = Y at *
  generalize D x.natAbs = dx at *
  generalize D y.natAbs = dy at *
  clear hx hy hs1 hs2 hc1 hc2
  cases s1 <;> cases s2
  all_goals
    simp only [if_true, if_false, Bool.false_eq_true, Bool.true_eq_false]
    go_enter Tryz.func53, Tryz.ntmps53
    go_wp2_with (first
      | (go_at_call 61; (with_reducible refine (HV1.out _).mono ?_); rintro e w1 ⟨rfl, rfl⟩)
      | (go_at_call 61; (with_reducible refine (HV2.out _).mono ?_); rintro e w1 ⟨rfl, rfl⟩)
      | (go_at_call 74; (with_reducible refine (HD2.out _).mono ?_); rintro e w3 ⟨a2, n2, d2, rfl, z2, B2⟩; have z12 := z1.later B2; have B12 := below_on B1 B2 B1.size)
      | (go_at_call 74; (with_reducible refine (HD1.out _).mono ?_); rintro e w2 ⟨a1, n1, d1, rfl, z1, B1⟩)
      | (go_at_call 87; (with_reducible refine (HO1.out _ _ _ _ _ _ _ z12 z2).mono ?_); rintro e w4 ⟨rfl, B4⟩; have B14 := below_on B12 B4 B12.size)
      | (go_at_call 87; (with_reducible refine (HO2.out _ _ _ _ _ _ _ z2 z12).mono ?_); rintro e w4 ⟨rfl, B4⟩; have B14 := below_on B12 B4 B12.size))
    go_ret
    first | exact ⟨rfl, B14⟩ | exact ⟨rfl, B12⟩

/-- quotient and remainder of numbers with signs -/
theorem ediv_signs (x y : Int) (hy : y ≠ 0) :
    (¬ (x < 0 ∧ 0 < x.natAbs % y.natAbs) → x / y = sg (decide (x < 0) != decide (y < 0)) (x.natAbs / y.natAbs) ∧ x % y = (x.natAbs % y.natAbs : Nat)) ∧
    (x < 0 ∧ 0 < x.natAbs % y.natAbs → x / y = sg (decide (x < 0) != decide (y < 0)) (x.natAbs / y.natAbs + 1) ∧ x % y = (y.natAbs - x.natAbs % y.natAbs : Nat)) := by
  have h1 := Nat.div_add_mod x.natAbs y.natAbs
  have h2 := Nat.mod_lt x.natAbs (show 0 < y.natAbs by omega)
  generalize x.natAbs / y.natAbs = Q at *
  generalize x.natAbs % y.natAbs = R at *
  generalize hn : y.natAbs = N at *
  have hN : 0 < N := by omega
  have key : ∀ q r : Int, r + y * q = x → 0 ≤ r → r < y.natAbs → x / y = q ∧ x % y = r := by
    intro q r h3 h4 h5
    rcases Int.lt_or_le y 0 with hy' | hy'
    · have h6 := (Int.ediv_emod_unique (a := x) (b := -y) (r := r) (q := -q) (by omega)).2 ⟨by rw [Int.neg_mul_neg]; exact h3, h4, by omega⟩
      rw [Int.ediv_neg, Int.emod_neg] at h6
      exact ⟨by omega, h6.2⟩
    · exact (Int.ediv_emod_unique (a := x) (b := y) (r := r) (q := q) (by omega)).2 ⟨h3, h4, by omega⟩
  have e : ((N * Q + R : Nat) : Int) = (N : Int) * (Q : Int) + (R : Int) := by simp
  have e1 : (N : Int) * ((Q + 1 : Nat) : Int) = (N : Int) * (Q : Int) + (N : Int) := by rw [Int.natCast_add, Int.mul_add]; simp
  constructor
  · intro hno
    refine key _ _ ?_ (by omega) (by omega)
    unfold sg
    rcases Int.lt_or_le x 0 with hx | hx <;> rcases Int.lt_or_le y 0 with hy' | hy'
    · rw [decide_eq_true hx, decide_eq_true hy', if_neg (by decide), show y = -(N : Int) by omega, Int.neg_mul]; omega
    · rw [decide_eq_true hx, decide_eq_false (show ¬ y < 0 by omega), if_pos (by decide), show y = (N : Int) by omega, Int.mul_neg]; omega
    · rw [decide_eq_false (show ¬ x < 0 by omega), decide_eq_true hy', if_pos (by decide), show y = -(N : Int) by omega, Int.neg_mul_neg]; omega
    · rw [decide_eq_false (show ¬ x < 0 by omega), decide_eq_false (show ¬ y < 0 by omega), if_neg (by decide), show y = (N : Int) by omega]; omega
  · rintro ⟨hx, hR⟩
    refine key _ _ ?_ (by omega) (by omega)
    unfold sg
    rcases Int.lt_or_le y 0 with hy' | hy'
    · rw [decide_eq_true hx, decide_eq_true hy', if_neg (by decide), show y = -(N : Int) by omega, Int.neg_mul, e1]; omega
    · rw [decide_eq_true hx, decide_eq_false (show ¬ y < 0 by omega), if_pos (by decide), show y = (N : Int) by omega, Int.mul_neg, e1]; omega

end Go.Proofs.YtjkklgpbblkhaaaGreatDoor

/-
  Layer 3, the reference: the greatest common divisor and quotients of integers as strings, walked.
-/
namespace Go.Proofs.YtjkklgpbblkhaaaGreatDoor
open Go.RowKit Bs Ig

theorem rValid_T (x : Int) (hx : x.natAbs < big) (W : World) : Calls Tryz.prog 61 #[.string (bs (Lib.itoa x))] W fun e w' => e = .returned (.bool true) ∧ w' = W := by
  have h := rvalid_rd (bs (Lib.itoa x)) (by rw [bs_size]; have := itoa_len hx; omega) W
  rw [rd_some hx] at h; exact h
theorem D_len0 {n m : Nat} (h : (D n).length = m) : m = 0 ↔ n = 0 := by rw [← h]; exact dgs_len0

set_option maxRecDepth 100000 in
set_option maxHeartbeats 4000000 in
theorem rGcd_T (x y : Int) (hx : x.natAbs < big) (hy : y.natAbs < big) (w : World) :
    Calls Tryz.prog 62 #[.string (bs (Lib.itoa x)), .string (bs (Lib.itoa y))] w fun e w' => e = .returned (.tuple #[.string (bs (Lib.itoa ((Int.gcd x y : Nat) : Int))), .int .i64 0]) ∧ Below w.heap.size w w' := by
  have HV1 := Lib.hid (rValid_T x hx)
  have HV2 := Lib.hid (rValid_T y hy)
  have HD1 := Lib.hid (fun W => digits_T x hx W)
  have HD2 := Lib.hid (fun W => digits_T y hy W)
  obtain ⟨g, hg⟩ : ∃ g, Int.gcd x y = g := ⟨_, rfl⟩
  have hgN : Nat.gcd x.natAbs y.natAbs = g := hg
  have hgb : g < big := by rw [← hg]; exact gcd_big4 hx hy
  have HK := Lib.hid (fun (W : World) a m c (h : IsZ W a m c (zs (D g))) => (show Calls Tryz.prog 75 #[.bool false, .slice a m c] W (fun e w' => e = .returned (.tuple #[.string (bs (Lib.itoa (g : Int))), .int .i64 0]) ∧ Below W.heap.size W w') from by
    have h2 := checked_any false g a m c W h (by have := D_m h hgb; omega)
    rw [show sg false g = (g : Int) from rfl] at h2
    unfold wrS txt err at h2
    rw [if_pos (by rw [Int.natAbs_natCast]; exact hgb), if_pos (by rw [Int.natAbs_natCast]; exact hgb)] at h2
    exact h2))
  obtain ⟨M, hM⟩ := numD
  have HM := Lib.hid hM
  rw [hg]
  have HG := Lib.hid (And.intro hgN (And.intro hx hy))
  obtain ⟨s1, hs1⟩ : ∃ s, decide (x < 0) = s := ⟨_, rfl⟩
  obtain ⟨s2, hs2⟩ : ∃ s, decide (y < 0) = s := ⟨_, rfl⟩
  rw [hs1] at HD1
  rw [hs2] at HD2
  generalize bs (Lib.itoa x) = X at *
  generalize bs (Lib.itoa y) = Y at *
  generalize x.natAbs = ax at *
  generalize y.natAbs = ay at *
  clear hx hy hs1 hs2 hgN hg hM
  go_enter Tryz.func62, Tryz.ntmps62
  go_wp2_with (first
    | (go_at_call 61; (with_reducible refine (HV1.out _).mono ?_); rintro e w1 ⟨rfl, hww⟩; rw [hww]; clear hww w1)
    | (go_at_call 61; (with_reducible refine (HV2.out _).mono ?_); rintro e w1 ⟨rfl, hww⟩; rw [hww]; clear hww w1)
    | (go_at_call 74; (with_reducible refine (HD2.out _).mono ?_); rintro e w3 ⟨a2, n2, d2, rfl, z2, B2⟩; have z12 := z1.later B2; have B12 := below_on B1 B2 B1.size)
    | (go_at_call 74; (with_reducible refine (HD1.out _).mono ?_); rintro e w2 ⟨a1, n1, d1, rfl, z1, B1⟩))
  have HS := Lib.hid (And.intro z12 (And.intro z2 B12))
  clear z12 z2 B12 z1 B1 B2
  go_loopw [7, 9] (fun u v wr => ∃ (p q : Nat) (a : Option Addr) (m c : Nat) (b : Option Addr) (n d : Nat), u = .slice a m c ∧ v = .slice b n d ∧ IsZ wr a m c (zs (D p)) ∧ IsZ wr b n d (zs (D q)) ∧ Nat.gcd p q = g ∧ p < big ∧ q < big ∧ Below w.heap.size w wr) (fun _ v wr => M v wr)
  case atStart => exact ⟨ax, ay, _, _, _, _, _, _, rfl, rfl, HS.out.1, HS.out.2.1, HG.out.1, HG.out.2.1, HG.out.2.2, HS.out.2.2⟩
  case round =>
    obtain ⟨p, q, a, m, c, b, n, d, rfl, rfl, zp, zq, hgc, hp, hq, hw⟩ := hrel
    have hnq := D_len0 (D_len zq)
    have hMq := HM.out _ _ _ _ _ zq
    rcases Nat.eq_zero_or_pos q with h0 | h0
    · obtain rfl : n = 0 := hnq.2 h0
      subst h0
      rw [Nat.gcd_zero_right] at hgc
      subst hgc
      have HZ := Lib.hid zp
      clear hnq zp zq hMq hp hq
      go_wp2_with (go_at_call 75; (with_reducible refine (HK.out _ _ _ _ HZ.out).mono ?_); rintro e w5 ⟨rfl, B5⟩)
      go_ret2
      exact ⟨rfl, below_on hw B5 hw.size⟩
    · have hn0 : 0 < n := by omega
      have f1 : decide (0 < n) = true := decide_eq_true hn0
      have f2 : decide (0 < (n : Int)) = true := decide_eq_true (by omega)
      have HDv := Lib.hid (divided_any a m c b n d p q wr zp zq h0 (by have := D_m zp hp; omega) (by have := D_m zq hq; omega))
      have HZ := Lib.hid zq
      have Hw := Lib.hid hw
      have Hgc := Lib.hid (show Nat.gcd q (p % q) = g by rw [Nat.gcd_comm, ← Nat.gcd_rec, Nat.gcd_comm]; exact hgc)
      have Hlt := Lib.hid (Nat.mod_lt p h0)
      clear hnq zp zq hw hgc
      go_wp2_with (go_at_call 84; (with_reducible refine HDv.out.mono ?_); rintro e w5 ⟨qa, qn, qc, ra, rn, rc, rfl, z5, z6, B5⟩; have Hz6 := Lib.hid z6; have Hz5 := Lib.hid (HZ.out.later B5); clear z5 z6)
      go_roundw
      case rel => exact ⟨q, p % q, _, _, _, _, _, _, rfl, rfl, Hz5.out, Hz6.out, Hgc.out, hq, by have := Hlt.out; omega, below_on Hw.out B5 Hw.out.size⟩
      case measure =>
        have h := HM.out _ _ _ _ _ Hz6.out
        have := Hlt.out
        rw [h, hMq]; omega

set_option maxRecDepth 100000 in
set_option maxHeartbeats 8000000 in
theorem rDiv_T (x y : Int) (hx : x.natAbs < big) (hy : y.natAbs < big) (hy0 : y ≠ 0) (w : World) :
    Calls Tryz.prog 52 #[.string (bs (Lib.itoa x)), .string (bs (Lib.itoa y))] w fun e w' => e = .returned (.tuple #[.string (bs (Lib.itoa (x / y))), .string (bs (Lib.itoa (x % y))), .int .i64 0]) ∧ Below w.heap.size w w' := by
  have HV1 := Lib.hid (rValid_T x hx)
  have HV2 := Lib.hid (rValid_T y hy)
  have HD1 := Lib.hid (fun W => digits_T x hx W)
  have HD2 := Lib.hid (fun W => digits_T y hy W)
  have hq : (x / y).natAbs < big := Nat.lt_of_le_of_lt (Int.natAbs_ediv_le_natAbs x y) hx
  have hr0 : 0 ≤ x % y := Int.emod_nonneg x hy0
  have hr1 : (x % y).natAbs < big := by have := Int.emod_lt x hy0; omega
  have HDv := Lib.hid (fun (W : World) a m c b n d (h1 : IsZ W a m c (zs (D x.natAbs))) (h2 : IsZ W b n d (zs (D y.natAbs))) => divided_any a m c b n d x.natAbs y.natAbs W h1 h2 (by omega) (by have := D_m h1 hx; omega) (by have := D_m h2 hy; omega))
  have hz : ((bs (Lib.itoa y)).toList == [48]) = false := by rw [bs_toList]; exact itoa_zero y hy0
  obtain ⟨hno, hyes⟩ := ediv_signs x y hy0
  have hCk : ∀ (neg : Bool) (n : Nat), x / y = sg neg n → ∀ (W : World) a m c, IsZ W a m c (zs (D n)) → Calls Tryz.prog 75 #[.bool neg, .slice a m c] W (fun e w' => e = .returned (.tuple #[.string (bs (Lib.itoa (x / y))), .int .i64 0]) ∧ Below W.heap.size W w') := by
    intro neg n he W a m c h
    have hb : n < big := by rw [← sg_abs neg n, ← he]; exact hq
    have h2 := checked_any neg n a m c W h (by have := D_m h hb; omega)
    rw [← he] at h2
    unfold wrS txt err at h2
    rw [if_pos hq, if_pos hq] at h2
    exact h2
  have hTx : ∀ (n : Nat), x % y = (n : Int) → ∀ (W : World) a m c, IsZ W a m c (zs (D n)) → Calls Tryz.prog 73 #[.bool false, .slice a m c] W (fun e w' => e = .returned (.tuple #[.string (bs (Lib.itoa (x % y))), .bool true]) ∧ Below W.heap.size W w') := by
    intro n he W a m c h
    have hb : n < big := by omega
    have h2 := text_T false n a m c W h (by have := D_m h hb; omega)
    rw [show sg false n = (n : Int) from rfl, ← he, decide_eq_true hb] at h2
    exact h2
  obtain ⟨s1, hs1⟩ : ∃ s, decide (x < 0) = s := ⟨_, rfl⟩
  obtain ⟨s2, hs2⟩ : ∃ s, decide (y < 0) = s := ⟨_, rfl⟩
  rw [hs1] at HD1
  rw [hs2] at HD2
  rw [hs1, hs2] at hno hyes
  rcases Decidable.em (x < 0 ∧ 0 < x.natAbs % y.natAbs) with hc | hc
  · obtain ⟨e1, e2⟩ := hyes hc
    have h1 : s1 = true := by rw [← hs1]; exact decide_eq_true hc.1
    subst h1
    rw [Bool.true_bne] at e1
    have hRlt := Nat.mod_lt x.natAbs (show 0 < y.natAbs by omega)
    have hQb : x.natAbs / y.natAbs < big := Nat.lt_of_le_of_lt (Nat.div_le_self _ _) hx
    have HCk := Lib.hid (fun W a m c h => hCk _ _ e1 W a m c h)
    have HTx := Lib.hid (fun W a m c h => hTx _ e2 W a m c h)
    have HPl := Lib.hid (fun (W : World) a m c b n d (h1 : IsZ W a m c (zs (D (x.natAbs / y.natAbs)))) (h2 : IsZ W b n d (zs (D 1))) => rplus_any a m c b n d (x.natAbs / y.natAbs) 1 W h1 h2 (by have := D_m h1 hQb; omega) (by have := D_m h2 (Nat.lt_of_lt_of_le (by decide) big5_4); omega))
    have HMi := Lib.hid (fun (W : World) a m c b n d (h1 : IsZ W a m c (zs (D y.natAbs))) (h2 : IsZ W b n d (zs (D (x.natAbs % y.natAbs)))) => rminus_any a m c b n d y.natAbs (x.natAbs % y.natAbs) W h1 h2 (Nat.le_of_lt hRlt) (by have := D_m h1 hy; omega))
    have HRn := Lib.hid (fun (W : World) a m c (h : IsZ W a m c (zs (D (x.natAbs % y.natAbs)))) => (show 0 < m from by have := D_len0 (D_len h); omega))
    have HD1' := Lib.hid (show D 1 = [1] from by rw [D_pos (by omega), show (1 : Nat) / 10 = 0 from rfl, D_zero])
    have HL1 := Lib.hid (fun (W : World) => (show IsZ (W.alloc (.cells #[.int .i64 1] 3)) (some { block := W.heap.size, off := 0 }) 1 1 (zs (D 1)) from by
      have h := (own_lit1 W W.heap.size 1 (Nat.le_refl _)).isZ
      rw [HD1'.out]
      exact h))
    generalize bs (Lib.itoa x) = X at *
    generalize bs (Lib.itoa y) = Y at *
    generalize bs (Lib.itoa (x / y)) = QS at *
    generalize bs (Lib.itoa (x % y)) = RS at *
    clear hx hy hy0 hq hr0 hr1 hno hyes hCk hTx hs1 hs2 hc e1 e2 hRlt hQb
    go_enter Tryz.func52, Tryz.ntmps52
    go_wp2_with (first
      | (go_at_call 61; (with_reducible refine (HV1.out _).mono ?_); rintro e w1 ⟨rfl, hww⟩; rw [hww]; clear hww w1)
      | (go_at_call 61; (with_reducible refine (HV2.out _).mono ?_); rintro e w1 ⟨rfl, hww⟩; rw [hww]; clear hww w1)
      | (go_at_call 74; (with_reducible refine (HD2.out _).mono ?_); rintro e w3 ⟨a2, n2, d2, rfl, z2, B2⟩; have z12 := z1.later B2; have B12 := below_on B1 B2 B1.size)
      | (go_at_call 74; (with_reducible refine (HD1.out _).mono ?_); rintro e w2 ⟨a1, n1, d1, rfl, z1, B1⟩)
      | (go_at_call 84; (with_reducible refine (HDv.out _ _ _ _ _ _ _ z12 z2).mono ?_); rintro e w4 ⟨qa, qn, qc, ra, rn, rc, rfl, zq, zr, B3⟩; have z24 := z2.later B3; have B13 := below_on B12 B3 B12.size; have hrn := HRn.out _ _ _ _ zr; have f1 : decide (0 < rn) = true := decide_eq_true hrn; have f2 : decide (0 < (rn : Int)) = true := decide_eq_true (by omega))
      | (go_at_call 85; go_loud ((with_reducible refine (HPl.out _ _ _ _ _ _ _ (zq.later ((Below.refl _ _).alloc (Nat.le_refl _) _)) (HL1.out _)).mono ?_); rintro e w5 ⟨pa, pn, pc, rfl, zp, B4⟩; (have B4' := ((Below.refl _ w4).alloc (Nat.le_refl _) (.cells #[.int .i64 1] 3)).trans (B4.mono (by simp)); have zr5 := zr.later B4'; have z25 := z24.later B4'; have B14 := below_on B13 B4' B13.size)))
      | (go_at_call 86; (with_reducible refine (HMi.out _ _ _ _ _ _ _ z25 zr5).mono ?_); rintro e w6 ⟨ma, mn, mc, rfl, zm, B5⟩; have zp6 := zp.later B5; have B15 := below_on B14 B5 B14.size)
      | (go_at_call 75; (with_reducible refine (HCk.out _ _ _ _ zp6).mono ?_); rintro e w7 ⟨rfl, B6⟩; have zm7 := zm.later B6; have B16 := below_on B15 B6 B15.size)
      | (go_at_call 73; (with_reducible refine (HTx.out _ _ _ _ zm7).mono ?_); rintro e w8 ⟨rfl, B7⟩; have B17 := below_on B16 B7 B16.size))
    exact bodyPost_ret (results_tmp3 rfl _ _ _) rfl ⟨rfl, B17⟩
  · obtain ⟨e1, e2⟩ := hno hc
    have HCk := Lib.hid (fun W a m c h => hCk _ _ e1 W a m c h)
    have HTx := Lib.hid (fun W a m c h => hTx _ e2 W a m c h)
    have HRn := Lib.hid (fun (W : World) a m c (h : IsZ W a m c (zs (D (x.natAbs % y.natAbs)))) => (show s1 = true → m = 0 from fun h1 => by
      have h2 : x < 0 := of_decide_eq_true (hs1.trans h1)
      have h3 := D_len0 (D_len h)
      have h4 : x.natAbs % y.natAbs = 0 := by
        rcases Nat.eq_zero_or_pos (x.natAbs % y.natAbs) with h5 | h5
        · exact h5
        · exact (hc ⟨h2, h5⟩).elim
      omega))
    generalize bs (Lib.itoa x) = X at *
    generalize bs (Lib.itoa y) = Y at *
    generalize bs (Lib.itoa (x / y)) = QS at *
    generalize bs (Lib.itoa (x % y)) = RS at *
    clear hx hy hy0 hq hr0 hr1 hno hyes hCk hTx hs1 hs2 hc e1 e2
    cases s1 with
    | false =>
      simp only [Bool.true_bne, Bool.false_bne] at HCk
      clear HRn
      go_enter Tryz.func52, Tryz.ntmps52
      go_wp2_with (first
        | (go_at_call 61; (with_reducible refine (HV1.out _).mono ?_); rintro e w1 ⟨rfl, hww⟩; rw [hww]; clear hww w1)
        | (go_at_call 61; (with_reducible refine (HV2.out _).mono ?_); rintro e w1 ⟨rfl, hww⟩; rw [hww]; clear hww w1)
        | (go_at_call 74; (with_reducible refine (HD2.out _).mono ?_); rintro e w3 ⟨a2, n2, d2, rfl, z2, B2⟩; have z12 := z1.later B2; have B12 := below_on B1 B2 B1.size)
        | (go_at_call 74; (with_reducible refine (HD1.out _).mono ?_); rintro e w2 ⟨a1, n1, d1, rfl, z1, B1⟩)
        | (go_at_call 84; (with_reducible refine (HDv.out _ _ _ _ _ _ _ z12 z2).mono ?_); rintro e w4 ⟨qa, qn, qc, ra, rn, rc, rfl, zq, zr, B3⟩; have B13 := below_on B12 B3 B12.size)
        | (go_at_call 75; (with_reducible refine (HCk.out _ _ _ _ zq).mono ?_); rintro e w7 ⟨rfl, B6⟩; have zr7 := zr.later B6; have B16 := below_on B13 B6 B13.size)
        | (go_at_call 73; (with_reducible refine (HTx.out _ _ _ _ zr7).mono ?_); rintro e w8 ⟨rfl, B7⟩; have B17 := below_on B16 B7 B16.size))
      exact bodyPost_ret (results_tmp3 rfl _ _ _) rfl ⟨rfl, B17⟩
    | true =>
      have HRn := Lib.hid (fun W a m c h => HRn.out W a m c h rfl)
      simp only [Bool.true_bne, Bool.false_bne] at HCk
      go_enter Tryz.func52, Tryz.ntmps52
      go_wp2_with (first
        | (go_at_call 61; (with_reducible refine (HV1.out _).mono ?_); rintro e w1 ⟨rfl, hww⟩; rw [hww]; clear hww w1)
        | (go_at_call 61; (with_reducible refine (HV2.out _).mono ?_); rintro e w1 ⟨rfl, hww⟩; rw [hww]; clear hww w1)
        | (go_at_call 74; (with_reducible refine (HD2.out _).mono ?_); rintro e w3 ⟨a2, n2, d2, rfl, z2, B2⟩; have z12 := z1.later B2; have B12 := below_on B1 B2 B1.size)
        | (go_at_call 74; (with_reducible refine (HD1.out _).mono ?_); rintro e w2 ⟨a1, n1, d1, rfl, z1, B1⟩)
        | (go_at_call 84; (with_reducible refine (HDv.out _ _ _ _ _ _ _ z12 z2).mono ?_); rintro e w4 ⟨qa, qn, qc, ra, rn, rc, rfl, zq, zr, B3⟩; have B13 := below_on B12 B3 B12.size; go_loud (have hrn0 : rn = 0 := HRn.out _ _ _ _ zr trivial; subst hrn0))
        | (go_at_call 75; (with_reducible refine (HCk.out _ _ _ _ zq).mono ?_); rintro e w7 ⟨rfl, B6⟩; have zr7 := zr.later B6; have B16 := below_on B13 B6 B13.size)
        | (go_at_call 73; (with_reducible refine (HTx.out _ _ _ _ zr7).mono ?_); rintro e w8 ⟨rfl, B7⟩; have B17 := below_on B16 B7 B16.size))
      exact bodyPost_ret (results_tmp3 rfl _ _ _) rfl ⟨rfl, B17⟩

end Go.Proofs.YtjkklgpbblkhaaaGreatDoor

/-
  Layer 3, the reference: products at numerals of integers.
-/
namespace Go.Proofs.YtjkklgpbblkhaaaGreatDoor
open Go.RowKit Bs Ig

theorem sg_mul (x y : Int) : sg (decide (x < 0) != decide (y < 0)) (x.natAbs * y.natAbs) = x * y := by
  unfold sg
  rcases Int.lt_or_le x 0 with hx | hx <;> rcases Int.lt_or_le y 0 with hy | hy
  · rw [decide_eq_true hx, decide_eq_true hy, if_neg (by decide), Int.natCast_mul, show (x.natAbs : Int) = -x by omega, show (y.natAbs : Int) = -y by omega, Int.neg_mul_neg]
  · rw [decide_eq_true hx, decide_eq_false (show ¬ y < 0 by omega), if_pos (by decide), Int.natCast_mul, show (x.natAbs : Int) = -x by omega, show (y.natAbs : Int) = y by omega, Int.neg_mul, Int.neg_neg]
  · rw [decide_eq_false (show ¬ x < 0 by omega), decide_eq_true hy, if_pos (by decide), Int.natCast_mul, show (x.natAbs : Int) = x by omega, show (y.natAbs : Int) = -y by omega, Int.mul_neg, Int.neg_neg]
  · rw [decide_eq_false (show ¬ x < 0 by omega), decide_eq_false (show ¬ y < 0 by omega), if_neg (by decide), Int.natCast_mul, show (x.natAbs : Int) = x by omega, show (y.natAbs : Int) = y by omega]

set_option maxRecDepth 100000 in
set_option maxHeartbeats 4000000 in
theorem rMul_T (x y : Int) (hx : x.natAbs < big) (hy : y.natAbs < big) (w : World) :
    Calls Tryz.prog 44 #[.string (bs (Lib.itoa x)), .string (bs (Lib.itoa y))] w fun e w' => e = .returned (.tuple #[.string (wrS (x * y)).1, .int .i64 (wrS (x * y)).2]) ∧ Below w.heap.size w w' := by
  have HV1 := Lib.hid (rValid_T x hx)
  have HV2 := Lib.hid (rValid_T y hy)
  have HD1 := Lib.hid (fun W => digits_T x hx W)
  have HD2 := Lib.hid (fun W => digits_T y hy W)
  have HT := Lib.hid (fun (W : World) a m c b n d (h1 : IsZ W a m c (zs (D x.natAbs))) (h2 : IsZ W b n d (zs (D y.natAbs))) => rtimes_any a m c b n d x.natAbs y.natAbs W h1 h2 (by have := D_m h1 hx; omega) (by have := D_m h2 hy; omega))
  have hlen : (D (x.natAbs * y.natAbs)).length ≤ 400 := by
    obtain ⟨k, hk⟩ : ∃ k, k = 200 := ⟨_, rfl⟩
    have h : x.natAbs * y.natAbs < 10 ^ k * 10 ^ k := Nat.mul_lt_mul'' (by rw [hk]; exact hx) (by rw [hk]; exact hy)
    rw [← Nat.pow_add] at h
    have h2 := dgs_length_le 8 (k + k) _ h
    show (dgs 8 (x.natAbs * y.natAbs)).length ≤ 400
    omega
  have hC : ∀ (W : World) a m c, IsZ W a m c (zs (D (x.natAbs * y.natAbs))) → Calls Tryz.prog 75 #[.bool (decide (x < 0) != decide (y < 0)), .slice a m c] W fun e w' => e = .returned (.tuple #[.string (wrS (x * y)).1, .int .i64 (wrS (x * y)).2]) ∧ Below W.heap.size W w' := by
    intro W a m c h
    have h2 := checked_any (decide (x < 0) != decide (y < 0)) (x.natAbs * y.natAbs) a m c W h (by have := D_len h; omega)
    rw [sg_mul] at h2
    exact h2
  obtain ⟨s1, hs1⟩ : ∃ s, decide (x < 0) = s := ⟨_, rfl⟩
  obtain ⟨s2, hs2⟩ : ∃ s, decide (y < 0) = s := ⟨_, rfl⟩
  rw [hs1] at HD1 hC
  rw [hs2] at HD2 hC
  obtain ⟨Z, E, hZ⟩ : ∃ Z E, wrS (x * y) = (Z, E) := ⟨_, _, rfl⟩
  rw [hZ] at hC ⊢
  simp only at hC ⊢
  rw [show (s1 != s2) = !(s1 == s2) from rfl] at hC
  have HC := Lib.hid hC
  generalize bs (Lib.itoa x) = X at *
  generalize bs (Lib.itoa y) = Y at *
  clear hx hy hs1 hs2 hC hZ hlen
  go_enter Tryz.func44, Tryz.ntmps44
  go_wp2_with (first
    | (go_at_call 61; (with_reducible refine (HV1.out _).mono ?_); rintro e w1 ⟨rfl, hww⟩; rw [hww]; clear hww w1)
    | (go_at_call 61; (with_reducible refine (HV2.out _).mono ?_); rintro e w1 ⟨rfl, hww⟩; rw [hww]; clear hww w1)
    | (go_at_call 74; (with_reducible refine (HD2.out _).mono ?_); rintro e w3 ⟨a2, n2, d2, rfl, z2, B2⟩; have z12 := z1.later B2; have B12 := below_on B1 B2 B1.size)
    | (go_at_call 74; (with_reducible refine (HD1.out _).mono ?_); rintro e w2 ⟨a1, n1, d1, rfl, z1, B1⟩)
    | (go_at_call 76; (with_reducible refine (HT.out _ _ _ _ _ _ _ z12 z2).mono ?_); rintro e w4 ⟨ta, tn, tc, rfl, z3, B3⟩; have B13 := below_on B12 B3 B12.size)
    | (go_at_call 75; (with_reducible refine (HC.out _ _ _ _ z3).mono ?_); rintro e w5 ⟨rfl, B4⟩; have B14 := below_on B13 B4 B13.size))
  exact bodyPost_ret (results_tmp2 rfl _ _ _) rfl ⟨rfl, B14⟩

end Go.Proofs.YtjkklgpbblkhaaaGreatDoor

/-
  Layer 3, the reference: sums and differences at numerals of integers.
-/
namespace Go.Proofs.YtjkklgpbblkhaaaGreatDoor
open Go.RowKit Bs Ig

theorem cmp_ge0 {m n : Nat} : (0 ≤ cmp m n) ↔ n ≤ m := by
  unfold cmp
  rcases Nat.lt_trichotomy m n with h | h | h
  · rw [if_pos h]; omega
  · rw [if_neg (by omega), if_neg (by omega)]; omega
  · rw [if_neg (by omega), if_pos h]; omega
theorem D_sum {m n : Nat} (hm : m < big) (hn : n < big) {W : World} {a : Option Addr} {k c : Nat} (h : IsZ W a k c (zs (D (m + n)))) : k ≤ 100000 := by
  have h1 := D_len h
  have h2 : m + n < 10 ^ 201 := by
    have h3 : m + n < big + big := by omega
    have h4 : big + big ≤ 10 * big := by omega
    have h5 : 10 * big = 10 ^ 201 := by show 10 * 10 ^ 200 = 10 ^ 201; rw [Nat.pow_succ 10 200, Nat.mul_comm]
    omega
  have h3 := dgs_length_le 8 201 _ h2
  have h4 : (D (m + n)).length ≤ 201 := h3
  omega
theorem sg_same (s : Bool) (m n : Nat) : sg s m + sg s n = sg s (m + n) := by cases s <;> simp [sg] <;> omega
theorem sg_over (s t : Bool) (m n : Nat) (h : s ≠ t) (hmn : n ≤ m) : sg s m + sg t n = sg s (m - n) := by cases s <;> cases t <;> simp [sg] at h ⊢ <;> omega
theorem sg_under (s t : Bool) (m n : Nat) (h : s ≠ t) (hmn : m < n) : sg s m + sg t n = sg t (n - m) := by cases s <;> cases t <;> simp [sg] at h ⊢ <;> omega

set_option maxRecDepth 100000 in
set_option maxHeartbeats 8000000 in
theorem rsum_any (s t : Bool) (m n : Nat) (hm : m < big) (hn : n < big) (a : Option Addr) (k c : Nat) (b : Option Addr) (l d : Nat) (w : World) (h1 : IsZ w a k c (zs (D m))) (h2 : IsZ w b l d (zs (D n))) :
    Calls Tryz.prog 77 #[.bool s, .slice a k c, .bool t, .slice b l d] w fun e w' => e = .returned (.tuple #[.string (wrS (sg s m + sg t n)).1, .int .i64 (wrS (sg s m + sg t n)).2]) ∧ Below w.heap.size w w' := by
  have hk := D_m h1 hm
  have hl := D_m h2 hn
  have HP := Lib.hid (rplus_any a k c b l d m n w h1 h2 (by omega) (by omega))
  have HO := Lib.hid (order_any a k c b l d m n w h1 h2 (by omega) (by omega))
  have HM1 := Lib.hid (fun (W : World) (hb : Below w.heap.size w W) (h : n ≤ m) => rminus_any a k c b l d m n W (h1.later hb) (h2.later hb) h (by omega))
  have HM2 := Lib.hid (fun (W : World) (hb : Below w.heap.size w W) (h : m ≤ n) => rminus_any b l d a k c n m W (h2.later hb) (h1.later hb) h (by omega))
  by_cases hst : s = t
  · subst hst
    have HC := Lib.hid (fun (W : World) a k c (h : IsZ W a k c (zs (D (m + n)))) => checked_any s (m + n) a k c W h (D_sum hm hn h))
    rw [sg_same]
    obtain ⟨Z, E, hZ⟩ : ∃ Z E, wrS (sg s (m + n)) = (Z, E) := ⟨_, _, rfl⟩
    rw [hZ] at HC ⊢
    simp only at HC ⊢
    clear hZ hm hn h1 h2 HM1 HM2 HO
    have e1 : (s == s) = true := by cases s <;> rfl
    go_enter Tryz.func77, Tryz.ntmps77
    go_wp2_with (first
      | (go_at_call 85; (with_reducible refine HP.out.mono ?_); rintro e w1 ⟨a', n', c', rfl, z, B1⟩)
      | (go_at_call 75; (with_reducible refine (HC.out _ _ _ _ z).mono ?_); rintro e w2 ⟨rfl, B2⟩; have B12 := below_on B1 B2 B1.size))
    exact bodyPost_ret (results_tmp2 rfl _ _ _) rfl ⟨rfl, B12⟩
  · have e1 : (s == t) = false := by cases s <;> cases t <;> simp at hst ⊢
    rcases Nat.lt_or_ge m n with h | h
    · rw [sg_under s t m n hst h]
      have HC := Lib.hid (fun (W : World) a k c (hz : IsZ W a k c (zs (D (n - m)))) => checked_any t (n - m) a k c W hz (by have := D_m hz (by omega); omega))
      have HM2 := Lib.hid (fun W hb => HM2.out W hb (by omega))
      obtain ⟨Z, E, hZ⟩ : ∃ Z E, wrS (sg t (n - m)) = (Z, E) := ⟨_, _, rfl⟩
      rw [hZ] at HC ⊢
      simp only at HC ⊢
      obtain ⟨C, hC⟩ : ∃ C, cmp m n = C := ⟨_, rfl⟩
      have e2 : decide (0 ≤ C) = false := decide_eq_false (by rw [← hC, cmp_ge0]; omega)
      have e3 : ¬ 0 ≤ C := by rw [← hC, cmp_ge0]; omega
      rw [hC] at HO
      clear hZ hm hn h1 h2 HM1 HP hst hC h
      go_enter Tryz.func77, Tryz.ntmps77
      go_wp2_with (first
        | (go_at_call 87; (with_reducible refine HO.out.mono ?_); rintro e w0 ⟨rfl, B0⟩)
        | (go_at_call 86; (with_reducible refine (HM2.out _ B0).mono ?_); rintro e w1 ⟨a', n', c', rfl, z, B1⟩; have B01 := below_on B0 B1 B0.size)
        | (go_at_call 75; (with_reducible refine (HC.out _ _ _ _ z).mono ?_); rintro e w2 ⟨rfl, B2⟩; have B12 := below_on B01 B2 B01.size))
      exact bodyPost_ret (results_tmp2 rfl _ _ _) rfl ⟨rfl, B12⟩
    · rw [sg_over s t m n hst h]
      have HC := Lib.hid (fun (W : World) a k c (hz : IsZ W a k c (zs (D (m - n)))) => checked_any s (m - n) a k c W hz (by have := D_m hz (by omega); omega))
      have HM1 := Lib.hid (fun W hb => HM1.out W hb h)
      obtain ⟨Z, E, hZ⟩ : ∃ Z E, wrS (sg s (m - n)) = (Z, E) := ⟨_, _, rfl⟩
      rw [hZ] at HC ⊢
      simp only at HC ⊢
      obtain ⟨C, hC⟩ : ∃ C, cmp m n = C := ⟨_, rfl⟩
      have e2 : decide (0 ≤ C) = true := decide_eq_true (by rw [← hC, cmp_ge0]; omega)
      have e3 : 0 ≤ C := by rw [← hC, cmp_ge0]; omega
      rw [hC] at HO
      clear hZ hm hn h1 h2 HM2 HP hst hC h
      go_enter Tryz.func77, Tryz.ntmps77
      go_wp2_with (first
        | (go_at_call 87; (with_reducible refine HO.out.mono ?_); rintro e w0 ⟨rfl, B0⟩)
        | (go_at_call 86; (with_reducible refine (HM1.out _ B0).mono ?_); rintro e w1 ⟨a', n', c', rfl, z, B1⟩; have B01 := below_on B0 B1 B0.size)
        | (go_at_call 75; (with_reducible refine (HC.out _ _ _ _ z).mono ?_); rintro e w2 ⟨rfl, B2⟩; have B12 := below_on B01 B2 B01.size))
      exact bodyPost_ret (results_tmp2 rfl _ _ _) rfl ⟨rfl, B12⟩

theorem sg_abs' (x : Int) : sg (decide (x < 0)) x.natAbs = x := by
  unfold sg
  rcases Int.lt_or_le x 0 with h | h
  · rw [decide_eq_true h, if_pos rfl]; omega
  · rw [decide_eq_false (by omega), if_neg (by decide)]; omega
theorem sg_not (x : Int) : sg (!decide (x < 0)) x.natAbs = -x := by
  unfold sg
  rcases Int.lt_or_le x 0 with h | h
  · rw [decide_eq_true h, if_neg (by decide)]; omega
  · rw [decide_eq_false (by omega), if_pos (by decide)]; omega

set_option maxRecDepth 100000 in
set_option maxHeartbeats 4000000 in
theorem rAdd_T (x y : Int) (hx : x.natAbs < big) (hy : y.natAbs < big) (w : World) :
    Calls Tryz.prog 48 #[.string (bs (Lib.itoa x)), .string (bs (Lib.itoa y))] w fun e w' => e = .returned (.tuple #[.string (wrS (x + y)).1, .int .i64 (wrS (x + y)).2]) ∧ Below w.heap.size w w' := by
  have HV1 := Lib.hid (rValid_T x hx)
  have HV2 := Lib.hid (rValid_T y hy)
  have HD1 := Lib.hid (fun W => digits_T x hx W)
  have HD2 := Lib.hid (fun W => digits_T y hy W)
  have hS : ∀ (W : World) a k c b l d, IsZ W a k c (zs (D x.natAbs)) → IsZ W b l d (zs (D y.natAbs)) → Calls Tryz.prog 77 #[.bool (decide (x < 0)), .slice a k c, .bool (decide (y < 0)), .slice b l d] W fun e w' => e = .returned (.tuple #[.string (wrS (x + y)).1, .int .i64 (wrS (x + y)).2]) ∧ Below W.heap.size W w' := by
    intro W a k c b l d h1 h2
    have h := rsum_any (decide (x < 0)) (decide (y < 0)) x.natAbs y.natAbs hx hy a k c b l d W h1 h2
    rw [sg_abs', sg_abs'] at h
    exact h
  obtain ⟨s1, hs1⟩ : ∃ s, decide (x < 0) = s := ⟨_, rfl⟩
  obtain ⟨s2, hs2⟩ : ∃ s, decide (y < 0) = s := ⟨_, rfl⟩
  rw [hs1] at HD1 hS
  rw [hs2] at HD2 hS
  obtain ⟨Z, E, hZ⟩ : ∃ Z E, wrS (x + y) = (Z, E) := ⟨_, _, rfl⟩
  rw [hZ] at hS ⊢
  simp only at hS ⊢
  have HS := Lib.hid hS
  generalize bs (Lib.itoa x) = X at *
  generalize bs (Lib.itoa y) = Y at *
  clear hx hy hs1 hs2 hS hZ
  go_enter Tryz.func48, Tryz.ntmps48
  go_wp2_with (first
    | (go_at_call 61; (with_reducible refine (HV1.out _).mono ?_); rintro e w1 ⟨rfl, hww⟩; rw [hww]; clear hww w1)
    | (go_at_call 61; (with_reducible refine (HV2.out _).mono ?_); rintro e w1 ⟨rfl, hww⟩; rw [hww]; clear hww w1)
    | (go_at_call 74; (with_reducible refine (HD2.out _).mono ?_); rintro e w3 ⟨a2, n2, d2, rfl, z2, B2⟩; have z12 := z1.later B2; have B12 := below_on B1 B2 B1.size)
    | (go_at_call 74; (with_reducible refine (HD1.out _).mono ?_); rintro e w2 ⟨a1, n1, d1, rfl, z1, B1⟩)
    | (go_at_call 77; (with_reducible refine (HS.out _ _ _ _ _ _ _ z12 z2).mono ?_); rintro e w5 ⟨rfl, B4⟩; have B14 := below_on B12 B4 B12.size))
  exact bodyPost_ret (results_tmp2 rfl _ _ _) rfl ⟨rfl, B14⟩

set_option maxRecDepth 100000 in
set_option maxHeartbeats 4000000 in
theorem rSub_T (x y : Int) (hx : x.natAbs < big) (hy : y.natAbs < big) (w : World) :
    Calls Tryz.prog 49 #[.string (bs (Lib.itoa x)), .string (bs (Lib.itoa y))] w fun e w' => e = .returned (.tuple #[.string (wrS (x - y)).1, .int .i64 (wrS (x - y)).2]) ∧ Below w.heap.size w w' := by
  have HV1 := Lib.hid (rValid_T x hx)
  have HV2 := Lib.hid (rValid_T y hy)
  have HD1 := Lib.hid (fun W => digits_T x hx W)
  have HD2 := Lib.hid (fun W => digits_T y hy W)
  have hS : ∀ (W : World) a k c b l d, IsZ W a k c (zs (D x.natAbs)) → IsZ W b l d (zs (D y.natAbs)) → Calls Tryz.prog 77 #[.bool (decide (x < 0)), .slice a k c, .bool (!decide (y < 0)), .slice b l d] W fun e w' => e = .returned (.tuple #[.string (wrS (x - y)).1, .int .i64 (wrS (x - y)).2]) ∧ Below W.heap.size W w' := by
    intro W a k c b l d h1 h2
    have h := rsum_any (decide (x < 0)) (!decide (y < 0)) x.natAbs y.natAbs hx hy a k c b l d W h1 h2
    rw [sg_abs', sg_not, show x + -y = x - y by omega] at h
    exact h
  obtain ⟨s1, hs1⟩ : ∃ s, decide (x < 0) = s := ⟨_, rfl⟩
  obtain ⟨s2, hs2⟩ : ∃ s, decide (y < 0) = s := ⟨_, rfl⟩
  rw [hs1] at HD1 hS
  rw [hs2] at HD2 hS
  obtain ⟨Z, E, hZ⟩ : ∃ Z E, wrS (x - y) = (Z, E) := ⟨_, _, rfl⟩
  rw [hZ] at hS ⊢
  simp only at hS ⊢
  have HS := Lib.hid hS
  generalize bs (Lib.itoa x) = X at *
  generalize bs (Lib.itoa y) = Y at *
  clear hx hy hs1 hs2 hS hZ
  go_enter Tryz.func49, Tryz.ntmps49
  go_wp2_with (first
    | (go_at_call 61; (with_reducible refine (HV1.out _).mono ?_); rintro e w1 ⟨rfl, hww⟩; rw [hww]; clear hww w1)
    | (go_at_call 61; (with_reducible refine (HV2.out _).mono ?_); rintro e w1 ⟨rfl, hww⟩; rw [hww]; clear hww w1)
    | (go_at_call 74; (with_reducible refine (HD2.out _).mono ?_); rintro e w3 ⟨a2, n2, d2, rfl, z2, B2⟩; have z12 := z1.later B2; have B12 := below_on B1 B2 B1.size)
    | (go_at_call 74; (with_reducible refine (HD1.out _).mono ?_); rintro e w2 ⟨a1, n1, d1, rfl, z1, B1⟩)
    | (go_at_call 77; (with_reducible refine (HS.out _ _ _ _ _ _ _ z12 z2).mono ?_); rintro e w5 ⟨rfl, B4⟩; have B14 := below_on B12 B4 B12.size))
  exact bodyPost_ret (results_tmp2 rfl _ _ _) rfl ⟨rfl, B14⟩

end Go.Proofs.YtjkklgpbblkhaaaGreatDoor
