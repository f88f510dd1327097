/-
  Put together by program out of these texts, in this order: Rst, Rsd, Rmk, Rlg.
-/
import Derived.Test.YtjkklgpbblkhaaaGreatDoorZCaRFd17
import Derived.Test.YtjkklgpbblkhaaaGreatDoorZCaRFd12
import Derived.Test.YtjkklgpbblkhaaaGreatDoorZCaRFd14

/-
  Layer 3, the reference: the order, the greatest common divisor and quotients of integers as strings.
-/
namespace Go.Proofs.YtjkklgpbblkhaaaGreatDoor
open Go.RowKit Bs Ig

theorem D_m {W : World} {a : Option Addr} {m c n : Nat} (h : IsZ W a m c (zs (D n))) (hn : n < big) : m ≤ 200 := by
  have := D_len h
  have := D_len200 hn
  omega
/-- a call of the reference that answers an order -/
theorem cmp_signs (x y : Int) : cmpZ x y = if decide (x < 0) = decide (y < 0) then (if decide (x < 0) = true then cmp y.natAbs x.natAbs else cmp x.natAbs y.natAbs) else (if decide (x < 0) = true then -1 else 1) := by
  unfold cmpZ cmp
  rcases Int.lt_or_le x 0 with hx | hx <;> rcases Int.lt_or_le y 0 with hy | hy
  · rw [decide_eq_true hx, decide_eq_true hy]; simp only [if_true]; repeat' split
    all_goals omega
  · rw [decide_eq_true hx, decide_eq_false (show ¬ y < 0 by omega)]; simp only [if_true, Bool.true_eq_false, if_false]; rw [if_pos (by omega)]
  · rw [decide_eq_false (show ¬ x < 0 by omega), decide_eq_true hy]; simp only [Bool.false_eq_true, if_false]; rw [if_neg (by omega), if_pos (by omega)]
  · rw [decide_eq_false (show ¬ x < 0 by omega), decide_eq_false (show ¬ y < 0 by omega)]; simp only [if_true, Bool.false_eq_true, if_false]; repeat' split
    all_goals omega

set_option maxRecDepth 100000 in
set_option maxHeartbeats 4000000 in
theorem rCompare_T (x y : Int) (hx : x.natAbs < big) (hy : y.natAbs < big) (w : World) :
    Calls Tryz.prog 53 #[.string (bs (Lib.itoa x)), .string (bs (Lib.itoa y))] w fun e w' => e = .returned (.int .i64 (cmpZ x y)) ∧ Below w.heap.size w w' := by
  have HV1 := Lib.hid (fun (W : World) => (show Calls Tryz.prog 61 #[.string (bs (Lib.itoa x))] W fun e w' => e = .returned (.bool true) ∧ w' = W from by
    have h := rvalid_rd (bs (Lib.itoa x)) (by rw [bs_size]; have := itoa_len hx; omega) W
    rw [rd_some hx] at h; exact h))
  have HV2 := Lib.hid (fun (W : World) => (show Calls Tryz.prog 61 #[.string (bs (Lib.itoa y))] W fun e w' => e = .returned (.bool true) ∧ w' = W from by
    have h := rvalid_rd (bs (Lib.itoa y)) (by rw [bs_size]; have := itoa_len hy; omega) W
    rw [rd_some hy] at h; exact h))
  have HD1 := Lib.hid (fun W => digits_T x hx W)
  have HD2 := Lib.hid (fun W => digits_T y hy W)
  have HO1 := Lib.hid (fun (W : World) a n c b k d (h1 : IsZ W a n c (zs (D x.natAbs))) (h2 : IsZ W b k d (zs (D y.natAbs))) => order_any a n c b k d x.natAbs y.natAbs W h1 h2 (by have := D_m h1 hx; omega) (by have := D_m h2 hy; omega))
  have HO2 := Lib.hid (fun (W : World) a n c b k d (h1 : IsZ W a n c (zs (D y.natAbs))) (h2 : IsZ W b k d (zs (D x.natAbs))) => order_any a n c b k d y.natAbs x.natAbs W h1 h2 (by have := D_m h1 hy; omega) (by have := D_m h2 hx; omega))
  rw [cmp_signs]
  obtain ⟨s1, hs1⟩ : ∃ s, decide (x < 0) = s := ⟨_, rfl⟩
  obtain ⟨s2, hs2⟩ : ∃ s, decide (y < 0) = s := ⟨_, rfl⟩
  rw [hs1] at HD1 ⊢
  rw [hs2] at HD2 ⊢
  obtain ⟨c1, hc1⟩ : ∃ c, cmp x.natAbs y.natAbs = c := ⟨_, rfl⟩
  obtain ⟨c2, hc2⟩ : ∃ c, cmp y.natAbs x.natAbs = c := ⟨_, rfl⟩
  rw [hc1] at HO1 ⊢
  rw [hc2] at HO2 ⊢
  generalize bs (Lib.itoa x) = X at *
  generalize bs (Lib.itoa y) = Y at *
  generalize D x.natAbs = dx at *
  generalize D y.natAbs = dy at *
  clear hx hy hs1 hs2 hc1 hc2
  cases s1 <;> cases s2
  all_goals
    simp only [if_true, if_false, Bool.false_eq_true, Bool.true_eq_false]
    go_enter Tryz.func53, Tryz.ntmps53
    go_wp2_with (first
      | (go_at_call 61; (with_reducible refine (HV1.out _).mono ?_); rintro e w1 ⟨rfl, rfl⟩)
      | (go_at_call 61; (with_reducible refine (HV2.out _).mono ?_); rintro e w1 ⟨rfl, rfl⟩)
      | (go_at_call 74; (with_reducible refine (HD2.out _).mono ?_); rintro e w3 ⟨a2, n2, d2, rfl, z2, B2⟩; have z12 := z1.later B2; have B12 := below_on B1 B2 B1.size)
      | (go_at_call 74; (with_reducible refine (HD1.out _).mono ?_); rintro e w2 ⟨a1, n1, d1, rfl, z1, B1⟩)
      | (go_at_call 87; (with_reducible refine (HO1.out _ _ _ _ _ _ _ z12 z2).mono ?_); rintro e w4 ⟨rfl, B4⟩; have B14 := below_on B12 B4 B12.size)
      | (go_at_call 87; (with_reducible refine (HO2.out _ _ _ _ _ _ _ z2 z12).mono ?_); rintro e w4 ⟨rfl, B4⟩; have B14 := below_on B12 B4 B12.size))
    go_ret
    first | exact ⟨rfl, B14⟩ | exact ⟨rfl, B12⟩

/-- quotient and remainder of numbers with signs -/
theorem ediv_signs (x y : Int) (hy : y ≠ 0) :
    (¬ (x < 0 ∧ 0 < x.natAbs % y.natAbs) → x / y = sg (decide (x < 0) != decide (y < 0)) (x.natAbs / y.natAbs) ∧ x % y = (x.natAbs % y.natAbs : Nat)) ∧
    (x < 0 ∧ 0 < x.natAbs % y.natAbs → x / y = sg (decide (x < 0) != decide (y < 0)) (x.natAbs / y.natAbs + 1) ∧ x % y = (y.natAbs - x.natAbs % y.natAbs : Nat)) := by
  have h1 := Nat.div_add_mod x.natAbs y.natAbs
  have h2 := Nat.mod_lt x.natAbs (show 0 < y.natAbs by omega)
  generalize x.natAbs / y.natAbs = Q at *
  generalize x.natAbs % y.natAbs = R at *
  generalize hn : y.natAbs = N at *
  have hN : 0 < N := by omega
  have key : ∀ q r : Int, r + y * q = x → 0 ≤ r → r < y.natAbs → x / y = q ∧ x % y = r := by
    intro q r h3 h4 h5
    rcases Int.lt_or_le y 0 with hy' | hy'
    · have h6 := (Int.ediv_emod_unique (a := x) (b := -y) (r := r) (q := -q) (by omega)).2 ⟨by rw [Int.neg_mul_neg]; exact h3, h4, by omega⟩
      rw [Int.ediv_neg, Int.emod_neg] at h6
      exact ⟨by omega, h6.2⟩
    · exact (Int.ediv_emod_unique (a := x) (b := y) (r := r) (q := q) (by omega)).2 ⟨h3, h4, by omega⟩
  have e : ((N * Q + R : Nat) : Int) = (N : Int) * (Q : Int) + (R : Int) := by simp
  have e1 : (N : Int) * ((Q + 1 : Nat) : Int) = (N : Int) * (Q : Int) + (N : Int) := by rw [Int.natCast_add, Int.mul_add]; simp
  constructor
  · intro hno
    refine key _ _ ?_ (by omega) (by omega)
    unfold sg
    rcases Int.lt_or_le x 0 with hx | hx <;> rcases Int.lt_or_le y 0 with hy' | hy'
    · rw [decide_eq_true hx, decide_eq_true hy', if_neg (by decide), show y = -(N : Int) by omega, Int.neg_mul]; omega
    · rw [decide_eq_true hx, decide_eq_false (show ¬ y < 0 by omega), if_pos (by decide), show y = (N : Int) by omega, Int.mul_neg]; omega
    · rw [decide_eq_false (show ¬ x < 0 by omega), decide_eq_true hy', if_pos (by decide), show y = -(N : Int) by omega, Int.neg_mul_neg]; omega
    · rw [decide_eq_false (show ¬ x < 0 by omega), decide_eq_false (show ¬ y < 0 by omega), if_neg (by decide), show y = (N : Int) by omega]; omega
  · rintro ⟨hx, hR⟩
    refine key _ _ ?_ (by omega) (by omega)
    unfold sg
    rcases Int.lt_or_le y 0 with hy' | hy'
    · rw [decide_eq_true hx, decide_eq_true hy', if_neg (by decide), show y = -(N : Int) by omega, Int.neg_mul, e1]; omega
    · rw [decide_eq_true hx, decide_eq_false (show ¬ y < 0 by omega), if_pos (by decide), show y = (N : Int) by omega, Int.mul_neg, e1]; omega

end Go.Proofs.YtjkklgpbblkhaaaGreatDoor

/-
  Layer 3, the reference: the greatest common divisor and quotients of integers as strings, walked.
-/
namespace Go.Proofs.YtjkklgpbblkhaaaGreatDoor
open Go.RowKit Bs Ig

theorem rValid_T (x : Int) (hx : x.natAbs < big) (W : World) : Calls Tryz.prog 61 #[.string (bs (Lib.itoa x))] W fun e w' => e = .returned (.bool true) ∧ w' = W := by
  have h := rvalid_rd (bs (Lib.itoa x)) (by rw [bs_size]; have := itoa_len hx; omega) W
  rw [rd_some hx] at h; exact h
theorem D_len0 {n m : Nat} (h : (D n).length = m) : m = 0 ↔ n = 0 := by rw [← h]; exact dgs_len0

set_option maxRecDepth 100000 in
set_option maxHeartbeats 4000000 in
theorem rGcd_T (x y : Int) (hx : x.natAbs < big) (hy : y.natAbs < big) (w : World) :
    Calls Tryz.prog 62 #[.string (bs (Lib.itoa x)), .string (bs (Lib.itoa y))] w fun e w' => e = .returned (.tuple #[.string (bs (Lib.itoa ((Int.gcd x y : Nat) : Int))), .int .i64 0]) ∧ Below w.heap.size w w' := by
  have HV1 := Lib.hid (rValid_T x hx)
  have HV2 := Lib.hid (rValid_T y hy)
  have HD1 := Lib.hid (fun W => digits_T x hx W)
  have HD2 := Lib.hid (fun W => digits_T y hy W)
  obtain ⟨g, hg⟩ : ∃ g, Int.gcd x y = g := ⟨_, rfl⟩
  have hgN : Nat.gcd x.natAbs y.natAbs = g := hg
  have hgb : g < big := by rw [← hg]; exact gcd_big4 hx hy
  have HK := Lib.hid (fun (W : World) a m c (h : IsZ W a m c (zs (D g))) => (show Calls Tryz.prog 75 #[.bool false, .slice a m c] W (fun e w' => e = .returned (.tuple #[.string (bs (Lib.itoa (g : Int))), .int .i64 0]) ∧ Below W.heap.size W w') from by
    have h2 := checked_any false g a m c W h (by have := D_m h hgb; omega)
    rw [show sg false g = (g : Int) from rfl] at h2
    unfold wrS txt err at h2
    rw [if_pos (by rw [Int.natAbs_natCast]; exact hgb), if_pos (by rw [Int.natAbs_natCast]; exact hgb)] at h2
    exact h2))
  obtain ⟨M, hM⟩ := numD
  have HM := Lib.hid hM
  rw [hg]
  have HG := Lib.hid (And.intro hgN (And.intro hx hy))
  obtain ⟨s1, hs1⟩ : ∃ s, decide (x < 0) = s := ⟨_, rfl⟩
  obtain ⟨s2, hs2⟩ : ∃ s, decide (y < 0) = s := ⟨_, rfl⟩
  rw [hs1] at HD1
  rw [hs2] at HD2
  generalize bs (Lib.itoa x) = X at *
  generalize bs (Lib.itoa y) = Y at *
  generalize x.natAbs = ax at *
  generalize y.natAbs = ay at *
  clear hx hy hs1 hs2 hgN hg hM
  go_enter Tryz.func62, Tryz.ntmps62
  go_wp2_with (first
    | (go_at_call 61; (with_reducible refine (HV1.out _).mono ?_); rintro e w1 ⟨rfl, hww⟩; rw [hww]; clear hww w1)
    | (go_at_call 61; (with_reducible refine (HV2.out _).mono ?_); rintro e w1 ⟨rfl, hww⟩; rw [hww]; clear hww w1)
    | (go_at_call 74; (with_reducible refine (HD2.out _).mono ?_); rintro e w3 ⟨a2, n2, d2, rfl, z2, B2⟩; have z12 := z1.later B2; have B12 := below_on B1 B2 B1.size)
    | (go_at_call 74; (with_reducible refine (HD1.out _).mono ?_); rintro e w2 ⟨a1, n1, d1, rfl, z1, B1⟩))
  have HS := Lib.hid (And.intro z12 (And.intro z2 B12))
  clear z12 z2 B12 z1 B1 B2
  go_loopw [7, 9] (fun u v wr => ∃ (p q : Nat) (a : Option Addr) (m c : Nat) (b : Option Addr) (n d : Nat), u = .slice a m c ∧ v = .slice b n d ∧ IsZ wr a m c (zs (D p)) ∧ IsZ wr b n d (zs (D q)) ∧ Nat.gcd p q = g ∧ p < big ∧ q < big ∧ Below w.heap.size w wr) (fun _ v wr => M v wr)
  case atStart => exact ⟨ax, ay, _, _, _, _, _, _, rfl, rfl, HS.out.1, HS.out.2.1, HG.out.1, HG.out.2.1, HG.out.2.2, HS.out.2.2⟩
  case round =>
    obtain ⟨p, q, a, m, c, b, n, d, rfl, rfl, zp, zq, hgc, hp, hq, hw⟩ := hrel
    have hnq := D_len0 (D_len zq)
    have hMq := HM.out _ _ _ _ _ zq
    rcases Nat.eq_zero_or_pos q with h0 | h0
    · obtain rfl : n = 0 := hnq.2 h0
      subst h0
      rw [Nat.gcd_zero_right] at hgc
      subst hgc
      have HZ := Lib.hid zp
      clear hnq zp zq hMq hp hq
      go_wp2_with (go_at_call 75; (with_reducible refine (HK.out _ _ _ _ HZ.out).mono ?_); rintro e w5 ⟨rfl, B5⟩)
      go_ret2
      exact ⟨rfl, below_on hw B5 hw.size⟩
    · have hn0 : 0 < n := by omega
      have f1 : decide (0 < n) = true := decide_eq_true hn0
      have f2 : decide (0 < (n : Int)) = true := decide_eq_true (by omega)
      have HDv := Lib.hid (divided_any a m c b n d p q wr zp zq h0 (by have := D_m zp hp; omega) (by have := D_m zq hq; omega))
      have HZ := Lib.hid zq
      have Hw := Lib.hid hw
      have Hgc := Lib.hid (show Nat.gcd q (p % q) = g by rw [Nat.gcd_comm, ← Nat.gcd_rec, Nat.gcd_comm]; exact hgc)
      have Hlt := Lib.hid (Nat.mod_lt p h0)
      clear hnq zp zq hw hgc
      go_wp2_with (go_at_call 84; (with_reducible refine HDv.out.mono ?_); rintro e w5 ⟨qa, qn, qc, ra, rn, rc, rfl, z5, z6, B5⟩; have Hz6 := Lib.hid z6; have Hz5 := Lib.hid (HZ.out.later B5); clear z5 z6)
      go_roundw
      case rel => exact ⟨q, p % q, _, _, _, _, _, _, rfl, rfl, Hz5.out, Hz6.out, Hgc.out, hq, by have := Hlt.out; omega, below_on Hw.out B5 Hw.out.size⟩
      case measure =>
        have h := HM.out _ _ _ _ _ Hz6.out
        have := Hlt.out
        rw [h, hMq]; omega

set_option maxRecDepth 100000 in
set_option maxHeartbeats 8000000 in
theorem rDiv_T (x y : Int) (hx : x.natAbs < big) (hy : y.natAbs < big) (hy0 : y ≠ 0) (w : World) :
    Calls Tryz.prog 52 #[.string (bs (Lib.itoa x)), .string (bs (Lib.itoa y))] w fun e w' => e = .returned (.tuple #[.string (bs (Lib.itoa (x / y))), .string (bs (Lib.itoa (x % y))), .int .i64 0]) ∧ Below w.heap.size w w' := by
  have HV1 := Lib.hid (rValid_T x hx)
  have HV2 := Lib.hid (rValid_T y hy)
  have HD1 := Lib.hid (fun W => digits_T x hx W)
  have HD2 := Lib.hid (fun W => digits_T y hy W)
  have hq : (x / y).natAbs < big := Nat.lt_of_le_of_lt (Int.natAbs_ediv_le_natAbs x y) hx
  have hr0 : 0 ≤ x % y := Int.emod_nonneg x hy0
  have hr1 : (x % y).natAbs < big := by have := Int.emod_lt x hy0; omega
  have HDv := Lib.hid (fun (W : World) a m c b n d (h1 : IsZ W a m c (zs (D x.natAbs))) (h2 : IsZ W b n d (zs (D y.natAbs))) => divided_any a m c b n d x.natAbs y.natAbs W h1 h2 (by omega) (by have := D_m h1 hx; omega) (by have := D_m h2 hy; omega))
  have hz : ((bs (Lib.itoa y)).toList == [48]) = false := by rw [bs_toList]; exact itoa_zero y hy0
  obtain ⟨hno, hyes⟩ := ediv_signs x y hy0
  have hCk : ∀ (neg : Bool) (n : Nat), x / y = sg neg n → ∀ (W : World) a m c, IsZ W a m c (zs (D n)) → Calls Tryz.prog 75 #[.bool neg, .slice a m c] W (fun e w' => e = .returned (.tuple #[.string (bs (Lib.itoa (x / y))), .int .i64 0]) ∧ Below W.heap.size W w') := by
    intro neg n he W a m c h
    have hb : n < big := by rw [← sg_abs neg n, ← he]; exact hq
    have h2 := checked_any neg n a m c W h (by have := D_m h hb; omega)
    rw [← he] at h2
    unfold wrS txt err at h2
    rw [if_pos hq, if_pos hq] at h2
    exact h2
  have hTx : ∀ (n : Nat), x % y = (n : Int) → ∀ (W : World) a m c, IsZ W a m c (zs (D n)) → Calls Tryz.prog 73 #[.bool false, .slice a m c] W (fun e w' => e = .returned (.tuple #[.string (bs (Lib.itoa (x % y))), .bool true]) ∧ Below W.heap.size W w') := by
    intro n he W a m c h
    have hb : n < big := by omega
    have h2 := text_T false n a m c W h (by have := D_m h hb; omega)
    rw [show sg false n = (n : Int) from rfl, ← he, decide_eq_true hb] at h2
    exact h2
  obtain ⟨s1, hs1⟩ : ∃ s, decide (x < 0) = s := ⟨_, rfl⟩
  obtain ⟨s2, hs2⟩ : ∃ s, decide (y < 0) = s := ⟨_, rfl⟩
  rw [hs1] at HD1
  rw [hs2] at HD2
  rw [hs1, hs2] at hno hyes
  rcases Decidable.em (x < 0 ∧ 0 < x.natAbs % y.natAbs) with hc | hc
  · obtain ⟨e1, e2⟩ := hyes hc
    have h1 : s1 = true := by rw [← hs1]; exact decide_eq_true hc.1
    subst h1
    rw [Bool.true_bne] at e1
    have hRlt := Nat.mod_lt x.natAbs (show 0 < y.natAbs by omega)
    have hQb : x.natAbs / y.natAbs < big := Nat.lt_of_le_of_lt (Nat.div_le_self _ _) hx
    have HCk := Lib.hid (fun W a m c h => hCk _ _ e1 W a m c h)
    have HTx := Lib.hid (fun W a m c h => hTx _ e2 W a m c h)
    have HPl := Lib.hid (fun (W : World) a m c b n d (h1 : IsZ W a m c (zs (D (x.natAbs / y.natAbs)))) (h2 : IsZ W b n d (zs (D 1))) => rplus_any a m c b n d (x.natAbs / y.natAbs) 1 W h1 h2 (by have := D_m h1 hQb; omega) (by have := D_m h2 (Nat.lt_of_lt_of_le (by decide) big5_4); omega))
    have HMi := Lib.hid (fun (W : World) a m c b n d (h1 : IsZ W a m c (zs (D y.natAbs))) (h2 : IsZ W b n d (zs (D (x.natAbs % y.natAbs)))) => rminus_any a m c b n d y.natAbs (x.natAbs % y.natAbs) W h1 h2 (Nat.le_of_lt hRlt) (by have := D_m h1 hy; omega))
    have HRn := Lib.hid (fun (W : World) a m c (h : IsZ W a m c (zs (D (x.natAbs % y.natAbs)))) => (show 0 < m from by have := D_len0 (D_len h); omega))
    have HD1' := Lib.hid (show D 1 = [1] from by rw [D_pos (by omega), show (1 : Nat) / 10 = 0 from rfl, D_zero])
    have HL1 := Lib.hid (fun (W : World) => (show IsZ (W.alloc (.cells #[.int .i64 1] 3)) (some { block := W.heap.size, off := 0 }) 1 1 (zs (D 1)) from by
      have h := (own_lit1 W W.heap.size 1 (Nat.le_refl _)).isZ
      rw [HD1'.out]
      exact h))
    generalize bs (Lib.itoa x) = X at *
    generalize bs (Lib.itoa y) = Y at *
    generalize bs (Lib.itoa (x / y)) = QS at *
    generalize bs (Lib.itoa (x % y)) = RS at *
    clear hx hy hy0 hq hr0 hr1 hno hyes hCk hTx hs1 hs2 hc e1 e2 hRlt hQb
    go_enter Tryz.func52, Tryz.ntmps52
    go_wp2_with (first
      | (go_at_call 61; (with_reducible refine (HV1.out _).mono ?_); rintro e w1 ⟨rfl, hww⟩; rw [hww]; clear hww w1)
      | (go_at_call 61; (with_reducible refine (HV2.out _).mono ?_); rintro e w1 ⟨rfl, hww⟩; rw [hww]; clear hww w1)
      | (go_at_call 74; (with_reducible refine (HD2.out _).mono ?_); rintro e w3 ⟨a2, n2, d2, rfl, z2, B2⟩; have z12 := z1.later B2; have B12 := below_on B1 B2 B1.size)
      | (go_at_call 74; (with_reducible refine (HD1.out _).mono ?_); rintro e w2 ⟨a1, n1, d1, rfl, z1, B1⟩)
      | (go_at_call 84; (with_reducible refine (HDv.out _ _ _ _ _ _ _ z12 z2).mono ?_); rintro e w4 ⟨qa, qn, qc, ra, rn, rc, rfl, zq, zr, B3⟩; have z24 := z2.later B3; have B13 := below_on B12 B3 B12.size; have hrn := HRn.out _ _ _ _ zr; have f1 : decide (0 < rn) = true := decide_eq_true hrn; have f2 : decide (0 < (rn : Int)) = true := decide_eq_true (by omega))
      | (go_at_call 85; go_loud ((with_reducible refine (HPl.out _ _ _ _ _ _ _ (zq.later ((Below.refl _ _).alloc (Nat.le_refl _) _)) (HL1.out _)).mono ?_); rintro e w5 ⟨pa, pn, pc, rfl, zp, B4⟩; (have B4' := ((Below.refl _ w4).alloc (Nat.le_refl _) (.cells #[.int .i64 1] 3)).trans (B4.mono (by simp)); have zr5 := zr.later B4'; have z25 := z24.later B4'; have B14 := below_on B13 B4' B13.size)))
      | (go_at_call 86; (with_reducible refine (HMi.out _ _ _ _ _ _ _ z25 zr5).mono ?_); rintro e w6 ⟨ma, mn, mc, rfl, zm, B5⟩; have zp6 := zp.later B5; have B15 := below_on B14 B5 B14.size)
      | (go_at_call 75; (with_reducible refine (HCk.out _ _ _ _ zp6).mono ?_); rintro e w7 ⟨rfl, B6⟩; have zm7 := zm.later B6; have B16 := below_on B15 B6 B15.size)
      | (go_at_call 73; (with_reducible refine (HTx.out _ _ _ _ zm7).mono ?_); rintro e w8 ⟨rfl, B7⟩; have B17 := below_on B16 B7 B16.size))
    exact bodyPost_ret (results_tmp3 rfl _ _ _) rfl ⟨rfl, B17⟩
  · obtain ⟨e1, e2⟩ := hno hc
    have HCk := Lib.hid (fun W a m c h => hCk _ _ e1 W a m c h)
    have HTx := Lib.hid (fun W a m c h => hTx _ e2 W a m c h)
    have HRn := Lib.hid (fun (W : World) a m c (h : IsZ W a m c (zs (D (x.natAbs % y.natAbs)))) => (show s1 = true → m = 0 from fun h1 => by
      have h2 : x < 0 := of_decide_eq_true (hs1.trans h1)
      have h3 := D_len0 (D_len h)
      have h4 : x.natAbs % y.natAbs = 0 := by
        rcases Nat.eq_zero_or_pos (x.natAbs % y.natAbs) with h5 | h5
        · exact h5
        · exact (hc ⟨h2, h5⟩).elim
      omega))
    generalize bs (Lib.itoa x) = X at *
    generalize bs (Lib.itoa y) = Y at *
    generalize bs (Lib.itoa (x / y)) = QS at *
    generalize bs (Lib.itoa (x % y)) = RS at *
    clear hx hy hy0 hq hr0 hr1 hno hyes hCk hTx hs1 hs2 hc e1 e2
    cases s1 with
    | false =>
      simp only [Bool.true_bne, Bool.false_bne] at HCk
      clear HRn
      go_enter Tryz.func52, Tryz.ntmps52
      go_wp2_with (first
        | (go_at_call 61; (with_reducible refine (HV1.out _).mono ?_); rintro e w1 ⟨rfl, hww⟩; rw [hww]; clear hww w1)
        | (go_at_call 61; (with_reducible refine (HV2.out _).mono ?_); rintro e w1 ⟨rfl, hww⟩; rw [hww]; clear hww w1)
        | (go_at_call 74; (with_reducible refine (HD2.out _).mono ?_); rintro e w3 ⟨a2, n2, d2, rfl, z2, B2⟩; have z12 := z1.later B2; have B12 := below_on B1 B2 B1.size)
        | (go_at_call 74; (with_reducible refine (HD1.out _).mono ?_); rintro e w2 ⟨a1, n1, d1, rfl, z1, B1⟩)
        | (go_at_call 84; (with_reducible refine (HDv.out _ _ _ _ _ _ _ z12 z2).mono ?_); rintro e w4 ⟨qa, qn, qc, ra, rn, rc, rfl, zq, zr, B3⟩; have B13 := below_on B12 B3 B12.size)
        | (go_at_call 75; (with_reducible refine (HCk.out _ _ _ _ zq).mono ?_); rintro e w7 ⟨rfl, B6⟩; have zr7 := zr.later B6; have B16 := below_on B13 B6 B13.size)
        | (go_at_call 73; (with_reducible refine (HTx.out _ _ _ _ zr7).mono ?_); rintro e w8 ⟨rfl, B7⟩; have B17 := below_on B16 B7 B16.size))
      exact bodyPost_ret (results_tmp3 rfl _ _ _) rfl ⟨rfl, B17⟩
    | true =>
      have HRn := Lib.hid (fun W a m c h => HRn.out W a m c h rfl)
      simp only [Bool.true_bne, Bool.false_bne] at HCk
      go_enter Tryz.func52, Tryz.ntmps52
      go_wp2_with (first
        | (go_at_call 61; (with_reducible refine (HV1.out _).mono ?_); rintro e w1 ⟨rfl, hww⟩; rw [hww]; clear hww w1)
        | (go_at_call 61; (with_reducible refine (HV2.out _).mono ?_); rintro e w1 ⟨rfl, hww⟩; rw [hww]; clear hww w1)
        | (go_at_call 74; (with_reducible refine (HD2.out _).mono ?_); rintro e w3 ⟨a2, n2, d2, rfl, z2, B2⟩; have z12 := z1.later B2; have B12 := below_on B1 B2 B1.size)
        | (go_at_call 74; (with_reducible refine (HD1.out _).mono ?_); rintro e w2 ⟨a1, n1, d1, rfl, z1, B1⟩)
        | (go_at_call 84; (with_reducible refine (HDv.out _ _ _ _ _ _ _ z12 z2).mono ?_); rintro e w4 ⟨qa, qn, qc, ra, rn, rc, rfl, zq, zr, B3⟩; have B13 := below_on B12 B3 B12.size; go_loud (have hrn0 : rn = 0 := HRn.out _ _ _ _ zr trivial; subst hrn0))
        | (go_at_call 75; (with_reducible refine (HCk.out _ _ _ _ zq).mono ?_); rintro e w7 ⟨rfl, B6⟩; have zr7 := zr.later B6; have B16 := below_on B13 B6 B13.size)
        | (go_at_call 73; (with_reducible refine (HTx.out _ _ _ _ zr7).mono ?_); rintro e w8 ⟨rfl, B7⟩; have B17 := below_on B16 B7 B16.size))
      exact bodyPost_ret (results_tmp3 rfl _ _ _) rfl ⟨rfl, B17⟩

end Go.Proofs.YtjkklgpbblkhaaaGreatDoor

/-
  Layer 4, the reference: Make, with a positive denominator.
-/
namespace Go.Proofs.YtjkklgpbblkhaaaGreatDoor
open Go.RowKit Bs Ig Qq

set_option maxRecDepth 100000 in
set_option maxHeartbeats 8000000 in
theorem rMake_T (n d : Int) (hn : n.natAbs < big) (hd : d.natAbs < big) (h0 : 0 < d) (w : World) :
    Answers 28 #[.string (T n), .string (T d)] (okA (red n d)) w := by
  have hg := gcd_pos (n := n) (d := d) (by omega)
  have hgb : ((Int.gcd n d : Nat) : Int).natAbs < big := by rw [gcd_natAbs]; exact gcd_big4 hn hd
  have HV1 := Lib.hid (rValid_T n hn)
  have HV2 := Lib.hid (rValid_T d hd)
  have hc := rCompare_T d 0 hd zero_bigQ
  rw [cmpZ_pos h0, show bs (Lib.itoa 0) = (⟨#[48]⟩ : ByteArray) from T0] at hc
  have HC := Lib.hid hc
  have HG := Lib.hid (rGcd_T n d hn hd)
  have HD1 := Lib.hid (rDiv_T n (Int.gcd n d : Nat) hn hgb (by omega))
  have HD2 := Lib.hid (rDiv_T d (Int.gcd n d : Nat) hd hgb (by omega))
  have hz : ((bs (Lib.itoa d)).toList == [48]) = false := by rw [bs_toList]; exact itoa_zero d (by omega)
  obtain ⟨hB, r1⟩ := box0 w
  have HA := Lib.hid (And.intro hB r1)
  have hr : red n d = (n / (Int.gcd n d : Nat), d / (Int.gcd n d : Nat)) := by unfold red; rw [if_neg (by omega)]
  unfold Answers okA
  rw [hr]
  simp only
  unfold T
  generalize bs (Lib.itoa n) = X at *
  generalize bs (Lib.itoa d) = Y at *
  generalize bs (Lib.itoa (Int.gcd n d : Nat)) = G at *
  generalize bs (Lib.itoa (n / (Int.gcd n d : Nat))) = R1 at *
  generalize bs (Lib.itoa (d / (Int.gcd n d : Nat))) = R2 at *
  generalize bs (Lib.itoa (n % (Int.gcd n d : Nat))) = R3 at *
  generalize bs (Lib.itoa (d % (Int.gcd n d : Nat))) = R4 at *
  clear hn hd h0 hg hgb hc hr hB r1
  go_enter Tryz.func28, Tryz.ntmps28
  go_wp2_with (first
    | (go_at_call 61; (with_reducible refine (HV1.out _).mono ?_); rintro e w1 ⟨rfl, hww⟩; rw [hww]; clear hww w1)
    | (go_at_call 61; (with_reducible refine (HV2.out _).mono ?_); rintro e w1 ⟨rfl, hww⟩; rw [hww]; clear hww w1)
    | (go_at_call 53; (with_reducible refine (HC.out _).mono ?_); rintro e w3 ⟨rfl, B3⟩; have b3 := below_on HA.out.1 B3 HA.out.1.size; have r3 := HA.out.2.later B3 HA.out.2.lt)
    | (go_at_call 62; (with_reducible refine (HG.out _).mono ?_); rintro e w4 ⟨rfl, B4⟩; have b4 := below_on b3 B4 b3.size; have r4 := r3.later B4 r3.lt)
    | (go_at_call 52; (with_reducible refine (HD2.out _).mono ?_); rintro e w6 ⟨rfl, B6⟩; have b6 := below_on b5 B6 b5.size; have u2 := r5.later B6 r5.lt; have g1 := u2.f0; have g2 := u2.f1; have g3 := u2.c0; have g4 := u2.c1)
    | (go_at_call 52; (with_reducible refine (HD1.out _).mono ?_); rintro e w5 ⟨rfl, B5⟩; have b5 := below_on b4 B5 b4.size; have r5 := r4.later B5 r4.lt))
  exact bodyPost_ret (results_row_tmp rfl _ _ w.heap.size 23 #[.string R1, .string R2] _ _ rfl (two_strs u2 R1 R2) Tryz.underlying23 rfl (by kernel_rfl)) rfl ⟨rfl, fin1 u2 b6 (by omega) _ _⟩

end Go.Proofs.YtjkklgpbblkhaaaGreatDoor

/-
  Layer 4, the reference: the fractions of up to 100 digits that four integers determine.
-/
namespace Go.Proofs.YtjkklgpbblkhaaaGreatDoor
open Go.RowKit Bs Ig Qq

set_option maxRecDepth 100000 in
set_option maxHeartbeats 4000000 in
theorem rpick4_det (c : Int) (h0 : -9223372036854775808 ≤ c) (h1 : c ≤ 9223372036854775807) (m : Nat) (M : Int) (hM : M = (m : Int)) (hm : 0 < m) :
    ∃ k : Nat, k < m ∧ ∀ w, Calls Tryz.prog 46 #[.int .i64 c, .int .i64 M] w fun e w' => e = .returned (.int .i64 (k : Int)) ∧ w' = w := by
  subst hM
  have hm0 : ((m : Int) == 0) = false := beq_false_of_ne (by omega)
  have hm1 : decide ((m : Int) = 0) = false := decide_eq_false (by omega)
  rcases Int.lt_or_le c 0 with h | h
  · obtain ⟨d, he⟩ : ∃ d : Nat, -(c + 1) = (d : Int) := ⟨(-(c + 1)).toNat, by omega⟩
    have hd : decide (c < 0) = true := decide_eq_true h
    have ht : (d : Int).tmod (m : Int) = ((d % m : Nat) : Int) := (Int.ofNat_tmod d m).symm
    have hlt := Nat.mod_lt d hm
    obtain ⟨k, hk⟩ : ∃ k, d % m = k := ⟨_, rfl⟩
    rw [hk] at ht hlt
    clear hk
    refine ⟨k, hlt, fun w => ?_⟩
    go_enter Tryz.func46, Tryz.ntmps46
    go_wp2_with fail
    go_ret
    exact ⟨rfl, rfl⟩
  · obtain ⟨d, rfl⟩ : ∃ d : Nat, c = (d : Int) := ⟨c.toNat, by omega⟩
    have ht : (d : Int).tmod (m : Int) = ((d % m : Nat) : Int) := (Int.ofNat_tmod d m).symm
    have hlt := Nat.mod_lt d hm
    obtain ⟨k, hk⟩ : ∃ k, d % m = k := ⟨_, rfl⟩
    rw [hk] at ht hlt
    clear hk h
    refine ⟨k, hlt, fun w => ?_⟩
    go_enter Tryz.func46, Tryz.ntmps46
    go_wp2_with fail
    go_ret
    exact ⟨rfl, rfl⟩
theorem rpick4_any (c : Int) (h0 : -9223372036854775808 ≤ c) (h1 : c ≤ 9223372036854775807) (m : Nat) (M : Int) (hM : M = (m : Int)) (hm : 0 < m) (w : World) :
    Calls Tryz.prog 46 #[.int .i64 c, .int .i64 M] w fun e w' => ∃ k : Nat, k < m ∧ e = .returned (.int .i64 (k : Int)) ∧ w' = w := by
  obtain ⟨k, hk, h⟩ := rpick4_det c h0 h1 m M hM hm
  refine (h w).mono ?_
  rintro e w' ⟨h1, h2⟩
  exact ⟨k, hk, h1, h2⟩

def szOf : Value → Nat | .string s => s.size | _ => 0
/-- the boxes of the function: its four integers, its result, its two strings -/
structure Lst (w : World) (x0 x1 x2 x3 : Int) (A B : ByteArray) (W : World) : Prop where
  below : Below w.heap.size w W
  b4 : W.heap[w.heap.size]? = some (.cells #[.int .i64 x0, .int .i64 x1, .int .i64 x2, .int .i64 x3] 24 (0, 0))
  ra : IsB W (w.heap.size + 1) ⟨#[]⟩ ⟨#[]⟩
  ar : W.heap[w.heap.size + 1 + 1]? = some (.cells #[.string A, .string B] 64 (0, 0))
section
variable {w W W' : World} {x0 x1 x2 x3 : Int} {A B : ByteArray} (h : Lst w x0 x1 x2 x3 A B W)
include h
theorem Lst.lt : w.heap.size + 1 + 1 < W.heap.size := (Array.getElem?_eq_some_iff.1 h.ar).1
theorem Lst.step (hb : Below W.heap.size W W') : Lst w x0 x1 x2 x3 A B W' := by
  have := h.lt
  exact ⟨below_on h.below hb h.below.size, (hb.block _ (by omega)).trans h.b4, h.ra.later hb h.ra.lt, (hb.block _ (by omega)).trans h.ar⟩
theorem Lst.c0 : W.cell? ⟨w.heap.size, 0, none⟩ = some (.int .i64 x0) := by rw [cell_of_row _ _ 0 _ _ _ h.b4]; rfl
theorem Lst.c1 : W.cell? ⟨w.heap.size, 1, none⟩ = some (.int .i64 x1) := by rw [cell_of_row _ _ 1 _ _ _ h.b4]; rfl
theorem Lst.c2 : W.cell? ⟨w.heap.size, 2, none⟩ = some (.int .i64 x2) := by rw [cell_of_row _ _ 2 _ _ _ h.b4]; rfl
theorem Lst.c3 : W.cell? ⟨w.heap.size, 3, none⟩ = some (.int .i64 x3) := by rw [cell_of_row _ _ 3 _ _ _ h.b4]; rfl
theorem Lst.a0 : W.cell? ⟨w.heap.size + 1 + 1, 0, none⟩ = some (.string A) := by rw [cell_of_row _ _ 0 _ _ _ h.ar]; rfl
theorem Lst.a1 : W.cell? ⟨w.heap.size + 1 + 1, 1, none⟩ = some (.string B) := by rw [cell_of_row _ _ 1 _ _ _ h.ar]; rfl
theorem Lst.f0 : W.frozen? ⟨w.heap.size + 1 + 1, 0, none⟩ = false := frozen_of_row _ _ 0 _ _ h.ar
theorem Lst.f1 : W.frozen? ⟨w.heap.size + 1 + 1, 1, none⟩ = false := frozen_of_row _ _ 1 _ _ h.ar
theorem Lst.put0 (C : ByteArray) : Lst w x0 x1 x2 x3 C B (W.setCell ⟨w.heap.size + 1 + 1, 0, none⟩ (.string C)) :=
  ⟨h.below.setCell (p := ⟨w.heap.size + 1 + 1, 0, none⟩) (show w.heap.size ≤ w.heap.size + 1 + 1 by omega) _, (heap_setCell_other _ _ _ _ (by show w.heap.size ≠ w.heap.size + 1 + 1; omega)).trans h.b4,
    (heap_setCell_other _ _ _ _ (by show w.heap.size + 1 ≠ w.heap.size + 1 + 1; omega)).trans h.ra, heap_setCell_same _ _ 0 _ _ (.string C) h.ar⟩
theorem Lst.put1 (C : ByteArray) : Lst w x0 x1 x2 x3 A C (W.setCell ⟨w.heap.size + 1 + 1, 1, none⟩ (.string C)) :=
  ⟨h.below.setCell (p := ⟨w.heap.size + 1 + 1, 1, none⟩) (show w.heap.size ≤ w.heap.size + 1 + 1 by omega) _, (heap_setCell_other _ _ _ _ (by show w.heap.size ≠ w.heap.size + 1 + 1; omega)).trans h.b4,
    (heap_setCell_other _ _ _ _ (by show w.heap.size + 1 ≠ w.heap.size + 1 + 1; omega)).trans h.ra, heap_setCell_same _ _ 1 _ _ (.string C) h.ar⟩
end
theorem Lst.start (w : World) (x0 x1 x2 x3 : Int) : Lst w x0 x1 x2 x3 ⟨#[]⟩ ⟨#[]⟩ (((w.alloc (.cells #[.int .i64 x0, .int .i64 x1, .int .i64 x2, .int .i64 x3] 24)).alloc (.cells #[.string ⟨#[]⟩, .string ⟨#[]⟩] 23)).alloc (.cells #[.string ⟨#[]⟩, .string ⟨#[]⟩] 64)) := by
  refine ⟨(((Below.refl _ w).alloc (Nat.le_refl _) _).alloc (by simp) _).alloc (by simp; omega) _, ?_, ?_, ?_⟩
  · rw [heap_alloc_old _ _ (by simp; omega), heap_alloc_old _ _ (by simp)]; exact heap_alloc_new _ _
  · exact IsB.alloc (IsB.new' _ _ _ _ (by simp)) _
  · have h := heap_alloc_new ((w.alloc (.cells #[.int .i64 x0, .int .i64 x1, .int .i64 x2, .int .i64 x3] 24)).alloc (.cells #[.string ⟨#[]⟩, .string ⟨#[]⟩] 23)) (.cells #[.string ⟨#[]⟩, .string ⟨#[]⟩] 64)
    rw [show ((w.alloc (.cells #[.int .i64 x0, .int .i64 x1, .int .i64 x2, .int .i64 x3] 24)).alloc (.cells #[.string ⟨#[]⟩, .string ⟨#[]⟩] 23)).heap.size = w.heap.size + 1 + 1 by simp] at h
    exact h

/-- digits without zeros in front are a numeral -/
theorem digs_T {l : List UInt8} (h : ∀ c ∈ l, isDig c) (hl : l ≠ []) (h0 : l.length = 1 ∨ l.head? ≠ some 48) : bs l = T ((num l : Nat) : Int) := by
  unfold T
  rw [itoa_nat]
  congr 1
  match l, hl with
  | [c], _ =>
    have hc := h c (List.mem_cons_self ..)
    have e : num [c] = c.toNat - 48 := by show 0 * 10 + (c.toNat - 48) = _; omega
    rw [e, dec_small (by have := hc.2; omega)]
    congr 1
    exact (byte_ext (by rw [dig_toNat (by have := hc.2; omega)]; have := hc.1; omega)).symm
  | c :: d :: r, _ =>
    refine (dec_num _ h c (d :: r) rfl ?_).symm
    have hc := h c (List.mem_cons_self ..)
    rcases h0 with h0 | h0
    · simp at h0
    · have : c.toNat ≠ 48 := fun e => h0 (by rw [List.head?_cons, byte_ext (c := c) (d := 48) (by rw [e]; rfl)])
      have := hc.1
      omega

theorem T_neg {a : Nat} (h : 0 < a) : T (-(a : Int)) = ⟨#[45]⟩ ++ T (a : Int) := by
  unfold T
  rw [show (⟨#[45]⟩ : ByteArray) = bs [45] from rfl, bs_append, itoa_nat]
  congr 1
  unfold Lib.itoa
  rw [if_pos (by omega)]
  simp
theorem T_zero_no {z : Int} (h : z ≠ 0) : ((T z).toList == [48]) = false := by unfold T; rw [bs_toList]; exact itoa_zero z h
theorem T7 : (⟨#[55]⟩ : ByteArray) = T 7 := by
  unfold T; rw [show Lib.itoa 7 = [55] from by rw [show (7 : Int) = ((7 : Nat) : Int) from rfl, itoa_nat, dec_small (by omega)]; rfl]; rfl

end Go.Proofs.YtjkklgpbblkhaaaGreatDoor
