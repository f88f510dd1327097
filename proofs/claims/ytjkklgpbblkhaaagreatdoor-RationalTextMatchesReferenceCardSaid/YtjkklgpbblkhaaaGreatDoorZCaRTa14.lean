/-
  Put together by program out of these texts, in this order: Rsu, Rny, Qbu, Qst.
-/
import Derived.Test.YtjkklgpbblkhaaaGreatDoorZCaRTa13
import Derived.Test.YtjkklgpbblkhaaaGreatDoorZCaRTa08
import Derived.Laws.ResultCell
import Derived.Laws.EntriesVeiled

/-
  Layer 3, the reference: sums and differences at numerals of integers.
-/
namespace Go.Proofs.YtjkklgpbblkhaaaGreatDoor
open Go.RowKit Bs Ig

theorem cmp_ge0 {m n : Nat} : (0 ≤ cmp m n) ↔ n ≤ m := by
  unfold cmp
  rcases Nat.lt_trichotomy m n with h | h | h
  · rw [if_pos h]; omega
  · rw [if_neg (by omega), if_neg (by omega)]; omega
  · rw [if_neg (by omega), if_pos h]; omega
theorem D_sum {m n : Nat} (hm : m < big) (hn : n < big) {W : World} {a : Option Addr} {k c : Nat} (h : IsZ W a k c (zs (D (m + n)))) : k ≤ 100000 := by
  have h1 := D_len h
  have h2 : m + n < 10 ^ 201 := by
    have h3 : m + n < big + big := by omega
    have h4 : big + big ≤ 10 * big := by omega
    have h5 : 10 * big = 10 ^ 201 := by show 10 * 10 ^ 200 = 10 ^ 201; rw [Nat.pow_succ 10 200, Nat.mul_comm]
    omega
  have h3 := dgs_length_le 8 201 _ h2
  have h4 : (D (m + n)).length ≤ 201 := h3
  omega
theorem sg_same (s : Bool) (m n : Nat) : sg s m + sg s n = sg s (m + n) := by cases s <;> simp [sg] <;> omega
theorem sg_over (s t : Bool) (m n : Nat) (h : s ≠ t) (hmn : n ≤ m) : sg s m + sg t n = sg s (m - n) := by cases s <;> cases t <;> simp [sg] at h ⊢ <;> omega
theorem sg_under (s t : Bool) (m n : Nat) (h : s ≠ t) (hmn : m < n) : sg s m + sg t n = sg t (n - m) := by cases s <;> cases t <;> simp [sg] at h ⊢ <;> omega

set_option maxRecDepth 100000 in
set_option maxHeartbeats 8000000 in
theorem rsum_any (s t : Bool) (m n : Nat) (hm : m < big) (hn : n < big) (a : Option Addr) (k c : Nat) (b : Option Addr) (l d : Nat) (w : World) (h1 : IsZ w a k c (zs (D m))) (h2 : IsZ w b l d (zs (D n))) :
    Calls Tryz.prog 77 #[.bool s, .slice a k c, .bool t, .slice b l d] w fun e w' => e = .returned (.tuple #[.string (wrS (sg s m + sg t n)).1, .int .i64 (wrS (sg s m + sg t n)).2]) ∧ Below w.heap.size w w' := by
  have hk := D_m h1 hm
  have hl := D_m h2 hn
  have HP := Lib.hid (rplus_any a k c b l d m n w h1 h2 (by omega) (by omega))
  have HO := Lib.hid (order_any a k c b l d m n w h1 h2 (by omega) (by omega))
  have HM1 := Lib.hid (fun (W : World) (hb : Below w.heap.size w W) (h : n ≤ m) => rminus_any a k c b l d m n W (h1.later hb) (h2.later hb) h (by omega))
  have HM2 := Lib.hid (fun (W : World) (hb : Below w.heap.size w W) (h : m ≤ n) => rminus_any b l d a k c n m W (h2.later hb) (h1.later hb) h (by omega))
  by_cases hst : s = t
  · subst hst
    have HC := Lib.hid (fun (W : World) a k c (h : IsZ W a k c (zs (D (m + n)))) => checked_any s (m + n) a k c W h (D_sum hm hn h))
    rw [sg_same]
    obtain ⟨Z, E, hZ⟩ : ∃ Z E, wrS (sg s (m + n)) = (Z, E) := ⟨_, _, rfl⟩
    rw [hZ] at HC ⊢
    simp only at HC ⊢
    clear hZ hm hn h1 h2 HM1 HM2 HO
    have e1 : (s == s) = true := by cases s <;> rfl
    go_enter Tryz.func77, Tryz.ntmps77
    go_wp2_with (first
      | (go_at_call 85; (with_reducible refine HP.out.mono ?_); rintro e w1 ⟨a', n', c', rfl, z, B1⟩)
      | (go_at_call 75; (with_reducible refine (HC.out _ _ _ _ z).mono ?_); rintro e w2 ⟨rfl, B2⟩; have B12 := below_on B1 B2 B1.size))
    exact bodyPost_ret (results_tmp2 rfl _ _ _) rfl ⟨rfl, B12⟩
  · have e1 : (s == t) = false := by cases s <;> cases t <;> simp at hst ⊢
    rcases Nat.lt_or_ge m n with h | h
    · rw [sg_under s t m n hst h]
      have HC := Lib.hid (fun (W : World) a k c (hz : IsZ W a k c (zs (D (n - m)))) => checked_any t (n - m) a k c W hz (by have := D_m hz (by omega); omega))
      have HM2 := Lib.hid (fun W hb => HM2.out W hb (by omega))
      obtain ⟨Z, E, hZ⟩ : ∃ Z E, wrS (sg t (n - m)) = (Z, E) := ⟨_, _, rfl⟩
      rw [hZ] at HC ⊢
      simp only at HC ⊢
      obtain ⟨C, hC⟩ : ∃ C, cmp m n = C := ⟨_, rfl⟩
      have e2 : decide (0 ≤ C) = false := decide_eq_false (by rw [← hC, cmp_ge0]; omega)
      have e3 : ¬ 0 ≤ C := by rw [← hC, cmp_ge0]; omega
      rw [hC] at HO
      clear hZ hm hn h1 h2 HM1 HP hst hC h
      go_enter Tryz.func77, Tryz.ntmps77
      go_wp2_with (first
        | (go_at_call 87; (with_reducible refine HO.out.mono ?_); rintro e w0 ⟨rfl, B0⟩)
        | (go_at_call 86; (with_reducible refine (HM2.out _ B0).mono ?_); rintro e w1 ⟨a', n', c', rfl, z, B1⟩; have B01 := below_on B0 B1 B0.size)
        | (go_at_call 75; (with_reducible refine (HC.out _ _ _ _ z).mono ?_); rintro e w2 ⟨rfl, B2⟩; have B12 := below_on B01 B2 B01.size))
      exact bodyPost_ret (results_tmp2 rfl _ _ _) rfl ⟨rfl, B12⟩
    · rw [sg_over s t m n hst h]
      have HC := Lib.hid (fun (W : World) a k c (hz : IsZ W a k c (zs (D (m - n)))) => checked_any s (m - n) a k c W hz (by have := D_m hz (by omega); omega))
      have HM1 := Lib.hid (fun W hb => HM1.out W hb h)
      obtain ⟨Z, E, hZ⟩ : ∃ Z E, wrS (sg s (m - n)) = (Z, E) := ⟨_, _, rfl⟩
      rw [hZ] at HC ⊢
      simp only at HC ⊢
      obtain ⟨C, hC⟩ : ∃ C, cmp m n = C := ⟨_, rfl⟩
      have e2 : decide (0 ≤ C) = true := decide_eq_true (by rw [← hC, cmp_ge0]; omega)
      have e3 : 0 ≤ C := by rw [← hC, cmp_ge0]; omega
      rw [hC] at HO
      clear hZ hm hn h1 h2 HM2 HP hst hC h
      go_enter Tryz.func77, Tryz.ntmps77
      go_wp2_with (first
        | (go_at_call 87; (with_reducible refine HO.out.mono ?_); rintro e w0 ⟨rfl, B0⟩)
        | (go_at_call 86; (with_reducible refine (HM1.out _ B0).mono ?_); rintro e w1 ⟨a', n', c', rfl, z, B1⟩; have B01 := below_on B0 B1 B0.size)
        | (go_at_call 75; (with_reducible refine (HC.out _ _ _ _ z).mono ?_); rintro e w2 ⟨rfl, B2⟩; have B12 := below_on B01 B2 B01.size))
      exact bodyPost_ret (results_tmp2 rfl _ _ _) rfl ⟨rfl, B12⟩

theorem sg_abs' (x : Int) : sg (decide (x < 0)) x.natAbs = x := by
  unfold sg
  rcases Int.lt_or_le x 0 with h | h
  · rw [decide_eq_true h, if_pos rfl]; omega
  · rw [decide_eq_false (by omega), if_neg (by decide)]; omega
theorem sg_not (x : Int) : sg (!decide (x < 0)) x.natAbs = -x := by
  unfold sg
  rcases Int.lt_or_le x 0 with h | h
  · rw [decide_eq_true h, if_neg (by decide)]; omega
  · rw [decide_eq_false (by omega), if_pos (by decide)]; omega

set_option maxRecDepth 100000 in
set_option maxHeartbeats 4000000 in
theorem rAdd_T (x y : Int) (hx : x.natAbs < big) (hy : y.natAbs < big) (w : World) :
    Calls Tryz.prog 48 #[.string (bs (Lib.itoa x)), .string (bs (Lib.itoa y))] w fun e w' => e = .returned (.tuple #[.string (wrS (x + y)).1, .int .i64 (wrS (x + y)).2]) ∧ Below w.heap.size w w' := by
  have HV1 := Lib.hid (rValid_T x hx)
  have HV2 := Lib.hid (rValid_T y hy)
  have HD1 := Lib.hid (fun W => digits_T x hx W)
  have HD2 := Lib.hid (fun W => digits_T y hy W)
  have hS : ∀ (W : World) a k c b l d, IsZ W a k c (zs (D x.natAbs)) → IsZ W b l d (zs (D y.natAbs)) → Calls Tryz.prog 77 #[.bool (decide (x < 0)), .slice a k c, .bool (decide (y < 0)), .slice b l d] W fun e w' => e = .returned (.tuple #[.string (wrS (x + y)).1, .int .i64 (wrS (x + y)).2]) ∧ Below W.heap.size W w' := by
    intro W a k c b l d h1 h2
    have h := rsum_any (decide (x < 0)) (decide (y < 0)) x.natAbs y.natAbs hx hy a k c b l d W h1 h2
    rw [sg_abs', sg_abs'] at h
    exact h
  obtain ⟨s1, hs1⟩ : ∃ s, decide (x < 0) = s := ⟨_, rfl⟩
  obtain ⟨s2, hs2⟩ : ∃ s, decide (y < 0) = s := ⟨_, rfl⟩
  rw [hs1] at HD1 hS
  rw [hs2] at HD2 hS
  obtain ⟨Z, E, hZ⟩ : ∃ Z E, wrS (x + y) = (Z, E) := ⟨_, _, rfl⟩
  rw [hZ] at hS ⊢
  simp only at hS ⊢
  have HS := Lib.hid hS
  generalize bs (Lib.itoa x) = X at *
  generalize bs (Lib.itoa y) = Y at *
  clear hx hy hs1 hs2 hS hZ
  go_enter Tryz.func48, Tryz.ntmps48
  go_wp2_with (first
    | (go_at_call 61; (with_reducible refine (HV1.out _).mono ?_); rintro e w1 ⟨rfl, hww⟩; rw [hww]; clear hww w1)
    | (go_at_call 61; (with_reducible refine (HV2.out _).mono ?_); rintro e w1 ⟨rfl, hww⟩; rw [hww]; clear hww w1)
    | (go_at_call 74; (with_reducible refine (HD2.out _).mono ?_); rintro e w3 ⟨a2, n2, d2, rfl, z2, B2⟩; have z12 := z1.later B2; have B12 := below_on B1 B2 B1.size)
    | (go_at_call 74; (with_reducible refine (HD1.out _).mono ?_); rintro e w2 ⟨a1, n1, d1, rfl, z1, B1⟩)
    | (go_at_call 77; (with_reducible refine (HS.out _ _ _ _ _ _ _ z12 z2).mono ?_); rintro e w5 ⟨rfl, B4⟩; have B14 := below_on B12 B4 B12.size))
  exact bodyPost_ret (results_tmp2 rfl _ _ _) rfl ⟨rfl, B14⟩

set_option maxRecDepth 100000 in
set_option maxHeartbeats 4000000 in
theorem rSub_T (x y : Int) (hx : x.natAbs < big) (hy : y.natAbs < big) (w : World) :
    Calls Tryz.prog 49 #[.string (bs (Lib.itoa x)), .string (bs (Lib.itoa y))] w fun e w' => e = .returned (.tuple #[.string (wrS (x - y)).1, .int .i64 (wrS (x - y)).2]) ∧ Below w.heap.size w w' := by
  have HV1 := Lib.hid (rValid_T x hx)
  have HV2 := Lib.hid (rValid_T y hy)
  have HD1 := Lib.hid (fun W => digits_T x hx W)
  have HD2 := Lib.hid (fun W => digits_T y hy W)
  have hS : ∀ (W : World) a k c b l d, IsZ W a k c (zs (D x.natAbs)) → IsZ W b l d (zs (D y.natAbs)) → Calls Tryz.prog 77 #[.bool (decide (x < 0)), .slice a k c, .bool (!decide (y < 0)), .slice b l d] W fun e w' => e = .returned (.tuple #[.string (wrS (x - y)).1, .int .i64 (wrS (x - y)).2]) ∧ Below W.heap.size W w' := by
    intro W a k c b l d h1 h2
    have h := rsum_any (decide (x < 0)) (!decide (y < 0)) x.natAbs y.natAbs hx hy a k c b l d W h1 h2
    rw [sg_abs', sg_not, show x + -y = x - y by omega] at h
    exact h
  obtain ⟨s1, hs1⟩ : ∃ s, decide (x < 0) = s := ⟨_, rfl⟩
  obtain ⟨s2, hs2⟩ : ∃ s, decide (y < 0) = s := ⟨_, rfl⟩
  rw [hs1] at HD1 hS
  rw [hs2] at HD2 hS
  obtain ⟨Z, E, hZ⟩ : ∃ Z E, wrS (x - y) = (Z, E) := ⟨_, _, rfl⟩
  rw [hZ] at hS ⊢
  simp only at hS ⊢
  have HS := Lib.hid hS
  generalize bs (Lib.itoa x) = X at *
  generalize bs (Lib.itoa y) = Y at *
  clear hx hy hs1 hs2 hS hZ
  go_enter Tryz.func49, Tryz.ntmps49
  go_wp2_with (first
    | (go_at_call 61; (with_reducible refine (HV1.out _).mono ?_); rintro e w1 ⟨rfl, hww⟩; rw [hww]; clear hww w1)
    | (go_at_call 61; (with_reducible refine (HV2.out _).mono ?_); rintro e w1 ⟨rfl, hww⟩; rw [hww]; clear hww w1)
    | (go_at_call 74; (with_reducible refine (HD2.out _).mono ?_); rintro e w3 ⟨a2, n2, d2, rfl, z2, B2⟩; have z12 := z1.later B2; have B12 := below_on B1 B2 B1.size)
    | (go_at_call 74; (with_reducible refine (HD1.out _).mono ?_); rintro e w2 ⟨a1, n1, d1, rfl, z1, B1⟩)
    | (go_at_call 77; (with_reducible refine (HS.out _ _ _ _ _ _ _ z12 z2).mono ?_); rintro e w5 ⟨rfl, B4⟩; have B14 := below_on B12 B4 B12.size))
  exact bodyPost_ret (results_tmp2 rfl _ _ _) rfl ⟨rfl, B14⟩

end Go.Proofs.YtjkklgpbblkhaaaGreatDoor

/-
  Layer 3, the reference: sums, differences, products, divisors, quotients and the order at whatever strings.
-/
namespace Go.Proofs.YtjkklgpbblkhaaaGreatDoor
open Go.RowKit Bs Ig

theorem rvalid_no {a : ByteArray} (ha : a.size ≤ 9223372036854775807) (h : rd a = none) (W : World) : Calls Tryz.prog 61 #[.string a] W fun e w' => e = .returned (.bool false) ∧ w' = W := by
  have h2 := rvalid_rd a ha W
  rw [h] at h2; exact h2
theorem rvalid_yes {a : ByteArray} {z : Int} (ha : a.size ≤ 9223372036854775807) (h : rd a = some z) (W : World) : Calls Tryz.prog 61 #[.string a] W fun e w' => e = .returned (.bool true) ∧ w' = W := by
  have h2 := rvalid_rd a ha W
  rw [h] at h2; exact h2

set_option maxRecDepth 100000 in
theorem rAdd_no1 (a b : ByteArray) (ha : a.size ≤ 9223372036854775807) (hb : b.size ≤ 9223372036854775807) (h : rd a = none) (w : World) :
    Calls Tryz.prog 48 #[.string a, .string b] w fun e w' => e = .returned (.tuple #[.string ⟨#[]⟩, .int .i64 30]) ∧ Below w.heap.size w w' := by
  have HV1 := Lib.hid (rvalid_no ha h)
  clear ha h hb
  go_enter Tryz.func48, Tryz.ntmps48
  go_wp2_with (first | (go_at_call 61; (with_reducible refine (HV1.out _).mono ?_); rintro e w1 ⟨rfl, hww⟩; rw [hww]; clear hww w1))
  go_ret2
  exact ⟨rfl, Below.refl _ _⟩

set_option maxRecDepth 100000 in
theorem rAdd_no2 (a b : ByteArray) (ha : a.size ≤ 9223372036854775807) (hb : b.size ≤ 9223372036854775807) {z : Int} (hz : rd a = some z) (h : rd b = none) (w : World) :
    Calls Tryz.prog 48 #[.string a, .string b] w fun e w' => e = .returned (.tuple #[.string ⟨#[]⟩, .int .i64 30]) ∧ Below w.heap.size w w' := by
  have HV1 := Lib.hid (rvalid_yes ha hz)
  have HV2 := Lib.hid (rvalid_no hb h)
  clear ha hz hb h
  go_enter Tryz.func48, Tryz.ntmps48
  go_wp2_with (first | (go_at_call 61; (with_reducible refine (HV1.out _).mono ?_); rintro e w1 ⟨rfl, hww⟩; rw [hww]; clear hww w1) | (go_at_call 61; (with_reducible refine (HV2.out _).mono ?_); rintro e w1 ⟨rfl, hww⟩; rw [hww]; clear hww w1))
  go_ret2
  exact ⟨rfl, Below.refl _ _⟩

set_option maxRecDepth 100000 in
theorem rSub_no1 (a b : ByteArray) (ha : a.size ≤ 9223372036854775807) (hb : b.size ≤ 9223372036854775807) (h : rd a = none) (w : World) :
    Calls Tryz.prog 49 #[.string a, .string b] w fun e w' => e = .returned (.tuple #[.string ⟨#[]⟩, .int .i64 30]) ∧ Below w.heap.size w w' := by
  have HV1 := Lib.hid (rvalid_no ha h)
  clear ha h hb
  go_enter Tryz.func49, Tryz.ntmps49
  go_wp2_with (first | (go_at_call 61; (with_reducible refine (HV1.out _).mono ?_); rintro e w1 ⟨rfl, hww⟩; rw [hww]; clear hww w1))
  go_ret2
  exact ⟨rfl, Below.refl _ _⟩

set_option maxRecDepth 100000 in
theorem rSub_no2 (a b : ByteArray) (ha : a.size ≤ 9223372036854775807) (hb : b.size ≤ 9223372036854775807) {z : Int} (hz : rd a = some z) (h : rd b = none) (w : World) :
    Calls Tryz.prog 49 #[.string a, .string b] w fun e w' => e = .returned (.tuple #[.string ⟨#[]⟩, .int .i64 30]) ∧ Below w.heap.size w w' := by
  have HV1 := Lib.hid (rvalid_yes ha hz)
  have HV2 := Lib.hid (rvalid_no hb h)
  clear ha hz hb h
  go_enter Tryz.func49, Tryz.ntmps49
  go_wp2_with (first | (go_at_call 61; (with_reducible refine (HV1.out _).mono ?_); rintro e w1 ⟨rfl, hww⟩; rw [hww]; clear hww w1) | (go_at_call 61; (with_reducible refine (HV2.out _).mono ?_); rintro e w1 ⟨rfl, hww⟩; rw [hww]; clear hww w1))
  go_ret2
  exact ⟨rfl, Below.refl _ _⟩

set_option maxRecDepth 100000 in
theorem rMul_no1 (a b : ByteArray) (ha : a.size ≤ 9223372036854775807) (hb : b.size ≤ 9223372036854775807) (h : rd a = none) (w : World) :
    Calls Tryz.prog 44 #[.string a, .string b] w fun e w' => e = .returned (.tuple #[.string ⟨#[]⟩, .int .i64 30]) ∧ Below w.heap.size w w' := by
  have HV1 := Lib.hid (rvalid_no ha h)
  clear ha h hb
  go_enter Tryz.func44, Tryz.ntmps44
  go_wp2_with (first | (go_at_call 61; (with_reducible refine (HV1.out _).mono ?_); rintro e w1 ⟨rfl, hww⟩; rw [hww]; clear hww w1))
  go_ret2
  exact ⟨rfl, Below.refl _ _⟩

set_option maxRecDepth 100000 in
theorem rMul_no2 (a b : ByteArray) (ha : a.size ≤ 9223372036854775807) (hb : b.size ≤ 9223372036854775807) {z : Int} (hz : rd a = some z) (h : rd b = none) (w : World) :
    Calls Tryz.prog 44 #[.string a, .string b] w fun e w' => e = .returned (.tuple #[.string ⟨#[]⟩, .int .i64 30]) ∧ Below w.heap.size w w' := by
  have HV1 := Lib.hid (rvalid_yes ha hz)
  have HV2 := Lib.hid (rvalid_no hb h)
  clear ha hz hb h
  go_enter Tryz.func44, Tryz.ntmps44
  go_wp2_with (first | (go_at_call 61; (with_reducible refine (HV1.out _).mono ?_); rintro e w1 ⟨rfl, hww⟩; rw [hww]; clear hww w1) | (go_at_call 61; (with_reducible refine (HV2.out _).mono ?_); rintro e w1 ⟨rfl, hww⟩; rw [hww]; clear hww w1))
  go_ret2
  exact ⟨rfl, Below.refl _ _⟩

set_option maxRecDepth 100000 in
theorem rGcd_no1 (a b : ByteArray) (ha : a.size ≤ 9223372036854775807) (hb : b.size ≤ 9223372036854775807) (h : rd a = none) (w : World) :
    Calls Tryz.prog 62 #[.string a, .string b] w fun e w' => e = .returned (.tuple #[.string ⟨#[]⟩, .int .i64 30]) ∧ Below w.heap.size w w' := by
  have HV1 := Lib.hid (rvalid_no ha h)
  clear ha h hb
  go_enter Tryz.func62, Tryz.ntmps62
  go_wp2_with (first | (go_at_call 61; (with_reducible refine (HV1.out _).mono ?_); rintro e w1 ⟨rfl, hww⟩; rw [hww]; clear hww w1))
  go_ret2
  exact ⟨rfl, Below.refl _ _⟩

set_option maxRecDepth 100000 in
theorem rGcd_no2 (a b : ByteArray) (ha : a.size ≤ 9223372036854775807) (hb : b.size ≤ 9223372036854775807) {z : Int} (hz : rd a = some z) (h : rd b = none) (w : World) :
    Calls Tryz.prog 62 #[.string a, .string b] w fun e w' => e = .returned (.tuple #[.string ⟨#[]⟩, .int .i64 30]) ∧ Below w.heap.size w w' := by
  have HV1 := Lib.hid (rvalid_yes ha hz)
  have HV2 := Lib.hid (rvalid_no hb h)
  clear ha hz hb h
  go_enter Tryz.func62, Tryz.ntmps62
  go_wp2_with (first | (go_at_call 61; (with_reducible refine (HV1.out _).mono ?_); rintro e w1 ⟨rfl, hww⟩; rw [hww]; clear hww w1) | (go_at_call 61; (with_reducible refine (HV2.out _).mono ?_); rintro e w1 ⟨rfl, hww⟩; rw [hww]; clear hww w1))
  go_ret2
  exact ⟨rfl, Below.refl _ _⟩

set_option maxRecDepth 100000 in
theorem rCompare_no1 (a b : ByteArray) (ha : a.size ≤ 9223372036854775807) (hb : b.size ≤ 9223372036854775807) (h : rd a = none) (w : World) :
    Calls Tryz.prog 53 #[.string a, .string b] w fun e w' => e = .returned (.int .i64 0) ∧ Below w.heap.size w w' := by
  have HV1 := Lib.hid (rvalid_no ha h)
  clear ha h hb
  go_enter Tryz.func53, Tryz.ntmps53
  go_wp2_with (first | (go_at_call 61; (with_reducible refine (HV1.out _).mono ?_); rintro e w1 ⟨rfl, hww⟩; rw [hww]; clear hww w1))
  go_ret
  exact ⟨rfl, Below.refl _ _⟩

set_option maxRecDepth 100000 in
theorem rCompare_no2 (a b : ByteArray) (ha : a.size ≤ 9223372036854775807) (hb : b.size ≤ 9223372036854775807) {z : Int} (hz : rd a = some z) (h : rd b = none) (w : World) :
    Calls Tryz.prog 53 #[.string a, .string b] w fun e w' => e = .returned (.int .i64 0) ∧ Below w.heap.size w w' := by
  have HV1 := Lib.hid (rvalid_yes ha hz)
  have HV2 := Lib.hid (rvalid_no hb h)
  clear ha hz hb h
  go_enter Tryz.func53, Tryz.ntmps53
  go_wp2_with (first | (go_at_call 61; (with_reducible refine (HV1.out _).mono ?_); rintro e w1 ⟨rfl, hww⟩; rw [hww]; clear hww w1) | (go_at_call 61; (with_reducible refine (HV2.out _).mono ?_); rintro e w1 ⟨rfl, hww⟩; rw [hww]; clear hww w1))
  go_ret
  exact ⟨rfl, Below.refl _ _⟩

set_option maxRecDepth 100000 in
theorem rDiv_no1 (a b : ByteArray) (ha : a.size ≤ 9223372036854775807) (hb : b.size ≤ 9223372036854775807) (h : rd a = none) (w : World) :
    Calls Tryz.prog 52 #[.string a, .string b] w fun e w' => e = .returned (.tuple #[.string ⟨#[]⟩, .string ⟨#[]⟩, .int .i64 30]) ∧ Below w.heap.size w w' := by
  have HV1 := Lib.hid (rvalid_no ha h)
  clear ha h hb
  go_enter Tryz.func52, Tryz.ntmps52
  go_wp2_with (first | (go_at_call 61; (with_reducible refine (HV1.out _).mono ?_); rintro e w1 ⟨rfl, hww⟩; rw [hww]; clear hww w1))
  go_ret3
  exact ⟨rfl, Below.refl _ _⟩

set_option maxRecDepth 100000 in
theorem rDiv_no2 (a b : ByteArray) (ha : a.size ≤ 9223372036854775807) (hb : b.size ≤ 9223372036854775807) {z : Int} (hz : rd a = some z) (h : rd b = none) (w : World) :
    Calls Tryz.prog 52 #[.string a, .string b] w fun e w' => e = .returned (.tuple #[.string ⟨#[]⟩, .string ⟨#[]⟩, .int .i64 30]) ∧ Below w.heap.size w w' := by
  have HV1 := Lib.hid (rvalid_yes ha hz)
  have HV2 := Lib.hid (rvalid_no hb h)
  clear ha hz hb h
  go_enter Tryz.func52, Tryz.ntmps52
  go_wp2_with (first | (go_at_call 61; (with_reducible refine (HV1.out _).mono ?_); rintro e w1 ⟨rfl, hww⟩; rw [hww]; clear hww w1) | (go_at_call 61; (with_reducible refine (HV2.out _).mono ?_); rintro e w1 ⟨rfl, hww⟩; rw [hww]; clear hww w1))
  go_ret3
  exact ⟨rfl, Below.refl _ _⟩

theorem rAdd_S (a b : ByteArray) (ha : a.size ≤ 9223372036854775807) (hb : b.size ≤ 9223372036854775807) (w : World) : Gives 48 a b (addS a b) w := by
  unfold Gives addS onS
  cases h1 : rd a with
  | none => exact rAdd_no1 a b ha hb h1 w
  | some x =>
    cases h2 : rd b with
    | none => exact rAdd_no2 a b ha hb h1 h2 w
    | some y =>
      obtain ⟨hx, rfl⟩ := rd_eq h1
      obtain ⟨hy, rfl⟩ := rd_eq h2
      exact rAdd_T x y hx hy w

theorem rSub_S (a b : ByteArray) (ha : a.size ≤ 9223372036854775807) (hb : b.size ≤ 9223372036854775807) (w : World) : Gives 49 a b (subS a b) w := by
  unfold Gives subS onS
  cases h1 : rd a with
  | none => exact rSub_no1 a b ha hb h1 w
  | some x =>
    cases h2 : rd b with
    | none => exact rSub_no2 a b ha hb h1 h2 w
    | some y =>
      obtain ⟨hx, rfl⟩ := rd_eq h1
      obtain ⟨hy, rfl⟩ := rd_eq h2
      exact rSub_T x y hx hy w

theorem rMul_S (a b : ByteArray) (ha : a.size ≤ 9223372036854775807) (hb : b.size ≤ 9223372036854775807) (w : World) : Gives 44 a b (mulS a b) w := by
  unfold Gives mulS onS
  cases h1 : rd a with
  | none => exact rMul_no1 a b ha hb h1 w
  | some x =>
    cases h2 : rd b with
    | none => exact rMul_no2 a b ha hb h1 h2 w
    | some y =>
      obtain ⟨hx, rfl⟩ := rd_eq h1
      obtain ⟨hy, rfl⟩ := rd_eq h2
      exact rMul_T x y hx hy w

theorem rGcd_S (a b : ByteArray) (ha : a.size ≤ 9223372036854775807) (hb : b.size ≤ 9223372036854775807) (w : World) : Gives 62 a b (gcdS a b) w := by
  unfold Gives gcdS onS
  cases h1 : rd a with
  | none => exact rGcd_no1 a b ha hb h1 w
  | some x =>
    cases h2 : rd b with
    | none => exact rGcd_no2 a b ha hb h1 h2 w
    | some y =>
      obtain ⟨hx, rfl⟩ := rd_eq h1
      obtain ⟨hy, rfl⟩ := rd_eq h2
      have h := rGcd_T x y hx hy w
      have hg : ((Int.gcd x y : Nat) : Int).natAbs < big := by rw [Int.natAbs_natCast]; exact gcd_big4 hx hy
      simp only [wrS, txt, err, if_pos hg]
      exact h

theorem rCompare_S (a b : ByteArray) (ha : a.size ≤ 9223372036854775807) (hb : b.size ≤ 9223372036854775807) (w : World) :
    Calls Tryz.prog 53 #[.string a, .string b] w fun e w' => e = .returned (.int .i64 (cmpS a b)) ∧ Below w.heap.size w w' := by
  unfold cmpS
  cases h1 : rd a with
  | none => exact rCompare_no1 a b ha hb h1 w
  | some x =>
    cases h2 : rd b with
    | none => exact rCompare_no2 a b ha hb h1 h2 w
    | some y =>
      obtain ⟨hx, rfl⟩ := rd_eq h1
      obtain ⟨hy, rfl⟩ := rd_eq h2
      exact rCompare_T x y hx hy w

set_option maxRecDepth 100000 in
theorem rDiv_0 (a : ByteArray) (ha : a.size ≤ 9223372036854775807) {z : Int} (hz : rd a = some z) (w : World) :
    Calls Tryz.prog 52 #[.string a, .string ⟨#[48]⟩] w fun e w' => e = .returned (.tuple #[.string ⟨#[]⟩, .string ⟨#[]⟩, .int .i64 30]) ∧ Below w.heap.size w w' := by
  have h0 : rd ⟨#[48]⟩ = some 0 := by
    have h := rd_some (z := 0) (Nat.pow_pos (by omega))
    rwa [show bs (Lib.itoa 0) = ⟨#[48]⟩ from by rw [show Lib.itoa 0 = [48] from by rw [show (0 : Int) = ((0 : Nat) : Int) from rfl, itoa_nat, dec_small (by omega)]; rfl]; rfl] at h
  have HV1 := Lib.hid (rvalid_yes ha hz)
  have HV2 := Lib.hid (rvalid_yes (a := ⟨#[48]⟩) (by decide) h0)
  clear ha hz h0
  go_enter Tryz.func52, Tryz.ntmps52
  go_wp2_with (first | (go_at_call 61; (with_reducible refine (HV1.out _).mono ?_); rintro e w1 ⟨rfl, hww⟩; rw [hww]; clear hww w1) | (go_at_call 61; (with_reducible refine (HV2.out _).mono ?_); rintro e w1 ⟨rfl, hww⟩; rw [hww]; clear hww w1))
  go_ret3
  exact ⟨rfl, Below.refl _ _⟩

theorem rDiv_S (a b : ByteArray) (ha : a.size ≤ 9223372036854775807) (hb : b.size ≤ 9223372036854775807) (w : World) :
    Calls Tryz.prog 52 #[.string a, .string b] w fun e w' => e = .returned (.tuple #[.string (divS a b).1, .string (divS a b).2.1, .int .i64 (divS a b).2.2]) ∧ Below w.heap.size w w' := by
  unfold divS
  cases h1 : rd a with
  | none => exact rDiv_no1 a b ha hb h1 w
  | some x =>
    cases h2 : rd b with
    | none => exact rDiv_no2 a b ha hb h1 h2 w
    | some y =>
      by_cases h0 : y = 0
      · subst h0
        obtain ⟨-, rfl⟩ := rd_eq h2
        rw [show bs (Lib.itoa 0) = ⟨#[48]⟩ from by rw [show Lib.itoa 0 = [48] from by rw [show (0 : Int) = ((0 : Nat) : Int) from rfl, itoa_nat, dec_small (by omega)]; rfl]; rfl]
        exact rDiv_0 a ha h1 w
      · obtain ⟨hx, rfl⟩ := rd_eq h1
        obtain ⟨hy, rfl⟩ := rd_eq h2
        simp only [if_neg h0]
        exact rDiv_T x y hx hy h0 w

end Go.Proofs.YtjkklgpbblkhaaaGreatDoor

/-
  Layer 4: a chain of steps, each of which is skipped after an error.
-/
namespace Go.Proofs.YtjkklgpbblkhaaaGreatDoor
open Go.RowKit Bs Ig

/-- a result in a box beside one in a slot -/
theorem results_row_tmp {P : Program} {fn : Func} {p u : Tmp} {ty : TypeId} (h : fn.results = #[.cell p ty, .tmp u]) (tmps : Array Value) (w : World) (g : Nat) (t : TypeId) (cs : Array Value) (fr : Nat × Nat) (d : TypeDesc)
    (hp : tmps.getD p undef = .pointer (some ⟨g, 0, none⟩)) (hg : w.heap[g]? = some (.cells cs t fr))
    (hu : P.underlying ty = some d) (hd : (match d with | .struct _ | .array _ _ => true | _ => false) = true) (hi : (P.info? ty).map (·.size) = some cs.size) :
    (results fn tmps).run P w = .ok (.tuple #[.agg cs, tmps.getD u undef]) w := by
  rw [results_cell_tmp h, hp]
  simp [asAddr, run_loadVar_row w g t ty cs fr d hg hu hd hi, Result.andThen]
theorem str2_cells (a b : ByteArray) : (#[Value.string a, Value.string b] : Array Value).all (·.oneCell') = true := by simp [Value.oneCell']
/-- a box with two strings -/
def IsB (W : World) (g : Nat) (a b : ByteArray) : Prop := W.heap[g]? = some (.cells #[.string a, .string b] 23 (0, 0))
theorem IsB.later {W W' : World} {g n : Nat} {a b : ByteArray} (h : IsB W g a b) (hb : Below n W W') (hg : g < n) : IsB W' g a b := (hb.block g hg).trans h
theorem IsB.lt {W : World} {g : Nat} {a b : ByteArray} (h : IsB W g a b) : g < W.heap.size := (Array.getElem?_eq_some_iff.1 h).1
theorem IsB.new (W : World) (a b : ByteArray) : IsB (W.alloc (.cells #[.string a, .string b] 23)) W.heap.size a b := heap_alloc_new _ _
theorem IsB.new' (W : World) (a b : ByteArray) (g : Nat) (hg : g = W.heap.size) : IsB (W.alloc (.cells #[.string a, .string b] 23)) g a b := by subst hg; exact IsB.new W a b
theorem IsB.alloc {W : World} {g : Nat} {a b : ByteArray} (h : IsB W g a b) (o : Obj) : IsB (W.alloc o) g a b := (heap_alloc_old _ _ h.lt).trans h
theorem IsB.c0 {W : World} {g : Nat} {a b : ByteArray} (h : IsB W g a b) : W.cell? ⟨g, 0, none⟩ = some (.string a) := by rw [cell_of_row _ _ 0 _ _ _ h]; rfl
theorem IsB.c1 {W : World} {g : Nat} {a b : ByteArray} (h : IsB W g a b) : W.cell? ⟨g, 1, none⟩ = some (.string b) := by rw [cell_of_row _ _ 1 _ _ _ h]; rfl
theorem IsB.f0 {W : World} {g : Nat} {a b : ByteArray} (h : IsB W g a b) : W.frozen? ⟨g, 0, none⟩ = false := frozen_of_row _ _ 0 _ _ h
theorem IsB.f1 {W : World} {g : Nat} {a b : ByteArray} (h : IsB W g a b) : W.frozen? ⟨g, 1, none⟩ = false := frozen_of_row _ _ 1 _ _ h

theorem two_strs {W : World} {g : Nat} {a b : ByteArray} (h : IsB W g a b) (c d : ByteArray) : IsB ((W.setCell ⟨g, 0, none⟩ (.string c)).setCell ⟨g, 1, none⟩ (.string d)) g c d := by
  have h1 := heap_setCell_same W g 0 _ _ (.string c) h
  exact heap_setCell_same _ g 1 _ _ (.string d) h1
theorem far_strs {W : World} {g k : Nat} {a b : ByteArray} (h : IsB W g a b) (hk : k ≠ g) (c d : ByteArray) : IsB ((W.setCell ⟨k, 0, none⟩ (.string c)).setCell ⟨k, 1, none⟩ (.string d)) g a b := by
  exact ((heap_setCell_other _ _ _ _ (Ne.symm hk)).trans (heap_setCell_other _ _ _ _ (Ne.symm hk))).trans h
/-- the step v takes what I tells of k to what it tells of k + 1 -/
def Step (I : Nat → ByteArray → ByteArray → Int → World → Prop) (k : Nat) (v : Value) : Prop :=
  ∃ (f : FuncId) (cap : Array Value), v = .func (.func f) #[] cap ∧ (∀ args w, (callFunc f args).run Tryz.prog w = .ok (.enter f args) w) ∧
    ∀ (N D : ByteArray) (W : World), I k N D 0 W → Calls Tryz.prog f (#[.agg #[.string N, .string D]] ++ cap) W fun e W' => ∃ N' D' e', e = .returned (.tuple #[.agg #[.string N', .string D'], .int .i64 e']) ∧ I (k + 1) N' D' e' W' ∧ Below W.heap.size W W'

set_option maxRecDepth 100000 in
set_option maxHeartbeats 4000000 in
theorem build_any (I : Nat → ByteArray → ByteArray → Int → World → Prop) (vals : List Value) (g off n c : Nat) (N D : ByteArray) (w : World) (hn : vals.length = n) (hn2 : n ≤ 100) (hnc : n ≤ c) (hg : g < w.heap.size)
    (hcells : ∀ i (h : i < vals.length), w.cell? ⟨g, off + i, none⟩ = some vals[i])
    (hpass : ∀ k N D e W, e ≠ 0 → I k N D e W → I (k + 1) N D e W) (hlater : ∀ k N D e A C, I k N D e A → Below w.heap.size A C → I k N D e C)
    (hsteps : ∀ k (h : k < vals.length), Step I k vals[k]) (h0 : I 0 N D 0 w) :
    Calls Tryz.prog 59 #[.agg #[.string N, .string D], .slice (some ⟨g, off, none⟩) n c] w fun e W' => ∃ N' D' e', I n N' D' e' W' ∧ Below w.heap.size w W' ∧
      (e' = 0 ∧ e = .returned (.tuple #[.agg #[.string N', .string D'], .int .i64 0]) ∨ e' ≠ 0 ∧ e = .returned (.tuple #[.agg #[.string ⟨#[]⟩, .string ⟨#[]⟩], .int .i64 40])) := by
  go_enter Tryz.func59, Tryz.ntmps59
  go_wp2_with fail
  go_loopw [6, 11] (fun q p wr => ∃ (N D : ByteArray) (e : Int) (i : Nat), q = .int .i64 e ∧ p = .int .i64 (i : Int) ∧ i ≤ n ∧ I i N D e wr ∧ IsB wr w.heap.size N D ∧ IsB wr (w.heap.size + 1) ⟨#[]⟩ ⟨#[]⟩ ∧ Below w.heap.size w wr) (fun _ p _ => (n - intOf p).toNat)
  case atStart => 
    have hB : Below w.heap.size w ((w.alloc (.cells #[.string N, .string D] 23)).alloc (.cells #[.string ⟨#[]⟩, .string ⟨#[]⟩] 23)) := ((Below.refl _ w).alloc (Nat.le_refl _) _).alloc (by simp) _
    exact ⟨N, D, 0, 0, rfl, rfl, Nat.zero_le _, hlater _ _ _ _ _ _ h0 hB, (IsB.new w N D).alloc _, IsB.new' _ _ _ _ (by simp), hB⟩
  case round =>
    obtain ⟨N, D, e, i, rfl, rfl, hi, hI, b0, b1, hw⟩ := hrel
    rcases Nat.lt_or_ge i n with h1 | h1
    · obtain ⟨f, cap, hv, eg, hcall⟩ := hsteps i (by omega)
      have hcell : wr.cell? ⟨g, off + i, none⟩ = some (.func (.func f) #[] cap) := by rw [← hv]; exact (hw.cell (p := ⟨g, off + i, none⟩) hg).trans (hcells i (by omega))
      have f1 : decide (i < n) = true := decide_eq_true h1
      rcases Decidable.em (e = 0) with he | he
      · subst he
        have HC := Lib.hid (hcall N D wr hI)
        have k0 := b0.c0
        have k1 := b0.c1
        clear hcall hsteps hcells hpass hv
        go_wp2_with (refine (HC.out).mono ?_; rintro e1 w1 ⟨N1, D1, e', rfl, hI1, B1⟩; have b2 := b0.later B1 b0.lt; have b3 := b1.later B1 b1.lt; have g0 := b2.f0; have g1 := b2.f1; have g2 := b2.c0; have g3 := b2.c1)
        have hw1 := below_on hw B1 hw.size
        go_roundw
        case rel => exact ⟨N1, D1, e', i + 1, rfl, by go_num, h1, hlater _ _ _ _ _ _ hI1 ((Below.refl _ w1).setCell (p := ⟨w.heap.size, 0, none⟩) (Nat.le_refl _) _ |>.setCell (p := ⟨w.heap.size, 1, none⟩) (Nat.le_refl _) _), two_strs b2 N1 D1, far_strs b3 (by omega) N1 D1, (hw1.setCell (p := ⟨w.heap.size, 0, none⟩) (Nat.le_refl _) _).setCell (p := ⟨w.heap.size, 1, none⟩) (Nat.le_refl _) _⟩
        case measure => simp [intOf]; omega
      · have he2 : (e == 0) = false := beq_false_of_ne he
        have HI := Lib.hid (hpass _ _ _ _ _ he hI)
        clear hcall hsteps hcells hpass hv
        go_wp2_with fail
        go_roundw
        case rel => exact ⟨N, D, e, i + 1, rfl, by go_num, h1, HI.out, b0, b1, hw⟩
        case measure => simp [intOf]; omega
    · obtain rfl : i = n := by omega
      have f1 : decide (i < i) = false := decide_eq_false (by omega)
      have k0 := b0.c0
      have k1 := b0.c1
      have f2 := b1.f0
      have f3 := b1.f1
      have f4 := b1.c0
      have f5 := b1.c1
      clear hsteps hcells hpass
      rcases Decidable.em (e = 0) with he | he
      · subst he
        go_wp2_with fail
        exact bodyPost_ret (results_row_tmp rfl _ _ (w.heap.size + 1) 23 #[.string N, .string D] _ _ rfl (two_strs b1 N D) Tryz.underlying23 rfl (by kernel_rfl)) rfl ⟨N, D, 0, hlater _ _ _ _ _ _ hI (((Below.refl _ wr).setCell (p := ⟨w.heap.size + 1, 0, none⟩) (by show w.heap.size ≤ w.heap.size + 1; omega) _).setCell (p := ⟨w.heap.size + 1, 1, none⟩) (by show w.heap.size ≤ w.heap.size + 1; omega) _), (hw.setCell (p := ⟨w.heap.size + 1, 0, none⟩) (by show w.heap.size ≤ w.heap.size + 1; omega) _).setCell (p := ⟨w.heap.size + 1, 1, none⟩) (by show w.heap.size ≤ w.heap.size + 1; omega) _, .inl ⟨rfl, rfl⟩⟩
      · have he2 : (e == 0) = false := beq_false_of_ne he
        have he3 : (e != 0) = true := by rw [bne, he2]; rfl
        go_wp2_with fail
        exact bodyPost_ret (results_row_tmp rfl _ _ (w.heap.size + 1) 23 #[.string ⟨#[]⟩, .string ⟨#[]⟩] _ _ rfl (two_strs b1 ⟨#[]⟩ ⟨#[]⟩) Tryz.underlying23 rfl (by kernel_rfl)) rfl ⟨N, D, e, hlater _ _ _ _ _ _ hI (((Below.refl _ wr).setCell (p := ⟨w.heap.size + 1, 0, none⟩) (by show w.heap.size ≤ w.heap.size + 1; omega) _).setCell (p := ⟨w.heap.size + 1, 1, none⟩) (by show w.heap.size ≤ w.heap.size + 1; omega) _), (hw.setCell (p := ⟨w.heap.size + 1, 0, none⟩) (by show w.heap.size ≤ w.heap.size + 1; omega) _).setCell (p := ⟨w.heap.size + 1, 1, none⟩) (by show w.heap.size ≤ w.heap.size + 1; omega) _, .inr ⟨he, rfl⟩⟩

/-- what a step makes of a fraction: two strings and an error -/
abbrev Stp := ByteArray → ByteArray → ByteArray × ByteArray × Int
def runS : List Stp → ByteArray → ByteArray → Int → ByteArray × ByteArray × Int
  | [], N, D, e => (N, D, e)
  | F :: r, N, D, e => if e = 0 then runS r (F N D).1 (F N D).2.1 (F N D).2.2 else runS r N D e
def finS (x : ByteArray × ByteArray × Int) : ByteArray × ByteArray × Int := if x.2.2 = 0 then (x.1, x.2.1, 0) else (⟨#[]⟩, ⟨#[]⟩, 40)
def buildS (l : List Stp) (N D : ByteArray) : ByteArray × ByteArray × Int := finS (runS l N D 0)
theorem runS_snoc (l : List Stp) (F : Stp) (N D : ByteArray) (e : Int) :
    runS (l ++ [F]) N D e = if (runS l N D e).2.2 = 0 then F (runS l N D e).1 (runS l N D e).2.1 else runS l N D e := by
  induction l generalizing N D e with
  | nil => rfl
  | cons G r ih =>
    simp only [List.cons_append, runS]
    split <;> exact ih _ _ _
/-- the value v, as it was made in the world w0, is a function that does F -/
def Does (w0 : World) (v : Value) (F : Stp) : Prop :=
  ∃ (f : FuncId) (cap : Array Value), v = .func (.func f) #[] cap ∧ (∀ args w, (callFunc f args).run Tryz.prog w = .ok (.enter f args) w) ∧
    ∀ (N D : ByteArray) (W : World), Below w0.heap.size w0 W → Calls Tryz.prog f (#[.agg #[.string N, .string D]] ++ cap) W fun e W' => e = .returned (.tuple #[.agg #[.string (F N D).1, .string (F N D).2.1], .int .i64 (F N D).2.2]) ∧ Below W.heap.size W W'
theorem Does.later {w0 w1 : World} {v : Value} {F : Stp} (h : Does w0 v F) (hb : Below w0.heap.size w0 w1) : Does w1 v F := by
  obtain ⟨f, cap, hv, eg, hc⟩ := h
  exact ⟨f, cap, hv, eg, fun N D W hW => hc N D W (below_on hb hW hb.size)⟩
/-- the value v is a function of two strings that answers as op -/
def DoesOp (w0 : World) (v : Value) (op : ByteArray → ByteArray → ByteArray × Int) : Prop :=
  ∃ (f : FuncId) (cap : Array Value), v = .func (.func f) #[] cap ∧ (∀ args w, (callFunc f args).run Tryz.prog w = .ok (.enter f args) w) ∧
    ∀ (x y : ByteArray) (W : World), Below w0.heap.size w0 W → Calls Tryz.prog f (#[.string x, .string y] ++ cap) W fun e W' => e = .returned (.tuple #[.string (op x y).1, .int .i64 (op x y).2]) ∧ Below W.heap.size W W'
theorem DoesOp.later {w0 w1 : World} {v : Value} {F} (h : DoesOp w0 v F) (hb : Below w0.heap.size w0 w1) : DoesOp w1 v F := by
  obtain ⟨f, cap, hv, eg, hc⟩ := h
  exact ⟨f, cap, hv, eg, fun N D W hW => hc N D W (below_on hb hW hb.size)⟩
theorem build_does (fs : List Stp) (vals : List Value) (g off n c : Nat) (N D : ByteArray) (w : World) (hn : vals.length = n) (hf : fs.length = n) (hn2 : n ≤ 100) (hnc : n ≤ c) (hg : g < w.heap.size)
    (hcells : ∀ i (h : i < vals.length), w.cell? ⟨g, off + i, none⟩ = some vals[i]) (hdo : ∀ i (h : i < vals.length) (h' : i < fs.length), Does w vals[i] fs[i]) :
    Calls Tryz.prog 59 #[.agg #[.string N, .string D], .slice (some ⟨g, off, none⟩) n c] w fun e W' => e = .returned (.tuple #[.agg #[.string (buildS fs N D).1, .string (buildS fs N D).2.1], .int .i64 (buildS fs N D).2.2]) ∧ Below w.heap.size w W' := by
  refine (build_any (fun k N' D' e W => Below w.heap.size w W ∧ runS (fs.take k) N D 0 = (N', D', e) ∧ k ≤ n ∨ n < k) vals g off n c N D w hn hn2 hnc hg hcells ?_ ?_ ?_ ?_).mono ?_
  · rintro k N' D' e W he (⟨h1, h2, h3⟩ | h)
    · rcases Nat.lt_or_ge k n with h4 | h4
      · refine .inl ⟨h1, ?_, h4⟩
        rw [List.take_succ_eq_append_getElem (by omega), runS_snoc, h2, if_neg he]
      · exact .inr (by omega)
    · exact .inr (by omega)
  · rintro k N' D' e A C (⟨h1, h2, h3⟩ | h) hAC
    · exact .inl ⟨h1.trans hAC, h2, h3⟩
    · exact .inr h
  · intro k hk
    obtain ⟨f, cap, hv, eg, hc⟩ := hdo k hk (by omega)
    refine ⟨f, cap, hv, eg, ?_⟩
    rintro N' D' W (⟨h1, h2, h3⟩ | h)
    · refine (hc N' D' W h1).mono ?_
      rintro e W' ⟨rfl, hb⟩
      refine ⟨_, _, _, rfl, .inl ⟨below_on h1 hb h1.size, ?_, by omega⟩, hb⟩
      rw [List.take_succ_eq_append_getElem (by omega), runS_snoc, h2]
      rfl
    · omega
  · exact .inl ⟨Below.refl _ _, rfl, Nat.zero_le _⟩
  · rintro e W' ⟨N', D', e', hI, hb, he⟩
    obtain ⟨_, h2, _⟩ := hI.resolve_right (by omega)
    rw [List.take_of_length_le (by omega)] at h2
    unfold buildS finS
    rw [h2]
    rcases he with ⟨rfl, rfl⟩ | ⟨h0, rfl⟩
    · exact ⟨rfl, hb⟩
    · simp only [if_neg h0]
      exact ⟨trivial, hb⟩

end Go.Proofs.YtjkklgpbblkhaaaGreatDoor

/-
  Layer 4: the steps of a chain, as they are made.
-/
namespace Go.Proofs.YtjkklgpbblkhaaaGreatDoor
open Go.RowKit Bs Ig

def numS (op : ByteArray → ByteArray → ByteArray × Int) (y : ByteArray) : Stp := fun N D => ((op N y).1, D, (op N y).2)
def denS (op : ByteArray → ByteArray → ByteArray × Int) (y : ByteArray) : Stp := fun N D => (N, (op D y).1, (op D y).2)
/-- a box with a function value -/
theorem box_cell (W : World) (v : Value) (t : TypeId) : (W.alloc (.cells #[v] t)).cell? ⟨W.heap.size, 0, none⟩ = some v := by
  rw [cell_of_row _ _ 0 _ _ _ (heap_alloc_new _ _)]; rfl

set_option maxRecDepth 100000 in
set_option maxHeartbeats 2000000 in
theorem num1_any (op : ByteArray → ByteArray → ByteArray × Int) (y N D : ByteArray) (b1 b2 : Nat) (v : Value) (w : World) (h1 : w.cell? ⟨b1, 0, none⟩ = some v) (h2 : w.cell? ⟨b2, 0, none⟩ = some (.string y)) (hb1 : b1 < w.heap.size) (hb2 : b2 < w.heap.size) (hop : DoesOp w v op) :
    Calls Tryz.prog 100 #[.agg #[.string N, .string D], .pointer (some ⟨b1, 0, none⟩), .pointer (some ⟨b2, 0, none⟩)] w fun e w' => e = .returned (.tuple #[.agg #[.string (numS op y N D).1, .string (numS op y N D).2.1], .int .i64 (numS op y N D).2.2]) ∧ Below w.heap.size w w' := by
  have hB : Below w.heap.size w ((w.alloc (.cells #[.string N, .string D] 23)).alloc (.cells #[.string ⟨#[]⟩, .string ⟨#[]⟩] 23)) := ((Below.refl _ w).alloc (Nat.le_refl _) _).alloc (by simp) _
  obtain ⟨f, cap, rfl, eg, hc⟩ := hop
  have r0 := (IsB.new w N D).alloc (.cells #[.string ⟨#[]⟩, .string ⟨#[]⟩] 23)
  have r1 := IsB.new' (w.alloc (.cells #[.string N, .string D] 23)) ⟨#[]⟩ ⟨#[]⟩ (w.heap.size + 1) (by simp)
  have k1 := (hB.cell (p := ⟨b1, 0, none⟩) hb1).trans h1
  have k2 := (hB.cell (p := ⟨b2, 0, none⟩) hb2).trans h2
  have HC := Lib.hid (hc N y _ hB)
  unfold numS
  obtain ⟨S, E, hSE⟩ : ∃ S E, op N y = (S, E) := ⟨_, _, rfl⟩
  rw [hSE] at HC ⊢
  clear hc h1 h2 hSE
  go_enter Tryz.func100, Tryz.ntmps100
  go_wp2_with (refine (HC.out).mono ?_; rintro e1 w1 ⟨rfl, B1⟩; have q0 := r0.later B1 r0.lt; have q1 := r1.later B1 r1.lt; have g0 := q0.c1; have g1 := q1.f0; have g2 := q1.f1; have g3 := q1.c0; have g4 := q1.c1)
  have hw1 := below_on hB B1 hB.size
  exact bodyPost_ret (results_row_tmp rfl _ _ (w.heap.size + 1) 23 #[.string S, .string D] _ _ rfl (two_strs q1 S D) Tryz.underlying23 rfl (by kernel_rfl)) rfl ⟨rfl, (hw1.setCell (p := ⟨w.heap.size + 1, 0, none⟩) (by show w.heap.size ≤ w.heap.size + 1; omega) _).setCell (p := ⟨w.heap.size + 1, 1, none⟩) (by show w.heap.size ≤ w.heap.size + 1; omega) _⟩

set_option maxRecDepth 100000 in
set_option maxHeartbeats 2000000 in
theorem den1_any (op : ByteArray → ByteArray → ByteArray × Int) (y N D : ByteArray) (b1 b2 : Nat) (v : Value) (w : World) (h1 : w.cell? ⟨b1, 0, none⟩ = some v) (h2 : w.cell? ⟨b2, 0, none⟩ = some (.string y)) (hb1 : b1 < w.heap.size) (hb2 : b2 < w.heap.size) (hop : DoesOp w v op) :
    Calls Tryz.prog 102 #[.agg #[.string N, .string D], .pointer (some ⟨b1, 0, none⟩), .pointer (some ⟨b2, 0, none⟩)] w fun e w' => e = .returned (.tuple #[.agg #[.string (denS op y N D).1, .string (denS op y N D).2.1], .int .i64 (denS op y N D).2.2]) ∧ Below w.heap.size w w' := by
  have hB : Below w.heap.size w ((w.alloc (.cells #[.string N, .string D] 23)).alloc (.cells #[.string ⟨#[]⟩, .string ⟨#[]⟩] 23)) := ((Below.refl _ w).alloc (Nat.le_refl _) _).alloc (by simp) _
  obtain ⟨f, cap, rfl, eg, hc⟩ := hop
  have r0 := (IsB.new w N D).alloc (.cells #[.string ⟨#[]⟩, .string ⟨#[]⟩] 23)
  have r1 := IsB.new' (w.alloc (.cells #[.string N, .string D] 23)) ⟨#[]⟩ ⟨#[]⟩ (w.heap.size + 1) (by simp)
  have k1 := (hB.cell (p := ⟨b1, 0, none⟩) hb1).trans h1
  have k2 := (hB.cell (p := ⟨b2, 0, none⟩) hb2).trans h2
  have HC := Lib.hid (hc D y _ hB)
  unfold denS
  obtain ⟨S, E, hSE⟩ : ∃ S E, op D y = (S, E) := ⟨_, _, rfl⟩
  rw [hSE] at HC ⊢
  clear hc h1 h2 hSE
  go_enter Tryz.func102, Tryz.ntmps102
  go_wp2_with (refine (HC.out).mono ?_; rintro e1 w1 ⟨rfl, B1⟩; have q0 := r0.later B1 r0.lt; have q1 := r1.later B1 r1.lt; have g0 := q0.c0; have g1 := q1.f0; have g2 := q1.f1; have g3 := q1.c0; have g4 := q1.c1)
  have hw1 := below_on hB B1 hB.size
  exact bodyPost_ret (results_row_tmp rfl _ _ (w.heap.size + 1) 23 #[.string N, .string S] _ _ rfl (two_strs q1 N S) Tryz.underlying23 rfl (by kernel_rfl)) rfl ⟨rfl, (hw1.setCell (p := ⟨w.heap.size + 1, 0, none⟩) (by show w.heap.size ≤ w.heap.size + 1; omega) _).setCell (p := ⟨w.heap.size + 1, 1, none⟩) (by show w.heap.size ≤ w.heap.size + 1; omega) _⟩

set_option maxRecDepth 100000 in
set_option maxHeartbeats 2000000 in
theorem num_any (op : ByteArray → ByteArray → ByteArray × Int) (y : ByteArray) (v : Value) (w : World) (hop : DoesOp w v op) :
    Calls Tryz.prog 69 #[v, .string y] w fun e w' => ∃ cap, e = .returned (.func (.func 100) #[] cap) ∧ Does w' (.func (.func 100) #[] cap) (numS op y) ∧ Below w.heap.size w w' := by
  have hB : Below w.heap.size w ((w.alloc (.cells #[v] 101)).alloc (.cells #[.string y] 9)) := ((Below.refl _ w).alloc (Nat.le_refl _) _).alloc (by simp) _
  have hD : Does ((w.alloc (.cells #[v] 101)).alloc (.cells #[.string y] 9)) (.func (.func 100) #[] #[.pointer (some ⟨w.heap.size, 0, none⟩), .pointer (some ⟨w.heap.size + 1, 0, none⟩)]) (numS op y) := by
    refine ⟨_, _, rfl, fun args w => by kernel_rfl, fun N D W hW => ?_⟩
    have h1 : W.cell? ⟨w.heap.size, 0, none⟩ = some v := by
      refine (hW.cell (p := ⟨w.heap.size, 0, none⟩) (by simp; omega)).trans ?_
      rw [cell_of_row _ _ 0 _ _ _ ((heap_alloc_old _ _ (by simp)).trans (heap_alloc_new _ _))]; rfl
    have h2 : W.cell? ⟨w.heap.size + 1, 0, none⟩ = some (.string y) := by
      refine (hW.cell (p := ⟨w.heap.size + 1, 0, none⟩) (by simp)).trans ?_
      have := heap_alloc_new (w.alloc (.cells #[v] 101)) (.cells #[.string y] 9)
      simp only [World.size_alloc] at this
      rw [cell_of_row _ _ 0 _ _ _ this]; rfl
    have hs := hW.size
    simp only [World.size_alloc] at hs
    exact num1_any op y N D _ _ v W h1 h2 (by omega) (by omega) ((hop.later hB).later hW)
  have HD := Lib.hid hD
  obtain ⟨f, cap, rfl, eg, hc⟩ := hop
  clear hc hD
  go_enter Tryz.func69, Tryz.ntmps69
  go_wp2_with fail
  go_ret
  exact ⟨_, rfl, HD.out, hB⟩

set_option maxRecDepth 100000 in
set_option maxHeartbeats 2000000 in
theorem den_any (op : ByteArray → ByteArray → ByteArray × Int) (y : ByteArray) (v : Value) (w : World) (hop : DoesOp w v op) :
    Calls Tryz.prog 71 #[v, .string y] w fun e w' => ∃ cap, e = .returned (.func (.func 102) #[] cap) ∧ Does w' (.func (.func 102) #[] cap) (denS op y) ∧ Below w.heap.size w w' := by
  have hB : Below w.heap.size w ((w.alloc (.cells #[v] 101)).alloc (.cells #[.string y] 9)) := ((Below.refl _ w).alloc (Nat.le_refl _) _).alloc (by simp) _
  have hD : Does ((w.alloc (.cells #[v] 101)).alloc (.cells #[.string y] 9)) (.func (.func 102) #[] #[.pointer (some ⟨w.heap.size, 0, none⟩), .pointer (some ⟨w.heap.size + 1, 0, none⟩)]) (denS op y) := by
    refine ⟨_, _, rfl, fun args w => by kernel_rfl, fun N D W hW => ?_⟩
    have h1 : W.cell? ⟨w.heap.size, 0, none⟩ = some v := by
      refine (hW.cell (p := ⟨w.heap.size, 0, none⟩) (by simp; omega)).trans ?_
      rw [cell_of_row _ _ 0 _ _ _ ((heap_alloc_old _ _ (by simp)).trans (heap_alloc_new _ _))]; rfl
    have h2 : W.cell? ⟨w.heap.size + 1, 0, none⟩ = some (.string y) := by
      refine (hW.cell (p := ⟨w.heap.size + 1, 0, none⟩) (by simp)).trans ?_
      have := heap_alloc_new (w.alloc (.cells #[v] 101)) (.cells #[.string y] 9)
      simp only [World.size_alloc] at this
      rw [cell_of_row _ _ 0 _ _ _ this]; rfl
    have hs := hW.size
    simp only [World.size_alloc] at hs
    exact den1_any op y N D _ _ v W h1 h2 (by omega) (by omega) ((hop.later hB).later hW)
  have HD := Lib.hid hD
  obtain ⟨f, cap, rfl, eg, hc⟩ := hop
  clear hc hD
  go_enter Tryz.func71, Tryz.ntmps71
  go_wp2_with fail
  go_ret
  exact ⟨_, rfl, HD.out, hB⟩

end Go.Proofs.YtjkklgpbblkhaaaGreatDoor
