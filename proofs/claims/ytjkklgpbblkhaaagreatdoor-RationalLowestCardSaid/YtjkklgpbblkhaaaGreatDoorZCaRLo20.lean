/-
  Put together by program out of these texts, in this order: Qmi, Qlo, CaRLo.
-/
import Derived.Test.YtjkklgpbblkhaaaGreatDoorZCaRLo19
import Derived.Test.YtjkklgpbblkhaaaGreatDoorCards
import Derived.Test.YtjkklgpbblkhaaaGreatDoorTie
import Derived.Test.YtjkklgpbblkhaaaGreatDoorZCaRLo04

/-
  Layer 4, for the laws: minus; what roundings answer at fractions that are not too large.
-/
namespace Go.Proofs.YtjkklgpbblkhaaaGreatDoor
open Go.RowKit Bs Ig Qq

theorem hund {z : Int} {k : Nat} (h : z.natAbs < 10 ^ k) (hk : k ≤ 200) : z.natAbs < big := Nat.lt_of_lt_of_le h (Nat.pow_le_pow_right (by omega) hk)
theorem mul_hund {x y : Int} {i j k : Nat} (hx : x.natAbs < 10 ^ i) (hy : y.natAbs < 10 ^ j) (h : i + j ≤ k) : (x * y).natAbs < 10 ^ k := by
  rw [Int.natAbs_mul]
  refine Nat.lt_of_lt_of_le (Nat.mul_lt_mul'' hx hy) ?_
  rw [← Nat.pow_add]
  exact Nat.pow_le_pow_right (by omega) h
theorem sub_hund {x y : Int} {i k : Nat} (hx : x.natAbs < 10 ^ i) (hy : y.natAbs < 10 ^ i) (h : i + 1 ≤ k) : (x - y).natAbs < 10 ^ k := by
  refine Nat.lt_of_lt_of_le ?_ (Nat.pow_le_pow_right (by omega) h)
  rw [Nat.pow_succ]
  have := Int.natAbs_sub_le x y
  omega
theorem add_hund {x y : Int} {i k : Nat} (hx : x.natAbs < 10 ^ i) (hy : y.natAbs < 10 ^ i) (h : i + 1 ≤ k) : (x + y).natAbs < 10 ^ k := by
  refine Nat.lt_of_lt_of_le ?_ (Nat.pow_le_pow_right (by omega) h)
  rw [Nat.pow_succ]
  have := Int.natAbs_add_le x y
  omega
theorem more_hund {z : Int} {i k : Nat} (hx : z.natAbs < 10 ^ i) (h : i ≤ k) : z.natAbs < 10 ^ k := Nat.lt_of_lt_of_le hx (Nat.pow_le_pow_right (by omega) h)
theorem one_hund {k : Nat} (h : 1 ≤ k) : (1 : Int).natAbs < 10 ^ k := Nat.lt_of_lt_of_le (show 1 < 10 ^ 1 by omega) (Nat.pow_le_pow_right (by omega) h)
theorem ten_hund {m k : Nat} (h : m < k) : ((10 ^ m : Nat) : Int).natAbs < 10 ^ k := by rw [Int.natAbs_natCast]; exact Nat.pow_lt_pow_right (by omega) h
theorem fl_hund {x d : Int} {k : Nat} (h : x.natAbs < 10 ^ k) : (fl x d).natAbs < 10 ^ k := Nat.lt_of_le_of_lt (Int.natAbs_ediv_le_natAbs x d) h
theorem ce_hund {x d : Int} {k : Nat} (h : x.natAbs < 10 ^ k) : (ce x d).natAbs < 10 ^ (k + 1) := by
  have h1 := fl_hund (d := d) h
  have h2 := ce_le (x := x) (d := d)
  unfold fl at h1
  have h3 : 0 < 10 ^ k := Nat.pow_pos (by omega)
  rw [Nat.pow_succ]
  omega

section
variable {p : Int × Int} (hp : FV p) {m : Nat} (hm : m ≤ 30)
include hp hm
theorem downQ_T {k : Nat} (h1 : p.1.natAbs < 10 ^ k) (hk : k ≤ 160) : downQ (T p.1) (T p.2) (m : Int) = okA (dn p ((10 ^ m : Nat) : Int)) := by
  have h2 : (p.1 * ((10 ^ m : Nat) : Int)).natAbs < 10 ^ (k + 31) := mul_hund h1 (ten_hund (show m < 31 by omega)) (Nat.le_refl _)
  unfold downQ
  rw [if_pos ⟨by omega, by omega⟩, Int.toNat_natCast]
  exact roundQ_ok hp (tq_T m) (ten_pos m) (ten_big hm) (hund h2 (by omega)) (floorS_T (hund h2 (by omega)) hp.b2 (by have := hp.pos; omega)) (hund (fl_hund h2) (by omega))
theorem upQ_T {k : Nat} (h1 : p.1.natAbs < 10 ^ k) (hk : k ≤ 160) : upQ (T p.1) (T p.2) (m : Int) = okA (up p ((10 ^ m : Nat) : Int)) := by
  have h2 : (p.1 * ((10 ^ m : Nat) : Int)).natAbs < 10 ^ (k + 31) := mul_hund h1 (ten_hund (show m < 31 by omega)) (Nat.le_refl _)
  unfold upQ
  rw [if_pos ⟨by omega, by omega⟩, Int.toNat_natCast]
  have h3 : (ce (p.1 * ((10 ^ m : Nat) : Int)) p.2).natAbs < big := hund (ce_hund h2) (by omega)
  exact roundQ_ok hp (tq_T m) (ten_pos m) (ten_big hm) (hund h2 (by omega)) ((ceilS_T (hund h2 (by omega)) hp.b2 (by have := hp.pos; omega)).trans (wrS_ok h3)) h3
end
section
variable {p : Int × Int} {m : Nat} (hm : m ≤ 30)
include hm
theorem dn_b {k : Nat} (h1 : p.1.natAbs < 10 ^ k) (hk : k ≤ 160) : FV (dn p ((10 ^ m : Nat) : Int)) ∧ (dn p ((10 ^ m : Nat) : Int)).1.natAbs < 10 ^ (k + 31) ∧ (dn p ((10 ^ m : Nat) : Int)).2.natAbs < 10 ^ 31 := by
  have h2 : (p.1 * ((10 ^ m : Nat) : Int)).natAbs < 10 ^ (k + 31) := mul_hund h1 (ten_hund (show m < 31 by omega)) (Nat.le_refl _)
  have h3 := fl_hund (d := p.2) h2
  exact ⟨red_FV (by have := ten_pos m; omega) (hund h3 (by omega)) (ten_big hm), Nat.lt_of_le_of_lt red_le.1 h3, Nat.lt_of_le_of_lt red_le.2 (ten_hund (by omega))⟩
theorem up_b {k : Nat} (h1 : p.1.natAbs < 10 ^ k) (hk : k ≤ 160) : FV (up p ((10 ^ m : Nat) : Int)) ∧ (up p ((10 ^ m : Nat) : Int)).1.natAbs < 10 ^ (k + 32) ∧ (up p ((10 ^ m : Nat) : Int)).2.natAbs < 10 ^ 31 := by
  have h2 : (p.1 * ((10 ^ m : Nat) : Int)).natAbs < 10 ^ (k + 31) := mul_hund h1 (ten_hund (show m < 31 by omega)) (Nat.le_refl _)
  have h3 := ce_hund (d := p.2) h2
  exact ⟨red_FV (by have := ten_pos m; omega) (hund h3 (by omega)) (ten_big hm), Nat.lt_of_le_of_lt red_le.1 h3, Nat.lt_of_le_of_lt red_le.2 (ten_hund (by omega))⟩
end
theorem neg_FV {p : Int × Int} (hp : FV p) : FV (neg p) := ⟨neg_isF hp.isF, by have := hp.b1; show (-p.1).natAbs < big; omega, hp.b2⟩
theorem zero_FV : FV (0, 1) := ⟨zero_isF, zero_bigQ, one_bigQ⟩
theorem negQ {p : Int × Int} (hp : FV p) : subQ (T 0) (T 1) (T p.1) (T p.2) = okA (neg p) := by
  have h := subQ_ok (p := (0, 1)) (q := p) zero_FV hp (by show ((0 : Int) * p.2).natAbs < big; rw [Int.zero_mul]; exact zero_bigQ) (by show (p.1 * 1).natAbs < big; rw [Int.mul_one]; exact hp.b1)
    (by have := hp.b1; show ((0 : Int) * p.2 - p.1 * 1).natAbs < big; rw [Int.zero_mul, Int.mul_one]; omega) (by show ((1 : Int) * p.2).natAbs < big; rw [Int.one_mul]; exact hp.b2)
  rw [h]
  congr 1
  exact neg_sub hp.isF

set_option maxRecDepth 100000 in
set_option maxHeartbeats 4000000 in
theorem qminus_any (R1 R2 X1 X2 : ByteArray) (X3 : Int) (w : World) (ht : TabP w) (h : subQ ⟨#[48]⟩ ⟨#[49]⟩ R1 R2 = (X1, X2, X3)) :
    Calls Tryz.prog 42 #[.agg #[.string R1, .string R2]] w fun e w' => e = .returned (.agg #[.string X1, .string X2]) ∧ Below w.heap.size w w' := by
  have hS := fun (W : World) (h : TabP W) => qSub_any ⟨#[48]⟩ ⟨#[49]⟩ R1 R2 W h
  simp only [h] at hS
  unfold Answers at hS
  simp only at hS
  have HS := Lib.hid hS
  have HI := Lib.hid is_any
  have hN := ((St.start ht).add R1 R2).add ⟨#[]⟩ ⟨#[]⟩
  rw [show (w.alloc (.cells #[.string R1, .string R2] 23)).heap.size = w.heap.size + 1 by simp] at hN
  have HN := Lib.hid hN
  clear h hS ht hN
  go_enter Tryz.func42, Tryz.ntmps42
  go_wp2_with fail
  have c0 := HN.out.tail.head.c0
  have c1 := HN.out.tail.head.c1
  refine wp_world fun W hW => ?_
  rw [← hW] at HN c0 c1
  clear hW
  go_region_held3 (fun w' => w'.cell? ⟨w.heap.size, 0, none⟩ = some (.string R1) ∧ w'.cell? ⟨w.heap.size, 1, none⟩ = some (.string R2)) (first | exact ⟨HN.out.tail.head.c0, HN.out.tail.head.c1⟩ | exact ⟨(HN.out.add _ _).tail.tail.head.c0, (HN.out.add _ _).tail.tail.head.c1⟩ | exact ⟨HN.out.tail.tail.head.c0, HN.out.tail.tail.head.c1⟩ | exact ⟨(HN.out.put HL.out _ _).tail.tail.head.c0, (HN.out.put HL.out _ _).tail.tail.head.c1⟩ | go_keep)
    (first
      | (go_at_call 41; (with_reducible refine (HI.out _ _ _).mono ?_); rintro e w4 ⟨rfl, hB⟩; (first | have HN := Lib.hid (HN.out.step (below_undrew hB)) | (have HL := Lib.hid HN.out.lts; have HN := Lib.hid ((HN.out.add _ _).step (below_undrew hB)); have x0 := HN.out.head.f0; have x1 := HN.out.head.f1; have x2 := HN.out.head.c0; have x3 := HN.out.head.c1)); clear hB)
      | (go_at_call 40; (with_reducible refine (HS.out _ HN.out.tab).mono ?_); rintro e w5 ⟨rfl, hB⟩; clear x0 x1 x2 x3; have HN := Lib.hid (HN.out.step hB); clear hB; have x0 := HN.out.head.f0; have x1 := HN.out.head.f1; have x2 := HN.out.head.c0; have x3 := HN.out.head.c1)
      | (go_at_call 40; have HL := Lib.hid HN.out.lts; (with_reducible refine (HS.out _ (HN.out.add _ _).tab).mono ?_); rintro e w5 ⟨rfl, hB⟩; have HN := Lib.hid ((HN.out.add _ _).step hB); clear hB; have x0 := HN.out.head.f0; have x1 := HN.out.head.f1; have x2 := HN.out.head.c0; have x3 := HN.out.head.c1)
      | (go_at_call 40; (with_reducible refine (HS.out _ HN.out.tab).mono ?_); rintro e w5 ⟨rfl, hB⟩; have HN := Lib.hid (HN.out.step hB); clear hB))
  all_goals first | have HN := Lib.hid (HN.out.put HL.out X1 X2) | have HN := Lib.hid (HN.out.add X1 X2)
  all_goals try clear x0 x1 x2 x3
  all_goals clear c0 c1
  all_goals
    have y0 := HN.out.head.c0
    have y1 := HN.out.head.c1
    have y2 := HN.out.tail.head.f0
    have y3 := HN.out.tail.head.f1
    have y4 := HN.out.tail.head.c0
    have y5 := HN.out.tail.head.c1
    go_wp2_with fail
    exact bodyPost_ret (results_cell_row rfl _ _ (w.heap.size + 1) 23 #[.string X1, .string X2] _ _ rfl (two_strs HN.out.tail.head X1 X2) Tryz.underlying23 rfl (by kernel_rfl)) rfl ⟨rfl, fin1 HN.out.tail.head HN.out.below (by omega) _ _⟩

end Go.Proofs.YtjkklgpbblkhaaaGreatDoor

/-
  RationalLowest: for every four integers, every factor and either sign, and in every memory in which the table of the decimal powers holds its numbers, the law returns true.
-/
namespace Go.Proofs.YtjkklgpbblkhaaaGreatDoor
open Go.RowKit Bs Ig Qq

theorem row4l {W : World} {g : Nat} {x0 x1 x2 x3 : Int} (h : W.heap[g]? = some (.cells #[.int .i64 x0, .int .i64 x1, .int .i64 x2, .int .i64 x3] 24 (0, 0))) :
    W.cell? ⟨g, 0, none⟩ = some (.int .i64 x0) ∧ W.cell? ⟨g, 1, none⟩ = some (.int .i64 x1) ∧ W.cell? ⟨g, 2, none⟩ = some (.int .i64 x2) ∧ W.cell? ⟨g, 3, none⟩ = some (.int .i64 x3) :=
  ⟨by rw [cell_of_row _ _ 0 _ _ _ h]; rfl, by rw [cell_of_row _ _ 1 _ _ _ h]; rfl, by rw [cell_of_row _ _ 2 _ _ _ h]; rfl, by rw [cell_of_row _ _ 3 _ _ _ h]; rfl⟩
theorem makeQ_T {n d : Int} (hn : n.natAbs < big) (hd : d.natAbs < big) (h : d ≠ 0) : makeQ (T n) (T d) = okA (red n d) := by
  unfold makeQ
  refine buildS_ok ?_
  rw [runS_ok (N' := T (red n d).1) (D' := T (red n d).2) (reduceS_T hn hd h)]
  rfl
theorem low_ans {p : Int × Int} (hp : FV p) (h1 : p.1.natAbs < 10 ^ 100) (h2 : p.2.natAbs < 10 ^ 100) {K : Int} (hK : K ≠ 0) (hKb : K.natAbs < 10 ^ 7) :
    ∃ N D : ByteArray, wrS (p.1 * K) = (N, 0) ∧ wrS (p.2 * K) = (D, 0) ∧ makeQ N D = (T p.1, T p.2, 0) ∧ makeQ (T p.1) (T p.2) = (T p.1, T p.2, 0) ∧ makeQ ⟨#[48]⟩ (T K) = (⟨#[48]⟩, ⟨#[49]⟩, 0) := by
  have b1 : (p.1 * K).natAbs < big := hund (mul_hund h1 hKb (Nat.le_refl _)) (by omega)
  have b2 : (p.2 * K).natAbs < big := hund (mul_hund h2 hKb (Nat.le_refl _)) (by omega)
  have hpos := hp.pos
  have hne : p.2 * K ≠ 0 := Int.mul_ne_zero (by omega) hK
  refine ⟨_, _, wrS_ok b1, wrS_ok b2, ?_, ?_, ?_⟩
  · rw [makeQ_T b1 b2 hne, red_eq hne hp.isF (by rw [Int.mul_assoc, Int.mul_comm K, ← Int.mul_assoc])]; rfl
  · rw [makeQ_T hp.b1 hp.b2 (by omega), red_self hp.isF]; rfl
  · rw [← T0, makeQ_T zero_bigQ (hund hKb (by omega)) hK, red_eq (p := (0, 1)) hK zero_isF (by simp)]
    unfold okA
    rw [T1]

theorem St.drewl {w W : World} {L} (h : St w W L) : St w W.drew L := h.step ((Below.refl _ W).drew)
theorem St.cells4l {w W : World} {g1 : Nat} {a1 b1 : ByteArray} {g2 : Nat} {a2 b2 : ByteArray} {g3 : Nat} {a3 b3 : ByteArray} {g4 : Nat} {a4 b4 : ByteArray} (h : St w W [(g1, a1, b1), (g2, a2, b2), (g3, a3, b3), (g4, a4, b4)]) :
    W.cell? ⟨g1, 0, none⟩ = some (.string a1) ∧ W.cell? ⟨g1, 1, none⟩ = some (.string b1) ∧ W.cell? ⟨g2, 0, none⟩ = some (.string a2) ∧ W.cell? ⟨g2, 1, none⟩ = some (.string b2) ∧ W.cell? ⟨g3, 0, none⟩ = some (.string a3) ∧ W.cell? ⟨g3, 1, none⟩ = some (.string b3) ∧ W.cell? ⟨g4, 0, none⟩ = some (.string a4) ∧ W.cell? ⟨g4, 1, none⟩ = some (.string b4) :=
  ⟨h.head.c0, h.head.c1, h.tail.head.c0, h.tail.head.c1, h.tail.tail.head.c0, h.tail.tail.head.c1, h.tail.tail.tail.head.c0, h.tail.tail.tail.head.c1⟩

set_option maxRecDepth 100000 in
set_option maxHeartbeats 16000000 in
theorem RationalLowest_any (x0 x1 x2 x3 : Int) (h0 : -9223372036854775808 ≤ x0) (k0 : x0 ≤ 9223372036854775807) (h1 : -9223372036854775808 ≤ x1) (k1 : x1 ≤ 9223372036854775807) (h2 : -9223372036854775808 ≤ x2) (k2 : x2 ≤ 9223372036854775807) (h3 : -9223372036854775808 ≤ x3) (k3 : x3 ≤ 9223372036854775807)
    (c : Int) (hc0 : -9223372036854775808 ≤ c) (hc1 : c ≤ 9223372036854775807) (sign : Bool) (w : World) (ht : TabP w) :
    Calls Tryz.prog 9 #[.agg #[.int .i64 x0, .int .i64 x1, .int .i64 x2, .int .i64 x3], .int .i64 c, .bool sign] w fun e w' => e = .returned (.bool true) ∧ Below w.heap.size w w' := by
  have HN := Lib.hid ((St.start ht).step ((Below.refl _ w).alloc (Nat.le_refl _) (.cells #[.int .i64 x0, .int .i64 x1, .int .i64 x2, .int .i64 x3] 24)))
  have H4 := Lib.hid (heap_alloc_new w (.cells #[.int .i64 x0, .int .i64 x1, .int .i64 x2, .int .i64 x3] 24))
  have HI := Lib.hid is_any
  have HS := Lib.hid qsane_any
  have HLg := Lib.hid (rLong_any x0 x1 x2 x3 h0 k0 h1 k1 h2 k2 h3 k3)
  have K1 := Lib.hid (fun W => pick4_any c hc0 hc1 1000000 1000000 rfl (by omega) W)
  clear ht h0 k0 h1 k1 h2 k2 h3 k3 hc0 hc1
  cases sign
  · skip
    go_enter Tryz.func9, Tryz.ntmps9
    go_wp2_with (first
      | (go_at_call 11; (with_reducible refine (HS.out _ HN.out.tab).mono ?_); rintro e w0 ⟨rfl, hB⟩; have HN := Lib.hid (HN.out.step hB); obtain ⟨q0, q1, q2, q3⟩ := row4l ((hB.block _ (by simp)).trans H4.out); clear hB)
      | (go_at_call 13; (with_reducible refine (HLg.out _).mono ?_); rintro e w1 ⟨p, hp, hp1, hp2, rfl, hB⟩; have HN := Lib.hid (HN.out.step hB); clear hB q0 q1 q2 q3)
      | (go_at_call 22; (with_reducible refine (K1.out _).mono ?_); rintro e ww ⟨k, hk, rfl, hww⟩; rw [hww]; clear hww ww))
    have HN := Lib.hid (HN.out.add (T p.1) (T p.2))
    have hK : 1 + (k : Int) ≠ 0 := by omega
    have hKb : (1 + (k : Int)).natAbs < 10 ^ 7 := by omega
    obtain ⟨N, D, a1, a2, a3, a4, a5⟩ := low_ans hp hp1 hp2 hK hKb
    have hF := rFromInt_any (1 + (k : Int)) (by omega) (by omega)
    have m1 : ∀ W, Calls Tryz.prog 44 #[.string (T p.1), .string (T (1 + (k : Int)))] W fun e w' => e = .returned (.tuple #[.string N, .int .i64 0]) ∧ Below W.heap.size W w' := fun W => by
      have h := rMul_T p.1 (1 + (k : Int)) hp.b1 (hund hKb (by omega)) W
      rw [a1] at h
      exact h
    have m2 : ∀ W, Calls Tryz.prog 44 #[.string (T p.2), .string (T (1 + (k : Int)))] W fun e w' => e = .returned (.tuple #[.string D, .int .i64 0]) ∧ Below W.heap.size W w' := fun W => by
      have h := rMul_T p.2 (1 + (k : Int)) hp.b2 (hund hKb (by omega)) W
      rw [a2] at h
      exact h
    have n1 := fun (W : World) (h : TabP W) => qMake_any N D W h
    have n2 := fun (W : World) (h : TabP W) => qMake_any (T p.1) (T p.2) W h
    have n3 := fun (W : World) (h : TabP W) => qMake_any ⟨#[48]⟩ (T (1 + (k : Int))) W h
    simp only [a3, a4, a5] at n1 n2 n3
    unfold Answers at n1 n2 n3
    simp only at n1 n2 n3
    have n4 := fun (W : World) (h : TabP W) => qValid_any (T p.1) (T p.2) W h
    simp only [validB_T hp] at n4
    have n5 := fun (W : World) (h : TabP W) => qcompare hp hp W h
    simp only [Qq.cmp_self] at n5
    have z1 : (T p.1).size ≤ 1000 := by unfold T; rw [bs_size]; have := itoa_len hp.b1; omega
    have z2 : (T p.2).size ≤ 1000 := by unfold T; rw [bs_size]; have := itoa_len hp.b2; omega
    have n6 := fun (W : World) (h : TabP W) => qPrint_any (T p.1) (T p.2) z1 z2 W h
    obtain ⟨PR, hPR⟩ : ∃ PR, printQ (T p.1) (T p.2) = PR := ⟨_, rfl⟩
    simp only [hPR] at n6
    have HF := Lib.hid hF
    have M1 := Lib.hid m1
    have M2 := Lib.hid m2
    have N1 := Lib.hid n1
    have N2 := Lib.hid n2
    have N3 := Lib.hid n3
    have N4 := Lib.hid n4
    have N5 := Lib.hid n5
    have N6 := Lib.hid n6
    generalize T p.1 = R1 at *
    generalize T p.2 = R2 at *
    generalize T (1 + (k : Int)) = B at *
    clear hF m1 m2 n1 n2 n3 n4 n5 n6 a1 a2 a3 a4 a5 hK hKb z1 z2 hPR
    have y0 := HN.out.head.c0
    have y1 := HN.out.head.c1
    go_wp2_with (first
      | (go_at_call 43; (with_reducible refine (HF.out _).mono ?_); rintro e w2 ⟨rfl, hB⟩; clear y0 y1; have HN := Lib.hid (HN.out.step hB); clear hB; have y0 := HN.out.head.c0; have y1 := HN.out.head.c1)
      | (go_at_call 44; (with_reducible refine (M1.out _).mono ?_); rintro e w3 ⟨rfl, hB⟩; clear y0 y1; have HN := Lib.hid (HN.out.step hB); clear hB; have y0 := HN.out.head.c0; have y1 := HN.out.head.c1)
      | (go_at_call 44; (with_reducible refine (M2.out _).mono ?_); rintro e w4 ⟨rfl, hB⟩; clear y0 y1; have HN := Lib.hid (HN.out.step hB); clear hB; have y0 := HN.out.head.c0; have y1 := HN.out.head.c1)
      | (go_at_call 27; (with_reducible refine (N1.out _ HN.out.tab).mono ?_); rintro e w5 ⟨rfl, hB⟩; clear y0 y1; have HN := Lib.hid ((HN.out.step hB).add R1 R2); clear hB; have y0 := HN.out.tail.head.c0; have y1 := HN.out.tail.head.c1)
      | (go_at_call 27; (with_reducible refine (N2.out _ HN.out.tab).mono ?_); rintro e w6 ⟨rfl, hB⟩; clear y0 y1; have HN := Lib.hid ((HN.out.step hB).add R1 R2); clear hB)
      | (go_at_call 27; (with_reducible refine (N3.out _ HN.out.tab).mono ?_); rintro e w7 ⟨rfl, hB⟩; have HN := Lib.hid ((HN.out.step hB).add ⟨#[48]⟩ ⟨#[49]⟩); clear hB))
    refine wp_world fun W hW => ?_
    rw [← hW] at HN
    clear hW
    obtain ⟨y0, y1, y2, y3, y4, y5, y6, y7⟩ := HN.out.cells4l
    go_region_held3 (fun w' => w'.cell? ⟨w7.heap.size, 0, none⟩ = some (.string ⟨#[48]⟩) ∧ w'.cell? ⟨w7.heap.size, 1, none⟩ = some (.string ⟨#[49]⟩) ∧ w'.cell? ⟨w6.heap.size, 0, none⟩ = some (.string R1) ∧ w'.cell? ⟨w6.heap.size, 1, none⟩ = some (.string R2) ∧ w'.cell? ⟨w5.heap.size, 0, none⟩ = some (.string R1) ∧ w'.cell? ⟨w5.heap.size, 1, none⟩ = some (.string R2) ∧ w'.cell? ⟨w1.heap.size, 0, none⟩ = some (.string R1) ∧ w'.cell? ⟨w1.heap.size, 1, none⟩ = some (.string R2)) (first | exact HN.out.cells4l | go_keep)
      (first
        | (go_at_call 29; (with_reducible first | refine (N4.out _ HN.out.tab).mono ?_ | refine (N4.out _ HN.out.drewl.tab).mono ?_); rintro e ww ⟨rfl, hB⟩; (first | have HN := Lib.hid (HN.out.step hB) | have HN := Lib.hid (HN.out.step (below_undrew hB))); clear hB)
        | (go_at_call 20; (with_reducible first | refine (N5.out _ HN.out.tab).mono ?_ | refine (N5.out _ HN.out.drewl.tab).mono ?_); rintro e ww ⟨rfl, hB⟩; (first | have HN := Lib.hid (HN.out.step hB) | have HN := Lib.hid (HN.out.step (below_undrew hB))); clear hB)
        | (go_at_call 33; (with_reducible first | refine (N6.out _ HN.out.tab).mono ?_ | refine (N6.out _ HN.out.drewl.tab).mono ?_); rintro e ww ⟨rfl, hB⟩; (first | have HN := Lib.hid (HN.out.step hB) | have HN := Lib.hid (HN.out.step (below_undrew hB))); clear hB)
        | (go_at_call 41; (with_reducible refine (HI.out _ _ _).mono ?_); rintro e ww ⟨rfl, hB⟩; (first | have HN := Lib.hid (HN.out.step hB) | have HN := Lib.hid (HN.out.step (below_undrew hB))); clear hB))
    go_wp2_with fail
    go_ret
    exact ⟨rfl, HN.out.below⟩
  · skip
    go_enter Tryz.func9, Tryz.ntmps9
    go_wp2_with (first
      | (go_at_call 11; (with_reducible refine (HS.out _ HN.out.tab).mono ?_); rintro e w0 ⟨rfl, hB⟩; have HN := Lib.hid (HN.out.step hB); obtain ⟨q0, q1, q2, q3⟩ := row4l ((hB.block _ (by simp)).trans H4.out); clear hB)
      | (go_at_call 13; (with_reducible refine (HLg.out _).mono ?_); rintro e w1 ⟨p, hp, hp1, hp2, rfl, hB⟩; have HN := Lib.hid (HN.out.step hB); clear hB q0 q1 q2 q3)
      | (go_at_call 22; (with_reducible refine (K1.out _).mono ?_); rintro e ww ⟨k, hk, rfl, hww⟩; rw [hww]; clear hww ww))
    have HN := Lib.hid (HN.out.add (T p.1) (T p.2))
    have hK : -(1 + (k : Int)) ≠ 0 := by omega
    have hKb : (-(1 + (k : Int))).natAbs < 10 ^ 7 := by omega
    obtain ⟨N, D, a1, a2, a3, a4, a5⟩ := low_ans hp hp1 hp2 hK hKb
    have hF := rFromInt_any (-(1 + (k : Int))) (by omega) (by omega)
    have m1 : ∀ W, Calls Tryz.prog 44 #[.string (T p.1), .string (T (-(1 + (k : Int))))] W fun e w' => e = .returned (.tuple #[.string N, .int .i64 0]) ∧ Below W.heap.size W w' := fun W => by
      have h := rMul_T p.1 (-(1 + (k : Int))) hp.b1 (hund hKb (by omega)) W
      rw [a1] at h
      exact h
    have m2 : ∀ W, Calls Tryz.prog 44 #[.string (T p.2), .string (T (-(1 + (k : Int))))] W fun e w' => e = .returned (.tuple #[.string D, .int .i64 0]) ∧ Below W.heap.size W w' := fun W => by
      have h := rMul_T p.2 (-(1 + (k : Int))) hp.b2 (hund hKb (by omega)) W
      rw [a2] at h
      exact h
    have n1 := fun (W : World) (h : TabP W) => qMake_any N D W h
    have n2 := fun (W : World) (h : TabP W) => qMake_any (T p.1) (T p.2) W h
    have n3 := fun (W : World) (h : TabP W) => qMake_any ⟨#[48]⟩ (T (-(1 + (k : Int)))) W h
    simp only [a3, a4, a5] at n1 n2 n3
    unfold Answers at n1 n2 n3
    simp only at n1 n2 n3
    have n4 := fun (W : World) (h : TabP W) => qValid_any (T p.1) (T p.2) W h
    simp only [validB_T hp] at n4
    have n5 := fun (W : World) (h : TabP W) => qcompare hp hp W h
    simp only [Qq.cmp_self] at n5
    have z1 : (T p.1).size ≤ 1000 := by unfold T; rw [bs_size]; have := itoa_len hp.b1; omega
    have z2 : (T p.2).size ≤ 1000 := by unfold T; rw [bs_size]; have := itoa_len hp.b2; omega
    have n6 := fun (W : World) (h : TabP W) => qPrint_any (T p.1) (T p.2) z1 z2 W h
    obtain ⟨PR, hPR⟩ : ∃ PR, printQ (T p.1) (T p.2) = PR := ⟨_, rfl⟩
    simp only [hPR] at n6
    have HF := Lib.hid hF
    have M1 := Lib.hid m1
    have M2 := Lib.hid m2
    have N1 := Lib.hid n1
    have N2 := Lib.hid n2
    have N3 := Lib.hid n3
    have N4 := Lib.hid n4
    have N5 := Lib.hid n5
    have N6 := Lib.hid n6
    generalize T p.1 = R1 at *
    generalize T p.2 = R2 at *
    generalize T (-(1 + (k : Int))) = B at *
    clear hF m1 m2 n1 n2 n3 n4 n5 n6 a1 a2 a3 a4 a5 hK hKb z1 z2 hPR
    have y0 := HN.out.head.c0
    have y1 := HN.out.head.c1
    go_wp2_with (first
      | (go_at_call 43; (with_reducible refine (HF.out _).mono ?_); rintro e w2 ⟨rfl, hB⟩; clear y0 y1; have HN := Lib.hid (HN.out.step hB); clear hB; have y0 := HN.out.head.c0; have y1 := HN.out.head.c1)
      | (go_at_call 44; (with_reducible refine (M1.out _).mono ?_); rintro e w3 ⟨rfl, hB⟩; clear y0 y1; have HN := Lib.hid (HN.out.step hB); clear hB; have y0 := HN.out.head.c0; have y1 := HN.out.head.c1)
      | (go_at_call 44; (with_reducible refine (M2.out _).mono ?_); rintro e w4 ⟨rfl, hB⟩; clear y0 y1; have HN := Lib.hid (HN.out.step hB); clear hB; have y0 := HN.out.head.c0; have y1 := HN.out.head.c1)
      | (go_at_call 27; (with_reducible refine (N1.out _ HN.out.tab).mono ?_); rintro e w5 ⟨rfl, hB⟩; clear y0 y1; have HN := Lib.hid ((HN.out.step hB).add R1 R2); clear hB; have y0 := HN.out.tail.head.c0; have y1 := HN.out.tail.head.c1)
      | (go_at_call 27; (with_reducible refine (N2.out _ HN.out.tab).mono ?_); rintro e w6 ⟨rfl, hB⟩; clear y0 y1; have HN := Lib.hid ((HN.out.step hB).add R1 R2); clear hB)
      | (go_at_call 27; (with_reducible refine (N3.out _ HN.out.tab).mono ?_); rintro e w7 ⟨rfl, hB⟩; have HN := Lib.hid ((HN.out.step hB).add ⟨#[48]⟩ ⟨#[49]⟩); clear hB))
    refine wp_world fun W hW => ?_
    rw [← hW] at HN
    clear hW
    obtain ⟨y0, y1, y2, y3, y4, y5, y6, y7⟩ := HN.out.cells4l
    go_region_held3 (fun w' => w'.cell? ⟨w7.heap.size, 0, none⟩ = some (.string ⟨#[48]⟩) ∧ w'.cell? ⟨w7.heap.size, 1, none⟩ = some (.string ⟨#[49]⟩) ∧ w'.cell? ⟨w6.heap.size, 0, none⟩ = some (.string R1) ∧ w'.cell? ⟨w6.heap.size, 1, none⟩ = some (.string R2) ∧ w'.cell? ⟨w5.heap.size, 0, none⟩ = some (.string R1) ∧ w'.cell? ⟨w5.heap.size, 1, none⟩ = some (.string R2) ∧ w'.cell? ⟨w1.heap.size, 0, none⟩ = some (.string R1) ∧ w'.cell? ⟨w1.heap.size, 1, none⟩ = some (.string R2)) (first | exact HN.out.cells4l | go_keep)
      (first
        | (go_at_call 29; (with_reducible first | refine (N4.out _ HN.out.tab).mono ?_ | refine (N4.out _ HN.out.drewl.tab).mono ?_); rintro e ww ⟨rfl, hB⟩; (first | have HN := Lib.hid (HN.out.step hB) | have HN := Lib.hid (HN.out.step (below_undrew hB))); clear hB)
        | (go_at_call 20; (with_reducible first | refine (N5.out _ HN.out.tab).mono ?_ | refine (N5.out _ HN.out.drewl.tab).mono ?_); rintro e ww ⟨rfl, hB⟩; (first | have HN := Lib.hid (HN.out.step hB) | have HN := Lib.hid (HN.out.step (below_undrew hB))); clear hB)
        | (go_at_call 33; (with_reducible first | refine (N6.out _ HN.out.tab).mono ?_ | refine (N6.out _ HN.out.drewl.tab).mono ?_); rintro e ww ⟨rfl, hB⟩; (first | have HN := Lib.hid (HN.out.step hB) | have HN := Lib.hid (HN.out.step (below_undrew hB))); clear hB)
        | (go_at_call 41; (with_reducible refine (HI.out _ _ _).mono ?_); rintro e ww ⟨rfl, hB⟩; (first | have HN := Lib.hid (HN.out.step hB) | have HN := Lib.hid (HN.out.step (below_undrew hB))); clear hB))
    go_wp2_with fail
    go_ret
    exact ⟨rfl, HN.out.below⟩

end Go.Proofs.YtjkklgpbblkhaaaGreatDoor

/-
  RationalLowest: for every input the law returns true, and each argument reads afterwards as it read before.
  Conditions: the variables (the tables of the decimal powers and of the bit counts, and the errors of strconv) hold what the program's own text lays there, which the card ties to that text. The card's set-up speaks of the pruned copy of the project.
-/
namespace Go.Proofs.YtjkklgpbblkhaaaGreatDoor.rationalLowest
open Go.ChangeShapes Go.WideShapes Go.ChangeAt Go.RowKit
open Go.ChangeMaps (open_string shut_string)

theorem list4 {α : Type} (l : List α) (h : (⟨l⟩ : Array α).size = 4) : ∃ a b c d, l = [a, b, c, d] := by
  match l, h with
  | [a, b, c, d], _ => exact ⟨a, b, c, d, rfl⟩
theorem params_ok : ∀ t ∈ Tryz.f9.params.toList, Tryz.prog.readableRec t = true ∧ t < Tryz.prog.types.size := by
  rw [Tryz.params9]
  intro t ht
  simp only [List.mem_cons, List.not_mem_nil, or_false] at ht
  rcases ht with rfl | rfl | rfl <;> exact ⟨by kernel_rfl, of_decide_eq_true (by kernel_rfl)⟩

set_option maxRecDepth 100000 in
theorem walk_args {H : Type} {enc : TypeId × Value → H} {W : World} {base : Nat} {args : Array Value} {ds : List (DataW H)} {p : List MemPlace}
    (hval : ∀ (j : Nat) t v, Tryz.f9.params[j]? = some t → args[j]? = some v → Value.okWide Tryz.prog W .any base t v)
    (hA : DataW.TrodAll enc Tryz.prog W 0 (fun _ => true) true Tryz.f9.params.toList args.toList ds p) (ht : TabP W) :
    ds.length = 3 ∧ Calls Tryz.prog 9 args W fun e W' => e = .returned (.bool true) ∧ Below W.heap.size W W' := by
  rw [Tryz.params9] at hA hval
  obtain ⟨v0, vs0, d0, ds0, p0, q0, hargs, rfl, rfl, h0, r0⟩ := trodAll_cons hA
  obtain ⟨v1, vs1, d1, ds1, p1, q1, rfl, rfl, rfl, h1, r1⟩ := trodAll_cons r0
  obtain ⟨v2, vs2, d2, ds2, p2, q2, rfl, rfl, rfl, h2, r2⟩ := trodAll_cons r1
  obtain ⟨rfl, rfl, rfl⟩ := trodAll_nil r2
  obtain rfl : args = #[v0, v1, v2] := by cases args; simp_all
  refine ⟨rfl, ?_⟩
  obtain ⟨cs0, rfl, hsz0, _⟩ : ∃ cs, v0 = .agg cs ∧ cs.size = Tryz.prog.cellsOf 24 ∧ Row.okWide Tryz.prog W .any base 24 cs := by
    have := hval 0 24 v0 rfl rfl
    simpa [Value.okWide, Tryz.underlying24] using this
  rw [show Tryz.prog.cellsOf 24 = 4 from by kernel_rfl] at hsz0
  obtain ⟨cl0⟩ := cs0
  obtain ⟨c00, c01, c02, c03, rfl⟩ := list4 cl0 hsz0
  obtain ⟨fuel0, hf0⟩ := h0
  obtain ⟨xs0, m0, rfl, -, -, hxl0, hxs0⟩ := DataW.trod_array Tryz.underlying24 hf0
  have e00 := hxs0 0 (by omega)
  have e01 := hxs0 1 (by omega)
  have e02 := hxs0 2 (by omega)
  have e03 := hxs0 3 (by omega)
  rw [List.getElem?_eq_getElem (by omega), show Tryz.prog.cellsOf 3 = 1 from by kernel_rfl] at e00 e01 e02 e03
  obtain ⟨b00, x00, -, z00⟩ := DataW.trod_int Tryz.underlying3 e00
  obtain ⟨b01, x01, -, z01⟩ := DataW.trod_int Tryz.underlying3 e01
  obtain ⟨b02, x02, -, z02⟩ := DataW.trod_int Tryz.underlying3 e02
  obtain ⟨b03, x03, -, z03⟩ := DataW.trod_int Tryz.underlying3 e03
  simp [Value.cells] at x00 x01 x02 x03
  subst x00 x01 x02 x03
  obtain ⟨l00, u00⟩ := bounds_i64 z00
  obtain ⟨l01, u01⟩ := bounds_i64 z01
  obtain ⟨l02, u02⟩ := bounds_i64 z02
  obtain ⟨l03, u03⟩ := bounds_i64 z03
  obtain ⟨a1, rfl, rfl, rfl, w1⟩ := open_int Tryz.underlying3 (hval 1 3 v1 rfl rfl) h1
  obtain ⟨l1, u1⟩ := bounds_i64 w1
  obtain ⟨a2, rfl, rfl, rfl⟩ := open_bool Tryz.underlying4 (hval 2 4 v2 rfl rfl) h2
  exact RationalLowest_any b00 b01 b02 b03 l00 u00 l01 u01 l02 u02 l03 u03 a1 l1 u1 a2 W ht

def wargs : Array Value := #[.agg #[.int .i64 0, .int .i64 0, .int .i64 0, .int .i64 0], .int .i64 0, .bool false]
theorem laid_met (os : Os) : laidMet Tryz.prog Rows.rationalLowestRow.laid ((Tab.laidWorld os).forCall (fun _ _ => 0) ⟨#[], wargs, []⟩).memory :=
  Tab.laid_met os wargs
theorem reads (os : Os) {H : Type} (enc : TypeId × Value → H) : ∃ ds places, DataW.whole enc Tryz.prog ((Tab.laidWorld os).forCall (fun _ _ => 0) ⟨#[], wargs, []⟩).memory Tryz.f9.params.toList Rows.rationalLowestSpec.vars false wargs.toList 8 = some (ds, [], places) :=
  ⟨[.agg [.lit (.int .i64 0), .lit (.int .i64 0), .lit (.int .i64 0), .lit (.int .i64 0)], .lit (.int .i64 0), .lit (.bool false)], [], by kernel_rfl⟩

set_option maxRecDepth 100000 in
theorem lifted (os : Os) (started : os.Started) (H : Type) (enc : TypeId × Value → H) (F : Stop.Interp) :
    ReturnsInHanded {} Tryz.checked os 9 .any ((OpenSpec.ofChange Rows.rationalLowestSpec).preRow enc Tryz.prog Tryz.f9 Rows.rationalLowestRow.domain false Rows.rationalLowestRow.laid) (((OpenSpec.ofChange Rows.rationalLowestSpec).at F).post enc Tryz.prog Tryz.f9 false true false false) := by
  obtain ⟨wd, places, hx⟩ := reads os enc
  refine returnsInHanded_of_row (C := Tryz.checked) (s := OpenSpec.ofChange Rows.rationalLowestSpec) Tab.own started (by kernel_rfl) Tryz.func9
    (witness_row_at (enc := enc) (C := Tryz.checked) false (Tab.laidWorld os) wargs (Tab.laidWorld_os os) (by kernel_rfl) (by kernel_rfl) (by kernel_rfl)
      (OpenSpec.preRow_of_cond 8 hx (by kernel_rfl) (fun k hk => by cases hk) (by kernel_rfl) (laid_met os))) ?_
  intro W base args ds gs before hval hW _ _ _ hL _ _
  have hW' := hW
  obtain ⟨p, q, hA, -, -, -, -⟩ := hW'
  obtain ⟨h3, walk⟩ := walk_args hval hA (Tab.table hL)
  refine Fr.law_contract Tab.laidOut params_ok rfl (by kernel_rfl) Tryz.underlying4 hW ?_ walk
  match ds, h3 with
  | [_, _, _], _ => rfl

theorem said : Rows.RationalLowestSaid :=
  OpenClaim.holds_of_cond 9 Tryz.f9 rfl rfl rfl rfl rfl rfl rfl ⟨rfl, rfl, rfl, rfl, rfl⟩ rfl rfl rfl rfl rfl (by kernel_rfl) Tryz.func9 (by kernel_rfl)
    (of_decide_eq_true (by kernel_rfl)) (by unfold Func.isWrapper; first | (rw [if_pos (by decide +kernel)]; kernel_rfl) | (rw [if_neg (by decide +kernel)]; exact ⟨rfl, rfl⟩))
    (fun os started H enc _ F => by rw [OpenClaim.pre_eq_preRow]; exact lifted os started H enc F)

theorem plain (f : FuncId) (fn : Func) (hf : Tryz.pinned.checked.prog.funcNamed "longliner/longlinerlaw04.RationalLowest" = some f) (hfn : Tryz.pinned.checked.prog.funcs[f]? = some fn) :
    true = Tryz.pinned.checked.prog.looks [] ∧ ∀ (j : Nat) t, fn.params[j]? = some t → Tryz.pinned.checked.prog.wantsStandIn t = false := by
  obtain rfl : f = 9 := Option.some.inj ((show Tryz.prog.funcNamed "longliner/longlinerlaw04.RationalLowest" = some 9 by kernel_rfl).symm.trans hf) |>.symm
  obtain rfl : fn = Tryz.f9 := (Option.some.inj (Tryz.func9.symm.trans hfn)).symm
  refine ⟨by kernel_rfl, fun j t ht => ?_⟩
  rw [Tryz.params9] at ht
  have hm := Array.mem_of_getElem? ht
  simp only [List.mem_toArray, List.mem_cons, List.not_mem_nil, or_false] at hm
  rcases hm with rfl | rfl | rfl
  all_goals (show Tryz.prog.wantsStandIn _ = false; kernel_rfl)

theorem card : Rows.RationalLowestCardSaid :=
  Claim7.holds_tied_plain_at .later [] _ _ _ _ said (fun _ h => by cases h) (by kernel_rfl) (fun _ h => by cases h) rationalLowest_row_tie rfl ⟨rfl, rfl⟩ (by kernel_rfl) rfl plain (by kernel_rfl)
end Go.Proofs.YtjkklgpbblkhaaaGreatDoor.rationalLowest
