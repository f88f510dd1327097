/-
  Put together by program out of these texts, in this order: Qmi, Rsl, Qga, Qor, Qfd.
-/
import Derived.Test.YtjkklgpbblkhaaaGreatDoorZCaRFd19
import Derived.Test.YtjkklgpbblkhaaaGreatDoorZCaRFd18
import Derived.Test.YtjkklgpbblkhaaaGreatDoorZCaRFd14

/-
  Layer 4, for the laws: minus; what roundings answer at fractions that are not too large.
-/
namespace Go.Proofs.YtjkklgpbblkhaaaGreatDoor
open Go.RowKit Bs Ig Qq

theorem hund {z : Int} {k : Nat} (h : z.natAbs < 10 ^ k) (hk : k ≤ 200) : z.natAbs < big := Nat.lt_of_lt_of_le h (Nat.pow_le_pow_right (by omega) hk)
theorem mul_hund {x y : Int} {i j k : Nat} (hx : x.natAbs < 10 ^ i) (hy : y.natAbs < 10 ^ j) (h : i + j ≤ k) : (x * y).natAbs < 10 ^ k := by
  rw [Int.natAbs_mul]
  refine Nat.lt_of_lt_of_le (Nat.mul_lt_mul'' hx hy) ?_
  rw [← Nat.pow_add]
  exact Nat.pow_le_pow_right (by omega) h
theorem sub_hund {x y : Int} {i k : Nat} (hx : x.natAbs < 10 ^ i) (hy : y.natAbs < 10 ^ i) (h : i + 1 ≤ k) : (x - y).natAbs < 10 ^ k := by
  refine Nat.lt_of_lt_of_le ?_ (Nat.pow_le_pow_right (by omega) h)
  rw [Nat.pow_succ]
  have := Int.natAbs_sub_le x y
  omega
theorem add_hund {x y : Int} {i k : Nat} (hx : x.natAbs < 10 ^ i) (hy : y.natAbs < 10 ^ i) (h : i + 1 ≤ k) : (x + y).natAbs < 10 ^ k := by
  refine Nat.lt_of_lt_of_le ?_ (Nat.pow_le_pow_right (by omega) h)
  rw [Nat.pow_succ]
  have := Int.natAbs_add_le x y
  omega
theorem more_hund {z : Int} {i k : Nat} (hx : z.natAbs < 10 ^ i) (h : i ≤ k) : z.natAbs < 10 ^ k := Nat.lt_of_lt_of_le hx (Nat.pow_le_pow_right (by omega) h)
theorem one_hund {k : Nat} (h : 1 ≤ k) : (1 : Int).natAbs < 10 ^ k := Nat.lt_of_lt_of_le (show 1 < 10 ^ 1 by omega) (Nat.pow_le_pow_right (by omega) h)
theorem ten_hund {m k : Nat} (h : m < k) : ((10 ^ m : Nat) : Int).natAbs < 10 ^ k := by rw [Int.natAbs_natCast]; exact Nat.pow_lt_pow_right (by omega) h
theorem fl_hund {x d : Int} {k : Nat} (h : x.natAbs < 10 ^ k) : (fl x d).natAbs < 10 ^ k := Nat.lt_of_le_of_lt (Int.natAbs_ediv_le_natAbs x d) h
theorem ce_hund {x d : Int} {k : Nat} (h : x.natAbs < 10 ^ k) : (ce x d).natAbs < 10 ^ (k + 1) := by
  have h1 := fl_hund (d := d) h
  have h2 := ce_le (x := x) (d := d)
  unfold fl at h1
  have h3 : 0 < 10 ^ k := Nat.pow_pos (by omega)
  rw [Nat.pow_succ]
  omega

section
variable {p : Int × Int} (hp : FV p) {m : Nat} (hm : m ≤ 30)
include hp hm
theorem downQ_T {k : Nat} (h1 : p.1.natAbs < 10 ^ k) (hk : k ≤ 160) : downQ (T p.1) (T p.2) (m : Int) = okA (dn p ((10 ^ m : Nat) : Int)) := by
  have h2 : (p.1 * ((10 ^ m : Nat) : Int)).natAbs < 10 ^ (k + 31) := mul_hund h1 (ten_hund (show m < 31 by omega)) (Nat.le_refl _)
  unfold downQ
  rw [if_pos ⟨by omega, by omega⟩, Int.toNat_natCast]
  exact roundQ_ok hp (tq_T m) (ten_pos m) (ten_big hm) (hund h2 (by omega)) (floorS_T (hund h2 (by omega)) hp.b2 (by have := hp.pos; omega)) (hund (fl_hund h2) (by omega))
theorem upQ_T {k : Nat} (h1 : p.1.natAbs < 10 ^ k) (hk : k ≤ 160) : upQ (T p.1) (T p.2) (m : Int) = okA (up p ((10 ^ m : Nat) : Int)) := by
  have h2 : (p.1 * ((10 ^ m : Nat) : Int)).natAbs < 10 ^ (k + 31) := mul_hund h1 (ten_hund (show m < 31 by omega)) (Nat.le_refl _)
  unfold upQ
  rw [if_pos ⟨by omega, by omega⟩, Int.toNat_natCast]
  have h3 : (ce (p.1 * ((10 ^ m : Nat) : Int)) p.2).natAbs < big := hund (ce_hund h2) (by omega)
  exact roundQ_ok hp (tq_T m) (ten_pos m) (ten_big hm) (hund h2 (by omega)) ((ceilS_T (hund h2 (by omega)) hp.b2 (by have := hp.pos; omega)).trans (wrS_ok h3)) h3
end
section
variable {p : Int × Int} {m : Nat} (hm : m ≤ 30)
include hm
theorem dn_b {k : Nat} (h1 : p.1.natAbs < 10 ^ k) (hk : k ≤ 160) : FV (dn p ((10 ^ m : Nat) : Int)) ∧ (dn p ((10 ^ m : Nat) : Int)).1.natAbs < 10 ^ (k + 31) ∧ (dn p ((10 ^ m : Nat) : Int)).2.natAbs < 10 ^ 31 := by
  have h2 : (p.1 * ((10 ^ m : Nat) : Int)).natAbs < 10 ^ (k + 31) := mul_hund h1 (ten_hund (show m < 31 by omega)) (Nat.le_refl _)
  have h3 := fl_hund (d := p.2) h2
  exact ⟨red_FV (by have := ten_pos m; omega) (hund h3 (by omega)) (ten_big hm), Nat.lt_of_le_of_lt red_le.1 h3, Nat.lt_of_le_of_lt red_le.2 (ten_hund (by omega))⟩
theorem up_b {k : Nat} (h1 : p.1.natAbs < 10 ^ k) (hk : k ≤ 160) : FV (up p ((10 ^ m : Nat) : Int)) ∧ (up p ((10 ^ m : Nat) : Int)).1.natAbs < 10 ^ (k + 32) ∧ (up p ((10 ^ m : Nat) : Int)).2.natAbs < 10 ^ 31 := by
  have h2 : (p.1 * ((10 ^ m : Nat) : Int)).natAbs < 10 ^ (k + 31) := mul_hund h1 (ten_hund (show m < 31 by omega)) (Nat.le_refl _)
  have h3 := ce_hund (d := p.2) h2
  exact ⟨red_FV (by have := ten_pos m; omega) (hund h3 (by omega)) (ten_big hm), Nat.lt_of_le_of_lt red_le.1 h3, Nat.lt_of_le_of_lt red_le.2 (ten_hund (by omega))⟩
end
theorem neg_FV {p : Int × Int} (hp : FV p) : FV (neg p) := ⟨neg_isF hp.isF, by have := hp.b1; show (-p.1).natAbs < big; omega, hp.b2⟩
theorem zero_FV : FV (0, 1) := ⟨zero_isF, zero_bigQ, one_bigQ⟩
theorem negQ {p : Int × Int} (hp : FV p) : subQ (T 0) (T 1) (T p.1) (T p.2) = okA (neg p) := by
  have h := subQ_ok (p := (0, 1)) (q := p) zero_FV hp (by show ((0 : Int) * p.2).natAbs < big; rw [Int.zero_mul]; exact zero_bigQ) (by show (p.1 * 1).natAbs < big; rw [Int.mul_one]; exact hp.b1)
    (by have := hp.b1; show ((0 : Int) * p.2 - p.1 * 1).natAbs < big; rw [Int.zero_mul, Int.mul_one]; omega) (by show ((1 : Int) * p.2).natAbs < big; rw [Int.one_mul]; exact hp.b2)
  rw [h]
  congr 1
  exact neg_sub hp.isF

set_option maxRecDepth 100000 in
set_option maxHeartbeats 4000000 in
theorem qminus_any (R1 R2 X1 X2 : ByteArray) (X3 : Int) (w : World) (ht : TabP w) (h : subQ ⟨#[48]⟩ ⟨#[49]⟩ R1 R2 = (X1, X2, X3)) :
    Calls Tryz.prog 42 #[.agg #[.string R1, .string R2]] w fun e w' => e = .returned (.agg #[.string X1, .string X2]) ∧ Below w.heap.size w w' := by
  have hS := fun (W : World) (h : TabP W) => qSub_any ⟨#[48]⟩ ⟨#[49]⟩ R1 R2 W h
  simp only [h] at hS
  unfold Answers at hS
  simp only at hS
  have HS := Lib.hid hS
  have HI := Lib.hid is_any
  have hN := ((St.start ht).add R1 R2).add ⟨#[]⟩ ⟨#[]⟩
  rw [show (w.alloc (.cells #[.string R1, .string R2] 23)).heap.size = w.heap.size + 1 by simp] at hN
  have HN := Lib.hid hN
  clear h hS ht hN
  go_enter Tryz.func42, Tryz.ntmps42
  go_wp2_with fail
  have c0 := HN.out.tail.head.c0
  have c1 := HN.out.tail.head.c1
  refine wp_world fun W hW => ?_
  rw [← hW] at HN c0 c1
  clear hW
  go_region_held3 (fun w' => w'.cell? ⟨w.heap.size, 0, none⟩ = some (.string R1) ∧ w'.cell? ⟨w.heap.size, 1, none⟩ = some (.string R2)) (first | exact ⟨HN.out.tail.head.c0, HN.out.tail.head.c1⟩ | exact ⟨(HN.out.add _ _).tail.tail.head.c0, (HN.out.add _ _).tail.tail.head.c1⟩ | exact ⟨HN.out.tail.tail.head.c0, HN.out.tail.tail.head.c1⟩ | exact ⟨(HN.out.put HL.out _ _).tail.tail.head.c0, (HN.out.put HL.out _ _).tail.tail.head.c1⟩ | go_keep)
    (first
      | (go_at_call 41; (with_reducible refine (HI.out _ _ _).mono ?_); rintro e w4 ⟨rfl, hB⟩; (first | have HN := Lib.hid (HN.out.step (below_undrew hB)) | (have HL := Lib.hid HN.out.lts; have HN := Lib.hid ((HN.out.add _ _).step (below_undrew hB)); have x0 := HN.out.head.f0; have x1 := HN.out.head.f1; have x2 := HN.out.head.c0; have x3 := HN.out.head.c1)); clear hB)
      | (go_at_call 40; (with_reducible refine (HS.out _ HN.out.tab).mono ?_); rintro e w5 ⟨rfl, hB⟩; clear x0 x1 x2 x3; have HN := Lib.hid (HN.out.step hB); clear hB; have x0 := HN.out.head.f0; have x1 := HN.out.head.f1; have x2 := HN.out.head.c0; have x3 := HN.out.head.c1)
      | (go_at_call 40; have HL := Lib.hid HN.out.lts; (with_reducible refine (HS.out _ (HN.out.add _ _).tab).mono ?_); rintro e w5 ⟨rfl, hB⟩; have HN := Lib.hid ((HN.out.add _ _).step hB); clear hB; have x0 := HN.out.head.f0; have x1 := HN.out.head.f1; have x2 := HN.out.head.c0; have x3 := HN.out.head.c1)
      | (go_at_call 40; (with_reducible refine (HS.out _ HN.out.tab).mono ?_); rintro e w5 ⟨rfl, hB⟩; have HN := Lib.hid (HN.out.step hB); clear hB))
  all_goals first | have HN := Lib.hid (HN.out.put HL.out X1 X2) | have HN := Lib.hid (HN.out.add X1 X2)
  all_goals try clear x0 x1 x2 x3
  all_goals clear c0 c1
  all_goals
    have y0 := HN.out.head.c0
    have y1 := HN.out.head.c1
    have y2 := HN.out.tail.head.f0
    have y3 := HN.out.tail.head.f1
    have y4 := HN.out.tail.head.c0
    have y5 := HN.out.tail.head.c1
    go_wp2_with fail
    exact bodyPost_ret (results_cell_row rfl _ _ (w.heap.size + 1) 23 #[.string X1, .string X2] _ _ rfl (two_strs HN.out.tail.head X1 X2) Tryz.underlying23 rfl (by kernel_rfl)) rfl ⟨rfl, fin1 HN.out.tail.head HN.out.below (by omega) _ _⟩

end Go.Proofs.YtjkklgpbblkhaaaGreatDoor

/-
  Layer 4, the reference: Of with a positive denominator; the small fractions that two integers determine.
-/
namespace Go.Proofs.YtjkklgpbblkhaaaGreatDoor
open Go.RowKit Bs Ig Qq

set_option maxRecDepth 100000 in
set_option maxHeartbeats 4000000 in
theorem rOf_T (n d : Int) (hn : n.natAbs < 10 ^ 18) (hd : d.natAbs < 10 ^ 18) (h0 : 0 < d) (w : World) :
    Answers 32 #[.int .i64 n, .int .i64 d] (okA (red n d)) w := by
  have HF1 := Lib.hid (rFromInt_any n (by omega) (by omega))
  have HF2 := Lib.hid (rFromInt_any d (by omega) (by omega))
  have hM := rMake_T n d (hund hn (by omega)) (hund hd (by omega)) h0
  unfold Answers okA at hM ⊢
  simp only at hM ⊢
  have HM := Lib.hid hM
  obtain ⟨hB, r1⟩ := box0 w
  have HA := Lib.hid (And.intro hB r1)
  generalize T (red n d).1 = R1 at *
  generalize T (red n d).2 = R2 at *
  generalize T n = X at *
  generalize T d = Y at *
  clear hn hd h0 hM hB r1
  go_enter Tryz.func32, Tryz.ntmps32
  go_wp2_with (first
    | (go_at_call 43; (with_reducible refine (HF2.out _).mono ?_); rintro e w4 ⟨rfl, B4⟩; have b4 := below_on b3 B4 b3.size; have r4 := r3.later B4 r3.lt)
    | (go_at_call 43; (with_reducible refine (HF1.out _).mono ?_); rintro e w3 ⟨rfl, B3⟩; have b3 := below_on HA.out.1 B3 HA.out.1.size; have r3 := HA.out.2.later B3 HA.out.2.lt)
    | (go_at_call 28; (with_reducible refine (HM.out _).mono ?_); rintro e w6 ⟨rfl, B6⟩; have b6 := below_on b4 B6 b4.size; have u2 := r4.later B6 r4.lt; have g1 := u2.f0; have g2 := u2.f1; have g3 := u2.c0; have g4 := u2.c1))
  exact bodyPost_ret (results_row_tmp rfl _ _ w.heap.size 23 #[.string R1, .string R2] _ _ rfl (two_strs u2 R1 R2) Tryz.underlying23 rfl (by kernel_rfl)) rfl ⟨rfl, fin1 u2 b6 (by omega) _ _⟩

/-- the two integers' box, and boxes of strings behind it -/
structure Sb (w : World) (x0 x1 : Int) (W : World) (L : List (Nat × ByteArray × ByteArray)) : Prop where
  st : St w W L
  row : W.heap[w.heap.size]? = some (.cells #[.int .i64 x0, .int .i64 x1] 25 (0, 0))
section
variable {w W W' : World} {x0 x1 : Int} {L : List (Nat × ByteArray × ByteArray)} (h : Sb w x0 x1 W L)
include h
theorem Sb.step (hb : Below W.heap.size W W') : Sb w x0 x1 W' L := ⟨h.st.step hb, (hb.block _ (Array.getElem?_eq_some_iff.1 h.row).1).trans h.row⟩
theorem Sb.add (N D : ByteArray) : Sb w x0 x1 (W.alloc (.cells #[.string N, .string D] 23)) ((W.heap.size, N, D) :: L) :=
  ⟨h.st.add N D, (heap_alloc_old _ _ (Array.getElem?_eq_some_iff.1 h.row).1).trans h.row⟩
theorem Sb.drew : Sb w x0 x1 W.drew L := h.step ((Below.refl _ W).drew)
theorem Sb.c0 : W.cell? ⟨w.heap.size, 0, none⟩ = some (.int .i64 x0) := by rw [cell_of_row _ _ 0 _ _ _ h.row]; rfl
theorem Sb.c1 : W.cell? ⟨w.heap.size, 1, none⟩ = some (.int .i64 x1) := by rw [cell_of_row _ _ 1 _ _ _ h.row]; rfl
theorem Sb.lts : (w.heap.size ≤ W.heap.size ∧ ∀ x ∈ L, x.1 < W.heap.size) ∧ w.heap.size ≠ W.heap.size := ⟨h.st.lts, Nat.ne_of_lt (Array.getElem?_eq_some_iff.1 h.row).1⟩
theorem Sb.both : W.cell? ⟨w.heap.size, 0, none⟩ = some (.int .i64 x0) ∧ W.cell? ⟨w.heap.size, 1, none⟩ = some (.int .i64 x1) := ⟨h.c0, h.c1⟩
end
theorem Sb.put {w W : World} {x0 x1 : Int} {L} {g : Nat} {a b : ByteArray} (h : Sb w x0 x1 W ((g, a, b) :: L)) (hgg : (w.heap.size ≤ g ∧ ∀ x ∈ L, x.1 < g) ∧ w.heap.size ≠ g) (N D : ByteArray) :
    Sb w x0 x1 ((W.setCell ⟨g, 0, none⟩ (.string N)).setCell ⟨g, 1, none⟩ (.string D)) ((g, N, D) :: L) :=
  ⟨h.st.put hgg.1 N D, ((heap_setCell_other _ _ _ _ hgg.2).trans (heap_setCell_other _ _ _ _ hgg.2)).trans h.row⟩

set_option maxRecDepth 100000 in
set_option maxHeartbeats 4000000 in
theorem rSmall_any (x0 x1 : Int) (h0 : -9223372036854775808 ≤ x0) (k0 : x0 ≤ 9223372036854775807) (h1 : -9223372036854775808 ≤ x1) (k1 : x1 ≤ 9223372036854775807) (w : World) (ht : TabP w) :
    Calls Tryz.prog 14 #[.agg #[.int .i64 x0, .int .i64 x1]] w fun e w' => ∃ p : Int × Int, FV p ∧ p.1.natAbs < 10 ^ 4 ∧ p.2.natAbs < 10 ^ 4 ∧ e = .returned (.agg #[.string (T p.1), .string (T p.2)]) ∧ Below w.heap.size w w' := by
  obtain ⟨a, ha, P0⟩ := rpick4_det x0 h0 k0 1999 1999 rfl (by omega)
  obtain ⟨b, hb, P1⟩ := rpick4_det x1 h1 k1 60 60 rfl (by omega)
  obtain ⟨n, hn⟩ : ∃ n : Int, (a : Int) - 999 = n := ⟨_, rfl⟩
  obtain ⟨d, hd⟩ : ∃ d : Int, 1 + (b : Int) = d := ⟨_, rfl⟩
  have hO := rOf_T n d (by omega) (by omega) (by omega)
  unfold Answers okA at hO
  simp only at hO
  have e1 : IntKind.i64.wrap n = n := by rw [IntKind.wrap_i64]; omega
  have e2 : IntKind.i64.wrap d = d := by rw [IntKind.wrap_i64]; omega
  have hO2 : ∀ W, Calls Tryz.prog 32 #[.int .i64 (IntKind.i64.wrap n), .int .i64 (IntKind.i64.wrap d)] W fun e w' => e = .returned (.tuple #[.agg #[.string (T (red n d).1), .string (T (red n d).2)], .int .i64 0]) ∧ Below W.heap.size W w' := by
    rw [e1, e2]; exact hO
  have hp : ∃ p : Int × Int, FV p ∧ p.1.natAbs < 10 ^ 4 ∧ p.2.natAbs < 10 ^ 4 ∧ T (red n d).1 = T p.1 ∧ T (red n d).2 = T p.2 :=
    ⟨red n d, red_FV (by omega) (hund (k := 18) (by omega) (by omega)) (hund (k := 18) (by omega) (by omega)), Nat.lt_of_le_of_lt red_le.1 (by omega), Nat.lt_of_le_of_lt red_le.2 (by omega), rfl, rfl⟩
  have hN : Sb w x0 x1 ((w.alloc (.cells #[.int .i64 x0, .int .i64 x1] 25)).alloc (.cells #[.string ⟨#[]⟩, .string ⟨#[]⟩] 23)) [((w.alloc (.cells #[.int .i64 x0, .int .i64 x1] 25)).heap.size, ⟨#[]⟩, ⟨#[]⟩)] :=
    Sb.add ⟨(St.start ht).step ((Below.refl _ w).alloc (Nat.le_refl _) _), heap_alloc_new _ _⟩ _ _
  rw [show (w.alloc (.cells #[.int .i64 x0, .int .i64 x1] 25)).heap.size = w.heap.size + 1 by simp] at hN
  have HN := Lib.hid hN
  have HP0 := Lib.hid P0
  have HP1 := Lib.hid P1
  have HO := Lib.hid hO2
  have HP := Lib.hid hp
  generalize T (red n d).1 = R1 at *
  generalize T (red n d).2 = R2 at *
  clear e1 e2 hN P0 P1 hO hO2 hp h0 k0 h1 k1 ht
  go_enter Tryz.func14, Tryz.ntmps14
  go_wp2_with fail
  refine wp_world fun W hW => ?_
  rw [← hW] at HN
  clear hW
  have c0 := HN.out.c0
  have c1 := HN.out.c1
  go_region_held3 (fun w' => w'.cell? ⟨w.heap.size, 0, none⟩ = some (.int .i64 x0) ∧ w'.cell? ⟨w.heap.size, 1, none⟩ = some (.int .i64 x1)) (first | exact HN.out.both | exact (HN.out.add _ _).both | exact HN.out.drew.both | exact (HN.out.put HL.out _ _).both | exact (HN.out.add _ _).drew.both | go_keep)
    (first
      | (go_at_call 46; (with_reducible refine (HP0.out _).mono ?_); rintro e ww ⟨rfl, hww⟩; rw [hww]; clear hww ww)
      | (go_at_call 46; (with_reducible refine (HP1.out _).mono ?_); rintro e ww ⟨rfl, hww⟩; rw [hww]; clear hww ww)
      | (go_at_call 32; (with_reducible refine (HO.out _).mono ?_); rintro e w5 ⟨rfl, hB⟩; (first | have HN := Lib.hid (HN.out.step hB) | have HN := Lib.hid (HN.out.drew.step hB) | (have HL := Lib.hid HN.out.lts; have HN := Lib.hid ((HN.out.add _ _).step hB); have v0 := HN.out.st.head.f0; have v1 := HN.out.st.head.f1; have v2 := HN.out.st.head.c0; have v3 := HN.out.st.head.c1) | (have HL := Lib.hid HN.out.lts; have HN := Lib.hid ((HN.out.add _ _).drew.step hB); have v0 := HN.out.st.head.f0; have v1 := HN.out.st.head.f1; have v2 := HN.out.st.head.c0; have v3 := HN.out.st.head.c1)); clear hB))
  all_goals first | have HN := Lib.hid (HN.out.put HL.out R1 R2) | have HN := Lib.hid (HN.out.add R1 R2)
  all_goals try clear v0 v1 v2 v3
  all_goals
    have y0 := HN.out.st.head.c0
    have y1 := HN.out.st.head.c1
    have y2 := HN.out.st.tail.head.f0
    have y3 := HN.out.st.tail.head.f1
    have y4 := HN.out.st.tail.head.c0
    have y5 := HN.out.st.tail.head.c1
    go_wp2_with fail
    obtain ⟨p, hp1, hp2, hp3, hp4, hp5⟩ := HP.out
    exact bodyPost_ret (results_cell_row rfl _ _ (w.heap.size + 1) 23 #[.string R1, .string R2] _ _ rfl (two_strs HN.out.st.tail.head R1 R2) Tryz.underlying23 rfl (by kernel_rfl)) rfl ⟨p, hp1, hp2, hp3, by rw [hp4, hp5], fin1 HN.out.st.tail.head HN.out.st.below (by omega) _ _⟩

end Go.Proofs.YtjkklgpbblkhaaaGreatDoor

/-
  RationalGrid: what its calls answer.
-/
namespace Go.Proofs.YtjkklgpbblkhaaaGreatDoor
open Go.RowKit Bs Ig Qq

theorem okA_T {p : Int × Int} {x y : ByteArray} (h1 : T p.1 = x) (h2 : T p.2 = y) : okA p = (x, y, 0) := by unfold okA; rw [h1, h2]
theorem grid_ans {p : Int × Int} (hp : FV p) (h1 : p.1.natAbs < 10 ^ 100) {m : Nat} (hm : m ≤ 30) :
    ∃ (A1 A2 B1 B2 C1 C2 N1 V1 V2 M1 : ByteArray) (v1 v2 : Int), downQ (T p.1) (T p.2) (m : Int) = (A1, A2, 0) ∧ upQ (T p.1) (T p.2) (m : Int) = (B1, B2, 0) ∧ subQ ⟨#[48]⟩ ⟨#[49]⟩ (T p.1) (T p.2) = (M1, T p.2, 0) ∧
      downQ M1 (T p.2) (m : Int) = (C1, C2, 0) ∧ subQ ⟨#[48]⟩ ⟨#[49]⟩ C1 C2 = (B1, B2, 0) ∧ downQ B1 B2 (m : Int) = (B1, B2, 0) ∧ upQ A1 A2 (m : Int) = (A1, A2, 0) ∧ mulQ A1 A2 (tq m) ⟨#[49]⟩ = (N1, ⟨#[49]⟩, 0) ∧
      subQ B1 B2 A1 A2 = (V1, V2, 0) ∧ v1 ≤ 0 ∧ 0 ≤ v2 ∧ (v1 = 0 ∧ v2 = 0 ∧ V1 = ⟨#[48]⟩ ∧ V2 = ⟨#[49]⟩ ∨ v1 ≠ 0 ∧ v2 ≠ 0 ∧ V1 = ⟨#[49]⟩ ∧ V2 = tq m) ∧
      (∀ W, TabP W → Calls Tryz.prog 20 #[.agg #[.string A1, .string A2], .agg #[.string (T p.1), .string (T p.2)]] W fun e w' => e = .returned (.int .i64 v1) ∧ Below W.heap.size W w') ∧
      (∀ W, TabP W → Calls Tryz.prog 20 #[.agg #[.string B1, .string B2], .agg #[.string (T p.1), .string (T p.2)]] W fun e w' => e = .returned (.int .i64 v2) ∧ Below W.heap.size W w') := by
  have ht := ten_pos m
  have hA := dn_b (p := p) hm h1 (by omega)
  have hB := up_b (p := p) hm h1 (by omega)
  have hn : (neg p).1.natAbs < 10 ^ 100 := by show (-p.1).natAbs < _; omega
  have hC := dn_b (p := neg p) hm hn (by omega)
  have htm : ((10 ^ m : Nat) : Int).natAbs < 10 ^ 31 := ten_hund (by omega)
  have htb := ten_big hm
  have hTq := tq_T m
  have d1 := downQ_T hp hm h1 (by omega)
  have u1 := upQ_T hp hm h1 (by omega)
  have n1 := negQ hp
  have d2 := downQ_T (neg_FV hp) hm hn (by omega)
  have n2 := negQ hC.1
  rw [neg_dn hp.isF ht] at n2
  have d3 := downQ_T hB.1 hm hB.2.1 (by omega)
  rw [dn_up ht] at d3
  have u3 := upQ_T hA.1 hm hA.2.1 (by omega)
  rw [up_dn ht] at u3
  have tF : FV (((10 ^ m : Nat) : Int), 1) := ⟨⟨Int.one_pos, by simp⟩, htb, one_bigQ⟩
  have m1 := mulQ_ok (p := dn p ((10 ^ m : Nat) : Int)) (q := (((10 ^ m : Nat) : Int), 1)) hA.1 tF (hund (mul_hund hA.2.1 htm (Nat.le_refl _)) (by omega)) (by show ((dn p ((10 ^ m : Nat) : Int)).2 * 1).natAbs < big; rw [Int.mul_one]; exact hA.1.b2)
  have s1 := subQ_ok (p := up p ((10 ^ m : Nat) : Int)) (q := dn p ((10 ^ m : Nat) : Int)) hB.1 hA.1 (hund (mul_hund hB.2.1 hA.2.2 (Nat.le_refl _)) (by omega)) (hund (mul_hund hA.2.1 hB.2.2 (Nat.le_refl _)) (by omega))
    (hund (sub_hund (mul_hund hB.2.1 hA.2.2 (Nat.le_refl _)) (mul_hund hA.2.1 hB.2.2 (by omega)) (Nat.le_refl _)) (by omega)) (hund (mul_hund hB.2.2 hA.2.2 (Nat.le_refl _)) (by omega))
  have hw := width (r := p) ht
  have k1 := dn_le hp.isF ht
  have k2 := up_ge hp.isF ht
  have e1 := dn_exact hp.isF ht
  have e2 := up_exact hp.isF ht
  have g1 := grid_den (k := fl (p.1 * ((10 ^ m : Nat) : Int)) p.2) ht
  have c1 := fun W h => qcompare hA.1 hp W h
  have c2 := fun W h => qcompare hB.1 hp W h
  rw [T0, T1] at n1 n2
  refine ⟨_, _, _, _, _, _, T (times (dn p ((10 ^ m : Nat) : Int)) (((10 ^ m : Nat) : Int), 1)).1, T (less (up p ((10 ^ m : Nat) : Int)) (dn p ((10 ^ m : Nat) : Int))).1, T (less (up p ((10 ^ m : Nat) : Int)) (dn p ((10 ^ m : Nat) : Int))).2, _, _, _, d1, u1, n1, d2, n2, d3, u3, ?_, ?_, k1, k2, ?_, c1, c2⟩
  · rw [hTq, ← T1]
    refine m1.trans (okA_T rfl ?_)
    unfold times dn
    rw [g1]
  · exact s1
  · unfold less
    rw [hw]
    by_cases h : (p.1 * ((10 ^ m : Nat) : Int)) % p.2 = 0
    · rw [if_pos h]; exact .inl ⟨e1.2 h, e2.2 h, T0, T1⟩
    · rw [if_neg h]; exact .inr ⟨fun hh => h (e1.1 hh), fun hh => h (e2.1 hh), T1, hTq.symm⟩

end Go.Proofs.YtjkklgpbblkhaaaGreatDoor

/-
  RationalOrder: under way. The first part of the walk: the inputs.
-/
namespace Go.Proofs.YtjkklgpbblkhaaaGreatDoor
open Go.RowKit Bs Ig Qq

theorem cells_later {W W' : World} {g : Nat} {cs : Array Value} {t : TypeId} {fr : Nat × Nat} (h : W.heap[g]? = some (.cells cs t fr)) (hb : Below W.heap.size W W') : W'.heap[g]? = some (.cells cs t fr) :=
  (hb.block _ (Array.getElem?_eq_some_iff.1 h).1).trans h
/-- what the law asks of the order of three fractions, and of sums, products and differences -/
theorem ord_ans {p q : Int × Int} (hp : FV p) (hq : FV q) (h1 : p.1.natAbs < 10 ^ 100) (h2 : p.2.natAbs < 10 ^ 100) (g1 : q.1.natAbs < 10 ^ 4) (g2 : q.2.natAbs < 10 ^ 4) :
    addQ (T p.1) (T p.2) (T q.1) (T q.2) = okA (plus p q) ∧ mulQ (T p.1) (T p.2) (T q.1) (T q.2) = okA (times p q) ∧ FV (plus p q) ∧ FV (times p q) := by
  have a1 : (p.1 * q.2).natAbs < 10 ^ 104 := mul_hund h1 g2 (by omega)
  have a2 : (q.1 * p.2).natAbs < 10 ^ 104 := mul_hund g1 h2 (by omega)
  have a3 : (p.2 * q.2).natAbs < 10 ^ 104 := mul_hund h2 g2 (by omega)
  have a4 : (p.1 * q.1).natAbs < 10 ^ 104 := mul_hund h1 g1 (by omega)
  have a5 : (p.1 * q.2 + q.1 * p.2).natAbs < 10 ^ 105 := add_hund a1 a2 (by omega)
  have hn := den_ne hp.isF hq.isF
  exact ⟨addQ_ok hp hq (hund a1 (by omega)) (hund a2 (by omega)) (hund a5 (by omega)) (hund a3 (by omega)), mulQ_ok hp hq (hund a4 (by omega)) (hund a3 (by omega)),
    red_FV hn (hund a5 (by omega)) (hund a3 (by omega)), red_FV hn (hund a4 (by omega)) (hund a3 (by omega))⟩

theorem sub_two {p q : Int × Int} (hp : FV p) (hq : FV q) :
    subQ (T p.1) (T p.2) (T q.1) (T q.2) = (⟨#[]⟩, ⟨#[]⟩, 40) ∨ ∃ D1 D2, subQ (T p.1) (T p.2) (T q.1) (T q.2) = (D1, D2, 0) ∧
      ∀ W, TabP W → Calls Tryz.prog 20 #[.agg #[.string D1, .string D2], .agg #[.string ⟨#[48]⟩, .string ⟨#[49]⟩]] W fun e w' => e = .returned (.int .i64 (cmpF p q)) ∧ Below W.heap.size W w' := by
  by_cases h : (p.1 * q.2).natAbs < big ∧ (q.1 * p.2).natAbs < big ∧ (p.1 * q.2 - q.1 * p.2).natAbs < big ∧ (p.2 * q.2).natAbs < big
  · refine .inr ⟨_, _, subQ_ok hp hq h.1 h.2.1 h.2.2.1 h.2.2.2, fun W hW => ?_⟩
    have hn := den_ne hp.isF hq.isF
    have hc := qcompare (red_FV (n := p.1 * q.2 - q.1 * p.2) hn h.2.2.1 h.2.2.2) zero_FV W hW
    rw [cmp_sub hp.isF hq.isF, T0, T1] at hc
    exact hc
  · exact .inl (subQ_no hp hq h)

theorem ord_facts {p q r t : Int × Int} (hp : FV p) (hq : FV q) (hr : FV r) (ht : FV t) (p1 : p.1.natAbs < 10 ^ 100) (p2 : p.2.natAbs < 10 ^ 100) (q1 : q.1.natAbs < 10 ^ 100) (q2 : q.2.natAbs < 10 ^ 100)
    (g1 : t.1.natAbs < 10 ^ 4) (g2 : t.2.natAbs < 10 ^ 4) :
    ∃ (ab bc ac s : Int) (P1 P2 Q1 Q2 M1 M2 N1 N2 : ByteArray), (-1 ≤ ab ∧ ab ≤ 1 ∧ -1 ≤ bc ∧ bc ≤ 1 ∧ -1 ≤ ac ∧ ac ≤ 1 ∧ -1 ≤ s ∧ s ≤ 1) ∧
      (ab = 0 ↔ (T p.1 = T q.1 ∧ T p.2 = T q.2)) ∧ (ab ≤ 0 → bc ≤ 0 → ac ≤ 0) ∧ (ab ≤ 0 → bc < 0 → ac < 0) ∧
      (∀ W, TabP W → Calls Tryz.prog 20 #[.agg #[.string (T p.1), .string (T p.2)], .agg #[.string (T q.1), .string (T q.2)]] W fun e w' => e = .returned (.int .i64 ab) ∧ Below W.heap.size W w') ∧
      (∀ W, TabP W → Calls Tryz.prog 20 #[.agg #[.string (T q.1), .string (T q.2)], .agg #[.string (T r.1), .string (T r.2)]] W fun e w' => e = .returned (.int .i64 bc) ∧ Below W.heap.size W w') ∧
      (∀ W, TabP W → Calls Tryz.prog 20 #[.agg #[.string (T p.1), .string (T p.2)], .agg #[.string (T r.1), .string (T r.2)]] W fun e w' => e = .returned (.int .i64 ac) ∧ Below W.heap.size W w') ∧
      (∀ W, TabP W → Calls Tryz.prog 20 #[.agg #[.string (T q.1), .string (T q.2)], .agg #[.string (T p.1), .string (T p.2)]] W fun e w' => e = .returned (.int .i64 (-ab)) ∧ Below W.heap.size W w') ∧
      (∀ W, TabP W → Calls Tryz.prog 20 #[.agg #[.string (T p.1), .string (T p.2)], .agg #[.string (T p.1), .string (T p.2)]] W fun e w' => e = .returned (.int .i64 0) ∧ Below W.heap.size W w') ∧
      (subQ (T p.1) (T p.2) (T q.1) (T q.2) = (⟨#[]⟩, ⟨#[]⟩, 40) ∨ ∃ D1 D2, subQ (T p.1) (T p.2) (T q.1) (T q.2) = (D1, D2, 0) ∧
        ∀ W, TabP W → Calls Tryz.prog 20 #[.agg #[.string D1, .string D2], .agg #[.string ⟨#[48]⟩, .string ⟨#[49]⟩]] W fun e w' => e = .returned (.int .i64 ab) ∧ Below W.heap.size W w') ∧
      addQ (T p.1) (T p.2) (T t.1) (T t.2) = (P1, P2, 0) ∧ addQ (T q.1) (T q.2) (T t.1) (T t.2) = (Q1, Q2, 0) ∧ mulQ (T p.1) (T p.2) (T t.1) (T t.2) = (M1, M2, 0) ∧ mulQ (T q.1) (T q.2) (T t.1) (T t.2) = (N1, N2, 0) ∧
      (∀ W, TabP W → Calls Tryz.prog 20 #[.agg #[.string P1, .string P2], .agg #[.string Q1, .string Q2]] W fun e w' => e = .returned (.int .i64 ab) ∧ Below W.heap.size W w') ∧
      (∀ W, TabP W → Calls Tryz.prog 20 #[.agg #[.string M1, .string M2], .agg #[.string N1, .string N2]] W fun e w' => e = .returned (.int .i64 (ab * s)) ∧ Below W.heap.size W w') ∧
      (∀ W, TabP W → Calls Tryz.prog 20 #[.agg #[.string (T t.1), .string (T t.2)], .agg #[.string ⟨#[48]⟩, .string ⟨#[49]⟩]] W fun e w' => e = .returned (.int .i64 s) ∧ Below W.heap.size W w') := by
  obtain ⟨a1, m1, fa, fm⟩ := ord_ans hp ht p1 p2 g1 g2
  obtain ⟨a2, m2, ga, gm⟩ := ord_ans hq ht q1 q2 g1 g2
  refine ⟨cmpF p q, cmpF q r, cmpF p r, cmpF t (0, 1), _, _, _, _, _, _, _, _, ⟨(cmp_bounds p q).1, (cmp_bounds p q).2, (cmp_bounds q r).1, (cmp_bounds q r).2, (cmp_bounds p r).1, (cmp_bounds p r).2, (cmp_bounds _ _).1, (cmp_bounds _ _).2⟩,
    ?_, cmp_trans hp.isF hq.isF hr.isF, cmp_trans_lt hp.isF hq.isF hr.isF, qcompare hp hq, qcompare hq hr, qcompare hp hr, ?_, ?_, sub_two hp hq, a1, a2, m1, m2, ?_, ?_, ?_⟩
  · rw [cmp_zero hp.isF hq.isF]
    exact ⟨fun h => by rw [h]; exact ⟨rfl, rfl⟩, fun h => Prod.ext (T_inj h.1) (T_inj h.2)⟩
  · intro W hW; have h := qcompare hq hp W hW; rw [cmp_swap p q] at h; exact h
  · intro W hW; have h := qcompare hp hp W hW; rw [Qq.cmp_self p] at h; exact h
  · intro W hW; have h := qcompare fa ga W hW; rw [show cmpF (plus p t) (plus q t) = cmpF p q from cmp_add hp.isF hq.isF ht.isF] at h; exact h
  · intro W hW; have h := qcompare fm gm W hW; rw [show cmpF (times p t) (times q t) = cmpF p q * cmpF t (0, 1) from cmp_mul hp.isF hq.isF ht.isF] at h; exact h
  · intro W hW; have h := qcompare ht zero_FV W hW; rw [T0, T1] at h; exact h

end Go.Proofs.YtjkklgpbblkhaaaGreatDoor

/-
  RationalField: the mathematics. What an operation that answers no error says of its arguments, and the laws of a field for answers.
-/
namespace Go.Proofs.YtjkklgpbblkhaaaGreatDoor
open Go.RowKit Bs Ig Qq

theorem T2_inj {p q : Int × Int} (h1 : T p.1 = T q.1) (h2 : T p.2 = T q.2) : p = q := Prod.ext (T_inj h1) (T_inj h2)
theorem noA_0 {x y : ByteArray} (h : noA = (x, y, 0)) : False := by
  have h2 : (40 : Int) = 0 := congrArg (fun r => r.2.2) h
  exact absurd h2 (by decide)
theorem okA_0 {p : Int × Int} {x y : ByteArray} {e : Int} (h : okA p = (x, y, e)) : x = T p.1 ∧ y = T p.2 ∧ e = 0 :=
  ⟨(congrArg (fun r => r.1) h).symm, (congrArg (fun r => r.2.1) h).symm, (congrArg (fun r => r.2.2) h).symm⟩
theorem noA_e {x y : ByteArray} {e : Int} (h : noA = (x, y, e)) : e = 40 := (congrArg (fun r => r.2.2) h).symm
theorem addQ_or (a b c d : ByteArray) : addQ a b c d = noA ∨ ∃ p q : Int × Int, FV p ∧ FV q ∧ a = T p.1 ∧ b = T p.2 ∧ c = T q.1 ∧ d = T q.2 ∧ addQ a b c d = okA (plus p q) := by
  rcases inv_or a b with h | ⟨p, hp, rfl, rfl⟩
  · exact .inl (addQ_inv (.inl h))
  rcases inv_or c d with h | ⟨q, hq, rfl, rfl⟩
  · exact .inl (addQ_inv (.inr h))
  by_cases h : (p.1 * q.2).natAbs < big ∧ (q.1 * p.2).natAbs < big ∧ (p.1 * q.2 + q.1 * p.2).natAbs < big ∧ (p.2 * q.2).natAbs < big
  · exact .inr ⟨p, q, hp, hq, rfl, rfl, rfl, rfl, addQ_ok hp hq h.1 h.2.1 h.2.2.1 h.2.2.2⟩
  · exact .inl (addQ_no hp hq h)
theorem subQ_or (a b c d : ByteArray) : subQ a b c d = noA ∨ ∃ p q : Int × Int, FV p ∧ FV q ∧ a = T p.1 ∧ b = T p.2 ∧ c = T q.1 ∧ d = T q.2 ∧ subQ a b c d = okA (less p q) := by
  rcases inv_or a b with h | ⟨p, hp, rfl, rfl⟩
  · exact .inl (subQ_inv (.inl h))
  rcases inv_or c d with h | ⟨q, hq, rfl, rfl⟩
  · exact .inl (subQ_inv (.inr h))
  by_cases h : (p.1 * q.2).natAbs < big ∧ (q.1 * p.2).natAbs < big ∧ (p.1 * q.2 - q.1 * p.2).natAbs < big ∧ (p.2 * q.2).natAbs < big
  · exact .inr ⟨p, q, hp, hq, rfl, rfl, rfl, rfl, subQ_ok hp hq h.1 h.2.1 h.2.2.1 h.2.2.2⟩
  · exact .inl (subQ_no hp hq h)
theorem mulQ_or (a b c d : ByteArray) : mulQ a b c d = noA ∨ ∃ p q : Int × Int, FV p ∧ FV q ∧ a = T p.1 ∧ b = T p.2 ∧ c = T q.1 ∧ d = T q.2 ∧ mulQ a b c d = okA (times p q) := by
  rcases inv_or a b with h | ⟨p, hp, rfl, rfl⟩
  · exact .inl (mulQ_inv (.inl h))
  rcases inv_or c d with h | ⟨q, hq, rfl, rfl⟩
  · exact .inl (mulQ_inv (.inr h))
  by_cases h : (p.1 * q.1).natAbs < big ∧ (p.2 * q.2).natAbs < big
  · exact .inr ⟨p, q, hp, hq, rfl, rfl, rfl, rfl, mulQ_ok hp hq h.1 h.2⟩
  · exact .inl (mulQ_no hp hq h)
theorem divQ_or (a b c d : ByteArray) : divQ a b c d = noA ∨ ∃ p q : Int × Int, FV p ∧ FV q ∧ q.1 ≠ 0 ∧ a = T p.1 ∧ b = T p.2 ∧ c = T q.1 ∧ d = T q.2 ∧ divQ a b c d = okA (over p q) := by
  rcases inv_or a b with h | ⟨p, hp, rfl, rfl⟩
  · exact .inl (divQ_inv (.inl h))
  rcases inv_or c d with h | ⟨q, hq, rfl, rfl⟩
  · exact .inl (divQ_inv (.inr h))
  by_cases h : q.1 ≠ 0 ∧ (p.1 * q.2).natAbs < big ∧ (p.2 * q.1).natAbs < big
  · exact .inr ⟨p, q, hp, hq, h.1, rfl, rfl, rfl, rfl, divQ_ok hp hq h.1 h.2.1 h.2.2⟩
  · exact .inl (divQ_no hp hq h)
theorem addQ_e {a b c d x y : ByteArray} {e : Int} (h : addQ a b c d = (x, y, e)) : e = 40 ∨ e = 0 := by
  rcases addQ_or a b c d with k | ⟨p, q, -, -, -, -, -, -, k⟩
  · exact .inl (noA_e (k.symm.trans h))
  · exact .inr (okA_0 (k.symm.trans h)).2.2
theorem subQ_e {a b c d x y : ByteArray} {e : Int} (h : subQ a b c d = (x, y, e)) : e = 40 ∨ e = 0 := by
  rcases subQ_or a b c d with k | ⟨p, q, -, -, -, -, -, -, k⟩
  · exact .inl (noA_e (k.symm.trans h))
  · exact .inr (okA_0 (k.symm.trans h)).2.2
theorem mulQ_e {a b c d x y : ByteArray} {e : Int} (h : mulQ a b c d = (x, y, e)) : e = 40 ∨ e = 0 := by
  rcases mulQ_or a b c d with k | ⟨p, q, -, -, -, -, -, -, k⟩
  · exact .inl (noA_e (k.symm.trans h))
  · exact .inr (okA_0 (k.symm.trans h)).2.2
theorem divQ_e {a b c d x y : ByteArray} {e : Int} (h : divQ a b c d = (x, y, e)) : e = 40 ∨ e = 0 := by
  rcases divQ_or a b c d with k | ⟨p, q, -, -, -, -, -, -, -, k⟩
  · exact .inl (noA_e (k.symm.trans h))
  · exact .inr (okA_0 (k.symm.trans h)).2.2
theorem addQ_0 {a b c d x y : ByteArray} (h : addQ a b c d = (x, y, 0)) : ∃ p q : Int × Int, FV p ∧ FV q ∧ a = T p.1 ∧ b = T p.2 ∧ c = T q.1 ∧ d = T q.2 ∧ x = T (plus p q).1 ∧ y = T (plus p q).2 := by
  rcases addQ_or a b c d with k | ⟨p, q, h1, h2, h3, h4, h5, h6, k⟩
  · exact (noA_0 (k.symm.trans h)).elim
  · have := okA_0 (k.symm.trans h); exact ⟨p, q, h1, h2, h3, h4, h5, h6, this.1, this.2.1⟩
theorem subQ_0 {a b c d x y : ByteArray} (h : subQ a b c d = (x, y, 0)) : ∃ p q : Int × Int, FV p ∧ FV q ∧ a = T p.1 ∧ b = T p.2 ∧ c = T q.1 ∧ d = T q.2 ∧ x = T (less p q).1 ∧ y = T (less p q).2 := by
  rcases subQ_or a b c d with k | ⟨p, q, h1, h2, h3, h4, h5, h6, k⟩
  · exact (noA_0 (k.symm.trans h)).elim
  · have := okA_0 (k.symm.trans h); exact ⟨p, q, h1, h2, h3, h4, h5, h6, this.1, this.2.1⟩
theorem mulQ_0 {a b c d x y : ByteArray} (h : mulQ a b c d = (x, y, 0)) : ∃ p q : Int × Int, FV p ∧ FV q ∧ a = T p.1 ∧ b = T p.2 ∧ c = T q.1 ∧ d = T q.2 ∧ x = T (times p q).1 ∧ y = T (times p q).2 := by
  rcases mulQ_or a b c d with k | ⟨p, q, h1, h2, h3, h4, h5, h6, k⟩
  · exact (noA_0 (k.symm.trans h)).elim
  · have := okA_0 (k.symm.trans h); exact ⟨p, q, h1, h2, h3, h4, h5, h6, this.1, this.2.1⟩
theorem divQ_0 {a b c d x y : ByteArray} (h : divQ a b c d = (x, y, 0)) : ∃ p q : Int × Int, FV p ∧ FV q ∧ q.1 ≠ 0 ∧ a = T p.1 ∧ b = T p.2 ∧ c = T q.1 ∧ d = T q.2 ∧ x = T (over p q).1 ∧ y = T (over p q).2 := by
  rcases divQ_or a b c d with k | ⟨p, q, h1, h2, h0, h3, h4, h5, h6, k⟩
  · exact (noA_0 (k.symm.trans h)).elim
  · have := okA_0 (k.symm.trans h); exact ⟨p, q, h1, h2, h0, h3, h4, h5, h6, this.1, this.2.1⟩
theorem addQ_comm (a b c d : ByteArray) : addQ c d a b = addQ a b c d := by
  rcases inv_or a b with h | ⟨p, hp, rfl, rfl⟩
  · rw [addQ_inv (.inl h), addQ_inv (.inr h)]
  rcases inv_or c d with h | ⟨q, hq, rfl, rfl⟩
  · rw [addQ_inv (.inl h), addQ_inv (.inr h)]
  by_cases h : (p.1 * q.2).natAbs < big ∧ (q.1 * p.2).natAbs < big ∧ (p.1 * q.2 + q.1 * p.2).natAbs < big ∧ (p.2 * q.2).natAbs < big
  · rw [addQ_ok hp hq h.1 h.2.1 h.2.2.1 h.2.2.2, addQ_ok hq hp h.2.1 h.1 (by rw [Int.add_comm]; exact h.2.2.1) (by rw [Int.mul_comm]; exact h.2.2.2), plus_comm]
  · rw [addQ_no hp hq h, addQ_no hq hp (fun k => h ⟨k.2.1, k.1, by rw [Int.add_comm]; exact k.2.2.1, by rw [Int.mul_comm]; exact k.2.2.2⟩)]
theorem mulQ_comm (a b c d : ByteArray) : mulQ c d a b = mulQ a b c d := by
  rcases inv_or a b with h | ⟨p, hp, rfl, rfl⟩
  · rw [mulQ_inv (.inl h), mulQ_inv (.inr h)]
  rcases inv_or c d with h | ⟨q, hq, rfl, rfl⟩
  · rw [mulQ_inv (.inl h), mulQ_inv (.inr h)]
  by_cases h : (p.1 * q.1).natAbs < big ∧ (p.2 * q.2).natAbs < big
  · rw [mulQ_ok hp hq h.1 h.2, mulQ_ok hq hp (by rw [Int.mul_comm]; exact h.1) (by rw [Int.mul_comm]; exact h.2), times_comm]
  · rw [mulQ_no hp hq h, mulQ_no hq hp (fun k => h ⟨by rw [Int.mul_comm]; exact k.1, by rw [Int.mul_comm]; exact k.2⟩)]

theorem f_assoc {A1 A2 B1 B2 C1 C2 r1 r2 s1 s2 x1 x2 y1 y2 : ByteArray} (h1 : addQ A1 A2 B1 B2 = (r1, r2, 0)) (h2 : addQ B1 B2 C1 C2 = (s1, s2, 0)) (h3 : addQ r1 r2 C1 C2 = (x1, x2, 0)) (h4 : addQ A1 A2 s1 s2 = (y1, y2, 0)) : x1 = y1 ∧ x2 = y2 := by
  obtain ⟨p, q, hp, hq, rfl, rfl, rfl, rfl, rfl, rfl⟩ := addQ_0 h1
  obtain ⟨q', s, -, hs, hq1, hq2, rfl, rfl, rfl, rfl⟩ := addQ_0 h2
  obtain rfl := T2_inj hq1 hq2
  obtain ⟨a, b, -, -, ha1, ha2, hb1, hb2, rfl, rfl⟩ := addQ_0 h3
  obtain rfl := T2_inj ha1 ha2
  obtain rfl := T2_inj hb1 hb2
  obtain ⟨a, b, -, -, ha1, ha2, hb1, hb2, rfl, rfl⟩ := addQ_0 h4
  obtain rfl := T2_inj ha1 ha2
  obtain rfl := T2_inj hb1 hb2
  rw [plus_assoc hp.isF hq.isF hs.isF]
  exact ⟨rfl, rfl⟩
theorem f_massoc {A1 A2 B1 B2 C1 C2 r1 r2 s1 s2 x1 x2 y1 y2 : ByteArray} (h1 : mulQ A1 A2 B1 B2 = (r1, r2, 0)) (h2 : mulQ B1 B2 C1 C2 = (s1, s2, 0)) (h3 : mulQ A1 A2 s1 s2 = (x1, x2, 0)) (h4 : mulQ r1 r2 C1 C2 = (y1, y2, 0)) : x1 = y1 ∧ x2 = y2 := by
  obtain ⟨p, q, hp, hq, rfl, rfl, rfl, rfl, rfl, rfl⟩ := mulQ_0 h1
  obtain ⟨q', s, -, hs, hq1, hq2, rfl, rfl, rfl, rfl⟩ := mulQ_0 h2
  obtain rfl := T2_inj hq1 hq2
  obtain ⟨a, b, -, -, ha1, ha2, hb1, hb2, rfl, rfl⟩ := mulQ_0 h3
  obtain rfl := T2_inj ha1 ha2
  obtain rfl := T2_inj hb1 hb2
  obtain ⟨a, b, -, -, ha1, ha2, hb1, hb2, rfl, rfl⟩ := mulQ_0 h4
  obtain rfl := T2_inj ha1 ha2
  obtain rfl := T2_inj hb1 hb2
  rw [times_assoc hp.isF hq.isF hs.isF]
  exact ⟨rfl, rfl⟩
theorem f_distrib {A1 A2 B1 B2 C1 C2 r1 r2 s1 s2 t1 t2 x1 x2 y1 y2 : ByteArray} (h1 : addQ A1 A2 B1 B2 = (r1, r2, 0)) (h2 : mulQ A1 A2 C1 C2 = (t1, t2, 0)) (h3 : mulQ B1 B2 C1 C2 = (s1, s2, 0)) (h4 : addQ t1 t2 s1 s2 = (x1, x2, 0)) (h5 : mulQ r1 r2 C1 C2 = (y1, y2, 0)) : x1 = y1 ∧ x2 = y2 := by
  obtain ⟨p, q, hp, hq, rfl, rfl, rfl, rfl, rfl, rfl⟩ := addQ_0 h1
  obtain ⟨p', s, -, hs, hp1, hp2, rfl, rfl, rfl, rfl⟩ := mulQ_0 h2
  obtain rfl := T2_inj hp1 hp2
  obtain ⟨a, b, -, -, ha1, ha2, hb1, hb2, rfl, rfl⟩ := mulQ_0 h3
  obtain rfl := T2_inj ha1 ha2
  obtain rfl := T2_inj hb1 hb2
  obtain ⟨a, b, -, -, ha1, ha2, hb1, hb2, rfl, rfl⟩ := addQ_0 h4
  obtain rfl := T2_inj ha1 ha2
  obtain rfl := T2_inj hb1 hb2
  obtain ⟨a, b, -, -, ha1, ha2, hb1, hb2, rfl, rfl⟩ := mulQ_0 h5
  obtain rfl := T2_inj ha1 ha2
  obtain rfl := T2_inj hb1 hb2
  rw [distrib hp.isF hq.isF hs.isF]
  exact ⟨rfl, rfl⟩
theorem f_back {A1 A2 B1 B2 r1 r2 x1 x2 : ByteArray} (h1 : addQ A1 A2 B1 B2 = (r1, r2, 0)) (h2 : subQ r1 r2 B1 B2 = (x1, x2, 0)) : x1 = A1 ∧ x2 = A2 := by
  obtain ⟨p, q, hp, hq, rfl, rfl, rfl, rfl, rfl, rfl⟩ := addQ_0 h1
  obtain ⟨a, b, -, -, ha1, ha2, hb1, hb2, rfl, rfl⟩ := subQ_0 h2
  obtain rfl := T2_inj ha1 ha2
  obtain rfl := T2_inj hb1 hb2
  rw [plus_less hp.isF hq.isF]
  exact ⟨rfl, rfl⟩
theorem f_again {A1 A2 B1 B2 r1 r2 x1 x2 : ByteArray} (h1 : divQ A1 A2 B1 B2 = (r1, r2, 0)) (h2 : mulQ r1 r2 B1 B2 = (x1, x2, 0)) : x1 = A1 ∧ x2 = A2 := by
  obtain ⟨p, q, hp, hq, h0, rfl, rfl, rfl, rfl, rfl, rfl⟩ := divQ_0 h1
  obtain ⟨a, b, -, -, ha1, ha2, hb1, hb2, rfl, rfl⟩ := mulQ_0 h2
  obtain rfl := T2_inj ha1 ha2
  obtain rfl := T2_inj hb1 hb2
  rw [over_times hp.isF hq.isF h0]
  exact ⟨rfl, rfl⟩
theorem f_row (r : ByteArray × ByteArray × Int) : ∃ (x y : ByteArray) (e : Int), r = (x, y, e) := ⟨_, _, _, rfl⟩

end Go.Proofs.YtjkklgpbblkhaaaGreatDoor
