/-
  Put together by program out of these texts, in this order: Rrm, Rti, Rtd, Rro, Rrs, Rtj.
-/
import Derived.Test.YtagcpjokajcdiaaGreatDoorZCaJmt14
import Derived.Test.YtagcpjokajcdiaaGreatDoorZCaJmt08
import Derived.Deep.DeepCutAuto
import Derived.Test.YtagcpjokajcdiaaGreatDoorZCaJmt12

/-
  Layer 3, the reference: the mathematics of a root that is found digit by digit from above.
-/
namespace Go.Proofs.YtagcpjokajcdiaaGreatDoor
open Go.RowKit Bs Ig

/-- the digits from i on are those of the root V -/
structure Ro (N m : Nat) (O : List Nat) (i V : Nat) : Prop where
  len : O.length = m
  lt : ∀ z ∈ O, z < 10
  val : Ig.val 10 O = V
  low : ∀ k, k < i → O.getD k 0 = 0
  sq : V * V ≤ N
  up : N < (V + 10 ^ i) * (V + 10 ^ i)
/-- the digit i is tried with c -/
structure Ri (N m : Nat) (O : List Nat) (i c V : Nat) : Prop where
  len : O.length = m
  lt : ∀ z ∈ O, z < 10
  val : Ig.val 10 O = V + c * 10 ^ i
  dig : O.getD i 0 = c
  low : ∀ k, k < i → O.getD k 0 = 0
  sq : V * V ≤ N
  up : N < (V + (c + 1) * 10 ^ i) * (V + (c + 1) * 10 ^ i)
theorem Ro.start {N n m : Nat} (hN : N < 10 ^ n) (hm : n ≤ 2 * m) : Ro N m (List.replicate m 0) m 0 := by
  have hz : ∀ k, Ig.val 10 (List.replicate k 0) = 0 := by
    intro k
    induction k with
    | zero => rfl
    | succ k ih => rw [List.replicate_succ]; show 0 + 10 * Ig.val 10 (List.replicate k 0) = 0; rw [ih]
  refine ⟨by simp, fun z hz => by rw [List.eq_of_mem_replicate hz]; omega, hz m, fun k hk => ?_, by omega, ?_⟩
  · rw [List.getD_eq_getElem?_getD, List.getElem?_replicate_of_lt hk]; rfl
  · rw [Nat.zero_add, ← Nat.pow_add]
    exact Nat.lt_of_lt_of_le hN (Nat.pow_le_pow_right (by omega) (by omega))
theorem getD_set_same (O : List Nat) (i v : Nat) (h : i < O.length) : (O.set i v).getD i 0 = v := by
  rw [List.getD_eq_getElem?_getD, List.getElem?_set_self h]; rfl
theorem getD_set_far (O : List Nat) (i v k : Nat) (h : k ≠ i) : (O.set i v).getD k 0 = O.getD k 0 := by
  rw [List.getD_eq_getElem?_getD, List.getD_eq_getElem?_getD, List.getElem?_set_ne (by omega)]
theorem mem_set_lt {O : List Nat} {i v : Nat} (hv : v < 10) (h : ∀ z ∈ O, z < 10) : ∀ z ∈ O.set i v, z < 10 := fun z hz => by
  rcases List.mem_or_eq_of_mem_set hz with h1 | h1
  · exact h z h1
  · omega
theorem Ro.inner {N m : Nat} {O : List Nat} {i V : Nat} (h : Ro N m O (i + 1) V) (hi : i < m) : Ri N m (O.set i 9) i 9 V := by
  have hv := val_setN 10 O i 9 (by rw [h.len]; exact hi)
  rw [h.low i (by omega), h.val] at hv
  refine ⟨by rw [List.length_set]; exact h.len, mem_set_lt (by omega) h.lt, ?_, getD_set_same _ _ _ (by rw [h.len]; exact hi), fun k hk => ?_, h.sq, ?_⟩
  · rw [Nat.mul_zero, Nat.add_zero] at hv
    rw [hv, Nat.mul_comm]
  · rw [getD_set_far _ _ _ _ (by omega)]; exact h.low k (by omega)
  · have := h.up
    rw [Nat.pow_succ, Nat.mul_comm] at this
    rw [show (9 + 1) * 10 ^ i = 10 ^ i * 10 by omega, Nat.mul_comm]
    exact this
theorem Ri.next {N m : Nat} {O : List Nat} {i c V : Nat} (h : Ri N m O i (c + 1) V) (hi : i < m) (hc : c + 1 < 10) (hup : N < Ig.val 10 O * Ig.val 10 O) : Ri N m (O.set i c) i c V := by
  have hv := val_setN 10 O i c (by rw [h.len]; exact hi)
  rw [h.dig, h.val] at hv
  rw [h.val] at hup
  refine ⟨by rw [List.length_set]; exact h.len, mem_set_lt (by omega) h.lt, ?_, getD_set_same _ _ _ (by rw [h.len]; exact hi), fun k hk => ?_, h.sq, hup⟩
  · rw [Nat.mul_comm (10 ^ i) (c + 1), Nat.mul_comm (10 ^ i) c] at hv
    omega
  · rw [getD_set_far _ _ _ _ (by omega)]; exact h.low k (by omega)
theorem Ri.outer {N m : Nat} {O : List Nat} {i c V : Nat} (h : Ri N m O i c V) (hs : c = 0 ∨ Ig.val 10 O * Ig.val 10 O ≤ N) : Ro N m O i (Ig.val 10 O) := by
  refine ⟨h.len, h.lt, rfl, h.low, ?_, ?_⟩
  · rcases hs with rfl | hs
    · rw [h.val, Nat.zero_mul, Nat.add_zero]; exact h.sq
    · exact hs
  · have := h.up
    rw [h.val, Nat.add_assoc, show c * 10 ^ i + 10 ^ i = (c + 1) * 10 ^ i from (Nat.succ_mul c (10 ^ i)).symm]
    exact this
theorem Ro.done {N m : Nat} {O : List Nat} {V : Nat} (h : Ro N m O 0 V) : V = rt N := rt_unique N V h.sq h.up
theorem val_lt_pow (O : List Nat) (h : ∀ z ∈ O, z < 10) : Ig.val 10 O < 10 ^ O.length := by
  induction O with
  | nil => decide
  | cons x O ih =>
    have h1 := h x (by simp)
    have h2 := ih (fun z hz => h z (by simp [hz]))
    show x + 10 * Ig.val 10 O < 10 ^ (O.length + 1)
    rw [Nat.pow_succ]; omega

end Go.Proofs.YtagcpjokajcdiaaGreatDoor

/-
  Layer 3, the reference: ToInt at whatever strings.
-/
namespace Go.Proofs.YtagcpjokajcdiaaGreatDoor
open Go.RowKit Bs Ig

/-- a numeral's digits, behind so many other bytes -/
structure Dgt (B : ByteArray) (off n k : Nat) : Prop where
  size : B.size = off + k
  lt : n < 10 ^ k
  pos : 0 < k
  dig : ∀ i (h : i < B.size), off ≤ i → (B[i]'h).toNat = 48 + n / 10 ^ (off + k - 1 - i) % 10
theorem Dgt.nonneg (n : Nat) : ∃ k, Dgt (bs (Lib.decDigits n)) 0 n k := by
  rcases Nat.eq_zero_or_pos n with h0 | h0
  · subst h0
    rw [show Lib.decDigits 0 = [48] from dec_small (by omega)]
    refine ⟨1, rfl, by decide, by omega, fun i h _ => ?_⟩
    have h1 : i < 1 := h
    obtain rfl : i = 0 := by omega
    rfl
  · obtain ⟨hl, hb⟩ := byte_dl (B := bs (Lib.decDigits n)) h0 (by rw [← toList_eq, bs_toList])
    refine ⟨(D n).length, by omega, D_lt_pow rfl, by rw [D_pos h0]; simp, fun i h _ => ?_⟩
    have h2 := hb ((bs (Lib.decDigits n)).size - 1 - i) (by omega)
    rw [show (D n).getD ((bs (Lib.decDigits n)).size - 1 - i) 0 = n / 10 ^ ((bs (Lib.decDigits n)).size - 1 - i) % 10 from dgs_getD 8 n _] at h2
    rw [Nat.zero_add, ← hl, ← h2]
    congr 2; omega
theorem Dgt.neg (n : Nat) (h0 : 0 < n) : ∃ k, Dgt (bs (45 :: Lib.decDigits n)) 1 n k ∧ ∃ h : 0 < (bs (45 :: Lib.decDigits n)).size, ((bs (45 :: Lib.decDigits n))[0]'h).toNat = 45 := by
  obtain ⟨k, hd⟩ := Dgt.nonneg n
  have hsz : (bs (45 :: Lib.decDigits n)).size = 1 + k := by rw [bs_size, List.length_cons]; have := hd.size; rw [bs_size] at this; omega
  refine ⟨k, ⟨hsz, hd.lt, hd.pos, fun i h hi => ?_⟩, by omega, ?_⟩
  · obtain ⟨j, rfl⟩ : ∃ j, i = j + 1 := ⟨i - 1, by omega⟩
    have hj : j < (bs (Lib.decDigits n)).size := by rw [hd.size]; omega
    have h2 := hd.dig j hj (Nat.zero_le _)
    rw [← getD_str] at h2 ⊢
    rw [← toList_eq, bs_toList] at h2 ⊢
    rw [List.getD_cons_succ, h2, show 1 + k - 1 - (j + 1) = 0 + k - 1 - j by omega]
  · rw [← getD_str, ← toList_eq, bs_toList]; rfl
theorem pre_step (n m i : Nat) (h : i < m) : n / 10 ^ (m - 1 - i) = 10 * (n / 10 ^ (m - i)) + n / 10 ^ (m - 1 - i) % 10 := by
  have h2 := div_step n (m - 1 - i)
  rwa [show m - 1 - i + 1 = m - i by omega] at h2
/-- what ToInt answers -/
def toiZ (z : Int) : Int × Int := if isInt z then (z, 0) else (0, 30)
noncomputable def toiS (a : ByteArray) : Int × Int := match rd a with
  | some z => toiZ z
  | none => (0, 30)
theorem toi_all (a : ByteArray) (W : World) (he : ErrP W) :
    Calls Tryz.prog 19 #[.string a] W fun e w' => e = .returned (.tuple #[.int .i64 (toiS a).1, .int .i64 (toiS a).2]) ∧ Below W.heap.size W w' := by
  unfold toiS
  cases ha : rd a with
  | none =>
    obtain ⟨l, rfl, hl⟩ := rd_none ha
    exact ToInt_no l hl W
  | some x =>
    obtain ⟨hx, rfl⟩ := rd_eq ha
    by_cases h : isInt x
    · simp only [toiZ, if_pos h]; exact ToInt_ok x hx h W
    · simp only [toiZ, if_neg h]; exact ToInt_far x hx h W he
def minZ : ByteArray := ⟨#[45, 57, 50, 50, 51, 51, 55, 50, 48, 51, 54, 56, 53, 52, 55, 55, 53, 56, 48, 56]⟩
def maxZ : ByteArray := ⟨#[57, 50, 50, 51, 51, 55, 50, 48, 51, 54, 56, 53, 52, 55, 55, 53, 56, 48, 55]⟩
theorem minZ_is : minZ = bs (Lib.itoa (-9223372036854775808)) := by
  rw [show Lib.itoa (-9223372036854775808) = 45 :: [57, 50, 50, 51, 51, 55, 50, 48, 51, 54, 56, 53, 52, 55, 55, 53, 56, 48, 56] from lit_neg _ 9223372036854775808 rfl (by decide) (by decide)]; rfl
theorem maxZ_is : maxZ = bs (Lib.itoa 9223372036854775807) := by
  rw [show Lib.itoa 9223372036854775807 = [57, 50, 50, 51, 51, 55, 50, 48, 51, 54, 56, 53, 52, 55, 55, 53, 56, 48, 55] from lit_pos _ 9223372036854775807 rfl (by decide) (by decide)]; rfl
theorem lt_big19 (z : Int) (h : z.natAbs < 10 ^ 19) : z.natAbs < big := Nat.lt_of_lt_of_le h (Nat.pow_le_pow_right (by omega) (by omega))
theorem rcmp_min (x : Int) (hx : x.natAbs < big) (W : World) : Calls Tryz.prog 24 #[.string (bs (Lib.itoa x)), .string minZ] W fun e w' => e = .returned (.int .i64 (cmpZ x (-9223372036854775808))) ∧ Below W.heap.size W w' := by
  rw [minZ_is]; exact rCompare_T x _ hx (lt_big19 _ (by decide)) W
theorem rcmp_max (x : Int) (hx : x.natAbs < big) (W : World) : Calls Tryz.prog 24 #[.string (bs (Lib.itoa x)), .string maxZ] W fun e w' => e = .returned (.int .i64 (cmpZ x 9223372036854775807)) ∧ Below W.heap.size W w' := by
  rw [maxZ_is]; exact rCompare_T x _ hx (lt_big19 _ (by decide)) W
theorem cmpZ_lt {x y : Int} : cmpZ x y < 0 ↔ x < y := by unfold cmpZ; repeat' split
                                                         all_goals omega
theorem cmpZ_gt {x y : Int} : 0 < cmpZ x y ↔ y < x := by unfold cmpZ; repeat' split
                                                         all_goals omega

end Go.Proofs.YtagcpjokajcdiaaGreatDoor

/-
  Layer 3, the reference: trimmed.
-/
namespace Go.Proofs.YtagcpjokajcdiaaGreatDoor
open Go.RowKit Bs Ig

theorem own_lit0 (W : World) (base : Nat) (hb : base ≤ W.heap.size) : Bs.Own (W.alloc (.cells #[] 3)) base 3 .i64 (.slice (some ⟨W.heap.size, 0, none⟩) 0 0) [] :=
  ⟨World.ownsRow_lit W #[] 0 hb (by unfold maxLen; omega) rfl⟩

set_option maxRecDepth 100000 in
set_option maxHeartbeats 4000000 in
theorem rtrimmed_any (a : Option Addr) (n c : Nat) (l : List Nat) (w : World) (hl : IsZ w a n c (zs l)) (h : ∀ x ∈ l, x < 10) (hn : n ≤ 1000000) :
    Calls Tryz.prog 46 #[.slice a n c] w fun e w' => ∃ a' n' c', e = .returned (.slice a' n' c') ∧ IsZ w' a' n' c' (zs (D (val 10 l))) ∧ Below w.heap.size w w' := by
  have hll : l.length = n := by rw [← zs_length]; exact hl.len
  have hT := fun (W : World) (v : Value) (ho : Bs.Own W w.heap.size 3 .i64 v ([] ++ l)) => (show ∃ ta tn tc, v = .slice ta tn tc ∧ Calls Tryz.prog 27 #[v] W fun e w' => ∃ m, e = .returned (.slice ta m tc) ∧ IsZ w' ta m tc (zs (D (val 10 l))) ∧ Below W.heap.size W w' from by
    obtain ⟨ta, tn, tc, rfl⟩ := own_sl ho
    have ho' : Bs.Own W w.heap.size 3 .i64 (.slice ta tn tc) l := ho
    have e : tn = l.length := ho'.len
    exact ⟨ta, tn, tc, rfl, rtrim_any ta tn tc l W ho'.isZ h (by omega)⟩)
  have HT := Lib.hid hT
  have hBa := (Below.refl _ w).alloc (Nat.le_refl _) (.cells #[] 3)
  have HL := Lib.hid (hl.later hBa)
  have HK := Lib.hid hll
  clear hT hl
  go_enter Tryz.func46, Tryz.ntmps46
  go_wp2_with (at_builtin; refine wpList_pushZ rfl _ _ rfl w.heap.size _ [] rfl (own_lit0 w w.heap.size (Nat.le_refl _)) _ _ _ l rfl HL.out ?b1 ?b2 ?_)
  case b1 => have := HK.out; simp; omega
  case b2 => simp
  intro v' w2 hown2 hb2
  obtain ⟨ta, tn, tc, rfl, hc2⟩ := HT.out w2 v' hown2
  have HC2 := Lib.hid hc2
  have Hb2 := Lib.hid (hBa.trans hb2)
  clear hown2 hb2 hc2 hBa HT
  go_wp2_with (go_at_call 27; (with_reducible refine HC2.out.mono ?_); rintro e w3 ⟨m, rfl, z3, B3⟩)
  go_ret
  exact ⟨_, _, _, rfl, z3, below_on Hb2.out B3 Hb2.out.size⟩

end Go.Proofs.YtagcpjokajcdiaaGreatDoor

/-
  Layer 3, the reference: Root at numerals of integers that are not negative.
-/
namespace Go.Proofs.YtagcpjokajcdiaaGreatDoor
open Go.RowKit Bs Ig

/-- the number in a cell -/
def cellN (W : World) (g i : Nat) : Nat := match W.cell? ⟨g, i, none⟩ with
  | some (.int _ v) => v.toNat
  | _ => 0
theorem cellN_is {W : World} {g i c : Nat} (h : W.cell? ⟨g, i, none⟩ = some (.int .i64 (c : Int))) : cellN W g i = c := by unfold cellN; rw [h]; simp
theorem D_lenb {x m : Nat} (h : x < 10 ^ m) : (D x).length ≤ m := dgs_length_le 8 m x h
theorem cmp_gt0 {m n : Nat} : (0 < cmp m n) ↔ n < m := by
  unfold cmp
  rcases Nat.lt_trichotomy m n with h | h | h
  · rw [if_pos h]; omega
  · rw [if_neg (by omega), if_neg (by omega)]; omega
  · rw [if_neg (by omega), if_pos h]; omega

set_option maxRecDepth 100000 in
set_option maxHeartbeats 8000000 in
theorem rRoot_T (N : Nat) (hN : N < big) (w : World) :
    Calls Tryz.prog 18 #[.string (bs (Lib.decDigits N))] w fun e w' => e = .returned (.tuple #[.string (bs (Lib.itoa (rt N : Nat))), .int .i64 0]) ∧ Below w.heap.size w w' := by
  have hV := rValid_T (N : Int) (by rw [Int.natAbs_natCast]; exact hN)
  have hDg := fun W => digits_T (N : Int) (by rw [Int.natAbs_natCast]; exact hN) W
  rw [itoa_nat] at hV hDg
  rw [decide_eq_false (show ¬ ((N : Int) < 0) by omega), Int.natAbs_natCast] at hDg
  obtain ⟨kk, hd⟩ := Dgt.nonneg N
  have hrb : rt N < big := Nat.lt_of_le_of_lt (rt_le _) hN
  have hC : ∀ (W : World) a m c, IsZ W a m c (zs (D (rt N))) → Calls Tryz.prog 34 #[.bool false, .slice a m c] W fun e w' => e = .returned (.tuple #[.string (bs (Lib.itoa (rt N : Nat))), .int .i64 0]) ∧ Below W.heap.size W w' := by
    intro W a m c h
    have h2 := checked_any false (rt N) a m c W h (by have := D_m h hrb; omega)
    have hg : ((rt N : Nat) : Int).natAbs < big := by rw [Int.natAbs_natCast]; exact hrb
    rw [show sg false (rt N) = ((rt N : Nat) : Int) from rfl] at h2
    unfold wrS txt err at h2
    rw [if_pos hg, if_pos hg] at h2
    exact h2
  obtain ⟨R, hR⟩ : ∃ R, rt N = R := ⟨_, rfl⟩
  rw [hR] at hC
  rw [hR]
  generalize bs (Lib.itoa (R : Nat)) = RS at *
  obtain ⟨S, hS⟩ : ∃ S, bs (Lib.decDigits N) = S := ⟨_, rfl⟩
  rw [hS] at hV hDg hd
  rw [hS]
  have g0 : 0 < S.size := by have := hd.size; have := hd.pos; omega
  obtain ⟨q, hq, hq48⟩ : ∃ q, (S[0]'g0).toNat = q ∧ 48 ≤ q := ⟨_, rfl, by rw [hd.dig 0 g0 (Nat.le_refl _)]; omega⟩
  have g2 : ((q : Int) == 45) = false := beq_false_of_ne (by omega)
  have g3 : (q == 45) = false := beq_false_of_ne (by omega)
  have g4 : decide (0 < (S.size : Int)) = true := decide_eq_true (by omega)
  have HV := Lib.hid hV
  have HD := Lib.hid hDg
  have HC := Lib.hid hC
  have HR := Lib.hid hR
  clear hV hDg hC hR hS hd hrb
  go_enter Tryz.func18, Tryz.ntmps18
  go_upto_region 4 with (first
    | (go_at_call 22; (with_reducible refine (HV.out _).mono ?_); rintro e w1 ⟨rfl, hww⟩; rw [hww]; clear hww w1)
    | (go_at_call 30; (with_reducible refine (HD.out _).mono ?_); rintro e w1 ⟨a, m, c, rfl, z1, B1⟩))
  have hm := D_m z1 hN
  have hlen := D_len z1
  have htd : ((m : Int) + 1).tdiv 2 = (((m + 1) / 2 : Nat) : Int) := by rw [show ((m : Int) + 1) = ((m + 1 : Nat) : Int) by omega]; exact (Int.ofNat_tdiv (m + 1) 2).symm
  obtain ⟨M, hM⟩ : ∃ M, (m + 1) / 2 = M := ⟨_, rfl⟩
  rw [hM] at htd
  have hM1 : m ≤ 2 * M := by omega
  have hM2 : M ≤ 101 := by omega
  obtain ⟨w2, hmk, hco1, hb1, hs1⟩ := mkCols w1 38 Tryz.underlying38 M (by omega)
  have Hz := Lib.hid z1
  have HB1 := Lib.hid B1
  have Hco1 := Lib.hid hco1
  have Hb1 := Lib.hid hb1
  have Hst := Lib.hid (Ro.start (N := N) (n := m) (m := M) (D_lt_pow hlen) hM1)
  clear z1 B1 hco1 hb1 hs1 hM hM1 hlen
  go_wp2_with fail
  go_loopw [7] (fun p wr => ∃ (O : List Nat) (j V : Nat), p = .int .i64 ((j : Int) - 1) ∧ j ≤ M ∧ Ro N M O j V ∧ Cols wr w1.heap.size (some ⟨w1.heap.size, 0, none⟩) M M (zs O) ∧ Below w1.heap.size w1 wr) (fun p _ => (intOf p + 1).toNat)
  case atStart =>
    refine ⟨List.replicate M 0, M, 0, by go_num, Nat.le_refl _, Hst.out, ?_, Hb1.out⟩
    have h := Hco1.out
    rw [show List.replicate M (0 : Int) = zs (List.replicate M 0) by simp [zs]] at h
    exact h
  case round =>
    obtain ⟨O, j, V, rfl, hj, hro, hco, hw⟩ := hrel
    rcases Nat.eq_zero_or_pos j with h0 | h0
    · subst h0
      have hV := hro.done
      have ht := fun (W : World) (hb : Below wr.heap.size wr W) => rtrim_any (some ⟨w1.heap.size, 0, none⟩) M M O W (hco.isZ.later hb) hro.lt (by omega)
      rw [hro.val, hV, HR.out] at ht
      have HT := Lib.hid ht
      have Hw := Lib.hid (below_on HB1.out hw HB1.out.size)
      clear hro hco hw ht hV hmk
      go_wp2_with (first
        | (go_at_call 27; (with_reducible refine (HT.out _ (Below.refl _ _)).mono ?_); rintro e w5 ⟨mm, rfl, z5, B5⟩)
        | (go_at_call 34; (with_reducible refine (HC.out _ _ _ _ z5).mono ?_); rintro e w6 ⟨rfl, B6⟩))
      go_ret2
      exact ⟨rfl, below_on (below_on Hw.out B5 Hw.out.size) B6 (below_on Hw.out B5 Hw.out.size).size⟩
    · obtain ⟨i, rfl⟩ : ∃ i, j = i + 1 := ⟨j - 1, by omega⟩
      have hri := hro.inner (by omega)
      have hi : i < M := by omega
      obtain ⟨g6, hg6, hB6, hcc6⟩ := hco.at (by omega)
      cases hg6
      obtain ⟨hc6, hf6⟩ := hcc6 i hi
      have e1 : ((i + 1 : Nat) : Int) - 1 = (i : Int) := by omega
      rw [e1]
      have f1 : decide (0 ≤ (i : Int)) = true := decide_eq_true (by omega)
      have f2 : decide ((i : Int) < (M : Int)) = true := decide_eq_true (by omega)
      have f3 : decide (i < M) = true := decide_eq_true (by omega)
      have Hri := Lib.hid hri
      have Hco := Lib.hid (show Cols (wr.setCell ⟨w1.heap.size, i, none⟩ (.int .i64 9)) w1.heap.size (some ⟨w1.heap.size, 0, none⟩) M M (zs (O.set i 9)) from by have h := hco.set i hi 9; rw [show (9 : Int) = ((9 : Nat) : Int) from rfl, zs_set'] at h; exact h)
      have Hw := Lib.hid (show Below w1.heap.size w1 (wr.setCell ⟨w1.heap.size, i, none⟩ (.int .i64 9)) from hw.setCell (p := ⟨w1.heap.size, i, none⟩) (Nat.le_refl _) _)
      have HI := Lib.hid hi
      clear hri hro hcc6 hco hw hmk h0 hj
      go_wp2_with fail
      go_loopw [] (fun wq => ∃ (O : List Nat) (c : Nat), Ri N M O i c V ∧ c < 10 ∧ Cols wq w1.heap.size (some ⟨w1.heap.size, 0, none⟩) M M (zs O) ∧ Below w1.heap.size w1 wq) (fun wq => cellN wq w1.heap.size i)
      case atStart => exact ⟨O.set i 9, 9, Hri.out, by omega, Hco.out, Hw.out⟩
      case round =>
        clear Hri Hco Hw
        obtain ⟨O, d, hri, hd10, hco, hwq⟩ := hrel
        obtain ⟨g7, hg7, hB7, hcc7⟩ := hco.at (by have := HI.out; omega)
        cases hg7
        obtain ⟨hc7, hf7⟩ := hcc7 i HI.out
        rw [zs_getD, hri.dig] at hc7
        have hMr := cellN_is hc7
        rcases Nat.eq_zero_or_pos d with h0 | h0
        · subst h0
          have Hro := Lib.hid (hri.outer (.inl rfl))
          have Hco5 := Lib.hid hco
          have Hw5 := Lib.hid hwq
          clear hri hcc7 hco hwq
          go_wp2_with fail
          case roundEnd => exact ⟨⟨O, i, _, rfl, by have := HI.out; omega, Hro.out, Hco5.out, Hw5.out⟩, by simp [intOf]⟩
        · obtain ⟨dd, rfl⟩ : ∃ dd, d = dd + 1 := ⟨d - 1, by omega⟩
          have k1 : decide (0 < ((dd + 1 : Nat) : Int)) = true := decide_eq_true (by omega)
          have k2 : decide (0 < (dd : Int) + 1) = true := decide_eq_true (by omega)
          have hTd := fun (W : World) (hb : Below wr.heap.size wr W) => rtrimmed_any (some ⟨w1.heap.size, 0, none⟩) M M O W (hco.isZ.later hb) hri.lt (by omega)
          obtain ⟨v, hv⟩ : ∃ v, Ig.val 10 O = v := ⟨_, rfl⟩
          have hvb : v < 10 ^ M := by rw [← hv, ← hri.len]; exact val_lt_pow O hri.lt
          have hlen := hri.len
          rw [hv] at hTd
          have HTd := Lib.hid hTd
          have HTi := Lib.hid (fun (W : World) a n c b k d (h1 : IsZ W a n c (zs (D v))) (h2 : IsZ W b k d (zs (D v))) => rtimes_any a n c b k d v v W h1 h2 (by have := D_len h1; have := D_lenb hvb; omega) (by have := D_len h2; have := D_lenb hvb; omega))
          have hvv : v * v < 10 ^ (2 * M) := by
            rw [show 2 * M = M + M by omega, Nat.pow_add]
            exact Nat.mul_lt_mul'' hvb hvb
          have HOr := Lib.hid (fun (W : World) a n c b k d (h1 : IsZ W a n c (zs (D (v * v)))) (h2 : IsZ W b k d (zs (D N))) => order_any a n c b k d (v * v) N W h1 h2 (by have := D_len h1; have := D_lenb hvv; omega) (by have := D_m h2 hN; omega))
          have hz := fun (W : World) (hb : Below wr.heap.size wr W) => (Hz.out.later hwq).later hb
          have HZ := Lib.hid hz
          obtain ⟨cv, hcv⟩ : ∃ cv, cmp (v * v) N = cv := ⟨_, rfl⟩
          rw [hcv] at HOr
          rcases Nat.lt_or_ge N (v * v) with h1 | h1
          · have f4 : decide (0 < cv) = true := decide_eq_true (by rw [← hcv, cmp_gt0]; exact h1)
            have HDig := Lib.hid hri.dig
            have hnx := Lib.hid (hri.next HI.out hd10 (by rw [hv]; exact h1))
            have Hco5 := Lib.hid hco
            have Hw5 := Lib.hid hwq
            clear hri hcc7 hco hwq hTd hz hv hvb hvv hcv h1
            go_wp2_with (first
              | (go_at_call 46; (with_reducible refine (HTd.out _ (Below.refl _ _)).mono ?_); rintro e w3 ⟨ta, tn, tc, rfl, z3, B3⟩)
              | (go_at_call 46; (with_reducible refine (HTd.out _ B3).mono ?_); rintro e w4 ⟨ua, un, uc, rfl, z4, B4⟩; have B34 := below_on B3 B4 B3.size; have z34 := z3.later B4)
              | (go_at_call 35; (with_reducible refine (HTi.out _ _ _ _ _ _ _ z34 z4).mono ?_); rintro e w5 ⟨va, vn, vc, rfl, z5, B5⟩; have B35 := below_on B34 B5 B34.size; have zN := HZ.out _ B35)
              | (go_at_call 45; (with_reducible refine (HOr.out _ _ _ _ _ _ _ z5 zN).mono ?_); rintro e w6 ⟨rfl, B6⟩; have B36 := below_on B35 B6 B35.size; have hco6 := Hco5.out.later B36; obtain ⟨g6, hg6, hB6, hcc6⟩ := hco6.at (by have := HI.out; omega); cases hg6; obtain ⟨hc6, hf6⟩ := hcc6 i HI.out; rw [zs_getD, HDig.out] at hc6; have Hco6 := Lib.hid (hco6.set i HI.out ((dd : Nat) : Int)); have Hw6 := Lib.hid (below_on Hw5.out B36 Hw5.out.size); clear hco6 hcc6))
            case roundEnd =>
              have hcs := Hco6.out
              rw [zs_set'] at hcs
              obtain ⟨g9, hg9, hB9, hcc9⟩ := hcs.at (by have := HI.out; omega)
              cases hg9
              have hc9 := (hcc9 i HI.out).1
              rw [zs_getD, hnx.out.dig] at hc9
              exact ⟨⟨_, dd, hnx.out, by omega, hcs, Hw6.out.setCell (p := ⟨w1.heap.size, i, none⟩) (Nat.le_refl _) _⟩, by rw [cellN_is hc9, hMr]; omega⟩
          · have f4 : decide (0 < cv) = false := decide_eq_false (by rw [← hcv, cmp_gt0]; omega)
            have Hro := Lib.hid (hri.outer (.inr (by rw [hv]; exact h1)))
            have Hco5 := Lib.hid hco
            have Hw5 := Lib.hid hwq
            clear hri hcc7 hco hwq hTd hz hvb hvv hcv h1
            go_wp2_with (first
              | (go_at_call 46; (with_reducible refine (HTd.out _ (Below.refl _ _)).mono ?_); rintro e w3 ⟨ta, tn, tc, rfl, z3, B3⟩)
              | (go_at_call 46; (with_reducible refine (HTd.out _ B3).mono ?_); rintro e w4 ⟨ua, un, uc, rfl, z4, B4⟩; have B34 := below_on B3 B4 B3.size; have z34 := z3.later B4)
              | (go_at_call 35; (with_reducible refine (HTi.out _ _ _ _ _ _ _ z34 z4).mono ?_); rintro e w5 ⟨va, vn, vc, rfl, z5, B5⟩; have B35 := below_on B34 B5 B34.size; have zN := HZ.out _ B35)
              | (go_at_call 45; (with_reducible refine (HOr.out _ _ _ _ _ _ _ z5 zN).mono ?_); rintro e w6 ⟨rfl, B6⟩; have B36 := below_on B35 B6 B35.size; have Hco6 := Lib.hid (Hco5.out.later B36); have Hw6 := Lib.hid (below_on Hw5.out B36 Hw5.out.size)))
            case roundEnd => exact ⟨⟨O, i, _, rfl, by have := HI.out; omega, Hro.out, Hco6.out, Hw6.out⟩, by simp [intOf]⟩

end Go.Proofs.YtagcpjokajcdiaaGreatDoor

/-
  Layer 3, the reference and the program: Root at whatever strings.
-/
namespace Go.Proofs.YtagcpjokajcdiaaGreatDoor
open Go.RowKit Bs Ig

noncomputable def rootS (a : ByteArray) : ByteArray × Int := match rd a with
  | some z => if 0 ≤ z then (bs (Lib.itoa (rt z.natAbs : Nat)), 0) else (⟨#[]⟩, 30)
  | none => (⟨#[]⟩, 30)
theorem root_all (a : ByteArray) (W : World) (ht : TabP W) :
    Calls Tryz.prog 17 #[.string a] W fun e w' => e = .returned (.tuple #[.string (rootS a).1, .int .i64 (rootS a).2]) ∧ Below W.heap.size W w' := by
  unfold rootS
  cases ha : rd a with
  | none =>
    obtain ⟨l, rfl, hl⟩ := rd_none ha
    exact Root_no l hl W
  | some x =>
    obtain ⟨hx, rfl⟩ := rd_eq ha
    by_cases h : 0 ≤ x
    · simp only [if_pos h]; exact Root_any x hx h W ht
    · simp only [if_neg h]; exact Root_neg x hx (by omega) W

set_option maxRecDepth 100000 in
theorem rRoot_no (a : ByteArray) (ha : a.size ≤ 9223372036854775807) (h : rd a = none) (w : World) :
    Calls Tryz.prog 18 #[.string a] w fun e w' => e = .returned (.tuple #[.string ⟨#[]⟩, .int .i64 30]) ∧ Below w.heap.size w w' := by
  have HV := Lib.hid (rvalid_no ha h)
  clear ha h
  go_enter Tryz.func18, Tryz.ntmps18
  go_wp2_with (go_at_call 22; (with_reducible refine (HV.out _).mono ?_); rintro e w1 ⟨rfl, hww⟩; rw [hww]; clear hww w1)
  go_ret2
  exact ⟨rfl, Below.refl _ _⟩

set_option maxRecDepth 100000 in
theorem rRoot_neg (x : Int) (hx : x.natAbs < big) (h : x < 0) (w : World) :
    Calls Tryz.prog 18 #[.string (bs (Lib.itoa x))] w fun e w' => e = .returned (.tuple #[.string ⟨#[]⟩, .int .i64 30]) ∧ Below w.heap.size w w' := by
  have hV := rValid_T x hx
  obtain ⟨n, hn, rfl⟩ : ∃ n : Nat, 0 < n ∧ x = -(n : Int) := ⟨x.natAbs, by omega, by omega⟩
  obtain ⟨k, hd, g0, hq⟩ := Dgt.neg n hn
  rw [itoa_neg n hn] at hV ⊢
  have HV := Lib.hid hV
  generalize bs (45 :: Lib.decDigits n) = S at *
  have g4 : decide (0 < (S.size : Int)) = true := decide_eq_true (by omega)
  clear hV hd hx h
  go_enter Tryz.func18, Tryz.ntmps18
  go_wp2_with (go_at_call 22; (with_reducible refine (HV.out _).mono ?_); rintro e w1 ⟨rfl, hww⟩; rw [hww]; clear hww w1)
  go_ret2
  exact ⟨rfl, Below.refl _ _⟩

theorem rRoot_S (a : ByteArray) (ha : a.size ≤ 9223372036854775807) (w : World) :
    Calls Tryz.prog 18 #[.string a] w fun e w' => e = .returned (.tuple #[.string (rootS a).1, .int .i64 (rootS a).2]) ∧ Below w.heap.size w w' := by
  unfold rootS
  cases hr : rd a with
  | none => exact rRoot_no a ha hr w
  | some x =>
    obtain ⟨hx, rfl⟩ := rd_eq hr
    by_cases h : 0 ≤ x
    · simp only [if_pos h]
      obtain ⟨n, rfl⟩ : ∃ n : Nat, x = (n : Int) := ⟨x.natAbs, by omega⟩
      rw [itoa_nat, Int.natAbs_natCast]
      exact rRoot_T n (by rw [Int.natAbs_natCast] at hx; exact hx) w
    · simp only [if_neg h]; exact rRoot_neg x hx (by omega) w

end Go.Proofs.YtagcpjokajcdiaaGreatDoor

/-
  Layer 3, the reference: ToInt, the walk.
-/
namespace Go.Proofs.YtagcpjokajcdiaaGreatDoor
open Go.RowKit Bs Ig

set_option maxRecDepth 100000 in
set_option maxHeartbeats 4000000 in
theorem toint_pos (B : ByteArray) (n k : Nat) (hd : Dgt B 0 n k) (hbs : B.size ≤ 1000000) (hn : n ≤ 9223372036854775807) (c1 c2 : Int) (h1 : 0 ≤ c1) (h2 : c2 ≤ 0) (w : World)
    (hV : ∀ W, Calls Tryz.prog 22 #[.string B] W fun e w' => e = .returned (.bool true) ∧ w' = W)
    (hC1 : ∀ W, Calls Tryz.prog 24 #[.string B, .string minZ] W fun e w' => e = .returned (.int .i64 c1) ∧ Below W.heap.size W w')
    (hC2 : ∀ W, Calls Tryz.prog 24 #[.string B, .string maxZ] W fun e w' => e = .returned (.int .i64 c2) ∧ Below W.heap.size W w') :
    Calls Tryz.prog 20 #[.string B] w fun e w' => e = .returned (.tuple #[.int .i64 (n : Int), .int .i64 0]) ∧ Below w.heap.size w w' := by
  unfold minZ at hC1
  unfold maxZ at hC2
  have hsz := hd.size
  rw [Nat.zero_add] at hsz
  have g0 : 0 < B.size := by have := hd.pos; omega
  obtain ⟨q, hq, hq48⟩ : ∃ q, (B[0]'g0).toNat = q ∧ 48 ≤ q := ⟨_, rfl, by rw [hd.dig 0 g0 (Nat.le_refl _)]; omega⟩
  have g2 : ((q : Int) == 45) = false := beq_false_of_ne (by omega)
  have g3 : (q == 45) = false := beq_false_of_ne (by omega)
  have g4 : decide (0 < (B.size : Int)) = true := decide_eq_true (by omega)
  have e1 : decide (c1 < 0) = false := decide_eq_false (by omega)
  have e2 : decide (0 < c2) = false := decide_eq_false (by omega)
  have e1' : ¬ c1 < 0 := by omega
  have e2' : ¬ 0 < c2 := by omega
  have HV := Lib.hid hV
  have HC1 := Lib.hid hC1
  have HC2 := Lib.hid hC2
  have HD := Lib.hid hd
  have HK := Lib.hid hsz
  clear hV hC1 hC2 hd hsz
  go_enter Tryz.func20, Tryz.ntmps20
  go_wp2_with (first
    | (go_at_call 22; (with_reducible refine (HV.out _).mono ?_); rintro e w1 ⟨rfl, hww⟩; rw [hww]; clear hww w1)
    | (go_at_call 24; (with_reducible refine (HC1.out _).mono ?_); rintro e w1 ⟨rfl, B1⟩)
    | (go_at_call 24; (with_reducible refine (HC2.out _).mono ?_); rintro e w2 ⟨rfl, B2⟩; have B12 := below_on B1 B2 B1.size))
  have HB := Lib.hid B12
  clear B1 B2 B12
  go_loopw [4, 5] (fun u v wr => ∃ i : Nat, u = .int .i64 ((n / 10 ^ (k - i) : Nat) : Int) ∧ v = .int .i64 (i : Int) ∧ i ≤ k ∧ Below w.heap.size w wr) (fun _ v _ => (k - intOf v).toNat)
  case atStart => exact ⟨0, by rw [Nat.sub_zero, Nat.div_eq_of_lt HD.out.lt]; rfl, rfl, Nat.zero_le _, HB.out⟩
  case round =>
    obtain ⟨i, rfl, rfl, hi, hw⟩ := hrel
    rcases Nat.lt_or_ge i k with h | h
    · have hilt : i < B.size := by have := HK.out; omega
      have hb := HD.out.dig i hilt (Nat.zero_le _)
      rw [Nat.zero_add] at hb
      have hs := pre_step n k i h
      have hle : n / 10 ^ (k - 1 - i) ≤ n := Nat.div_le_self _ _
      obtain ⟨N, hN⟩ : ∃ N, n / 10 ^ (k - i) = N := ⟨_, rfl⟩
      obtain ⟨N2, hN2⟩ : ∃ N2, n / 10 ^ (k - 1 - i) = N2 := ⟨_, rfl⟩
      rw [hN, hN2] at hs
      rw [hN2] at hle hb
      rw [hN]
      obtain ⟨r, hr⟩ : ∃ r, N2 % 10 = r := ⟨_, rfl⟩
      have hr9 : r < 10 := by omega
      rw [hr] at hs hb
      have e3 := u8_sub r hr9
      obtain ⟨b, hbk⟩ : ∃ b, 48 + r = b := ⟨_, rfl⟩
      rw [hbk] at hb e3
      have g5 : ((b : Int) == 45) = false := beq_false_of_ne (by omega)
      have g6 : (b == 45) = false := beq_false_of_ne (by omega)
      have e4 : decide (i < B.size) = true := decide_eq_true hilt
      have e5 : decide ((i : Int) < (B.size : Int)) = true := decide_eq_true (by omega)
      have hb1 : 10 * (N : Int) + (r : Int) ≤ 9223372036854775807 := by omega
      have HN2 := Lib.hid hN2
      have HS := Lib.hid hs
      have Hw := Lib.hid hw
      clear hN hN2 hr hbk hs hle hw
      go_wp2_with fail
      go_roundw
      case rel => exact ⟨i + 1, by rw [show k - (i + 1) = k - 1 - i by omega, HN2.out, HS.out]; go_num, by go_num, h, Hw.out⟩
      case measure => simp [intOf]; omega
    · obtain rfl : i = k := by omega
      have e4 : decide (i < B.size) = false := decide_eq_false (by have := HK.out; omega)
      have e5 : decide ((i : Int) < (B.size : Int)) = false := decide_eq_false (by have := HK.out; omega)
      rw [Nat.sub_self, Nat.pow_zero, Nat.div_one]
      go_wp2_with fail
      go_ret2
      exact ⟨rfl, hw⟩

set_option maxRecDepth 100000 in
set_option maxHeartbeats 4000000 in
theorem toint_neg (B : ByteArray) (n k : Nat) (hd : Dgt B 1 n k) (g0 : 0 < B.size) (hq : (B[0]'g0).toNat = 45) (hbs : B.size ≤ 1000000) (hn : n ≤ 9223372036854775808) (c1 c2 : Int) (h1 : 0 ≤ c1) (h2 : c2 ≤ 0) (w : World)
    (hV : ∀ W, Calls Tryz.prog 22 #[.string B] W fun e w' => e = .returned (.bool true) ∧ w' = W)
    (hC1 : ∀ W, Calls Tryz.prog 24 #[.string B, .string minZ] W fun e w' => e = .returned (.int .i64 c1) ∧ Below W.heap.size W w')
    (hC2 : ∀ W, Calls Tryz.prog 24 #[.string B, .string maxZ] W fun e w' => e = .returned (.int .i64 c2) ∧ Below W.heap.size W w') :
    Calls Tryz.prog 20 #[.string B] w fun e w' => e = .returned (.tuple #[.int .i64 (-(n : Int)), .int .i64 0]) ∧ Below w.heap.size w w' := by
  unfold minZ at hC1
  unfold maxZ at hC2
  have hsz := hd.size
  have g4 : decide (0 < (B.size : Int)) = true := decide_eq_true (by omega)
  have e1 : decide (c1 < 0) = false := decide_eq_false (by omega)
  have e2 : decide (0 < c2) = false := decide_eq_false (by omega)
  have e1' : ¬ c1 < 0 := by omega
  have e2' : ¬ 0 < c2 := by omega
  have HV := Lib.hid hV
  have HC1 := Lib.hid hC1
  have HC2 := Lib.hid hC2
  have HD := Lib.hid hd
  have HK := Lib.hid hsz
  clear hV hC1 hC2 hd hsz
  go_enter Tryz.func20, Tryz.ntmps20
  go_wp2_with (first
    | (go_at_call 22; (with_reducible refine (HV.out _).mono ?_); rintro e w1 ⟨rfl, hww⟩; rw [hww]; clear hww w1)
    | (go_at_call 24; (with_reducible refine (HC1.out _).mono ?_); rintro e w1 ⟨rfl, B1⟩)
    | (go_at_call 24; (with_reducible refine (HC2.out _).mono ?_); rintro e w2 ⟨rfl, B2⟩; have B12 := below_on B1 B2 B1.size))
  have HB := Lib.hid B12
  clear B1 B2 B12
  go_loopw [4, 5] (fun u v wr => ∃ i : Nat, u = .int .i64 (-((n / 10 ^ (k + 1 - i) : Nat) : Int)) ∧ v = .int .i64 (i : Int) ∧ i ≤ k + 1 ∧ Below w.heap.size w wr) (fun _ v _ => (k + 1 - intOf v).toNat)
  case atStart => exact ⟨0, by rw [Nat.sub_zero, Nat.div_eq_of_lt (Nat.lt_of_lt_of_le HD.out.lt (Nat.pow_le_pow_right (by omega) (by omega)))]; rfl, rfl, Nat.zero_le _, HB.out⟩
  case round =>
    obtain ⟨i, rfl, rfl, hi, hw⟩ := hrel
    rcases Nat.lt_or_ge i (k + 1) with h | h
    · have hilt : i < B.size := by have := HK.out; omega
      have e4 : decide (i < B.size) = true := decide_eq_true hilt
      have e5 : decide ((i : Int) < (B.size : Int)) = true := decide_eq_true (by omega)
      rcases Nat.eq_zero_or_pos i with h0 | h0
      · subst h0
        have z1 : n / 10 ^ (k + 1 - 0) = 0 := Nat.div_eq_of_lt (Nat.lt_of_lt_of_le HD.out.lt (Nat.pow_le_pow_right (by omega) (by omega)))
        have z2 : n / 10 ^ (k + 1 - (0 + 1)) = 0 := Nat.div_eq_of_lt (Nat.lt_of_lt_of_le HD.out.lt (Nat.pow_le_pow_right (by omega) (by omega)))
        rw [z1]
        have Z2 := Lib.hid z2
        have Hw := Lib.hid hw
        clear z1 z2 hw
        go_wp2_with fail
        go_roundw
        case rel => exact ⟨0 + 1, by rw [Z2.out], by go_num, h, Hw.out⟩
        case measure => simp [intOf]
      · have hb := HD.out.dig i hilt h0
        rw [Nat.add_comm 1 k] at hb
        have hs := pre_step n (k + 1) i h
        have hle : n / 10 ^ (k + 1 - 1 - i) ≤ n := Nat.div_le_self _ _
        obtain ⟨N, hN⟩ : ∃ N, n / 10 ^ (k + 1 - i) = N := ⟨_, rfl⟩
        obtain ⟨N2, hN2⟩ : ∃ N2, n / 10 ^ (k + 1 - 1 - i) = N2 := ⟨_, rfl⟩
        rw [hN, hN2] at hs
        rw [hN2] at hle hb
        rw [hN]
        obtain ⟨r, hr⟩ : ∃ r, N2 % 10 = r := ⟨_, rfl⟩
        have hr9 : r < 10 := by omega
        rw [hr] at hs hb
        have e3 := u8_sub r hr9
        obtain ⟨b, hbk⟩ : ∃ b, 48 + r = b := ⟨_, rfl⟩
        rw [hbk] at hb e3
        have g5 : ((b : Int) == 45) = false := beq_false_of_ne (by omega)
        have g6 : (b == 45) = false := beq_false_of_ne (by omega)
        have hb1 : 10 * (N : Int) + (r : Int) ≤ 9223372036854775808 := by omega
        have HN2 := Lib.hid hN2
        have HS := Lib.hid hs
        have Hw := Lib.hid hw
        clear hN hN2 hr hbk hs hle hw
        go_wp2_with fail
        go_roundw
        case rel => exact ⟨i + 1, by rw [show k + 1 - (i + 1) = k + 1 - 1 - i by omega, HN2.out, HS.out]; go_num, by go_num, h, Hw.out⟩
        case measure => simp [intOf]; omega
    · obtain rfl : i = k + 1 := by omega
      have e4 : decide (k + 1 < B.size) = false := decide_eq_false (by have := HK.out; omega)
      have e5 : decide (((k + 1 : Nat) : Int) < (B.size : Int)) = false := decide_eq_false (by have := HK.out; omega)
      have e6 : decide ((k : Int) + 1 < (B.size : Int)) = false := decide_eq_false (by have := HK.out; omega)
      have e7 : ¬ (k : Int) + 1 < (B.size : Int) := by have := HK.out; omega
      rw [Nat.sub_self, Nat.pow_zero, Nat.div_one]
      go_wp2_with fail
      go_ret2
      exact ⟨rfl, hw⟩

set_option maxRecDepth 100000 in
theorem rToInt_no (a : ByteArray) (ha : a.size ≤ 9223372036854775807) (h : rd a = none) (w : World) :
    Calls Tryz.prog 20 #[.string a] w fun e w' => e = .returned (.tuple #[.int .i64 0, .int .i64 30]) ∧ Below w.heap.size w w' := by
  have HV := Lib.hid (rvalid_no ha h)
  clear ha h
  go_enter Tryz.func20, Tryz.ntmps20
  go_wp2_with (go_at_call 22; (with_reducible refine (HV.out _).mono ?_); rintro e w1 ⟨rfl, hww⟩; rw [hww]; clear hww w1)
  go_ret2
  exact ⟨rfl, Below.refl _ _⟩

set_option maxRecDepth 100000 in
theorem rToInt_low (x : Int) (hx : x.natAbs < big) (h : x < -9223372036854775808) (w : World) :
    Calls Tryz.prog 20 #[.string (bs (Lib.itoa x))] w fun e w' => e = .returned (.tuple #[.int .i64 0, .int .i64 30]) ∧ Below w.heap.size w w' := by
  have HV := Lib.hid (rValid_T x hx)
  have hC := rcmp_min x hx
  unfold minZ at hC
  obtain ⟨c, hc⟩ : ∃ c, cmpZ x (-9223372036854775808) = c := ⟨_, rfl⟩
  have e0 : c < 0 := by rw [← hc]; exact cmpZ_lt.2 h
  have e1 : decide (c < 0) = true := decide_eq_true e0
  rw [hc] at hC
  have HC := Lib.hid hC
  generalize bs (Lib.itoa x) = X at *
  clear hx h hc hC
  go_enter Tryz.func20, Tryz.ntmps20
  go_wp2_with (first
    | (go_at_call 22; (with_reducible refine (HV.out _).mono ?_); rintro e w1 ⟨rfl, hww⟩; rw [hww]; clear hww w1)
    | (go_at_call 24; (with_reducible refine (HC.out _).mono ?_); rintro e w1 ⟨rfl, B1⟩))
  go_ret2
  exact ⟨rfl, B1⟩

set_option maxRecDepth 100000 in
theorem rToInt_high (x : Int) (hx : x.natAbs < big) (h : 9223372036854775807 < x) (w : World) :
    Calls Tryz.prog 20 #[.string (bs (Lib.itoa x))] w fun e w' => e = .returned (.tuple #[.int .i64 0, .int .i64 30]) ∧ Below w.heap.size w w' := by
  have HV := Lib.hid (rValid_T x hx)
  have hC := rcmp_min x hx
  have hD := rcmp_max x hx
  unfold minZ at hC
  unfold maxZ at hD
  obtain ⟨c, hc⟩ : ∃ c, cmpZ x (-9223372036854775808) = c := ⟨_, rfl⟩
  obtain ⟨d, hd⟩ : ∃ d, cmpZ x 9223372036854775807 = d := ⟨_, rfl⟩
  have e0 : ¬ c < 0 := by rw [← hc, cmpZ_lt]; omega
  have e1 : decide (c < 0) = false := decide_eq_false e0
  have e2 : 0 < d := by rw [← hd]; exact cmpZ_gt.2 h
  have e3 : decide (0 < d) = true := decide_eq_true e2
  rw [hc] at hC
  rw [hd] at hD
  have HC := Lib.hid hC
  have HD := Lib.hid hD
  generalize bs (Lib.itoa x) = X at *
  clear hx h hc hd hC hD
  go_enter Tryz.func20, Tryz.ntmps20
  go_wp2_with (first
    | (go_at_call 22; (with_reducible refine (HV.out _).mono ?_); rintro e w1 ⟨rfl, hww⟩; rw [hww]; clear hww w1)
    | (go_at_call 24; (with_reducible refine (HC.out _).mono ?_); rintro e w1 ⟨rfl, B1⟩)
    | (go_at_call 24; (with_reducible refine (HD.out _).mono ?_); rintro e w2 ⟨rfl, B2⟩; have B12 := below_on B1 B2 B1.size))
  go_ret2
  exact ⟨rfl, B12⟩

theorem rToInt_S (a : ByteArray) (ha : a.size ≤ 9223372036854775807) (w : World) :
    Calls Tryz.prog 20 #[.string a] w fun e w' => e = .returned (.tuple #[.int .i64 (toiS a).1, .int .i64 (toiS a).2]) ∧ Below w.heap.size w w' := by
  unfold toiS
  cases hr : rd a with
  | none => exact rToInt_no a ha hr w
  | some x =>
    obtain ⟨hx, rfl⟩ := rd_eq hr
    by_cases h : isInt x
    · simp only [toiZ, if_pos h]
      obtain ⟨hl, hh⟩ := h
      have c1 : 0 ≤ cmpZ x (-9223372036854775808) := by have : ¬ cmpZ x (-9223372036854775808) < 0 := by rw [cmpZ_lt]; omega
                                                        omega
      have c2 : cmpZ x 9223372036854775807 ≤ 0 := by have : ¬ 0 < cmpZ x 9223372036854775807 := by rw [cmpZ_gt]; omega
                                                     omega
      have hV := rValid_T x hx
      have hbz : (bs (Lib.itoa x)).size ≤ 1000000 := by rw [bs_size]; have := itoa_len hx; omega
      have hC := rcmp_min x hx
      have hD := rcmp_max x hx
      rcases int_cases x with ⟨n, rfl⟩ | ⟨n, hn, rfl⟩
      · obtain ⟨k, hd⟩ := Dgt.nonneg n
        rw [itoa_nat] at hV hC hD hbz ⊢
        exact toint_pos _ n k hd hbz (by omega) _ _ c1 c2 w hV hC hD
      · obtain ⟨k, hd, g0, hq⟩ := Dgt.neg n hn
        rw [itoa_neg n hn] at hV hC hD hbz ⊢
        exact toint_neg _ n k hd g0 hq hbz (by omega) _ _ c1 c2 w hV hC hD
    · simp only [toiZ, if_neg h]
      rcases Int.lt_or_le x (-9223372036854775808) with h1 | h1
      · exact rToInt_low x hx h1 w
      · exact rToInt_high x hx (by unfold isInt at h; omega) w

end Go.Proofs.YtagcpjokajcdiaaGreatDoor
