/-
  Put together by program out of these texts, in this order: Qse, Qpa.
-/
import Derived.Test.YtjkklgpbblkhaaaGreatDoorZCaRFd11
import Derived.Lib.IndexLaws

/-
  Layer 4: what the functions answer at fractions in lowest terms, as numbers.
-/
namespace Go.Proofs.YtjkklgpbblkhaaaGreatDoor
open Go.RowKit Bs Ig Qq

def T (z : Int) : ByteArray := bs (Lib.itoa z)
/-- a fraction of integers of at most 200 digits, in lowest terms -/
structure FV (p : Int × Int) : Prop where
  isF : IsF p
  b1 : p.1.natAbs < big
  b2 : p.2.natAbs < big
theorem FV.pos {p : Int × Int} (h : FV p) : 0 < p.2 := h.isF.pos
def noA : ByteArray × ByteArray × Int := (⟨#[]⟩, ⟨#[]⟩, 40)
/-- the answer that is the fraction p -/
def okA (p : Int × Int) : ByteArray × ByteArray × Int := (T p.1, T p.2, 0)
theorem T0 : T 0 = ⟨#[48]⟩ := by
  unfold T; rw [show Lib.itoa 0 = [48] from by rw [show (0 : Int) = ((0 : Nat) : Int) from rfl, itoa_nat, dec_small (by omega)]; rfl]; rfl
theorem T1 : T 1 = ⟨#[49]⟩ := by
  unfold T; rw [show Lib.itoa 1 = [49] from by rw [show (1 : Int) = ((1 : Nat) : Int) from rfl, itoa_nat, dec_small (by omega)]; rfl]; rfl
theorem T_inj {x y : Int} (h : T x = T y) : x = y := itoa_inj (bs_inj h)
theorem rd_T {z : Int} (h : z.natAbs < big) : rd (T z) = some z := rd_some h
theorem wrS_ok {z : Int} (h : z.natAbs < big) : wrS z = (T z, 0) := by unfold wrS txt err T; rw [if_pos h, if_pos h]
theorem wrS_no {z : Int} (h : ¬ z.natAbs < big) : wrS z = (⟨#[]⟩, 30) := by unfold wrS txt err; rw [if_neg h, if_neg h]; rfl
theorem zero_bigQ : (0 : Int).natAbs < big := Nat.pow_pos (by omega)
theorem one_bigQ : (1 : Int).natAbs < big := Nat.lt_of_lt_of_le (by decide) big5_4
theorem gcd_natAbs {x y : Int} : ((Int.gcd x y : Nat) : Int).natAbs = Int.gcd x y := Int.natAbs_natCast _
section
variable {x y : Int} (hx : x.natAbs < big) (hy : y.natAbs < big)
include hx hy
theorem addS_T : addS (T x) (T y) = wrS (x + y) := by unfold addS onS; rw [rd_T hx, rd_T hy]
theorem subS_T : subS (T x) (T y) = wrS (x - y) := by unfold subS onS; rw [rd_T hx, rd_T hy]
theorem mulS_T : mulS (T x) (T y) = wrS (x * y) := by unfold mulS onS; rw [rd_T hx, rd_T hy]
theorem gcdS_T : gcdS (T x) (T y) = (T (Int.gcd x y : Nat), 0) := by
  unfold gcdS onS; rw [rd_T hx, rd_T hy]
  exact wrS_ok (by rw [gcd_natAbs]; exact gcd_big4 hx hy)
theorem cmpS_T : cmpS (T x) (T y) = cmpZ x y := by unfold cmpS; rw [rd_T hx, rd_T hy]
theorem divS_T (h : y ≠ 0) : divS (T x) (T y) = (T (x / y), T (x % y), 0) := by unfold divS; rw [rd_T hx, rd_T hy]; exact if_neg h
theorem floorS_T (h : y ≠ 0) : floorS (T x) (T y) = (T (x / y), 0) := by unfold floorS; rw [divS_T hx hy h]
end
theorem T_eq1 (z : Int) : ((T z).toList == [49]) = decide (z = 1) := by
  unfold T
  rw [bs_toList]
  by_cases h : z = 1
  · subst h
    rw [show Lib.itoa 1 = [49] from by rw [show (1 : Int) = ((1 : Nat) : Int) from rfl, itoa_nat, dec_small (by omega)]; rfl]; rfl
  · rw [decide_eq_false h]
    refine beq_false_of_ne (fun h2 => h (itoa_inj (y := 1) ?_))
    rw [h2, show (1 : Int) = ((1 : Nat) : Int) from rfl, itoa_nat, dec_small (by omega)]; rfl
theorem cmpZ_pos {x : Int} (h : 0 < x) : cmpZ x 0 = 1 := by unfold cmpZ; rw [if_neg (by omega), if_pos h]
theorem cmpZ_neg {x : Int} (h : x < 0) : cmpZ x 0 = -1 := if_pos h
theorem cmpZ_eq (x : Int) : cmpZ x x = 0 := by unfold cmpZ; rw [if_neg (by omega), if_neg (by omega)]

theorem validB_T {p : Int × Int} (h : FV p) : validB (T p.1) (T p.2) = true := by
  unfold validB
  rw [gcdS_T h.b1 h.b2, ← T0, cmpS_T h.b2 zero_bigQ, h.isF.low, T_eq1, cmpZ_pos h.pos]
  rfl
theorem cmpS_none {s t : ByteArray} (h : rd s = none) : cmpS s t = 0 := by unfold cmpS; rw [h]
theorem validB_inv {N D : ByteArray} (h : validB N D = true) : ∃ p : Int × Int, FV p ∧ N = T p.1 ∧ D = T p.2 := by
  unfold validB at h
  simp only [Bool.and_eq_true] at h
  obtain ⟨h1, h2, h3⟩ := h
  cases hN : rd N with
  | none => unfold gcdS onS at h1; rw [hN] at h1; cases h1
  | some n =>
    cases hD : rd D with
    | none => unfold gcdS onS at h1; rw [hN, hD] at h1; cases h1
    | some d =>
      obtain ⟨hn, rfl⟩ := rd_eq hN
      obtain ⟨hd, rfl⟩ := rd_eq hD
      have h2' : ((gcdS (T n) (T d)).1.toList == [49]) = true := h2
      have h3' : decide (0 < cmpS (T d) ⟨#[48]⟩) = true := h3
      rw [gcdS_T hn hd, T_eq1] at h2'
      rw [← T0, cmpS_T hd zero_bigQ] at h3'
      have h4 := of_decide_eq_true h2'
      have h5 := of_decide_eq_true h3'
      refine ⟨(n, d), ⟨⟨?_, by show Int.gcd n d = 1; omega⟩, hn, hd⟩, rfl, rfl⟩
      show 0 < d
      rcases Int.lt_trichotomy d 0 with h | h | h
      · rw [cmpZ_neg h] at h5; omega
      · rw [h, cmpZ_eq] at h5; omega
      · exact h
theorem runS_e (F : List Stp) (N D : ByteArray) {e : Int} (h : e ≠ 0) : runS F N D e = (N, D, e) := by
  induction F with
  | nil => rfl
  | cons G r ih => unfold runS; rw [if_neg h]; exact ih
theorem runS_ok {F : Stp} {r : List Stp} {N D N' D' : ByteArray} (h : F N D = (N', D', 0)) : runS (F :: r) N D 0 = runS r N' D' 0 := by
  show (if (0 : Int) = 0 then runS r (F N D).1 (F N D).2.1 (F N D).2.2 else _) = _
  rw [if_pos rfl, h]
theorem runS_err {F : Stp} {r : List Stp} {N D N' D' : ByteArray} {e : Int} (h : F N D = (N', D', e)) (he : e ≠ 0) : runS (F :: r) N D 0 = (N', D', e) := by
  show (if (0 : Int) = 0 then runS r (F N D).1 (F N D).2.1 (F N D).2.2 else _) = _
  rw [if_pos rfl, h, runS_e _ _ _ he]
theorem buildS_ok {F : List Stp} {N D N' D' : ByteArray} (h : runS F N D 0 = (N', D', 0)) : buildS F N D = (N', D', 0) := by unfold buildS finS; rw [h]; rfl
theorem buildS_no {F : List Stp} {N D N' D' : ByteArray} {e : Int} (h : runS F N D 0 = (N', D', e)) (he : e ≠ 0) : buildS F N D = noA := by unfold buildS finS; rw [h]; exact if_neg he
theorem ne30 : (30 : Int) ≠ 0 := by decide
theorem ne40 : (40 : Int) ≠ 0 := by decide
theorem build_ne {F : List Stp} {N D : ByteArray} (h : (runS F N D 0).2.2 ≠ 0) : buildS F N D = noA := by unfold buildS finS; exact if_neg h
theorem numS_ok {op : ByteArray → ByteArray → ByteArray × Int} {y N D s : ByteArray} {e : Int} (h : op N y = (s, e)) : numS op y N D = (s, D, e) := by unfold numS; rw [h]
theorem denS_ok {op : ByteArray → ByteArray → ByteArray × Int} {y N D s : ByteArray} {e : Int} (h : op D y = (s, e)) : denS op y N D = (N, s, e) := by unfold denS; rw [h]

theorem red_b1 {n d : Int} (h : n.natAbs < big) : (red n d).1.natAbs < big := Nat.lt_of_le_of_lt red_le.1 h
theorem red_b2 {n d : Int} (h : d.natAbs < big) : (red n d).2.natAbs < big := Nat.lt_of_le_of_lt red_le.2 h
theorem red_FV {n d : Int} (h : d ≠ 0) (hn : n.natAbs < big) (hd : d.natAbs < big) : FV (red n d) := ⟨red_isF h, red_b1 hn, red_b2 hd⟩
theorem lowestS_T {n d : Int} (hn : n.natAbs < big) (hd : d.natAbs < big) (h : 0 < d) : lowestS (T n) (T d) = okA (red n d) := by
  have hg := gcd_pos (n := n) (d := d) (by omega)
  have hgb : ((Int.gcd n d : Nat) : Int).natAbs < big := by rw [gcd_natAbs]; exact gcd_big4 hn hd
  unfold lowestS
  rw [gcdS_T hn hd]
  refine (if_neg (by simp)).trans (buildS_ok ?_)
  rw [runS_ok (numS_ok (floorS_T hn hgb (by omega))), runS_ok (denS_ok (floorS_T hd hgb (by omega)))]
  show (_, _, _) = _
  unfold red
  rw [if_neg (by omega)]
theorem positiveS_pos {n d : Int} (hd : d.natAbs < big) (h : 0 < d) : positiveS (T n) (T d) = (T n, T d, 0) := by
  unfold positiveS
  rw [← T0, cmpS_T hd zero_bigQ, cmpZ_pos h]
  rfl
theorem positiveS_neg {n d : Int} (hn : n.natAbs < big) (hd : d.natAbs < big) (h : d < 0) : positiveS (T n) (T d) = (T (0 - n), T (0 - d), 0) := by
  unfold positiveS
  rw [← T0, cmpS_T hd zero_bigQ, cmpZ_neg h]
  refine (if_neg (by decide)).trans ((if_pos rfl).trans (buildS_ok ?_))
  rw [runS_ok (numS_ok ((subS_T zero_bigQ hn).trans (wrS_ok (by omega)))), runS_ok (denS_ok ((subS_T zero_bigQ hd).trans (wrS_ok (by omega))))]
  rfl
theorem positiveS_0 (N : ByteArray) : positiveS N (T 0) = noA := by
  unfold positiveS
  rw [← T0, cmpS_T zero_bigQ zero_bigQ, cmpZ_eq]
  rfl
theorem reduceS_T {n d : Int} (hn : n.natAbs < big) (hd : d.natAbs < big) (h : d ≠ 0) : reduceS (T n) (T d) = okA (red n d) := by
  unfold reduceS
  refine buildS_ok ?_
  rcases Int.lt_or_le d 0 with h0 | h0
  · rw [runS_ok (positiveS_neg hn hd h0), runS_ok (N' := T (red (0 - n) (0 - d)).1) (D' := T (red (0 - n) (0 - d)).2) (lowestS_T (by omega) (by omega) (by omega))]
    have : red (0 - n) (0 - d) = red n d := red_congr (by omega) h (by rw [Int.sub_mul, Int.mul_sub]; omega)
    rw [this]; rfl
  · rw [runS_ok (positiveS_pos hd (by omega)), runS_ok (N' := T (red n d).1) (D' := T (red n d).2) (lowestS_T hn hd (by omega))]
    rfl
theorem reduceS_0 (N : ByteArray) : reduceS N (T 0) = noA := by
  unfold reduceS
  exact buildS_no (runS_err (positiveS_0 N) (by decide)) (by decide)

/-! the operations -/
theorem validS_ok {l : List (ByteArray × ByteArray)} {N D : ByteArray} (h : l.all (fun p => validB p.1 p.2) = true) : validS l N D = (N, D, 0) := by unfold validS; rw [if_pos h]
theorem validS_no {l : List (ByteArray × ByteArray)} {N D : ByteArray} (h : l.all (fun p => validB p.1 p.2) = false) : validS l N D = noA := by unfold validS; rw [if_neg (by rw [h]; decide)]; rfl
theorem two_ok {p q : Int × Int} (hp : FV p) (hq : FV q) : [(T p.1, T p.2), (T q.1, T q.2)].all (fun p => validB p.1 p.2) = true := by
  simp [validB_T hp, validB_T hq]
theorem two_no {a b c d : ByteArray} (h : validB a b = false ∨ validB c d = false) : [(a, b), (c, d)].all (fun p => validB p.1 p.2) = false := by
  rcases h with h | h <;> simp [h]
theorem one_ok {p : Int × Int} (hp : FV p) : [(T p.1, T p.2)].all (fun p => validB p.1 p.2) = true := by
  simp [validB_T hp]
theorem one_no {a b : ByteArray} (h : validB a b = false) : [(a, b)].all (fun p => validB p.1 p.2) = false := by simp [h]
theorem mulQ_inv {a b c d : ByteArray} (h : validB a b = false ∨ validB c d = false) : mulQ a b c d = noA := buildS_no (runS_err (validS_no (two_no h)) (by decide)) (by decide)
theorem divQ_inv {a b c d : ByteArray} (h : validB a b = false ∨ validB c d = false) : divQ a b c d = noA := buildS_no (runS_err (validS_no (two_no h)) (by decide)) (by decide)
theorem addQ_inv {a b c d : ByteArray} (h : validB a b = false ∨ validB c d = false) : addQ a b c d = noA := buildS_no (runS_err (validS_no (two_no h)) (by decide)) (by decide)
theorem subQ_inv {a b c d : ByteArray} (h : validB a b = false ∨ validB c d = false) : subQ a b c d = noA := buildS_no (runS_err (validS_no (two_no h)) (by decide)) (by decide)
section
variable {p q : Int × Int} (hp : FV p) (hq : FV q)
include hp hq
theorem mulQ_ok (h1 : (p.1 * q.1).natAbs < big) (h2 : (p.2 * q.2).natAbs < big) : mulQ (T p.1) (T p.2) (T q.1) (T q.2) = okA (times p q) := by
  refine buildS_ok ?_
  rw [runS_ok (validS_ok (two_ok hp hq)), runS_ok (numS_ok ((mulS_T hp.b1 hq.b1).trans (wrS_ok h1))), runS_ok (denS_ok ((mulS_T hp.b2 hq.b2).trans (wrS_ok h2))),
    runS_ok (N' := T (times p q).1) (D' := T (times p q).2) (reduceS_T h1 h2 (den_ne hp.isF hq.isF))]
  rfl
theorem mulQ_no (h : ¬ ((p.1 * q.1).natAbs < big ∧ (p.2 * q.2).natAbs < big)) : mulQ (T p.1) (T p.2) (T q.1) (T q.2) = noA := by
  unfold mulQ
  by_cases h1 : (p.1 * q.1).natAbs < big
  · refine build_ne ?_
    rw [runS_ok (validS_ok (two_ok hp hq)), runS_ok (numS_ok ((mulS_T hp.b1 hq.b1).trans (wrS_ok h1)))]
    rw [runS_err (denS_ok ((mulS_T hp.b2 hq.b2).trans (wrS_no (fun h2 => h ⟨h1, h2⟩)))) (by decide)]; first | exact ne30 | exact ne40
  · refine build_ne ?_
    rw [runS_ok (validS_ok (two_ok hp hq))]
    rw [runS_err (numS_ok ((mulS_T hp.b1 hq.b1).trans (wrS_no h1))) (by decide)]; first | exact ne30 | exact ne40
theorem divQ_ok (h0 : q.1 ≠ 0) (h1 : (p.1 * q.2).natAbs < big) (h2 : (p.2 * q.1).natAbs < big) : divQ (T p.1) (T p.2) (T q.1) (T q.2) = okA (over p q) := by
  refine buildS_ok ?_
  rw [runS_ok (validS_ok (two_ok hp hq)), runS_ok (numS_ok ((mulS_T hp.b1 hq.b2).trans (wrS_ok h1))), runS_ok (denS_ok ((mulS_T hp.b2 hq.b1).trans (wrS_ok h2))),
    runS_ok (N' := T (over p q).1) (D' := T (over p q).2) (reduceS_T h1 h2 (Int.mul_ne_zero (by have := hp.pos; omega) h0))]
  rfl
theorem divQ_no (h : ¬ (q.1 ≠ 0 ∧ (p.1 * q.2).natAbs < big ∧ (p.2 * q.1).natAbs < big)) : divQ (T p.1) (T p.2) (T q.1) (T q.2) = noA := by
  unfold divQ
  by_cases h1 : (p.1 * q.2).natAbs < big
  · by_cases h2 : (p.2 * q.1).natAbs < big
    · have h0 : q.1 = 0 := Decidable.byContradiction fun h0 => h ⟨h0, h1, h2⟩
      refine build_ne ?_
      have hm := mulS_T hp.b2 hq.b1
      rw [h0, Int.mul_zero, wrS_ok zero_bigQ] at hm
      rw [runS_ok (validS_ok (two_ok hp hq)), runS_ok (numS_ok ((mulS_T hp.b1 hq.b2).trans (wrS_ok h1))), h0, runS_ok (denS_ok hm)]
      rw [runS_err (reduceS_0 _) (by decide)]; first | exact ne30 | exact ne40
    · refine build_ne ?_
      rw [runS_ok (validS_ok (two_ok hp hq)), runS_ok (numS_ok ((mulS_T hp.b1 hq.b2).trans (wrS_ok h1)))]
      rw [runS_err (denS_ok ((mulS_T hp.b2 hq.b1).trans (wrS_no h2))) (by decide)]; first | exact ne30 | exact ne40
  · refine build_ne ?_
    rw [runS_ok (validS_ok (two_ok hp hq))]
    rw [runS_err (numS_ok ((mulS_T hp.b1 hq.b2).trans (wrS_no h1))) (by decide)]; first | exact ne30 | exact ne40
end

/-- the fractions are the fraction with these numbers, or there is none -/
theorem inv_or (a b : ByteArray) : validB a b = false ∨ ∃ p : Int × Int, FV p ∧ a = T p.1 ∧ b = T p.2 := by
  cases h : validB a b with
  | false => exact .inl rfl
  | true => exact .inr (validB_inv h)
section
variable {p q : Int × Int} (hp : FV p) (hq : FV q)
include hp hq
theorem scaledS_ok {op : ByteArray → ByteArray → ByteArray × Int} {X : ByteArray} (h2 : (q.1 * p.2).natAbs < big) : scaledS op (T p.2) X (T q.1) = op X (T (q.1 * p.2)) := by
  unfold scaledS
  rw [mulS_T hq.b1 hp.b2, wrS_ok h2]
  rfl
theorem scaledS_no {op : ByteArray → ByteArray → ByteArray × Int} {X : ByteArray} (h2 : ¬ (q.1 * p.2).natAbs < big) : scaledS op (T p.2) X (T q.1) = (⟨#[]⟩, 30) := by
  unfold scaledS
  rw [mulS_T hq.b1 hp.b2, wrS_no h2]
  rfl
theorem addQ_ok (h1 : (p.1 * q.2).natAbs < big) (h2 : (q.1 * p.2).natAbs < big) (h3 : (p.1 * q.2 + q.1 * p.2).natAbs < big) (h4 : (p.2 * q.2).natAbs < big) : addQ (T p.1) (T p.2) (T q.1) (T q.2) = okA (plus p q) := by
  refine buildS_ok ?_
  rw [runS_ok (validS_ok (two_ok hp hq)), runS_ok (numS_ok ((mulS_T hp.b1 hq.b2).trans (wrS_ok h1))), runS_ok (numS_ok ((scaledS_ok hp hq h2).trans ((addS_T h1 h2).trans (wrS_ok h3)))), runS_ok (denS_ok ((mulS_T hp.b2 hq.b2).trans (wrS_ok h4))),
    runS_ok (N' := T (plus p q).1) (D' := T (plus p q).2) (reduceS_T h3 h4 (den_ne hp.isF hq.isF))]
  rfl
theorem subQ_ok (h1 : (p.1 * q.2).natAbs < big) (h2 : (q.1 * p.2).natAbs < big) (h3 : (p.1 * q.2 - q.1 * p.2).natAbs < big) (h4 : (p.2 * q.2).natAbs < big) : subQ (T p.1) (T p.2) (T q.1) (T q.2) = okA (less p q) := by
  refine buildS_ok ?_
  rw [runS_ok (validS_ok (two_ok hp hq)), runS_ok (numS_ok ((mulS_T hp.b1 hq.b2).trans (wrS_ok h1))), runS_ok (numS_ok ((scaledS_ok hp hq h2).trans ((subS_T h1 h2).trans (wrS_ok h3)))), runS_ok (denS_ok ((mulS_T hp.b2 hq.b2).trans (wrS_ok h4))),
    runS_ok (N' := T (less p q).1) (D' := T (less p q).2) (reduceS_T h3 h4 (den_ne hp.isF hq.isF))]
  rfl
theorem addQ_no (h : ¬ ((p.1 * q.2).natAbs < big ∧ (q.1 * p.2).natAbs < big ∧ (p.1 * q.2 + q.1 * p.2).natAbs < big ∧ (p.2 * q.2).natAbs < big)) : addQ (T p.1) (T p.2) (T q.1) (T q.2) = noA := by
  unfold addQ combineQ
  refine build_ne ?_
  by_cases h1 : (p.1 * q.2).natAbs < big
  · rw [runS_ok (validS_ok (two_ok hp hq)), runS_ok (numS_ok ((mulS_T hp.b1 hq.b2).trans (wrS_ok h1)))]
    by_cases h2 : (q.1 * p.2).natAbs < big
    · by_cases h3 : (p.1 * q.2 + q.1 * p.2).natAbs < big
      · rw [runS_ok (numS_ok ((scaledS_ok hp hq h2).trans ((addS_T h1 h2).trans (wrS_ok h3)))), runS_err (denS_ok ((mulS_T hp.b2 hq.b2).trans (wrS_no (fun h4 => h ⟨h1, h2, h3, h4⟩)))) (by decide)]; first | exact ne30 | exact ne40
      · rw [runS_err (numS_ok ((scaledS_ok hp hq h2).trans ((addS_T h1 h2).trans (wrS_no h3)))) (by decide)]; first | exact ne30 | exact ne40
    · rw [runS_err (numS_ok (scaledS_no hp hq h2)) (by decide)]; first | exact ne30 | exact ne40
  · rw [runS_ok (validS_ok (two_ok hp hq)), runS_err (numS_ok ((mulS_T hp.b1 hq.b2).trans (wrS_no h1))) (by decide)]; first | exact ne30 | exact ne40
theorem subQ_no (h : ¬ ((p.1 * q.2).natAbs < big ∧ (q.1 * p.2).natAbs < big ∧ (p.1 * q.2 - q.1 * p.2).natAbs < big ∧ (p.2 * q.2).natAbs < big)) : subQ (T p.1) (T p.2) (T q.1) (T q.2) = noA := by
  unfold subQ combineQ
  refine build_ne ?_
  by_cases h1 : (p.1 * q.2).natAbs < big
  · rw [runS_ok (validS_ok (two_ok hp hq)), runS_ok (numS_ok ((mulS_T hp.b1 hq.b2).trans (wrS_ok h1)))]
    by_cases h2 : (q.1 * p.2).natAbs < big
    · by_cases h3 : (p.1 * q.2 - q.1 * p.2).natAbs < big
      · rw [runS_ok (numS_ok ((scaledS_ok hp hq h2).trans ((subS_T h1 h2).trans (wrS_ok h3)))), runS_err (denS_ok ((mulS_T hp.b2 hq.b2).trans (wrS_no (fun h4 => h ⟨h1, h2, h3, h4⟩)))) (by decide)]; first | exact ne30 | exact ne40
      · rw [runS_err (numS_ok ((scaledS_ok hp hq h2).trans ((subS_T h1 h2).trans (wrS_no h3)))) (by decide)]; first | exact ne30 | exact ne40
    · rw [runS_err (numS_ok (scaledS_no hp hq h2)) (by decide)]; first | exact ne30 | exact ne40
  · rw [runS_ok (validS_ok (two_ok hp hq)), runS_err (numS_ok ((mulS_T hp.b1 hq.b2).trans (wrS_no h1))) (by decide)]; first | exact ne30 | exact ne40
end
/-! rounding -/
theorem tq_T (m : Nat) : tq m = T ((10 ^ m : Nat) : Int) := by
  unfold tq zb T
  rw [show (⟨#[49]⟩ : ByteArray) = bs [49] from rfl, bs_append, itoa_nat]
  congr 1
  have hn : num ([49] ++ List.replicate m 48) = 10 ^ m := by
    have h0 : num (List.replicate m 48) = 0 := by
      induction m with
      | zero => rfl
      | succ k ih => rw [List.replicate_succ, num_cons, ih]; simp
    rw [num_append, List.length_replicate, h0, Nat.add_zero, show num [49] = 1 from rfl, Nat.one_mul]
  rw [← hn]
  exact (dec_num _ (fun c hc => by
    rcases List.mem_cons.1 hc with hc | hc
    · rw [hc]; decide
    · rw [List.eq_of_mem_replicate hc]; decide) 49 (List.replicate m 48) rfl (by decide)).symm
theorem ten_big {m : Nat} (h : m ≤ 30) : ((10 ^ m : Nat) : Int).natAbs < big := by
  rw [Int.natAbs_natCast]; exact Nat.pow_lt_pow_right (by omega) (by omega)
theorem ten_pos (m : Nat) : (0 : Int) < ((10 ^ m : Nat) : Int) := by have : 0 < 10 ^ m := Nat.pow_pos (by omega); omega
theorem roundQ_ok {p : Int × Int} (hp : FV p) {m : Nat} {t : Int} (ht : tq m = T t) (h0 : 0 < t) (hb : t.natAbs < big) {op : ByteArray → ByteArray → ByteArray × Int} {k : Int} (h1 : (p.1 * t).natAbs < big) (h2 : op (T (p.1 * t)) (T p.2) = (T k, 0)) (h3 : k.natAbs < big) :
    roundQ op (T p.1) (T p.2) m = okA (red k t) := by
  unfold roundQ
  rw [ht]
  have hr := reduceS_T h3 hb (by omega)
  refine buildS_ok ?_
  rw [runS_ok (validS_ok (one_ok hp)), runS_ok (numS_ok ((mulS_T hp.b1 hb).trans (wrS_ok h1))), runS_ok (numS_ok h2), runS_ok (F := overS (T t)) (N' := T k) (D' := T t) rfl,
    runS_ok (N' := T (red k t).1) (D' := T (red k t).2) hr]
  rfl
theorem roundQ_no1 {p : Int × Int} (hp : FV p) {m : Nat} {t : Int} (ht : tq m = T t) (hb : t.natAbs < big) {op : ByteArray → ByteArray → ByteArray × Int} (h1 : ¬ (p.1 * t).natAbs < big) : roundQ op (T p.1) (T p.2) m = noA := by
  unfold roundQ
  rw [ht]
  refine build_ne ?_
  rw [runS_ok (validS_ok (one_ok hp)), runS_err (numS_ok ((mulS_T hp.b1 hb).trans (wrS_no h1))) (by decide)]
  exact ne30
theorem roundQ_no2 {p : Int × Int} (hp : FV p) {m : Nat} {t : Int} (ht : tq m = T t) (hb : t.natAbs < big) {op : ByteArray → ByteArray → ByteArray × Int} {s : ByteArray} (h1 : (p.1 * t).natAbs < big) (h2 : op (T (p.1 * t)) (T p.2) = (s, 30)) : roundQ op (T p.1) (T p.2) m = noA := by
  unfold roundQ
  rw [ht]
  refine build_ne ?_
  rw [runS_ok (validS_ok (one_ok hp)), runS_ok (numS_ok ((mulS_T hp.b1 hb).trans (wrS_ok h1))), runS_err (numS_ok h2) (by decide)]
  exact ne30
theorem roundQ_inv {a b : ByteArray} {m : Nat} {op : ByteArray → ByteArray → ByteArray × Int} (h : validB a b = false) : roundQ op a b m = noA :=
  buildS_no (runS_err (validS_no (one_no h)) (by decide)) (by decide)
theorem ceilS_T {x y : Int} (hx : x.natAbs < big) (hy : y.natAbs < big) (h : y ≠ 0) : ceilS (T x) (T y) = wrS (ce x y) := by
  unfold ceilS floorS ce
  rw [divS_T hx hy h]
  have hq : (x / y).natAbs < big := Nat.lt_of_le_of_lt (Int.natAbs_ediv_le_natAbs x y) hx
  have e : ((T (x % y)).toList == [48]) = decide (x % y = 0) := by
    unfold T; rw [bs_toList]
    by_cases h : x % y = 0
    · rw [h]; show (Lib.itoa 0 == [48]) = _; rw [show Lib.itoa 0 = [48] from by rw [show (0 : Int) = ((0 : Nat) : Int) from rfl, itoa_nat, dec_small (by omega)]; rfl]; rfl
    · rw [decide_eq_false h]; exact itoa_zero _ h
  simp only [e]
  rw [if_neg (by simp)]
  by_cases h0 : x % y = 0
  · rw [if_pos (by simpa using h0), if_pos h0, wrS_ok hq]
  · rw [if_neg (by simpa using h0), if_neg h0, ← T1, addS_T hq one_bigQ]

end Go.Proofs.YtjkklgpbblkhaaaGreatDoor

/-
  Layer 4: Parse.
-/
namespace Go.Proofs.YtjkklgpbblkhaaaGreatDoor
open Go.RowKit Bs Ig Qq

set_option maxRecDepth 100000 in
set_option maxHeartbeats 4000000 in
theorem cut_at (s : ByteArray) (k : Nat) (hk : k < s.size) (hs : s.size ≤ 9223372036854775806) (hi : Lib.indexByte s.data.toList 47 = (k : Int)) (w : World) :
    Calls Tryz.prog 65 #[.string s, .string ⟨#[47]⟩] w fun e w' => e = .returned (.tuple #[.string (s.extract 0 k), .string (s.extract (k + 1) s.size), .bool true]) ∧ Below w.heap.size w w' := by
  have HI := Lib.hid (fun (W : World) => (show Calls Tryz.prog 121 #[.string s, .string ⟨#[47]⟩] W fun e w' => e = .returned (.int .i64 (k : Int)) ∧ w' = W from by
    have h := Tryz.stringslite_Index_one s 47 W
    rw [hi] at h
    exact h))
  have HC := Lib.hid (fun (W : World) => (show Calls Tryz.prog 96 #[.string s, .string ⟨#[47]⟩] W fun e w' => e = .returned (.tuple #[.string (s.extract 0 k), .string (s.extract (k + 1) s.size), .bool true]) ∧ Below W.heap.size W w' from by
    have e1 : decide (0 ≤ (k : Int)) = true := decide_eq_true (by omega)
    have e2 : decide ((k : Int) ≤ (s.size : Int)) = true := decide_eq_true (by omega)
    have e3 : decide ((k : Int) + 1 ≤ (s.size : Int)) = true := decide_eq_true (by omega)
    clear hi
    go_enter Tryz.func96, Tryz.ntmps96
    go_wp2_with (go_at_call 121; (with_reducible refine (HI.out _).mono ?_); rintro e w1 ⟨rfl, rfl⟩)
    go_quiet (fail)
    go_wp2_with fail
    exact bodyPost_ret (results_tmp3 rfl _ _ _) rfl ⟨rfl, below_drewN (Below.refl _ _) _⟩))
  clear HI hi
  go_enter Tryz.func65, Tryz.ntmps65
  go_wp2_with (go_at_call 96; (with_reducible refine (HC.out _).mono ?_); rintro e w1 ⟨rfl, B1⟩)
  exact bodyPost_ret (results_tmp3 rfl _ _ _) rfl ⟨rfl, B1⟩

set_option maxRecDepth 100000 in
set_option maxHeartbeats 4000000 in
theorem cut_none (s : ByteArray) (hi : Lib.indexByte s.data.toList 47 = -1) (w : World) :
    Calls Tryz.prog 65 #[.string s, .string ⟨#[47]⟩] w fun e w' => e = .returned (.tuple #[.string s, .string ⟨#[]⟩, .bool false]) ∧ Below w.heap.size w w' := by
  have HI := Lib.hid (fun (W : World) => (show Calls Tryz.prog 121 #[.string s, .string ⟨#[47]⟩] W fun e w' => e = .returned (.int .i64 (-1)) ∧ w' = W from by
    have h := Tryz.stringslite_Index_one s 47 W
    rw [hi] at h
    exact h))
  have HC := Lib.hid (fun (W : World) => (show Calls Tryz.prog 96 #[.string s, .string ⟨#[47]⟩] W fun e w' => e = .returned (.tuple #[.string s, .string ⟨#[]⟩, .bool false]) ∧ Below W.heap.size W w' from by
    clear hi
    go_enter Tryz.func96, Tryz.ntmps96
    go_wp2_with (go_at_call 121; (with_reducible refine (HI.out _).mono ?_); rintro e w1 ⟨rfl, rfl⟩)
    exact bodyPost_ret (results_tmp3 rfl _ _ _) rfl ⟨rfl, Below.refl _ _⟩))
  clear HI hi
  go_enter Tryz.func65, Tryz.ntmps65
  go_wp2_with (go_at_call 96; (with_reducible refine (HC.out _).mono ?_); rintro e w1 ⟨rfl, B1⟩)
  exact bodyPost_ret (results_tmp3 rfl _ _ _) rfl ⟨rfl, B1⟩

/-- numerator and denominator of a text -/
def splitQ (s : ByteArray) : ByteArray × ByteArray := if 0 ≤ Lib.indexByte s.data.toList 47 then (s.extract 0 (Lib.indexByte s.data.toList 47).toNat, s.extract ((Lib.indexByte s.data.toList 47).toNat + 1) s.size) else (s, ⟨#[49]⟩)
noncomputable def parseQ (s : ByteArray) : ByteArray × ByteArray × Int := if validB (splitQ s).1 (splitQ s).2 = true then (if ((printQ (splitQ s).1 (splitQ s).2).toList == s.toList) = true then ((splitQ s).1, (splitQ s).2, 0) else noA) else noA

set_option maxRecDepth 100000 in
set_option maxHeartbeats 4000000 in
theorem parse_any4 (s : ByteArray) (hs : s.size ≤ 900) (w : World) (ht : TabP w) : Answers 34 #[.string s] (parseQ s) w := by
  unfold Answers parseQ
  obtain ⟨hB, r0⟩ := box0 w
  have hA := hB.alloc hB.size (.cells #[.string s, .string ⟨#[49]⟩] 23)
  have q0 := r0.alloc (.cells #[.string s, .string ⟨#[49]⟩] 23)
  have q1 : IsB ((w.alloc (.cells #[.string ⟨#[]⟩, .string ⟨#[]⟩] 23)).alloc (.cells #[.string s, .string ⟨#[49]⟩] 23)) (w.heap.size + 1) s ⟨#[49]⟩ := IsB.new' _ _ _ _ (by simp)
  have hsp : (Lib.indexByte s.data.toList 47 = -1 ∧ splitQ s = (s, ⟨#[49]⟩)) ∨ ∃ k : Nat, k < s.size ∧ Lib.indexByte s.data.toList 47 = k ∧ splitQ s = (s.extract 0 k, s.extract (k + 1) s.size) := by
    have hge := Lib.indexByte_ge s.data.toList 47
    unfold splitQ
    rcases Int.lt_or_le (Lib.indexByte s.data.toList 47) 0 with h | h
    · exact .inl ⟨by omega, if_neg (by omega)⟩
    · obtain ⟨k, hk⟩ : ∃ k : Nat, Lib.indexByte s.data.toList 47 = k := ⟨_, (Int.toNat_of_nonneg h).symm⟩
      refine .inr ⟨k, ?_, hk, ?_⟩
      · have h2 := (Lib.indexByte_some hk).1
        rcases Nat.lt_or_ge k s.size with h3 | h3
        · exact h3
        · rw [List.getElem?_eq_none (by show s.data.toList.length ≤ k; exact h3)] at h2; cases h2
      · rw [if_pos h, hk]; rfl
  obtain ⟨N, D, hND⟩ : ∃ N D, splitQ s = (N, D) := ⟨_, _, rfl⟩
  have hsz : N.size ≤ 1000 ∧ D.size ≤ 1000 := by
    rcases hsp with ⟨_, h⟩ | ⟨k, hk, _, h⟩
    · rw [hND] at h; cases h; exact ⟨by omega, by show 1 ≤ 1000; omega⟩
    · rw [hND] at h; cases h; rw [ByteArray.size_extract, ByteArray.size_extract]; omega
  have hV := fun (W : World) (hb : Below w.heap.size w W) => qValid_any N D W (ht.later hb)
  have hP := fun (W : World) (hb : Below w.heap.size w W) => qPrint_any N D hsz.1 hsz.2 W (ht.later hb)
  rw [hND] at hsp ⊢
  obtain ⟨v, hv⟩ : ∃ v, validB N D = v := ⟨_, rfl⟩
  obtain ⟨P, hPr⟩ : ∃ P, printQ N D = P := ⟨_, rfl⟩
  obtain ⟨x, hx⟩ : ∃ x, (P.toList == s.toList) = x := ⟨_, rfl⟩
  rw [hv] at hV
  rw [hPr] at hP
  simp only [hv, hPr, hx]
  have HV := Lib.hid hV
  have HP := Lib.hid hP
  have hbne : (P.toList != s.toList) = !x := by rw [bne, hx]
  have HA := Lib.hid hA
  have HQ := Lib.hid (And.intro q0 q1)
  clear hV hP hv hPr hND ht hsz hA
  rcases hsp with ⟨hi, hND⟩ | ⟨k, hk, hi, hND⟩
  · have HC := Lib.hid (fun (W : World) => cut_none s hi W)
    cases hND
    clear hi hs
    cases v with
    | false =>
      clear hx hbne
      go_enter Tryz.func34, Tryz.ntmps34
      go_wp2_with (first
        | (go_at_call 65; (with_reducible refine (HC.out _).mono ?_); rintro e w1 ⟨rfl, B1⟩; have hw1 := below_on HA.out B1 HA.out.size; have s0 := HQ.out.1.later B1 HQ.out.1.lt; have s1 := HQ.out.2.later B1 HQ.out.2.lt; have k0 := s1.c0; have k1 := s1.c1)
        | (go_at_call 29; (with_reducible refine (HV.out _ hw1).mono ?_); rintro e w2 ⟨rfl, B2⟩; have hw2 := below_on hw1 B2 hw1.size; have t0 := s0.later B2 s0.lt; have t1 := s1.later B2 s1.lt; have k2 := t1.c0; have k3 := t1.c1; have g1 := t0.f0; have g2 := t0.f1; have g3 := t0.c0; have g4 := t0.c1))
      exact bodyPost_ret (results_row_tmp rfl _ _ w.heap.size 23 #[.string ⟨#[]⟩, .string ⟨#[]⟩] _ _ rfl (two_strs t0 ⟨#[]⟩ ⟨#[]⟩) Tryz.underlying23 rfl (by kernel_rfl)) rfl ⟨rfl, fin1 t0 hw2 (by omega) _ _⟩
    | true =>
      cases x with
      | false =>
        go_enter Tryz.func34, Tryz.ntmps34
        go_wp2_with (first
          | (go_at_call 65; (with_reducible refine (HC.out _).mono ?_); rintro e w1 ⟨rfl, B1⟩; have hw1 := below_on HA.out B1 HA.out.size; have s0 := HQ.out.1.later B1 HQ.out.1.lt; have s1 := HQ.out.2.later B1 HQ.out.2.lt; have k0 := s1.c0; have k1 := s1.c1)
          | (go_at_call 29; (with_reducible refine (HV.out _ hw1).mono ?_); rintro e w2 ⟨rfl, B2⟩; have hw2 := below_on hw1 B2 hw1.size; have t0 := s0.later B2 s0.lt; have t1 := s1.later B2 s1.lt; have k2 := t1.c0; have k3 := t1.c1; have g1 := t0.f0; have g2 := t0.f1; have g3 := t0.c0; have g4 := t0.c1)
          | (go_at_call 33; (with_reducible refine (HP.out _ hw2).mono ?_); rintro e w3 ⟨rfl, B3⟩; have hw3 := below_on hw2 B3 hw2.size; have u0 := t0.later B3 t0.lt; have u1 := t1.later B3 t1.lt; have k4 := u1.c0; have k5 := u1.c1; clear g1 g2 g3 g4; have g1 := u0.f0; have g2 := u0.f1; have g3 := u0.c0; have g4 := u0.c1))
        exact bodyPost_ret (results_row_tmp rfl _ _ w.heap.size 23 #[.string ⟨#[]⟩, .string ⟨#[]⟩] _ _ rfl (two_strs u0 ⟨#[]⟩ ⟨#[]⟩) Tryz.underlying23 rfl (by kernel_rfl)) rfl ⟨rfl, fin1 u0 hw3 (by omega) _ _⟩
      | true =>
        go_enter Tryz.func34, Tryz.ntmps34
        go_wp2_with (first
          | (go_at_call 65; (with_reducible refine (HC.out _).mono ?_); rintro e w1 ⟨rfl, B1⟩; have hw1 := below_on HA.out B1 HA.out.size; have s0 := HQ.out.1.later B1 HQ.out.1.lt; have s1 := HQ.out.2.later B1 HQ.out.2.lt; have k0 := s1.c0; have k1 := s1.c1)
          | (go_at_call 29; (with_reducible refine (HV.out _ hw1).mono ?_); rintro e w2 ⟨rfl, B2⟩; have hw2 := below_on hw1 B2 hw1.size; have t0 := s0.later B2 s0.lt; have t1 := s1.later B2 s1.lt; have k2 := t1.c0; have k3 := t1.c1; have g1 := t0.f0; have g2 := t0.f1; have g3 := t0.c0; have g4 := t0.c1)
          | (go_at_call 33; (with_reducible refine (HP.out _ hw2).mono ?_); rintro e w3 ⟨rfl, B3⟩; have hw3 := below_on hw2 B3 hw2.size; have u0 := t0.later B3 t0.lt; have u1 := t1.later B3 t1.lt; have k4 := u1.c0; have k5 := u1.c1; clear g1 g2 g3 g4; have g1 := u0.f0; have g2 := u0.f1; have g3 := u0.c0; have g4 := u0.c1))
        exact bodyPost_ret (results_row_tmp rfl _ _ w.heap.size 23 #[.string s, .string ⟨#[49]⟩] _ _ rfl (two_strs u0 s ⟨#[49]⟩) Tryz.underlying23 rfl (by kernel_rfl)) rfl ⟨rfl, fin1 u0 hw3 (by omega) _ _⟩
  · have HC := Lib.hid (fun (W : World) => cut_at s k hk (by omega) hi W)
    obtain ⟨rfl, rfl⟩ := Prod.mk.inj hND
    generalize s.extract 0 k = N at *
    generalize s.extract (k + 1) s.size = D at *
    clear hi hs hk hND
    cases v with
    | false =>
      clear hx hbne
      go_enter Tryz.func34, Tryz.ntmps34
      go_wp2_with (first
        | (go_at_call 65; (with_reducible refine (HC.out _).mono ?_); rintro e w0 ⟨rfl, B1⟩; have hw0 := below_on HA.out B1 HA.out.size; have r0 := HQ.out.1.later B1 HQ.out.1.lt; have r1 := HQ.out.2.later B1 HQ.out.2.lt; have h0 := r1.c0; have h1 := r1.c1; have h2 := r1.f0; have h3 := r1.f1; have hw1 := fin1 r1 hw0 (Nat.le_succ _) N D; have s1 := two_strs r1 N D; have s0 := far_strs r0 (Nat.succ_ne_self _) N D; have k0 := s1.c0; have k1 := s1.c1)
        | (go_at_call 29; (with_reducible refine (HV.out _ hw1).mono ?_); rintro e w2 ⟨rfl, B2⟩; have hw2 := below_on hw1 B2 hw1.size; have t0 := s0.later B2 s0.lt; have t1 := s1.later B2 s1.lt; have k2 := t1.c0; have k3 := t1.c1; have g1 := t0.f0; have g2 := t0.f1; have g3 := t0.c0; have g4 := t0.c1))
      exact bodyPost_ret (results_row_tmp rfl _ _ w.heap.size 23 #[.string ⟨#[]⟩, .string ⟨#[]⟩] _ _ rfl (two_strs t0 ⟨#[]⟩ ⟨#[]⟩) Tryz.underlying23 rfl (by kernel_rfl)) rfl ⟨rfl, fin1 t0 hw2 (by omega) _ _⟩
    | true =>
      cases x with
      | false =>
        go_enter Tryz.func34, Tryz.ntmps34
        go_wp2_with (first
          | (go_at_call 65; (with_reducible refine (HC.out _).mono ?_); rintro e w0 ⟨rfl, B1⟩; have hw0 := below_on HA.out B1 HA.out.size; have r0 := HQ.out.1.later B1 HQ.out.1.lt; have r1 := HQ.out.2.later B1 HQ.out.2.lt; have h0 := r1.c0; have h1 := r1.c1; have h2 := r1.f0; have h3 := r1.f1; have hw1 := fin1 r1 hw0 (Nat.le_succ _) N D; have s1 := two_strs r1 N D; have s0 := far_strs r0 (Nat.succ_ne_self _) N D; have k0 := s1.c0; have k1 := s1.c1)
          | (go_at_call 29; (with_reducible refine (HV.out _ hw1).mono ?_); rintro e w2 ⟨rfl, B2⟩; have hw2 := below_on hw1 B2 hw1.size; have t0 := s0.later B2 s0.lt; have t1 := s1.later B2 s1.lt; have k2 := t1.c0; have k3 := t1.c1; have g1 := t0.f0; have g2 := t0.f1; have g3 := t0.c0; have g4 := t0.c1)
          | (go_at_call 33; (with_reducible refine (HP.out _ hw2).mono ?_); rintro e w3 ⟨rfl, B3⟩; have hw3 := below_on hw2 B3 hw2.size; have u0 := t0.later B3 t0.lt; have u1 := t1.later B3 t1.lt; have k4 := u1.c0; have k5 := u1.c1; clear g1 g2 g3 g4; have g1 := u0.f0; have g2 := u0.f1; have g3 := u0.c0; have g4 := u0.c1))
        exact bodyPost_ret (results_row_tmp rfl _ _ w.heap.size 23 #[.string ⟨#[]⟩, .string ⟨#[]⟩] _ _ rfl (two_strs u0 ⟨#[]⟩ ⟨#[]⟩) Tryz.underlying23 rfl (by kernel_rfl)) rfl ⟨rfl, fin1 u0 hw3 (by omega) _ _⟩
      | true =>
        go_enter Tryz.func34, Tryz.ntmps34
        go_wp2_with (first
          | (go_at_call 65; (with_reducible refine (HC.out _).mono ?_); rintro e w0 ⟨rfl, B1⟩; have hw0 := below_on HA.out B1 HA.out.size; have r0 := HQ.out.1.later B1 HQ.out.1.lt; have r1 := HQ.out.2.later B1 HQ.out.2.lt; have h0 := r1.c0; have h1 := r1.c1; have h2 := r1.f0; have h3 := r1.f1; have hw1 := fin1 r1 hw0 (Nat.le_succ _) N D; have s1 := two_strs r1 N D; have s0 := far_strs r0 (Nat.succ_ne_self _) N D; have k0 := s1.c0; have k1 := s1.c1)
          | (go_at_call 29; (with_reducible refine (HV.out _ hw1).mono ?_); rintro e w2 ⟨rfl, B2⟩; have hw2 := below_on hw1 B2 hw1.size; have t0 := s0.later B2 s0.lt; have t1 := s1.later B2 s1.lt; have k2 := t1.c0; have k3 := t1.c1; have g1 := t0.f0; have g2 := t0.f1; have g3 := t0.c0; have g4 := t0.c1)
          | (go_at_call 33; (with_reducible refine (HP.out _ hw2).mono ?_); rintro e w3 ⟨rfl, B3⟩; have hw3 := below_on hw2 B3 hw2.size; have u0 := t0.later B3 t0.lt; have u1 := t1.later B3 t1.lt; have k4 := u1.c0; have k5 := u1.c1; clear g1 g2 g3 g4; have g1 := u0.f0; have g2 := u0.f1; have g3 := u0.c0; have g4 := u0.c1))
        exact bodyPost_ret (results_row_tmp rfl _ _ w.heap.size 23 #[.string N, .string D] _ _ rfl (two_strs u0 N D) Tryz.underlying23 rfl (by kernel_rfl)) rfl ⟨rfl, fin1 u0 hw3 (by omega) _ _⟩

end Go.Proofs.YtjkklgpbblkhaaaGreatDoor
