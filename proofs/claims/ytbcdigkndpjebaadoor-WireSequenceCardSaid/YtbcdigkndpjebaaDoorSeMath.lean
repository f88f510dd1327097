/-
  Sequences of encodings: plain mathematics of the law WireSequence.
-/
import Derived.Test.YtbcdigkndpjebaaDoorLaUniq
namespace Go.Proofs.YtbcdigkndpjebaaDoor
open Go.RowKit

/-- an integer and a string, one behind the other -/
def encP (x : Int × List UInt8) : List UInt8 := encI x.1 ++ (encI x.2.length ++ x.2)
def encAll (l : List (Int × List UInt8)) : List UInt8 := l.flatMap encP
structure OkP (x : Int × List UInt8) : Prop where
  lo : -576460752303423488 ≤ x.1
  hi : x.1 ≤ 576460752303423488
  len : x.2.length ≤ 100
theorem encP_length {x : Int × List UInt8} (h : OkP x) : 2 ≤ (encP x).length ∧ (encP x).length ≤ 118 := by
  have h1 := encI_length x.1
  have h2 := encI_length x.2.length
  have h3 := h.len
  simp only [encP, List.length_append]
  omega
theorem encAll_length {l : List (Int × List UInt8)} (h : ∀ x ∈ l, OkP x) : (encAll l).length ≤ 118 * l.length := by
  induction l with
  | nil => simp [encAll]
  | cons x t ih =>
    have h1 := (encP_length (h x (by simp))).2
    have h2 := ih (fun y hy => h y (by simp [hy]))
    simp only [encAll, List.flatMap_cons, List.length_append, List.length_cons] at h2 ⊢
    omega
theorem encAll_take (l : List (Int × List UInt8)) (j : Nat) (h : j < l.length) : encAll (l.take (j + 1)) = encAll (l.take j) ++ encP l[j] := by
  unfold encAll
  rw [List.take_succ_eq_append_getElem h, List.flatMap_append, List.flatMap_cons, List.flatMap_nil, List.append_nil]
theorem encAll_split (l : List (Int × List UInt8)) (j : Nat) (h : j < l.length) : encAll l = encAll (l.take j) ++ (encP l[j] ++ encAll (l.drop (j + 1))) := by
  conv => lhs; rw [← List.take_append_drop j l, List.drop_eq_getElem_cons h]
  unfold encAll
  rw [List.flatMap_append, List.flatMap_cons]
/-- what Int and String return at the j-th place -/
theorem seq_int {l : List (Int × List UInt8)} (hl : ∀ x ∈ l, OkP x) (j : Nat) (h : j < l.length) :
    intB (nb (encAll l)) ((encAll (l.take j)).length : Int) = (l[j].1, ((encAll (l.take j)).length : Int) + (encI l[j].1).length, 0) := by
  have ok := hl l[j] (List.getElem_mem h)
  rw [encAll_split l j h, encP, List.append_assoc]
  exact intB_enc (by have := ok.lo; omega) (by have := ok.hi; omega) _ _
theorem seq_str {l : List (Int × List UInt8)} (hl : ∀ x ∈ l, OkP x) (j : Nat) (h : j < l.length) :
    strB (encAll l) (((encAll (l.take j)).length : Int) + (encI l[j].1).length) = (l[j].2, ((encAll (l.take (j + 1))).length : Int), 0) := by
  have ok := hl l[j] (List.getElem_mem h)
  have e : encAll l = (encAll (l.take j) ++ encI l[j].1) ++ (encI l[j].2.length ++ (l[j].2 ++ encAll (l.drop (j + 1)))) := by
    rw [encAll_split l j h, encP]; simp
  have hs := strB_enc l[j].2 (by have := ok.len; omega) (encAll (l.take j) ++ encI l[j].1) (encAll (l.drop (j + 1)))
  rw [← e, List.length_append] at hs
  rw [show ((encAll (l.take j)).length : Int) + (encI l[j].1).length = (((encAll (l.take j)).length + (encI l[j].1).length : Nat) : Int) from by omega, hs, encAll_take l j h]
  simp only [encP, List.length_append]
  congr 2
  omega
theorem int_end (l : List UInt8) : intB (nb l) (l.length : Int) = (0, 0, 10) := by
  unfold intB
  rw [if_neg (by rw [nb_length]; omega), Int.toNat_natCast, List.drop_of_length_le (by rw [nb_length]; omega)]
  rfl

end Go.Proofs.YtbcdigkndpjebaaDoor
