/-
  Layer 3, arithmetic: what the ways of the program rest on. Nothing of the program stands here.
-/
import Derived.Test.YtieaelipgieaoaaDoorIgm
namespace Go.Proofs.YtieaelipgieaoaaDoor.Ig

/-! how many times m contains d, as far as their heads tell -/
theorem least_le (m d P : Nat) (hP : 0 < P) (hd : 0 < d) : m / P / (d / P + 1) ≤ m / d := by
  rw [Nat.le_div_iff_mul_le hd]
  have h1 : d ≤ P * (d / P + 1) := by have := Nat.mod_add_div d P; have := Nat.mod_lt d hP; rw [Nat.mul_add, Nat.mul_one]; omega
  calc m / P / (d / P + 1) * d ≤ m / P / (d / P + 1) * (P * (d / P + 1)) := Nat.mul_le_mul_left _ h1
    _ = P * (m / P / (d / P + 1) * (d / P + 1)) := by rw [Nat.mul_left_comm]
    _ ≤ P * (m / P) := Nat.mul_le_mul_left _ (Nat.div_mul_le_self _ _)
    _ ≤ m := Nat.mul_div_le m P
theorem le_most (m d P : Nat) (hP : 0 < P) (hd : 0 < d / P) : m / d ≤ m / P / (d / P) := by
  rw [Nat.le_div_iff_mul_le hd, Nat.le_div_iff_mul_le hP]
  calc m / d * (d / P) * P = m / d * (d / P * P) := Nat.mul_assoc _ _ _
    _ ≤ m / d * d := Nat.mul_le_mul_left _ (Nat.div_mul_le_self _ _)
    _ ≤ m := Nat.div_mul_le_self _ _
theorem countP_lt (n k : Nat) (hk : k ≤ n) : (List.range n).countP (fun i => decide (i < k)) = k := by
  induction n generalizing k with
  | zero => simp; omega
  | succ n ih =>
    rw [List.range_succ, List.countP_append]
    rcases Nat.lt_or_ge n k with h | h
    · obtain rfl : k = n + 1 := by omega
      have : (List.range n).countP (fun i => decide (i < n + 1)) = (List.range n).countP (fun i => decide (i < n)) := by
        apply List.countP_congr; intro i hi; simp at hi ⊢; omega
      rw [this, ih n (Nat.le_refl _)]; simp
    · rw [ih k h]; simp; omega
/-! roots -/
def rt : Nat → Nat
  | 0 => 0
  | n + 1 => if (rt n + 1) * (rt n + 1) ≤ n + 1 then rt n + 1 else rt n
theorem rt_spec (n : Nat) : rt n * rt n ≤ n ∧ n < (rt n + 1) * (rt n + 1) := by
  induction n with
  | zero => exact ⟨Nat.le_refl _, by decide⟩
  | succ n ih =>
    obtain ⟨h1, h2⟩ := ih
    unfold rt
    generalize rt n = r at *
    by_cases h : (r + 1) * (r + 1) ≤ n + 1
    · rw [if_pos h]
      refine ⟨h, ?_⟩
      have : (r + 1 + 1) * (r + 1 + 1) = (r + 1) * (r + 1) + 2 * r + 3 := by
        rw [Nat.add_mul (r + 1) 1, Nat.mul_add]; omega
      omega
    · rw [if_neg h]; exact ⟨by omega, by omega⟩
theorem sq_lt {a b : Nat} (h : a * a < b * b) : a < b := by
  rcases Nat.lt_or_ge a b with h1 | h1
  · exact h1
  · have := Nat.mul_le_mul h1 h1; omega
theorem rt_unique (n r : Nat) (h1 : r * r ≤ n) (h2 : n < (r + 1) * (r + 1)) : r = rt n := by
  obtain ⟨h3, h4⟩ := rt_spec n
  have := sq_lt (Nat.lt_of_le_of_lt h1 h4)
  have := sq_lt (Nat.lt_of_le_of_lt h3 h2)
  omega
theorem rt_sq (n : Nat) : rt (n * n) = n := (rt_unique _ _ (Nat.le_refl _) (by rw [Nat.add_mul, Nat.mul_add]; omega)).symm
theorem rt_le (n : Nat) : rt n ≤ n := by
  have h := (rt_spec n).1
  generalize rt n = r at *
  rcases Nat.eq_zero_or_pos r with h0 | h0
  · omega
  · have := Nat.mul_le_mul_left r (show 1 ≤ r from h0); omega
theorem amgm (a b : Nat) : 4 * (a * b) ≤ (a + b) * (a + b) := by
  rw [Nat.add_mul, Nat.mul_add, Nat.mul_add, Nat.mul_comm b a]
  rcases Nat.le_total a b with h | h
  · obtain ⟨c, rfl⟩ := Nat.exists_eq_add_of_le h
    have : (a + c) * (a + c) = a * a + a * c + (c * a + c * c) := by rw [Nat.add_mul, Nat.mul_add, Nat.mul_add]
    have : a * (a + c) = a * a + a * c := Nat.mul_add _ _ _
    have : c * a = a * c := Nat.mul_comm _ _
    omega
  · obtain ⟨c, rfl⟩ := Nat.exists_eq_add_of_le h
    have : (b + c) * (b + c) = b * b + b * c + (c * b + c * c) := by rw [Nat.add_mul, Nat.mul_add, Nat.mul_add]
    have : (b + c) * b = b * b + c * b := Nat.add_mul _ _ _
    have : c * b = b * c := Nat.mul_comm _ _
    omega
/-- a step of Newton's does not pass the root -/
theorem newton (n r : Nat) (hr : 0 < r) : n < ((r + n / r) / 2 + 1) * ((r + n / r) / 2 + 1) := by
  have h1 : n < r * (n / r + 1) := by have := Nat.mod_add_div n r; have := Nat.mod_lt n hr; rw [Nat.mul_add, Nat.mul_one]; omega
  have h2 := amgm r (n / r + 1)
  generalize n / r = q at *
  obtain ⟨t, ht⟩ : ∃ t, (r + q) / 2 = t := ⟨_, rfl⟩
  rw [ht]
  have h3 : r + (q + 1) ≤ 2 * (t + 1) := by omega
  have h4 := Nat.mul_le_mul h3 h3
  have h5 : 2 * (t + 1) * (2 * (t + 1)) = 4 * ((t + 1) * (t + 1)) := by rw [Nat.mul_mul_mul_comm]
  omega
/-- the step that does not descend has reached it -/
theorem newton_stop (n r : Nat) (hn : n < (r + 1) * (r + 1)) (h : r ≤ (r + n / r) / 2) : r = rt n := by
  refine rt_unique n r ?_ hn
  have h1 : r ≤ n / r := by omega
  exact Nat.le_trans (Nat.mul_le_mul_left r h1) (Nat.mul_div_le n r)
/-! columns that are set -/
theorem vali_set (b : Nat) (l : List Int) (i : Nat) (v : Int) (hi : i < l.length) : vali b (l.set i v) = vali b l + (b ^ i : Nat) * (v - l.getD i 0) := by
  induction l generalizing i with
  | nil => simp at hi
  | cons x r ih =>
    cases i with
    | zero => show v + b * vali b r = x + b * vali b r + (b ^ 0 : Nat) * (v - x); simp; omega
    | succ i =>
      show x + b * vali b (r.set i v) = x + b * vali b r + (b ^ (i + 1) : Nat) * (v - r.getD i 0)
      rw [ih i (by simpa using hi), Int.mul_add, Nat.pow_succ, Int.natCast_mul, Int.mul_comm ((b ^ i : Nat) : Int) b, Int.mul_assoc]; omega
theorem vali_zero (b n : Nat) : vali b (List.replicate n 0) = 0 := by
  induction n with
  | zero => rfl
  | succ n ih => rw [List.replicate_succ]; show 0 + b * vali b _ = 0; rw [ih]; simp
theorem val_take_succ (b : Nat) (l : List Nat) (i : Nat) (hi : i < l.length) : val b (l.take (i + 1)) = val b (l.take i) + b ^ i * l.getD i 0 := by
  rw [List.take_add_one, List.getElem?_eq_getElem hi, val_append, List.getD_eq_getElem?_getD, List.getElem?_eq_getElem hi]
  simp [val, Nat.min_eq_left (Nat.le_of_lt hi)]
theorem val_full (b : Nat) (l : List Nat) (n : Nat) (hn : l.length ≤ n) : val b (l.take n) = val b l := by rw [List.take_of_length_le hn]
/-! division, a group more -/
theorem div_group (n d p b : Nat) (hb : 0 < b) (hd : 0 < d) :
    (n / p % b + b * (n / (p * b) % d)) / d < b ∧ n / p / d = (n / p % b + b * (n / (p * b) % d)) / d + b * (n / (p * b) / d) ∧ n / p % d = (n / p % b + b * (n / (p * b) % d)) % d := by
  rw [← Nat.div_div_eq_div_mul]
  generalize n / p = N
  have h1 : N = N % b + b * (N / b) := (Nat.mod_add_div N b).symm
  have h2 := (Nat.mod_add_div (N / b) d).symm
  have h3 := Nat.mod_lt N hb
  have h4 := Nat.mod_lt (N / b) hd
  generalize N % b = r at *
  generalize N / b = q at *
  generalize q % d = s at *
  generalize q / d = t at *
  have e : N = (r + b * s) + d * (b * t) := by rw [h1, h2, Nat.mul_add, Nat.mul_left_comm b d t]; omega
  refine ⟨?_, ?_, ?_⟩
  · apply Nat.div_lt_of_lt_mul
    have := Nat.mul_le_mul_left b (show s + 1 ≤ d from h4)
    rw [Nat.mul_add, Nat.mul_one, Nat.mul_comm b d] at this
    omega
  · rw [e, Nat.add_mul_div_left _ _ hd]
  · rw [e, Nat.add_mul_mod_self_left]

end Go.Proofs.YtieaelipgieaoaaDoor.Ig
