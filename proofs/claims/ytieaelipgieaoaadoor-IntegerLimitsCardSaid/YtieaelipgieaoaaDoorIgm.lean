/-
  Layer 3, the numbers alone: a number as the list of its digits to a base, the least one first. Nothing of the program stands here.
-/
namespace Go.Proofs.YtieaelipgieaoaaDoor.Ig

/-- the digits of n to the base k + 2, the least first; none for 0 -/
def dgs (k n : Nat) : List Nat := if h : n = 0 then [] else n % (k + 2) :: dgs k (n / (k + 2))
termination_by n
decreasing_by exact Nat.div_lt_self (by omega) (by omega)
theorem dgs_zero (k : Nat) : dgs k 0 = [] := by rw [dgs]; rfl
theorem dgs_pos (k : Nat) {n : Nat} (h : 0 < n) : dgs k n = n % (k + 2) :: dgs k (n / (k + 2)) := by rw [dgs, dif_neg (by omega)]
/-- what digits to the base b stand for -/
def val (b : Nat) : List Nat → Nat
  | [] => 0
  | x :: r => x + b * val b r
theorem val_dgs (k n : Nat) : val (k + 2) (dgs k n) = n := by
  induction n using Nat.strongRecOn with
  | _ n ih =>
    rcases Nat.eq_zero_or_pos n with h | h
    · subst h; rw [dgs_zero]; rfl
    · rw [dgs_pos k h, val, ih _ (Nat.div_lt_self h (by omega))]
      exact Nat.mod_add_div n (k + 2)
theorem dgs_lt (k n : Nat) : ∀ x ∈ dgs k n, x < k + 2 := by
  induction n using Nat.strongRecOn with
  | _ n ih =>
    rcases Nat.eq_zero_or_pos n with h | h
    · subst h; rw [dgs_zero]; intro x hx; cases hx
    · rw [dgs_pos k h]
      intro x hx
      rcases List.mem_cons.1 hx with rfl | hx
      · exact Nat.mod_lt _ (by omega)
      · exact ih _ (Nat.div_lt_self h (by omega)) x hx
theorem dgs_inj {k n m : Nat} (h : dgs k n = dgs k m) : n = m := by rw [← val_dgs k n, h, val_dgs]
theorem dgs_nil {k n : Nat} : dgs k n = [] ↔ n = 0 := ⟨fun h => by rw [← val_dgs k n, h]; rfl, fun h => by subst h; exact dgs_zero k⟩
theorem dgs_len0 {k n : Nat} : (dgs k n).length = 0 ↔ n = 0 := by rw [List.length_eq_zero_iff]; exact dgs_nil
theorem dgs_getLast (k n : Nat) : (dgs k n).getLast? ≠ some 0 := by
  induction n using Nat.strongRecOn with
  | _ n ih =>
    rcases Nat.eq_zero_or_pos n with h | h
    · subst h; rw [dgs_zero]; simp
    · rw [dgs_pos k h]
      rcases Nat.eq_zero_or_pos (n / (k + 2)) with h2 | h2
      · rw [h2, dgs_zero]
        have : n % (k + 2) = n := by
          have := Nat.mod_add_div n (k + 2)
          rw [h2] at this; simpa using this
        simp; omega
      · have := ih _ (Nat.div_lt_self h (by omega : 1 < k + 2))
        rw [dgs_pos k h2] at this ⊢
        simpa using this
/-- digits, the last of which is not 0, are the digits of what they stand for -/
theorem dgs_val (k : Nat) (l : List Nat) (h : ∀ x ∈ l, x < k + 2) (hl : l.getLast? ≠ some 0) : dgs k (val (k + 2) l) = l := by
  induction l with
  | nil => exact dgs_zero k
  | cons x r ih =>
    have hx := h x (List.mem_cons_self ..)
    have hr := fun y hy => h y (List.mem_cons_of_mem _ hy)
    have hp : 0 < val (k + 2) (x :: r) := by
      cases r with
      | nil => simp at hl; simp [val]; omega
      | cons y r' =>
        have hl' : (y :: r').getLast? ≠ some 0 := by simpa using hl
        have e := ih hr hl'
        have : 0 < val (k + 2) (y :: r') := by
          rcases Nat.eq_zero_or_pos (val (k + 2) (y :: r')) with h0 | h0
          · rw [h0, dgs_zero] at e; cases e
          · exact h0
        show 0 < x + (k + 2) * val (k + 2) (y :: r')
        have := Nat.mul_pos (show 0 < k + 2 by omega) this
        omega
    have e1 : val (k + 2) (x :: r) % (k + 2) = x := by show (x + (k + 2) * val (k + 2) r) % (k + 2) = x; rw [Nat.add_mul_mod_self_left, Nat.mod_eq_of_lt hx]
    have e2 : val (k + 2) (x :: r) / (k + 2) = val (k + 2) r := by show (x + (k + 2) * val (k + 2) r) / (k + 2) = _; rw [Nat.add_mul_div_left _ _ (by omega), Nat.div_eq_of_lt hx, Nat.zero_add]
    rw [dgs_pos k hp, e1, e2]
    cases r with
    | nil => show x :: dgs k 0 = [x]; rw [dgs_zero]
    | cons y r' => rw [ih hr (by simpa using hl)]
theorem val_append (b : Nat) (l m : List Nat) : val b (l ++ m) = val b l + b ^ l.length * val b m := by
  induction l with
  | nil => simp [val]
  | cons x r ih =>
    show x + b * val b (r ++ m) = x + b * val b r + b ^ (r.length + 1) * val b m
    rw [ih, Nat.mul_add, Nat.pow_succ, Nat.mul_comm (b ^ r.length) b, Nat.mul_assoc]; omega
theorem val_lt (b : Nat) (l : List Nat) (h : ∀ x ∈ l, x < b) : val b l < b ^ l.length := by
  induction l with
  | nil => simp [val]
  | cons x r ih =>
    have hx := h x (List.mem_cons_self ..)
    have := ih fun y hy => h y (List.mem_cons_of_mem _ hy)
    show x + b * val b r < b ^ (r.length + 1)
    rw [Nat.pow_succ, Nat.mul_comm (b ^ r.length)]
    have h2 : b * (val b r + 1) ≤ b * b ^ r.length := Nat.mul_le_mul_left b this
    rw [Nat.mul_add, Nat.mul_one] at h2; omega
theorem val_snoc0 (b : Nat) (l : List Nat) : val b (l ++ [0]) = val b l := by rw [val_append]; simp [val]
/-- zeros at the end count for nothing -/
theorem val_take (b : Nat) (l : List Nat) (n : Nat) (hn : n + 1 ≤ l.length) (h0 : l.getD n 0 = 0) : val b (l.take n) = val b (l.take (n + 1)) := by
  rw [List.take_add_one, List.getElem?_eq_getElem (by omega)]
  rw [List.getD_eq_getElem?_getD, List.getElem?_eq_getElem (by omega)] at h0
  simp only [Option.getD_some] at h0
  rw [h0, Option.toList_some, val_snoc0]
theorem dgs_take (k : Nat) (l : List Nat) (n : Nat) (hn : n ≤ l.length) (h : ∀ x ∈ l, x < k + 2) (hv : val (k + 2) (l.take n) = val (k + 2) l) (hl : n = 0 ∨ l.getD (n - 1) 0 ≠ 0) : l.take n = dgs k (val (k + 2) l) := by
  rw [← hv, dgs_val k _ (fun x hx => h x (List.mem_of_mem_take hx))]
  rcases hl with rfl | hl
  · simp
  · rcases Nat.eq_zero_or_pos n with rfl | hp
    · simp
    rw [List.getLast?_eq_getElem?, List.length_take, Nat.min_eq_left hn, List.getElem?_take, if_pos (by omega)]
    intro e
    rw [List.getD_eq_getElem?_getD, e] at hl
    exact hl rfl
/-! lengths -/
theorem dgs_length_le (k m n : Nat) (h : n < (k + 2) ^ m) : (dgs k n).length ≤ m := by
  induction m generalizing n with
  | zero => simp at h; subst h; rw [dgs_zero]; simp
  | succ m ih =>
    rcases Nat.eq_zero_or_pos n with h0 | h0
    · subst h0; rw [dgs_zero]; simp
    · rw [dgs_pos k h0, List.length_cons]
      have := ih (n / (k + 2)) (by rw [Nat.pow_succ] at h; exact Nat.div_lt_of_lt_mul (by rw [Nat.mul_comm]; exact h))
      omega
theorem dgs_lt_pow (k n : Nat) : n < (k + 2) ^ (dgs k n).length := by
  have := val_lt (k + 2) (dgs k n) (dgs_lt k n)
  rwa [val_dgs] at this
theorem dgs_le_pow (k n : Nat) (h : 0 < n) : (k + 2) ^ ((dgs k n).length - 1) ≤ n := by
  induction n using Nat.strongRecOn with
  | _ n ih =>
    rw [dgs_pos k h, List.length_cons, Nat.add_sub_cancel]
    rcases Nat.eq_zero_or_pos (n / (k + 2)) with h2 | h2
    · rw [h2, dgs_zero]; exact h
    · have e := ih _ (Nat.div_lt_self h (by omega : 1 < k + 2)) h2
      have hl : 0 < (dgs k (n / (k + 2))).length := by rw [dgs_pos k h2]; simp
      obtain ⟨m, hm⟩ : ∃ m, (dgs k (n / (k + 2))).length = m + 1 := ⟨_, (Nat.succ_pred_eq_of_pos hl).symm⟩
      rw [hm] at e ⊢
      rw [Nat.add_sub_cancel] at e
      rw [Nat.pow_succ]
      have := Nat.mul_le_mul_right (k + 2) e
      exact Nat.le_trans this (Nat.div_mul_le_self n (k + 2))
theorem dgs_length_lt {k n m : Nat} (h : (dgs k n).length < (dgs k m).length) : n < m := by
  have h1 := dgs_lt_pow k n
  have hm : 0 < m := by
    rcases Nat.eq_zero_or_pos m with h0 | h0
    · subst h0; rw [dgs_zero] at h; simp at h
    · exact h0
  have h2 := dgs_le_pow k m hm
  exact Nat.lt_of_lt_of_le h1 (Nat.le_trans (Nat.pow_le_pow_right (by omega) (by omega)) h2)
theorem dgs_length_mono {k n m : Nat} (h : n ≤ m) : (dgs k n).length ≤ (dgs k m).length := by
  rcases Nat.lt_or_ge (dgs k m).length (dgs k n).length with h1 | h1
  · have := dgs_length_lt h1; omega
  · exact h1
/-- the digits without the first j ones -/
theorem dgs_drop (k n j : Nat) : (dgs k n).drop j = dgs k (n / (k + 2) ^ j) := by
  induction j generalizing n with
  | zero => simp
  | succ j ih =>
    rcases Nat.eq_zero_or_pos n with h | h
    · subst h; rw [Nat.zero_div, dgs_zero]; simp
    · rw [dgs_pos k h, List.drop_succ_cons, ih, Nat.div_div_eq_div_mul, Nat.pow_succ, Nat.mul_comm]
theorem dgs_getD (k n j : Nat) : (dgs k n).getD j 0 = n / (k + 2) ^ j % (k + 2) := by
  have h := dgs_drop k n j
  rw [List.getD_eq_getElem?_getD, ← Nat.add_zero j, ← List.getElem?_drop, h, Nat.add_zero]
  rcases Nat.eq_zero_or_pos (n / (k + 2) ^ j) with h0 | h0
  · rw [h0, dgs_zero]
    show 0 = n / (k + 2) ^ j % (k + 2)
    rw [h0, Nat.zero_mod]
  · rw [dgs_pos k h0]; simp
theorem div_step (k n j : Nat) : n / (k + 2) ^ j = n / (k + 2) ^ j % (k + 2) + (k + 2) * (n / (k + 2) ^ (j + 1)) := by
  rw [Nat.pow_succ, ← Nat.div_div_eq_div_mul]; exact (Nat.mod_add_div _ _).symm
theorem dgs_cons (k x n : Nat) (hx : x < k + 2) (h : 0 < x + (k + 2) * n) : dgs k (x + (k + 2) * n) = x :: dgs k n := by
  rw [dgs_pos k h, Nat.add_mul_mod_self_left, Nat.mod_eq_of_lt hx, Nat.add_mul_div_left _ _ (by omega), Nat.div_eq_of_lt hx, Nat.zero_add]
/-! the order -/
/-- -1, 0 or 1 -/
def cmp (n m : Nat) : Int := if n < m then -1 else if m < n then 1 else 0
theorem cmp_lt {n m : Nat} (h : n < m) : cmp n m = -1 := if_pos h
theorem cmp_gt {n m : Nat} (h : m < n) : cmp n m = 1 := by unfold cmp; rw [if_neg (by omega), if_pos h]
theorem cmp_self (n : Nat) : cmp n n = 0 := by unfold cmp; rw [if_neg (by omega), if_neg (by omega)]
theorem lt_of_div {n m p : Nat} (h : n / p < m / p) : n < m := by
  rcases Nat.lt_or_ge n m with h1 | h1
  · exact h1
  · have := Nat.div_le_div_right (c := p) h1; omega
/-- the first digit from the top that differs decides -/
theorem cmp_at (k n m j : Nat) (h : n / (k + 2) ^ (j + 1) = m / (k + 2) ^ (j + 1)) (hd : (dgs k n).getD j 0 ≠ (dgs k m).getD j 0) : cmp n m = cmp ((dgs k n).getD j 0) ((dgs k m).getD j 0) := by
  rw [dgs_getD, dgs_getD] at *
  have e1 := div_step k n j
  have e2 := div_step k m j
  rw [h] at e1
  rcases Nat.lt_or_gt_of_ne hd with h1 | h1
  · rw [cmp_lt h1, cmp_lt (lt_of_div (p := (k + 2) ^ j) (by omega))]
  · rw [cmp_gt h1, cmp_gt (lt_of_div (p := (k + 2) ^ j) (by omega))]
theorem same_step (k n m j : Nat) (h : n / (k + 2) ^ (j + 1) = m / (k + 2) ^ (j + 1)) (hd : (dgs k n).getD j 0 = (dgs k m).getD j 0) : n / (k + 2) ^ j = m / (k + 2) ^ j := by
  rw [dgs_getD, dgs_getD] at hd
  rw [div_step k n j, div_step k m j, hd, h]
theorem same_top (k n m : Nat) (h : (dgs k n).length = (dgs k m).length) : n / (k + 2) ^ (dgs k n).length = m / (k + 2) ^ (dgs k n).length := by
  rw [Nat.div_eq_of_lt (dgs_lt_pow k n), h, Nat.div_eq_of_lt (dgs_lt_pow k m)]

/-! columns, carried -/
/-- what columns stand for -/
def vali (b : Nat) : List Int → Int
  | [] => 0
  | x :: r => x + b * vali b r
theorem vali_append (b : Nat) (l m : List Int) : vali b (l ++ m) = vali b l + b ^ l.length * vali b m := by
  induction l with
  | nil => simp [vali]
  | cons x r ih =>
    show x + b * vali b (r ++ m) = x + b * vali b r + b ^ (r.length + 1) * vali b m
    rw [ih, Int.mul_add, Int.pow_succ, Int.mul_comm ((b : Int) ^ r.length) b, Int.mul_assoc]; omega
theorem vali_cast (b : Nat) (l : List Nat) : vali b (l.map (fun (x : Nat) => (x : Int))) = (val b l : Nat) := by
  induction l with
  | nil => rfl
  | cons x r ih =>
    show (x : Int) + b * vali b _ = ((x + b * val b r : Nat) : Int)
    rw [ih]; simp
/-- the carry behind columns, and the groups that they leave -/
def cry (b : Nat) : List Int → Int → Int
  | [], c => c
  | x :: r, c => cry b r ((x + c) / b)
def outs (b : Nat) : List Int → Int → List Nat
  | [], _ => []
  | x :: r, c => ((x + c) % b).toNat :: outs b r ((x + c) / b)
theorem cry_snoc (b : Nat) (l : List Int) (x c : Int) : cry b (l ++ [x]) c = (x + cry b l c) / b := by
  induction l generalizing c with
  | nil => rfl
  | cons y r ih => exact ih _
theorem outs_snoc (b : Nat) (l : List Int) (x c : Int) : outs b (l ++ [x]) c = outs b l c ++ [((x + cry b l c) % b).toNat] := by
  induction l generalizing c with
  | nil => rfl
  | cons y r ih => show _ :: outs b (r ++ [x]) _ = _ :: outs b r _ ++ _; rw [ih]; rfl
theorem outs_length (b : Nat) (l : List Int) (c : Int) : (outs b l c).length = l.length := by
  induction l generalizing c with
  | nil => rfl
  | cons y r ih => show (outs b r _).length + 1 = r.length + 1; rw [ih]
theorem outs_lt (b : Nat) (hb : 0 < b) (l : List Int) (c : Int) : ∀ x ∈ outs b l c, x < b := by
  induction l generalizing c with
  | nil => intro x hx; cases hx
  | cons y r ih =>
    intro x hx
    rcases List.mem_cons.1 hx with rfl | hx
    · have h1 := Int.emod_lt_of_pos (y + c) (show (0 : Int) < b by omega)
      have h2 := Int.emod_nonneg (y + c) (show (b : Int) ≠ 0 by omega)
      omega
    · exact ih _ x hx
theorem carry_eq (b : Nat) (hb : 0 < b) (l : List Int) (c : Int) : vali b l + c = (val b (outs b l c) : Nat) + (b ^ l.length : Nat) * cry b l c := by
  induction l generalizing c with
  | nil => simp [vali, outs, val, cry]
  | cons y r ih =>
    show y + b * vali b r + c = ((((y + c) % b).toNat + b * val b (outs b r _) : Nat) : Int) + (b ^ (r.length + 1) : Nat) * cry b r _
    have h2 := Int.emod_nonneg (y + c) (show (b : Int) ≠ 0 by omega)
    have h3 := Int.emod_add_mul_ediv (y + c) b
    have e := ih ((y + c) / b)
    rw [Int.natCast_add, Int.natCast_mul, Int.toNat_of_nonneg h2, Nat.pow_succ, Nat.mul_comm, Int.natCast_mul, Int.mul_assoc]
    have e4 : (b : Int) * vali b r = b * ((val b (outs b r ((y + c) / b)) : Nat) + (b ^ r.length : Nat) * cry b r ((y + c) / b) - (y + c) / b) := by rw [← e]; congr 1; omega
    rw [e4, Int.mul_sub, Int.mul_add]
    omega
/-- the groups of what the columns stand for -/
theorem carried_val (b : Nat) (hb : 0 < b) (l : List Int) (n : Nat) (h : vali b l = (n : Nat)) (hn : n < b ^ (l.length + 1)) :
    ∃ c : Nat, c < b ∧ cry b l 0 = (c : Int) ∧ val b (outs b l 0 ++ [c]) = n := by
  have e := carry_eq b hb l 0
  have hv := val_lt b (outs b l 0) (outs_lt b hb l 0)
  rw [outs_length] at hv
  rw [h, Int.add_zero] at e
  generalize cry b l 0 = C at *
  generalize hV : val b (outs b l 0) = V at hv e
  have hp : 0 < b ^ l.length := Nat.pow_pos hb
  rw [Nat.pow_succ] at hn
  generalize hP : b ^ l.length = P at *
  have hC0 : 0 ≤ C := by
    rcases Int.lt_or_le C 0 with h1 | h1
    · have : (P : Int) * C ≤ P * (-1) := Int.mul_le_mul_of_nonneg_left (by omega) (by omega)
      omega
    · exact h1
  obtain ⟨c, rfl⟩ := Int.eq_ofNat_of_zero_le hC0
  have e' : n = V + P * c := by
    have : ((n : Nat) : Int) = ((V + P * c : Nat) : Int) := by rw [e]; simp
    exact Int.ofNat.inj this
  refine ⟨c, ?_, rfl, ?_⟩
  · rcases Nat.lt_or_ge c b with h1 | h1
    · exact h1
    · have := Nat.mul_le_mul_left P h1; omega
  · rw [val_append, outs_length, hP, e', hV]
    simp [val]
/-- carries are no greater than the columns -/
theorem cry_bound (b : Nat) (M : Int) (l : List Int) (c : Int) (hb : 2 ≤ b) (hM : ∀ x ∈ l, -M ≤ x ∧ x ≤ M) (hc : -M ≤ c ∧ c ≤ M) : -M ≤ cry b l c ∧ cry b l c ≤ M := by
  induction l generalizing c with
  | nil => exact hc
  | cons y r ih =>
    have hy := hM y (List.mem_cons_self ..)
    refine ih _ (fun x hx => hM x (List.mem_cons_of_mem _ hx)) ?_
    have hb0 : (0 : Int) < b := by omega
    constructor
    · rw [Int.le_ediv_iff_mul_le hb0]
      have : -M * b ≤ -M * 2 := Int.mul_le_mul_of_nonpos_left (by omega) (by omega)
      omega
    · have : (y + c) / b ≤ (M * b) / b := Int.ediv_le_ediv hb0 (by
        have : M * 2 ≤ M * b := Int.mul_le_mul_of_nonneg_left (by omega) (by omega)
        omega)
      rwa [Int.mul_ediv_cancel _ (by omega)] at this

end Go.Proofs.YtieaelipgieaoaaDoor.Ig
