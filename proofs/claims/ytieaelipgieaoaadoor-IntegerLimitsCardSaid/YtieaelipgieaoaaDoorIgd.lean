/-
  Layer 3, numerals: what a string of decimal digits stands for. Nothing of the program stands here.
-/
import Derived.Lib.ItoaNum
import Derived.Lib.AtoiAll
import Derived.Test.YtieaelipgieaoaaDoorIgm
namespace Go.Proofs.YtieaelipgieaoaaDoor.Ig
open Go

/-- a byte that is a digit -/
def isDig (c : UInt8) : Prop := 48 ≤ c.toNat ∧ c.toNat ≤ 57
instance (c : UInt8) : Decidable (isDig c) := inferInstanceAs (Decidable (_ ∧ _))
/-- what digits stand for, behind a number -/
def numA (a : Nat) : List UInt8 → Nat
  | [] => a
  | c :: r => numA (a * 10 + (c.toNat - 48)) r
def num (l : List UInt8) : Nat := numA 0 l
theorem numA_append (a : Nat) (l m : List UInt8) : numA a (l ++ m) = numA (numA a l) m := by
  induction l generalizing a with
  | nil => rfl
  | cons c r ih => exact ih _
theorem numA_eq (a : Nat) (l : List UInt8) : numA a l = a * 10 ^ l.length + num l := by
  induction l generalizing a with
  | nil => show a = a * 1 + 0; omega
  | cons c r ih =>
    show numA (a * 10 + (c.toNat - 48)) r = a * 10 ^ (r.length + 1) + numA (0 * 10 + (c.toNat - 48)) r
    rw [ih, ih (0 * 10 + (c.toNat - 48)), Nat.pow_succ, Nat.add_mul, Nat.zero_mul, Nat.zero_add, Nat.mul_assoc, Nat.mul_comm 10]; omega
theorem num_append (l m : List UInt8) : num (l ++ m) = num l * 10 ^ m.length + num m := by rw [num, numA_append, numA_eq]; rfl
theorem num_snoc (l : List UInt8) (c : UInt8) : num (l ++ [c]) = num l * 10 + (c.toNat - 48) := by rw [num, numA_append]; rfl
theorem num_cons (c : UInt8) (l : List UInt8) : num (c :: l) = (c.toNat - 48) * 10 ^ l.length + num l := by
  show numA (0 * 10 + (c.toNat - 48)) l = _
  rw [numA_eq]; simp
theorem num_lt (l : List UInt8) (h : ∀ c ∈ l, isDig c) : num l < 10 ^ l.length := by
  induction l with
  | nil => show 0 < 1; omega
  | cons c r ih =>
    have hc := h c (List.mem_cons_self ..)
    have := ih fun y hy => h y (List.mem_cons_of_mem _ hy)
    rw [num_cons, List.length_cons, Nat.pow_succ]
    have h9 : c.toNat - 48 ≤ 9 := by have := hc.2; omega
    have := Nat.mul_le_mul_right (10 ^ r.length) h9
    omega
theorem dec_small {u : Nat} (h : u < 10) : Lib.decDigits u = [UInt8.ofNat (48 + u)] := by rw [Lib.decDigits, dif_pos h]
theorem dec_big {u : Nat} (h : 10 ≤ u) : Lib.decDigits u = Lib.decDigits (u / 10) ++ [UInt8.ofNat (48 + u % 10)] := by rw [Lib.decDigits, dif_neg (by omega)]
theorem dig_toNat {d : Nat} (h : d < 10) : (UInt8.ofNat (48 + d)).toNat = 48 + d := by
  rw [UInt8.toNat_ofNat']; exact Nat.mod_eq_of_lt (by omega)
theorem dig_ok {d : Nat} (h : d < 10) : isDig (UInt8.ofNat (48 + d)) := by unfold isDig; rw [dig_toNat h]; omega
theorem dec_dig (n : Nat) : ∀ c ∈ Lib.decDigits n, isDig c := by
  induction n using Nat.strongRecOn with
  | _ n ih =>
    rcases Nat.lt_or_ge n 10 with h | h
    · rw [dec_small h]; intro c hc; rw [List.mem_singleton.1 hc]; exact dig_ok h
    · rw [dec_big h]; intro c hc
      rcases List.mem_append.1 hc with hc | hc
      · exact ih _ (by omega) c hc
      · rw [List.mem_singleton.1 hc]; exact dig_ok (by omega)
theorem num_dec (n : Nat) : num (Lib.decDigits n) = n := by
  induction n using Nat.strongRecOn with
  | _ n ih =>
    rcases Nat.lt_or_ge n 10 with h | h
    · rw [dec_small h, show [UInt8.ofNat (48 + n)] = [] ++ [UInt8.ofNat (48 + n)] from rfl, num_snoc, dig_toNat h]; show 0 * 10 + (48 + n - 48) = n; omega
    · rw [dec_big h, num_snoc, ih _ (by omega), dig_toNat (by omega)]; omega
theorem dec_inj {n m : Nat} (h : Lib.decDigits n = Lib.decDigits m) : n = m := by rw [← num_dec n, h, num_dec]
theorem dec_ne (n : Nat) : Lib.decDigits n ≠ [] := by
  intro h
  rcases Nat.lt_or_ge n 10 with h1 | h1
  · rw [dec_small h1] at h; cases h
  · rw [dec_big h1] at h; simp at h
theorem dec_pos (n : Nat) : 0 < (Lib.decDigits n).length := List.length_pos_iff.2 (dec_ne n)
/-- the first digit is not 0, but for 0 itself -/
theorem dec_head (n : Nat) (h : 0 < n) : ∃ c r, Lib.decDigits n = c :: r ∧ 49 ≤ c.toNat ∧ c.toNat ≤ 57 := by
  induction n using Nat.strongRecOn with
  | _ n ih =>
    rcases Nat.lt_or_ge n 10 with h1 | h1
    · exact ⟨_, _, dec_small h1, by rw [dig_toNat h1]; omega, by rw [dig_toNat h1]; omega⟩
    · obtain ⟨c, r, e, h2, h3⟩ := ih (n / 10) (by omega) (by omega)
      exact ⟨c, r ++ [UInt8.ofNat (48 + n % 10)], by rw [dec_big h1, e]; rfl, h2, h3⟩
theorem byte_ext {c d : UInt8} (h : c.toNat = d.toNat) : c = d := UInt8.toNat_inj.1 h
/-- digits, the first of which is not 0, are the numeral of what they stand for -/
theorem dec_num (l : List UInt8) (h : ∀ c ∈ l, isDig c) (c : UInt8) (r : List UInt8) (hl : l = c :: r) (h0 : 49 ≤ c.toNat) : Lib.decDigits (num l) = l := by
  obtain ⟨n, hn⟩ : ∃ n, l.length = n := ⟨_, rfl⟩
  induction n generalizing l r with
  | zero => subst hl; cases hn
  | succ n ih =>
    rcases List.eq_nil_or_concat r with hr | ⟨r', x, hr⟩
    · subst hl hr
      have hc := h c (List.mem_cons_self ..)
      have e : num [c] = c.toNat - 48 := by show 0 * 10 + (c.toNat - 48) = _; omega
      rw [e, dec_small (by have := hc.2; omega)]
      congr 1
      exact byte_ext (by rw [dig_toNat (by have := hc.2; omega)]; omega)
    · rw [List.concat_eq_append] at hr
      have hx := h x (by rw [hl, hr]; simp)
      have e := ih (c :: r') (fun y hy => h y (by rw [hl, hr]; rw [← List.cons_append]; exact List.mem_append_left _ hy)) r' rfl (by rw [hl, hr] at hn; simp at hn ⊢; omega)
      have hp : 0 < num (c :: r') := by rw [num_cons]; have : 0 < 10 ^ r'.length := Nat.pow_pos (by omega); have := Nat.mul_le_mul_right (10 ^ r'.length) (show 1 ≤ c.toNat - 48 by omega); omega
      rw [hl, hr, ← List.cons_append, num_snoc, dec_big (by omega)]
      have hx2 := hx.2
      have hx1 := hx.1
      rw [show (num (c :: r') * 10 + (x.toNat - 48)) / 10 = num (c :: r') by omega, e, show (num (c :: r') * 10 + (x.toNat - 48)) % 10 = x.toNat - 48 by omega]
      congr 2
      exact byte_ext (by rw [dig_toNat (by omega)]; omega)
theorem dec_length (n : Nat) : (Lib.decDigits n).length = Lib.nDigits n := by rw [Lib.decDigits_eq]; simp
theorem dec_length_le (n k : Nat) (hk : 0 < k) : (Lib.decDigits n).length ≤ k ↔ n < 10 ^ k := by
  constructor
  · intro h
    have := num_lt _ (dec_dig n)
    rw [num_dec] at this
    exact Nat.lt_of_lt_of_le this (Nat.pow_le_pow_right (by omega) h)
  · intro h
    rcases Nat.eq_zero_or_pos n with h0 | h0
    · subst h0; rw [dec_small (by omega)]; exact hk
    obtain ⟨c, r, e, h2, h3⟩ := dec_head n h0
    rcases Nat.lt_or_ge k (Lib.decDigits n).length with h1 | h1
    · have e2 := num_dec n
      rw [e, num_cons] at e2
      rw [e, List.length_cons] at h1
      have h4 := Nat.pow_le_pow_right (n := 10) (by omega) (show k ≤ r.length by omega)
      have h5 := Nat.mul_le_mul_right (10 ^ r.length) (show 1 ≤ c.toNat - 48 by omega)
      omega
    · exact h1
/-- four digits -/
def d4 (g : Nat) : List UInt8 := [UInt8.ofNat (48 + g / 1000), UInt8.ofNat (48 + g / 100 % 10), UInt8.ofNat (48 + g / 10 % 10), UInt8.ofNat (48 + g % 10)]
theorem dec_group (g m : Nat) (hg : g < 10000) (hm : 0 < m) : Lib.decDigits (g + 10000 * m) = Lib.decDigits m ++ d4 g := by
  rw [dec_big (by omega), dec_big (by omega), dec_big (by omega), dec_big (by omega)]
  rw [show (g + 10000 * m) / 10 / 10 / 10 / 10 = m by omega, show (g + 10000 * m) / 10 / 10 / 10 % 10 = g / 1000 by omega, show (g + 10000 * m) / 10 / 10 % 10 = g / 100 % 10 by omega, show (g + 10000 * m) / 10 % 10 = g / 10 % 10 by omega, show (g + 10000 * m) % 10 = g % 10 by omega]
  simp [d4]
theorem dec_5 (g : Nat) (hg : g < 10000) : Lib.decDigits (10000 + g) = 49 :: d4 g := by
  rw [show 10000 + g = g + 10000 * 1 by omega, dec_group g 1 hg (by omega), dec_small (by omega)]; rfl
/-! integers -/
theorem itoa_nat (n : Nat) : Lib.itoa (n : Int) = Lib.decDigits n := by unfold Lib.itoa; rw [if_neg (by omega), Int.toNat_natCast]
theorem itoa_neg (n : Nat) (h : 0 < n) : Lib.itoa (-(n : Int)) = 45 :: Lib.decDigits n := by unfold Lib.itoa; rw [if_pos (by omega), Int.natAbs_neg, Int.natAbs_natCast]
theorem int_cases (z : Int) : (∃ n : Nat, z = n) ∨ (∃ n : Nat, 0 < n ∧ z = -(n : Int)) := by
  rcases Int.lt_or_le z 0 with h | h
  · exact .inr ⟨z.natAbs, by omega, by omega⟩
  · exact .inl ⟨z.natAbs, by omega⟩
theorem dec_no45 (n : Nat) (r : List UInt8) : Lib.decDigits n ≠ 45 :: r := by
  intro h
  have := dec_dig n 45 (by rw [h]; exact List.mem_cons_self ..)
  exact absurd this (by decide)
theorem itoa_inj {x y : Int} (h : Lib.itoa x = Lib.itoa y) : x = y := by
  rcases int_cases x with ⟨n, rfl⟩ | ⟨n, hn, rfl⟩ <;> rcases int_cases y with ⟨m, rfl⟩ | ⟨m, hm, rfl⟩
  · rw [itoa_nat, itoa_nat] at h; rw [dec_inj h]
  · rw [itoa_nat, itoa_neg _ hm] at h; exact absurd h (dec_no45 _ _)
  · rw [itoa_nat, itoa_neg _ hn] at h; exact absurd h.symm (dec_no45 _ _)
  · rw [itoa_neg _ hn, itoa_neg _ hm] at h; rw [dec_inj (List.cons.inj h).2]
/-- the greatest numbers -/
def big : Nat := 10 ^ 200
/-- the strings that are integers -/
def IsI (s : List UInt8) : Prop := ∃ z : Int, z.natAbs < big ∧ s = Lib.itoa z
/-- what of a string are digits: what stands behind a sign -/
def body (s : List UInt8) : List UInt8 := match s with
  | 45 :: r => r
  | l => l
theorem body_dec (n : Nat) : body (Lib.decDigits n) = Lib.decDigits n := by
  unfold body
  split
  · rename_i r h; exact absurd h (dec_no45 _ _)
  · rfl
theorem body_itoa (z : Int) : body (Lib.itoa z) = Lib.decDigits z.natAbs := by
  rcases int_cases z with ⟨n, rfl⟩ | ⟨n, hn, rfl⟩
  · rw [itoa_nat, body_dec]; rfl
  · rw [itoa_neg _ hn, Int.natAbs_neg]; rfl
/-- what makes a string an integer -/
theorem isI_iff (s : List UInt8) : IsI s ↔ s = [48] ∨ (0 < (body s).length ∧ (body s).length ≤ 200 ∧ (body s).getD 0 0 ≠ 48 ∧ ∀ i, i < (body s).length → isDig ((body s).getD i 0)) := by
  constructor
  · rintro ⟨z, hz, rfl⟩
    rcases Nat.eq_zero_or_pos z.natAbs with h0 | h0
    · left
      obtain rfl : z = 0 := by omega
      exact itoa_nat 0 |>.trans (dec_small (by omega))
    · right
      rw [body_itoa]
      obtain ⟨c, r, e, h2, h3⟩ := dec_head _ h0
      refine ⟨dec_pos _, (dec_length_le _ _ (by omega)).2 hz, ?_, fun i hi => ?_⟩
      · rw [e]; intro h; simp only [List.getD_cons_zero] at h; rw [h] at h2; exact absurd h2 (by decide)
      · rw [List.getD_eq_getElem?_getD, List.getElem?_eq_getElem hi]; exact dec_dig _ _ (List.getElem_mem hi)
  · rintro (rfl | ⟨h1, h2, h3, h4⟩)
    · exact ⟨0, Nat.pow_pos (by omega), by rw [show (0 : Int) = ((0 : Nat) : Int) from rfl, itoa_nat, dec_small (by omega)]; rfl⟩
    · have hd : ∀ c ∈ body s, isDig c := by
        intro c hc
        obtain ⟨i, hi, rfl⟩ := List.getElem_of_mem hc
        have := h4 i hi
        rwa [List.getD_eq_getElem?_getD, List.getElem?_eq_getElem hi] at this
      have hn : num (body s) < big := Nat.lt_of_lt_of_le (num_lt _ hd) (Nat.pow_le_pow_right (by omega) h2)
      have hdec : Lib.decDigits (num (body s)) = body s ∧ 0 < num (body s) := by
        generalize body s = b at *
        cases b with
        | nil => simp at h1
        | cons c r =>
          have hc := hd c (List.mem_cons_self ..)
          have h49 : 49 ≤ c.toNat := by
            rcases Nat.lt_or_ge c.toNat 49 with h | h
            · exact absurd (byte_ext (d := 48) (by have := hc.1; show c.toNat = 48; omega)) h3
            · exact h
          refine ⟨dec_num _ hd c r rfl h49, ?_⟩
          rw [num_cons]
          have : 0 < 10 ^ r.length := Nat.pow_pos (by omega)
          have := Nat.mul_le_mul_right (10 ^ r.length) (show 1 ≤ c.toNat - 48 by omega)
          omega
      have hs : s = body s ∨ s = 45 :: body s := by unfold body; split <;> simp
      rcases hs with hs | hs
      · exact ⟨(num (body s) : Nat), by simpa using hn, by rw [itoa_nat, hdec.1]; exact hs⟩
      · exact ⟨-((num (body s) : Nat) : Int), by simpa using hn, by rw [itoa_neg _ hdec.2, hdec.1]; exact hs⟩
/-! strconv.Atoi -/
theorem parse_ok (l : List UInt8) (a : Nat) (h : ∀ c ∈ l, isDig c) (hb : numA a l < 1844674407370955162) : Lib.parseUint10 a l = .ok (numA a l) := by
  induction l generalizing a with
  | nil => rfl
  | cons c r ih =>
    have hc := h c (List.mem_cons_self ..)
    have hle : a * 10 + (c.toNat - 48) ≤ numA (a * 10 + (c.toNat - 48)) r := by
      rw [numA_eq]
      have : 1 ≤ 10 ^ r.length := Nat.pow_pos (by omega)
      have := Nat.mul_le_mul_left (a * 10 + (c.toNat - 48)) this
      omega
    have hb' : numA (a * 10 + (c.toNat - 48)) r < 1844674407370955162 := hb
    unfold Lib.parseUint10
    rw [if_pos (show 48 ≤ c.toNat ∧ c.toNat ≤ 57 from hc), if_neg (by omega), if_neg (by omega), ih _ (fun y hy => h y (List.mem_cons_of_mem _ hy)) hb']
    rfl
theorem atoi_small (l : List UInt8) (h : ∀ c ∈ l, isDig c) (h0 : l ≠ []) (hb : num l < 1844674407370955162) : Lib.atoiAll l = .ok (num l : Nat) := by
  cases l with
  | nil => exact absurd rfl h0
  | cons c r =>
    have hc := h c (List.mem_cons_self ..)
    have hc1 := hc.1
    have e : Lib.parseMag (c :: r) = .ok (num (c :: r)) := by
      unfold Lib.parseMag
      rw [if_neg h0]
      exact parse_ok _ 0 h hb
    unfold Lib.atoiAll
    simp only
    rw [if_neg (by omega), e]
    simp only
    rw [if_neg (by omega), if_neg (by omega), if_neg (by omega)]

end Go.Proofs.YtieaelipgieaoaaDoor.Ig
