/-
  Mathematics of layer 7: matches, the division of a string into pieces, what pieces stand for. Nothing of this program stands here.
-/
namespace Go.Proofs.Ytnploljhikljfaa.Pk

/-- how many bytes from p on, at most k, equal the byte d places before them -/
def mat (s : List Nat) (p d : Nat) : Nat → Nat
  | 0 => 0
  | k + 1 => if p < s.length ∧ s.getD p 0 = s.getD (p - d) 0 then mat s (p + 1) d k + 1 else 0
/-- the best match at p of the distances 1 to k -/
def bst (s : List Nat) (p : Nat) : Nat → Nat × Nat
  | 0 => (0, 0)
  | k + 1 => if (bst s p k).1 < mat s p (k + 1) 131 then (mat s p (k + 1) 131, k + 1) else bst s p k
def best (s : List Nat) (p : Nat) : Nat × Nat := bst s p (min p 255)

theorem mat_le (s : List Nat) (d : Nat) : ∀ k p, mat s p d k ≤ k
  | 0, p => by simp [mat]
  | k + 1, p => by
    unfold mat
    split
    · have := mat_le s d k (p + 1); omega
    · omega
theorem mat_room (s : List Nat) (d : Nat) : ∀ k p, p ≤ s.length → p + mat s p d k ≤ s.length
  | 0, p, h => by simpa [mat] using h
  | k + 1, p, h => by
    unfold mat
    split
    · next h1 => have := mat_room s d k (p + 1) (by omega); omega
    · omega
theorem mat_eq (s : List Nat) (d : Nat) : ∀ k p j, j < mat s p d k → p + j < s.length ∧ s.getD (p + j) 0 = s.getD (p + j - d) 0
  | 0, p, j, h => by simp [mat] at h
  | k + 1, p, j, h => by
    unfold mat at h
    split at h
    · next h1 =>
      rcases j with _ | j
      · simpa using h1
      · have := mat_eq s d k (p + 1) j (by omega)
        rw [show p + (j + 1) = p + 1 + j by omega]; exact this
    · omega
/-- what is equal all along is a match -/
theorem mat_ge (s : List Nat) (d : Nat) : ∀ k p n, n ≤ k → (∀ j, j < n → p + j < s.length ∧ s.getD (p + j) 0 = s.getD (p + j - d) 0) → n ≤ mat s p d k
  | 0, p, n, h, _ => by omega
  | k + 1, p, 0, h, _ => Nat.zero_le _
  | k + 1, p, n + 1, h, hj => by
    unfold mat
    rw [if_pos (by simpa using hj 0 (by omega))]
    have := mat_ge s d k (p + 1) n (by omega) (fun j hjn => by rw [show p + 1 + j = p + (j + 1) by omega]; exact hj (j + 1) (by omega))
    omega
/-- a loop's step -/
theorem mat_step (s : List Nat) (p d n : Nat) (hn : n < 131) (h : p + n < s.length) (he : s.getD (p + n) 0 = s.getD (p + n - d) 0) : mat s (p + n) d (131 - n) = mat s (p + (n + 1)) d (131 - (n + 1)) + 1 := by
  rw [show 131 - n = (131 - (n + 1)) + 1 by omega]
  conv => lhs; unfold mat
  rw [if_pos ⟨h, he⟩]; rfl
theorem mat_stop (s : List Nat) (p d n : Nat) (h : ¬ (n < 131 ∧ p + n < s.length ∧ s.getD (p + n) 0 = s.getD (p + n - d) 0)) : mat s (p + n) d (131 - n) = 0 := by
  generalize hk : 131 - n = k
  cases k with
  | zero => rfl
  | succ k =>
    unfold mat
    rw [if_neg]
    rintro ⟨h1, h2⟩
    exact h ⟨by omega, h1, h2⟩

theorem bst_dist (s : List Nat) (p : Nat) : ∀ k, (bst s p k).2 ≤ k ∧ (0 < (bst s p k).1 → 1 ≤ (bst s p k).2 ∧ mat s p (bst s p k).2 131 = (bst s p k).1)
  | 0 => by simp [bst]
  | k + 1 => by
    have ih := bst_dist s p k
    unfold bst
    split
    · exact ⟨by simp, fun _ => ⟨by simp, rfl⟩⟩
    · exact ⟨by omega, ih.2⟩
theorem bst_ge (s : List Nat) (p : Nat) : ∀ k d, 1 ≤ d → d ≤ k → mat s p d 131 ≤ (bst s p k).1
  | 0, d, h, h2 => by omega
  | k + 1, d, h, h2 => by
    unfold bst
    rcases Nat.lt_or_ge d (k + 1) with h3 | h3
    · have ih := bst_ge s p k d h (by omega)
      split
      · show _ ≤ mat s p (k + 1) 131; omega
      · exact ih
    · obtain rfl : d = k + 1 := by omega
      split
      · exact Nat.le_refl _
      · omega
theorem bst_gt (s : List Nat) (p : Nat) : ∀ k d, 1 ≤ d → d < (bst s p k).2 → mat s p d 131 < (bst s p k).1
  | 0, d, h, h2 => by simp [bst] at h2
  | k + 1, d, h, h2 => by
    unfold bst at h2 ⊢
    split
    · next h3 =>
      rw [if_pos h3] at h2
      have := bst_ge s p k d h (by simp at h2; omega)
      show _ < mat s p (k + 1) 131; omega
    · next h3 =>
      rw [if_neg h3] at h2
      exact bst_gt s p k d h h2
theorem best_le (s : List Nat) (p : Nat) : (best s p).1 ≤ 131 := by
  rcases Nat.eq_zero_or_pos (best s p).1 with h | h
  · omega
  · obtain ⟨_, h1⟩ := bst_dist s p (min p 255)
    have := (h1 h).2
    have := mat_le s (best s p).2 131 p
    unfold best at *; omega
theorem best_room (s : List Nat) (p : Nat) (hp : p ≤ s.length) : p + (best s p).1 ≤ s.length := by
  rcases Nat.eq_zero_or_pos (best s p).1 with h | h
  · omega
  · obtain ⟨_, h1⟩ := bst_dist s p (min p 255)
    have := (h1 h).2
    have := mat_room s (best s p).2 131 p hp
    unfold best at *; omega

/-- a piece: a run, or a copy of n bytes from the distance d -/
inductive Pc
  | run (a n : Nat)
  | copy (n d : Nat)
deriving DecidableEq
/-- the pieces of s from 'start' on; the bytes from 'start' to 'place' are collected -/
def div (s : List Nat) (start place : Nat) : List Pc :=
  if _h : place < s.length then
    if _h4 : 4 ≤ (best s place).1 then (if start < place then [.run start (place - start)] else []) ++ .copy (best s place).1 (best s place).2 :: div s (place + (best s place).1) (place + (best s place).1)
    else if place + 1 - start = 128 then .run start 128 :: div s (place + 1) (place + 1)
    else div s start (place + 1)
  else if start < place then [.run start (place - start)] else []
  termination_by s.length - place
/-- a piece's bytes -/
def spell (s : List Nat) : Pc → List Nat
  | .run a n => (n - 1) :: (s.drop a).take n
  | .copy n d => [124 + n, d]
def spells (s : List Nat) (l : List Pc) : List Nat := (l.map (spell s)).flatten
/-- the encoding -/
def enc (s : List Nat) : List Nat := spells s (div s 0 0)

theorem div_copy (s : List Nat) (start place : Nat) (h : place < s.length) (h4 : 4 ≤ (best s place).1) :
    div s start place = (if start < place then [.run start (place - start)] else []) ++ .copy (best s place).1 (best s place).2 :: div s (place + (best s place).1) (place + (best s place).1) := by
  rw [div, dif_pos h, dif_pos h4]
theorem div_full (s : List Nat) (start place : Nat) (h : place < s.length) (h4 : ¬ 4 ≤ (best s place).1) (h8 : place + 1 - start = 128) : div s start place = .run start 128 :: div s (place + 1) (place + 1) := by
  rw [div, dif_pos h, dif_neg h4, if_pos h8]
theorem div_next (s : List Nat) (start place : Nat) (h : place < s.length) (h4 : ¬ 4 ≤ (best s place).1) (h8 : place + 1 - start ≠ 128) : div s start place = div s start (place + 1) := by
  rw [div, dif_pos h, dif_neg h4, if_neg h8]
theorem div_end (s : List Nat) (start place : Nat) (h : ¬ place < s.length) : div s start place = if start < place then [.run start (place - start)] else [] := by
  rw [div, dif_neg h]

/-- an induction over the division's steps -/
theorem div_ind (s : List Nat) (C : Nat → Nat → Prop)
    (hend : ∀ start place, start ≤ place → place = s.length → place - start < 128 → C start place)
    (hcopy : ∀ start place, start ≤ place → place - start < 128 → place < s.length → 4 ≤ (best s place).1 → place + (best s place).1 ≤ s.length → C (place + (best s place).1) (place + (best s place).1) → C start place)
    (hfull : ∀ start place, start ≤ place → place < s.length → (best s place).1 < 4 → place + 1 - start = 128 → C (place + 1) (place + 1) → C start place)
    (hnext : ∀ start place, start ≤ place → place + 1 - start < 128 → place < s.length → (best s place).1 < 4 → C start (place + 1) → C start place) :
    ∀ (m start place : Nat), s.length - place ≤ m → start ≤ place → place ≤ s.length → place - start < 128 → C start place
  | m, start, place, hm, h1, h2, h3 => by
    rcases Nat.lt_or_ge place s.length with h | h
    · have hr := best_room s place h2
      by_cases h4 : 4 ≤ (best s place).1
      · exact hcopy _ _ h1 h3 h h4 hr (by
          cases m with
          | zero => omega
          | succ m => exact div_ind s C hend hcopy hfull hnext m _ _ (by omega) (Nat.le_refl _) hr (by omega))
      · by_cases h8 : place + 1 - start = 128
        · exact hfull _ _ h1 h (by omega) h8 (by
            cases m with
            | zero => omega
            | succ m => exact div_ind s C hend hcopy hfull hnext m _ _ (by omega) (Nat.le_refl _) (by omega) (by omega))
        · exact hnext _ _ h1 (by omega) h (by omega) (by
            cases m with
            | zero => omega
            | succ m => exact div_ind s C hend hcopy hfull hnext m _ _ (by omega) (by omega) (by omega) (by omega))
    · exact hend _ _ h1 (by omega) h3

/-- what the pieces are: runs of 1 to 128 bytes of s, copies that the mark can say -/
def Pc.ok (s : List Nat) : Pc → Prop
  | .run a n => 1 ≤ n ∧ n ≤ 128 ∧ a + n ≤ s.length
  | .copy n d => 4 ≤ n ∧ n ≤ 131 ∧ 1 ≤ d ∧ d ≤ 255
theorem best_ok (s : List Nat) (p : Nat) (h4 : 4 ≤ (best s p).1) : 1 ≤ (best s p).2 ∧ (best s p).2 ≤ 255 ∧ (best s p).2 ≤ p ∧ mat s p (best s p).2 131 = (best s p).1 := by
  obtain ⟨h1, h2⟩ := bst_dist s p (min p 255)
  obtain ⟨h3, h5⟩ := h2 (by unfold best at h4; omega)
  unfold best
  exact ⟨h3, by omega, by omega, h5⟩
theorem div_ok (s : List Nat) (start place : Nat) (h1 : start ≤ place) (h2 : place ≤ s.length) (h3 : place - start < 128) : ∀ x ∈ div s start place, x.ok s := by
  refine div_ind s (fun start place => ∀ x ∈ div s start place, x.ok s) ?_ ?_ ?_ ?_ _ start place (Nat.le_refl _) h1 h2 h3
  · intro start place h1 h2 h3 x hx
    rw [div_end s _ _ (by omega)] at hx
    split at hx
    · simp at hx; subst hx; exact ⟨by omega, by omega, by omega⟩
    · cases hx
  · intro start place h1 h3 h h4 hr ih x hx
    obtain ⟨b1, b2, _, _⟩ := best_ok s place h4
    have bl := best_le s place
    rw [div_copy s _ _ h h4] at hx
    simp only [List.mem_append, List.mem_cons] at hx
    rcases hx with hx | rfl | hx
    · split at hx
      · simp at hx; subst hx; exact ⟨by omega, by omega, by omega⟩
      · cases hx
    · exact ⟨h4, bl, b1, b2⟩
    · exact ih x hx
  · intro start place h1 h h4 h8 ih x hx
    rw [div_full s _ _ h (by omega) h8] at hx
    simp only [List.mem_cons] at hx
    rcases hx with rfl | hx
    · exact ⟨by omega, by omega, by omega⟩
    · exact ih x hx
  · intro start place h1 h8 h h4 ih x hx
    rw [div_next s _ _ h (by omega) (by omega)] at hx
    exact ih x hx

/-! what pieces stand for -/
/-- a copy: one byte after the other -/
def cp (w : List Nat) (d : Nat) : Nat → List Nat
  | 0 => w
  | n + 1 => cp (w ++ [w.getD (w.length - d) 0]) d n
theorem cp_len (d : Nat) : ∀ n w, (cp w d n).length = w.length + n
  | 0, w => rfl
  | n + 1, w => by rw [cp, cp_len d n]; simp; omega
theorem cp_match (s : List Nat) (d : Nat) : ∀ n p, 1 ≤ d → d ≤ p → (∀ j, j < n → p + j < s.length ∧ s.getD (p + j) 0 = s.getD (p + j - d) 0) → cp (s.take p) d n = s.take (p + n)
  | 0, p, _, _, _ => rfl
  | n + 1, p, h1, h2, hj => by
    obtain ⟨h3, h4⟩ := hj 0 (by omega)
    rw [Nat.add_zero] at h3 h4
    have hl : (s.take p).length = p := by rw [List.length_take]; omega
    have e : s.take p ++ [(s.take p).getD ((s.take p).length - d) 0] = s.take (p + 1) := by
      rw [hl, List.take_succ_eq_append_getElem h3]
      congr 2
      rw [List.getD_eq_getElem?_getD, List.getElem?_take, if_pos (by omega), ← List.getD_eq_getElem?_getD, ← h4, List.getD_eq_getElem?_getD, List.getElem?_eq_getElem h3]; rfl
    rw [cp, e, cp_match s d n (p + 1) h1 (by omega) (fun j hjn => by rw [show p + 1 + j = p + (j + 1) by omega]; exact hj (j + 1) (by omega))]
    rw [show p + 1 + n = p + (n + 1) by omega]
/-- what the pieces stand for, behind w, until one stands for nothing or more than 4096 bytes are there; runs lie in c -/
def ex (c : List Nat) : List Pc → List Nat → List Nat
  | [], w => w
  | p :: l, w => if 4096 < w.length then w else match p with
    | .run a n => ex c l (w ++ (c.drop a).take n)
    | .copy n d => if d < 1 ∨ w.length < d then w else ex c l (cp w d n)
/-- the pieces stand for s -/
theorem ex_div (s : List Nat) (hs : s.length ≤ 4096) (start place : Nat) (h1 : start ≤ place) (h2 : place ≤ s.length) (h3 : place - start < 128) : ex s (div s start place) (s.take start) = s := by
  have grow : ∀ a n, a + n ≤ s.length → s.take a ++ (s.drop a).take n = s.take (a + n) := fun a n h => by rw [List.take_add]
  refine div_ind s (fun start place => ex s (div s start place) (s.take start) = s) ?_ ?_ ?_ ?_ _ start place (Nat.le_refl _) h1 h2 h3
  · intro start place h1 h2 h3
    rw [div_end s _ _ (by omega)]
    have hl : ¬ 4096 < (s.take start).length := by rw [List.length_take]; omega
    split
    · rw [ex, if_neg hl]
      show ex s [] (s.take start ++ (s.drop start).take (place - start)) = s
      rw [grow _ _ (by omega), ex, List.take_of_length_le (by omega)]
    · rw [ex, List.take_of_length_le (by omega)]
  · intro start place h1 h3 h h4 hr ih
    obtain ⟨b1, b2, b3, b4⟩ := best_ok s place h4
    rw [div_copy s _ _ h h4]
    have hl : ∀ p, ¬ 4096 < (s.take p).length := fun p => by rw [List.length_take]; omega
    have hcopy : ex s (.copy (best s place).1 (best s place).2 :: div s (place + (best s place).1) (place + (best s place).1)) (s.take place) = s := by
      rw [ex, if_neg (hl _)]
      have : ¬ ((best s place).2 < 1 ∨ (s.take place).length < (best s place).2) := by rw [List.length_take]; omega
      simp only [if_neg this]
      rw [cp_match s _ _ place b1 b3 (fun j hj => mat_eq s _ 131 place j (by rw [b4]; exact hj))]
      exact ih
    split
    · rw [List.cons_append, List.nil_append, ex, if_neg (hl _)]
      show ex s _ (s.take start ++ (s.drop start).take (place - start)) = s
      rw [grow _ _ (by omega), show start + (place - start) = place by omega]; exact hcopy
    · rw [List.nil_append, show start = place by omega]; exact hcopy
  · intro start place h1 h h4 h8 ih
    rw [div_full s _ _ h (by omega) h8, ex, if_neg (by rw [List.length_take]; omega)]
    show ex s _ (s.take start ++ (s.drop start).take 128) = s
    rw [grow _ _ (by omega), show start + 128 = place + 1 by omega]; exact ih
  · intro start place h1 h8 h h4 ih
    rw [div_next s _ _ h (by omega) (by omega)]; exact ih

/-- the pieces of a code from i on, up to one that is not whole -/
def parse (c : List Nat) (i : Nat) : List Pc :=
  if _h : i + 1 < c.length then
    if c.getD i 0 < 128 then
      if i + 2 + c.getD i 0 ≤ c.length then .run (i + 1) (c.getD i 0 + 1) :: parse c (i + 2 + c.getD i 0) else []
    else .copy (c.getD i 0 - 124) (c.getD (i + 1) 0) :: parse c (i + 2)
  else []
  termination_by c.length - i
theorem parse_run (c : List Nat) (i m : Nat) (h : i + 1 < c.length) (hm : c.getD i 0 = m) (h1 : m < 128) (h2 : i + 2 + m ≤ c.length) : parse c i = .run (i + 1) (m + 1) :: parse c (i + 2 + m) := by
  subst hm
  rw [parse, dif_pos h, if_pos h1, if_pos h2]
theorem parse_bad (c : List Nat) (i m : Nat) (h : i + 1 < c.length) (hm : c.getD i 0 = m) (h1 : m < 128) (h2 : ¬ i + 2 + m ≤ c.length) : parse c i = [] := by
  subst hm
  rw [parse, dif_pos h, if_pos h1, if_neg h2]
theorem parse_copy (c : List Nat) (i m d : Nat) (h : i + 1 < c.length) (hm : c.getD i 0 = m) (hd : c.getD (i + 1) 0 = d) (h1 : ¬ m < 128) : parse c i = .copy (m - 124) d :: parse c (i + 2) := by
  subst hm hd
  rw [parse, dif_pos h, if_neg h1]
theorem parse_end (c : List Nat) (i : Nat) (h : ¬ i + 1 < c.length) : parse c i = [] := by rw [parse, dif_neg h]
/-- what a code's pieces are -/
def Pc.fits (c : List Nat) : Pc → Prop
  | .run a n => 1 ≤ n ∧ n ≤ 128 ∧ a + n ≤ c.length
  | .copy n _ => n ≤ 131
theorem parse_fits (c : List Nat) (hc : ∀ b ∈ c, b < 256) : ∀ (m i : Nat), c.length - i ≤ m → ∀ x ∈ parse c i, x.fits c
  | m, i, hm, x, hx => by
    by_cases h : i + 1 < c.length
    · have hlt : c.getD i 0 < 256 := by
        rw [List.getD_eq_getElem?_getD, List.getElem?_eq_getElem (by omega)]
        exact hc _ (List.getElem_mem _)
      obtain ⟨q, hq⟩ : ∃ q, c.getD i 0 = q := ⟨_, rfl⟩
      rw [hq] at hlt
      by_cases h1 : q < 128
      · by_cases h2 : i + 2 + q ≤ c.length
        · rw [parse_run c i q h hq h1 h2] at hx
          simp only [List.mem_cons] at hx
          rcases hx with rfl | hx
          · exact ⟨by omega, by omega, by omega⟩
          · cases m with
            | zero => omega
            | succ m => exact parse_fits c hc m _ (by omega) x hx
        · rw [parse_bad c i q h hq h1 h2] at hx; cases hx
      · rw [parse_copy c i q _ h hq rfl h1] at hx
        simp only [List.mem_cons] at hx
        rcases hx with rfl | hx
        · show q - 124 ≤ 131; omega
        · cases m with
          | zero => omega
          | succ m => exact parse_fits c hc m _ (by omega) x hx
    · rw [parse_end c i h] at hx; cases hx
theorem cp_lt (d : Nat) : ∀ n w, (∀ b ∈ w, b < 256) → ∀ b ∈ cp w d n, b < 256
  | 0, w, h => h
  | n + 1, w, h => by
    rw [cp]
    refine cp_lt d n _ fun b hb => ?_
    simp only [List.mem_append, List.mem_singleton] at hb
    rcases hb with hb | rfl
    · exact h b hb
    · rw [List.getD_eq_getElem?_getD]
      cases he : w[w.length - d]? with
      | none => simp
      | some x => simp only [Option.getD_some]; exact h x (List.mem_of_getElem? he)
theorem ex_lt (c : List Nat) (hc : ∀ b ∈ c, b < 256) : ∀ (l : List Pc) (w : List Nat), (∀ b ∈ w, b < 256) → ∀ b ∈ ex c l w, b < 256
  | [], w, h => h
  | .run a n :: l, w, h => by
    rw [ex]
    split
    · exact h
    · refine ex_lt c hc l _ fun b hb => ?_
      simp only [List.mem_append] at hb
      rcases hb with hb | hb
      · exact h b hb
      · exact hc b (List.mem_of_mem_drop (List.mem_of_mem_take hb))
  | .copy n d :: l, w, h => by
    rw [ex]
    split
    · exact h
    · show ∀ b ∈ (if d < 1 ∨ w.length < d then w else ex c l (cp w d n)), b < 256
      split
      · exact h
      · exact ex_lt c hc l _ (cp_lt d n w h)
/-- two lists of pieces that stand for the same, with runs in s and in c -/
inductive Alike (s c : List Nat) : List Pc → List Pc → Prop
  | nil : Alike s c [] []
  | run (a b n : Nat) (l m : List Pc) (h : (s.drop a).take n = (c.drop b).take n) (t : Alike s c l m) : Alike s c (.run a n :: l) (.run b n :: m)
  | copy (n d : Nat) (l m : List Pc) (t : Alike s c l m) : Alike s c (.copy n d :: l) (.copy n d :: m)
theorem ex_alike {s c : List Nat} : ∀ {l m : List Pc} (_ : Alike s c l m) (w : List Nat), ex c m w = ex s l w
  | _, _, .nil, w => rfl
  | _, _, .run a b n l m h t, w => by
    rw [ex, ex]
    split
    · rfl
    · show ex c m (w ++ (c.drop b).take n) = ex s l (w ++ (s.drop a).take n)
      rw [h, ex_alike t]
  | _, _, .copy n d l m t, w => by
    rw [ex, ex]
    split
    · rfl
    · show (if d < 1 ∨ w.length < d then w else ex c m (cp w d n)) = (if d < 1 ∨ w.length < d then w else ex s l (cp w d n))
      rw [ex_alike t]
theorem getD_drop (c : List Nat) (i : Nat) (x : Nat) (t : List Nat) (h : c.drop i = x :: t) : c.getD i 0 = x ∧ i < c.length ∧ c.drop (i + 1) = t := by
  have hi : i < c.length := by
    rcases Nat.lt_or_ge i c.length with h1 | h1
    · exact h1
    · rw [List.drop_of_length_le h1] at h; cases h
  rw [List.drop_eq_getElem_cons hi] at h
  injection h with h1 h2
  refine ⟨?_, hi, h2⟩
  rw [List.getD_eq_getElem?_getD, List.getElem?_eq_getElem hi]; exact h1
/-- what is spelled is read again -/
theorem parse_spells (s c : List Nat) : ∀ (l : List Pc), (∀ x ∈ l, x.ok s) → ∀ i, c.drop i = spells s l → Alike s c l (parse c i)
  | [], _, i, h => by
    have : c.length ≤ i := by
      have := congrArg List.length h
      simp [spells] at this; omega
    rw [parse, dif_neg (by omega)]; exact .nil
  | .run a n :: l, hl, i, h => by
    obtain ⟨h1, h2, h3⟩ : (Pc.run a n).ok s := hl _ (by simp)
    have h' : c.drop i = (n - 1) :: ((s.drop a).take n ++ spells s l) := by rw [h]; simp [spells, spell]
    obtain ⟨g1, g2, g3⟩ := getD_drop c i _ _ h'
    have hn : ((s.drop a).take n).length = n := by rw [List.length_take, List.length_drop]; omega
    have hlen := congrArg List.length g3
    rw [List.length_drop, List.length_append, hn] at hlen
    rw [parse, dif_pos (by omega), g1, if_pos (by omega), if_pos (by omega), show n - 1 + 1 = n by omega]
    refine .run _ _ _ _ _ ?_ (parse_spells s c l (fun x hx => hl x (by simp [hx])) _ ?_)
    · rw [g3, List.take_append_of_le_length (Nat.le_of_eq hn.symm), List.take_take, Nat.min_self]
    · rw [show i + 2 + (n - 1) = i + 1 + n by omega, ← List.drop_drop, g3, List.drop_append_of_le_length (by omega), List.drop_of_length_le (by omega), List.nil_append]
  | .copy n d :: l, hl, i, h => by
    obtain ⟨h1, h2, h3, h4⟩ : (Pc.copy n d).ok s := hl _ (by simp)
    have h' : c.drop i = (124 + n) :: d :: spells s l := by rw [h]; simp [spells, spell]
    obtain ⟨g1, g2, g3⟩ := getD_drop c i _ _ h'
    obtain ⟨g4, g5, g6⟩ := getD_drop c (i + 1) _ _ g3
    rw [parse, dif_pos g5, g1, if_neg (by omega), g4, show 124 + n - 124 = n by omega]
    exact .copy _ _ _ _ (parse_spells s c l (fun x hx => hl x (by simp [hx])) _ g6)
/-- what a code stands for, as far as it goes -/
def whole (c : List Nat) : List Nat := ex c (parse c 0) []
/-- the round trip -/
theorem whole_enc (s : List Nat) (hs : s.length ≤ 4096) : whole (enc s) = s := by
  unfold whole
  rw [ex_alike (parse_spells s (enc s) (div s 0 0) (div_ok s 0 0 (Nat.le_refl _) (Nat.zero_le _) (by omega)) 0 rfl)]
  exact ex_div s hs 0 0 (Nat.le_refl _) (Nat.zero_le _) (by omega)
theorem enc_inj {s t : List Nat} (hs : s.length ≤ 4096) (ht : t.length ≤ 4096) (h : enc s = enc t) : s = t := by
  rw [← whole_enc s hs, h, whole_enc t ht]

/-! sizes -/
theorem spells_cons (s : List Nat) (x : Pc) (l : List Pc) : spells s (x :: l) = spell s x ++ spells s l := by simp [spells]
theorem spells_append (s : List Nat) (l m : List Pc) : spells s (l ++ m) = spells s l ++ spells s m := by simp [spells]
theorem spell_len (s : List Nat) (x : Pc) (h : x.ok s) : (spell s x).length = match x with | .run _ n => n + 1 | .copy _ _ => 2 := by
  cases x with
  | run a n => obtain ⟨h1, h2, h3⟩ := h; simp [spell, List.length_take, List.length_drop]; omega
  | copy n d => rfl
theorem run_len (s : List Nat) (a n : Nat) (h : a + n ≤ s.length) : (spell s (.run a n)).length = n + 1 := by simp [spell, List.length_take, List.length_drop]; omega
theorem copy_len (s : List Nat) (n d : Nat) : (spell s (.copy n d)).length = 2 := rfl
theorem pending_len (s : List Nat) (start place : Nat) (h2 : place ≤ s.length) : (spells s (if start < place then [.run start (place - start)] else [])).length = if start < place then place - start + 1 else 0 := by
  split
  · simp [spells]; rw [run_len s _ _ (by omega)]
  · rfl
/-- one step's size, for every kind of step -/
theorem len_copy (s : List Nat) (start place : Nat) (h : place < s.length) (h4 : 4 ≤ (best s place).1) :
    (spells s (div s start place)).length = (if start < place then place - start + 1 else 0) + 2 + (spells s (div s (place + (best s place).1) (place + (best s place).1))).length := by
  rw [div_copy s _ _ h h4, spells_append, spells_cons, List.length_append, List.length_append, pending_len s _ _ (by omega), copy_len]; omega
theorem len_full (s : List Nat) (start place : Nat) (h : place < s.length) (h4 : ¬ 4 ≤ (best s place).1) (h8 : place + 1 - start = 128) :
    (spells s (div s start place)).length = 129 + (spells s (div s (place + 1) (place + 1))).length := by
  rw [div_full s _ _ h h4 h8, spells_cons, List.length_append, run_len s _ _ (by omega)]
theorem len_end (s : List Nat) (start place : Nat) (h : place = s.length) : (spells s (div s start place)).length = if start < place then place - start + 1 else 0 := by
  rw [div_end s _ _ (by omega), pending_len s _ _ (by omega)]
theorem enc_bound (s : List Nat) : (enc s).length ≤ s.length + s.length / 128 + 1 ∧ (s = [] → enc s = []) := by
  refine ⟨?_, fun h => by subst h; unfold enc; rw [div_end [] 0 0 (by simp)]; rfl⟩
  have := div_ind s (fun start place => (spells s (div s start place)).length ≤ (s.length - start) + (s.length - start) / 128 + 1)
    (fun start place h1 h2 h3 => by rw [len_end s _ _ h2]; split <;> omega)
    (fun start place h1 h3 h h4 hr ih => by rw [len_copy s _ _ h h4]; split <;> omega)
    (fun start place h1 h h4 h8 ih => by rw [len_full s _ _ h (by omega) h8]; omega)
    (fun start place h1 h8 h h4 ih => by rw [div_next s _ _ h (by omega) (by omega)]; exact ih)
    _ 0 0 (Nat.le_refl _) (Nat.le_refl _) (Nat.zero_le _) (by omega)
  simpa [enc] using this
theorem enc_lt (s : List Nat) (hs : ∀ b ∈ s, b < 256) : ∀ b ∈ enc s, b < 256 := by
  intro b hb
  have hok := div_ok s 0 0 (Nat.le_refl _) (Nat.zero_le _) (by omega)
  simp only [enc, spells, List.mem_flatten, List.mem_map] at hb
  obtain ⟨l, ⟨x, hx, rfl⟩, hb⟩ := hb
  have h := hok x hx
  cases x with
  | run a n =>
    obtain ⟨h1, h2, h3⟩ := h
    simp only [spell, List.mem_cons] at hb
    rcases hb with rfl | hb
    · omega
    · exact hs b (List.mem_of_mem_drop (List.mem_of_mem_take hb))
  | copy n d =>
    obtain ⟨h1, h2, h3, h4⟩ := h
    simp [spell] at hb
    omega

end Go.Proofs.Ytnploljhikljfaa.Pk
