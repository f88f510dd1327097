/-
  Layer 7: mathematics of the reference's Expand.
-/
import Derived.Test.YtnploljhikljfaaPwh
namespace Go.Proofs.Ytnploljhikljfaa.Pk

/-- what a code from i on stands for behind w; none if its pieces are none, or stand for more than 4096 bytes -/
def rx (c : List Nat) (i : Nat) (w : List Nat) : Option (List Nat) :=
  if _h : i < c.length then
    if c.getD i 0 < 128 then
      if i + 2 + c.getD i 0 ≤ c.length then
        if 4096 < (w ++ (c.drop (i + 1)).take (c.getD i 0 + 1)).length then none else rx c (i + 2 + c.getD i 0) (w ++ (c.drop (i + 1)).take (c.getD i 0 + 1))
      else none
    else if i + 1 < c.length then
      if c.getD (i + 1) 0 = 0 ∨ w.length < c.getD (i + 1) 0 then none
      else if 4096 < (cp w (c.getD (i + 1) 0) (c.getD i 0 - 124)).length then none else rx c (i + 2) (cp w (c.getD (i + 1) 0) (c.getD i 0 - 124))
    else none
  else some w
  termination_by c.length - i

theorem rx_end (c : List Nat) (i : Nat) (w : List Nat) (h : ¬ i < c.length) : rx c i w = some w := by rw [rx, dif_neg h]
theorem rx_run (c : List Nat) (i : Nat) (w : List Nat) (m : Nat) (h : i < c.length) (hm : c.getD i 0 = m) (h1 : m < 128) (h2 : i + 2 + m ≤ c.length) :
    rx c i w = if 4096 < (w ++ (c.drop (i + 1)).take (m + 1)).length then none else rx c (i + 2 + m) (w ++ (c.drop (i + 1)).take (m + 1)) := by
  subst hm; rw [rx, dif_pos h, if_pos h1, if_pos h2]
theorem rx_short (c : List Nat) (i : Nat) (w : List Nat) (m : Nat) (h : i < c.length) (hm : c.getD i 0 = m) (h1 : m < 128) (h2 : ¬ i + 2 + m ≤ c.length) : rx c i w = none := by
  subst hm; rw [rx, dif_pos h, if_pos h1, if_neg h2]
theorem rx_copy (c : List Nat) (i : Nat) (w : List Nat) (m d : Nat) (h : i + 1 < c.length) (hm : c.getD i 0 = m) (hd : c.getD (i + 1) 0 = d) (h1 : ¬ m < 128) (h2 : ¬ (d = 0 ∨ w.length < d)) :
    rx c i w = if 4096 < (cp w d (m - 124)).length then none else rx c (i + 2) (cp w d (m - 124)) := by
  subst hm hd; rw [rx, dif_pos (by omega), if_neg h1, if_pos h, if_neg h2]
theorem rx_far (c : List Nat) (i : Nat) (w : List Nat) (m d : Nat) (h : i + 1 < c.length) (hm : c.getD i 0 = m) (hd : c.getD (i + 1) 0 = d) (h1 : ¬ m < 128) (h2 : d = 0 ∨ w.length < d) : rx c i w = none := by
  subst hm hd; rw [rx, dif_pos (by omega), if_neg h1, if_pos h, if_pos h2]
theorem rx_last (c : List Nat) (i : Nat) (w : List Nat) (m : Nat) (h : i < c.length) (hm : c.getD i 0 = m) (h1 : ¬ m < 128) (h2 : ¬ i + 1 < c.length) : rx c i w = none := by
  subst hm; rw [rx, dif_pos h, if_neg h1, if_neg h2]

/-- what it answers is what the pieces stand for -/
theorem rx_ex (c s : List Nat) : ∀ (k i : Nat) (w : List Nat), c.length - i ≤ k → w.length ≤ 4096 → rx c i w = some s → ex c (parse c i) w = s ∧ s.length ≤ 4096
  | k, i, w, hk, hw, h => by
    by_cases hi : i < c.length
    · obtain ⟨m, hm⟩ : ∃ m, c.getD i 0 = m := ⟨_, rfl⟩
      by_cases h1 : m < 128
      · by_cases h2 : i + 2 + m ≤ c.length
        · rw [rx_run c i w m hi hm h1 h2] at h
          split at h
          · cases h
          · next h3 =>
            rw [parse_run c i m (by omega) hm h1 h2, ex, if_neg (by omega)]
            cases k with
            | zero => omega
            | succ k => exact rx_ex c s k _ _ (by omega) (by omega) h
        · rw [rx_short c i w m hi hm h1 h2] at h; cases h
      · by_cases h2 : i + 1 < c.length
        · obtain ⟨d, hd⟩ : ∃ d, c.getD (i + 1) 0 = d := ⟨_, rfl⟩
          by_cases h3 : d = 0 ∨ w.length < d
          · rw [rx_far c i w m d h2 hm hd h1 h3] at h; cases h
          · rw [rx_copy c i w m d h2 hm hd h1 h3] at h
            split at h
            · cases h
            · next h4 =>
              rw [parse_copy c i m d h2 hm hd h1, ex, if_neg (by omega)]
              show (if d < 1 ∨ w.length < d then w else ex c (parse c (i + 2)) (cp w d (m - 124))) = s ∧ _
              rw [if_neg (by omega)]
              cases k with
              | zero => omega
              | succ k => exact rx_ex c s k _ _ (by omega) (by omega) h
        · rw [rx_last c i w m hi hm h1 h2] at h; cases h
    · rw [rx_end c i w hi] at h
      cases h
      rw [parse_end c i (by omega), ex]
      exact ⟨rfl, hw⟩

theorem drop_len {c rest l : List Nat} {i : Nat} (h : c.drop i = l ++ rest) (hl : 0 < l.length) : i + l.length ≤ c.length ∧ c.drop (i + l.length) = rest := by
  have h1 := congrArg List.length h
  rw [List.length_drop, List.length_append] at h1
  refine ⟨by omega, ?_⟩
  rw [← List.drop_drop, h, List.drop_left]
/-- a run's step -/
theorem rx_run_step (s c rest : List Nat) (a n i : Nat) (h : c.drop i = spell s (.run a n) ++ rest) (h1 : 1 ≤ n) (h2 : n ≤ 128) (h3 : a + n ≤ s.length) (hs : s.length ≤ 4096) :
    rx c i (s.take a) = rx c (i + (n + 1)) (s.take (a + n)) ∧ c.drop (i + (n + 1)) = rest := by
  have hl := run_len s a n h3
  obtain ⟨h4, h5⟩ := drop_len h (by omega)
  rw [hl] at h4 h5
  refine ⟨?_, h5⟩
  have h' : c.drop i = (n - 1) :: ((s.drop a).take n ++ rest) := h
  obtain ⟨g1, g2, g3⟩ := getD_drop c i _ _ h'
  have e : s.take a ++ (c.drop (i + 1)).take (n - 1 + 1) = s.take (a + n) := by
    rw [g3, show n - 1 + 1 = n by omega, List.take_add]
    congr 1
    rw [List.take_append_of_le_length (by rw [List.length_take, List.length_drop]; omega), List.take_take, Nat.min_self]
  rw [rx_run c i _ (n - 1) g2 g1 (by omega) (by omega), e, if_neg (by rw [List.length_take]; omega), show i + 2 + (n - 1) = i + (n + 1) by omega]
/-- a copy's step -/
theorem rx_copy_step (s c rest : List Nat) (p i : Nat) (hp : p < s.length) (h4 : 4 ≤ (best s p).1) (h : c.drop i = spell s (.copy (best s p).1 (best s p).2) ++ rest) (hs : s.length ≤ 4096) :
    rx c i (s.take p) = rx c (i + 2) (s.take (p + (best s p).1)) ∧ c.drop (i + 2) = rest := by
  obtain ⟨b1, b2, b3, b4⟩ := best_ok s p h4
  obtain ⟨h5, h6⟩ := drop_len h (by simp [spell])
  refine ⟨?_, h6⟩
  have h' : c.drop i = (124 + (best s p).1) :: ((best s p).2 :: rest) := h
  obtain ⟨g1, g2, g3⟩ := getD_drop c i _ _ h'
  obtain ⟨k1, k2, k3⟩ := getD_drop c (i + 1) _ _ g3
  have hl : (s.take p).length = p := by rw [List.length_take]; omega
  rw [rx_copy c i _ _ _ k2 g1 k1 (by omega) (by rw [hl]; omega), show 124 + (best s p).1 - 124 = (best s p).1 by omega,
    cp_match s _ _ p b1 b3 (fun j hj => mat_eq s _ 131 p j (by rw [b4]; exact hj)), if_neg (by rw [List.length_take]; omega)]
/-- an encoding is expanded -/
theorem rx_div (s c : List Nat) (hs : s.length ≤ 4096) : ∀ (start place : Nat), start ≤ place → place ≤ s.length → place - start < 128 → ∀ i, c.drop i = spells s (div s start place) → i ≤ c.length → rx c i (s.take start) = some s := by
  intro start place h1 h2 h3
  refine div_ind s (fun start place => ∀ i, c.drop i = spells s (div s start place) → i ≤ c.length → rx c i (s.take start) = some s) ?_ ?_ ?_ ?_ _ start place (Nat.le_refl _) h1 h2 h3
  · intro start place h1 h2 h3 i h hi
    rw [div_end s _ _ (by omega)] at h
    split at h
    · next hlt =>
      rw [spells_cons] at h
      obtain ⟨e1, e2⟩ := rx_run_step s c _ start (place - start) i h (by omega) (by omega) (by omega) hs
      have h5 : ¬ i + (place - start + 1) < c.length := by
        intro h6
        have := congrArg List.length e2
        rw [List.length_drop] at this
        simp [spells] at this
        omega
      rw [e1, rx_end _ _ _ h5, List.take_of_length_le (by omega)]
    · have h5 : ¬ i < c.length := by
        intro h6
        have := congrArg List.length h
        rw [List.length_drop] at this
        simp [spells] at this
        omega
      rw [rx_end _ _ _ h5, List.take_of_length_le (by omega)]
  · intro start place h1 h3 h h4 hr ih i hd hi
    rw [div_copy s _ _ h h4, spells_append, spells_cons] at hd
    split at hd
    · next hlt =>
      rw [spells_cons, show spells s [] = [] from rfl, List.append_nil] at hd
      obtain ⟨e1, e2⟩ := rx_run_step s c _ start (place - start) i hd (by omega) (by omega) (by omega) hs
      rw [show start + (place - start) = place by omega] at e1
      obtain ⟨e3, e4⟩ := rx_copy_step s c _ place _ h h4 e2 hs
      rw [e1, e3]
      exact ih _ e4 (by have := congrArg List.length e2; rw [List.length_drop, List.length_append, copy_len] at this; omega)
    · obtain rfl : start = place := by omega
      rw [show spells s [] = [] from rfl, List.nil_append] at hd
      obtain ⟨e3, e4⟩ := rx_copy_step s c _ start _ h h4 hd hs
      rw [e3]
      exact ih _ e4 (by have := congrArg List.length hd; rw [List.length_drop, List.length_append, copy_len] at this; omega)
  · intro start place h1 h h4 h8 ih i hd hi
    rw [div_full s _ _ h (by omega) h8, spells_cons] at hd
    obtain ⟨e1, e2⟩ := rx_run_step s c _ start 128 i hd (by omega) (by omega) (by omega) hs
    rw [show start + 128 = place + 1 by omega] at e1
    rw [e1]
    exact ih _ e2 (by have := congrArg List.length hd; rw [List.length_drop, List.length_append, run_len s _ _ (by omega)] at this; omega)
  · intro start place h1 h8 h h4 ih i hd hi
    rw [div_next s _ _ h (by omega) (by omega)] at hd
    exact ih i hd hi

end Go.Proofs.Ytnploljhikljfaa.Pk
namespace Go.Proofs.Ytnploljhikljfaa
open Go.RowKit Bs Pk
theorem rx_good {c : List Nat} (h : good c) : rx c 0 [] = some (whole c) := by
  have := rx_div (whole c) c h.1 0 0 (Nat.le_refl _) (Nat.zero_le _) (by omega) 0 (by rw [List.drop_zero]; exact h.2.symm) (Nat.zero_le _)
  rwa [List.take_zero] at this
theorem rx_some {c s : List Nat} (h : rx c 0 [] = some s) : s = whole c ∧ (whole c).length ≤ 4096 := by
  have := rx_ex c s _ 0 [] (Nat.le_refl _) (by simp) h
  unfold whole
  rw [this.1]; exact ⟨rfl, this.2⟩
end Go.Proofs.Ytnploljhikljfaa
