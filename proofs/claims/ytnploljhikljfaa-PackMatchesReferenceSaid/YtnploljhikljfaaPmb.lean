/-
  Mathematics of layer 7 for the laws: strings without matches; strings with a period; codes that stand for too much; the encoding's pieces. Nothing of this program stands here.
-/
import Derived.Test.YtnploljhikljfaaPma
namespace Go.Proofs.Ytnploljhikljfaa.Pk

/-! codes that stand for too much -/
/-- copies of distance 1 -/
def cps (l : List Nat) : List Pc := l.map (fun m => .copy m 1)
theorem ex_much (c : List Nat) : ∀ (l : List Nat) (w : List Nat), 1 ≤ w.length → 4096 < w.length + l.sum → 4096 < (ex c (cps l) w).length
  | [], w, h1, h2 => by simpa [cps, ex] using h2
  | m :: l, w, h1, h2 => by
    have hs : (m :: l).sum = m + l.sum := by simp
    rw [hs] at h2
    show 4096 < (ex c (.copy m 1 :: cps l) w).length
    rw [ex]
    split
    · assumption
    · show 4096 < (if 1 < 1 ∨ w.length < 1 then w else ex c (cps l) (cp w 1 m)).length
      rw [if_neg (by omega)]
      refine ex_much c l (cp w 1 m) ?_ ?_
      · rw [cp_len]; omega
      · rw [cp_len]; omega
/-- a run of one byte and such copies -/
theorem too_much (b : Nat) (l : List Nat) (hl : ∀ m ∈ l, 4 ≤ m ∧ m ≤ 131) (hs : 4096 < 1 + l.sum) : 4096 < (whole (spells [b] (.run 0 1 :: cps l))).length := by
  unfold whole
  rw [ex_alike (parse_spells [b] (spells [b] (.run 0 1 :: cps l)) (.run 0 1 :: cps l) (by
    intro x hx
    simp only [List.mem_cons, cps, List.mem_map] at hx
    rcases hx with rfl | ⟨m, hm, rfl⟩
    · exact ⟨by omega, by omega, by simp⟩
    · obtain ⟨h1, h2⟩ := hl m hm
      exact ⟨h1, h2, by omega, by omega⟩) 0 rfl)]
  rw [ex, if_neg (by simp)]
  show 4096 < (ex [b] (cps l) ([] ++ ([b].drop 0).take 1)).length
  exact ex_much [b] l _ (by simp) (by simpa using hs)
theorem spells_cps (b : Nat) (l : List Nat) (m : Nat) : spells [b] (.run 0 1 :: cps (l ++ [m])) = spells [b] (.run 0 1 :: cps l) ++ [124 + m, 1] := by
  rw [show cps (l ++ [m]) = cps l ++ cps [m] by simp [cps], ← List.cons_append, spells_append]
  rfl

/-! strings without matches -/
theorem bst_none (s : List Nat) (p : Nat) (h : ∀ d, 1 ≤ d → d ≤ p → mat s p d 131 < 4) : ∀ k, k ≤ p → (bst s p k).1 < 4
  | 0, _ => by simp [bst]
  | k + 1, hk => by
    unfold bst
    split
    · exact h (k + 1) (by omega) hk
    · exact bst_none s p h k (by omega)
theorem div_plain (s : List Nat) (h : ∀ p, p < s.length → (best s p).1 < 4) (i : Nat) (hi : i < s.length) : ∀ (f p : Nat), s.length - p ≤ f → i ≤ p → p ≤ s.length → p - i < 128 →
    div s i p = if i < p ∨ p < s.length then .run i (min 128 (s.length - i)) :: div s (i + min 128 (s.length - i)) (i + min 128 (s.length - i)) else []
  | f, p, hf, h1, h2, h3 => by
    rcases Nat.lt_or_ge p s.length with hp | hp
    · rw [if_pos (.inr hp)]
      by_cases h8 : p + 1 - i = 128
      · rw [div_full s i p hp (by have := h p hp; omega) h8, show min 128 (s.length - i) = 128 by omega, show i + 128 = p + 1 by omega]
      · rw [div_next s i p hp (by have := h p hp; omega) h8]
        cases f with
        | zero => omega
        | succ f =>
          rw [div_plain s h i hi f (p + 1) (by omega) (by omega) (by omega) (by omega), if_pos (.inl (by omega))]
    · obtain rfl : p = s.length := by omega
      rw [div_end s i _ (by omega), if_pos (by omega), if_pos (.inl (by omega)), show min 128 (s.length - i) = s.length - i by omega, show i + (s.length - i) = s.length by omega, div_end s _ _ (by omega), if_neg (by omega)]
theorem div_run (s : List Nat) (h : ∀ p, p < s.length → (best s p).1 < 4) (i : Nat) (hi : i < s.length) : div s i i = .run i (min 128 (s.length - i)) :: div s (i + min 128 (s.length - i)) (i + min 128 (s.length - i)) := by
  rw [div_plain s h i hi _ i (Nat.le_refl _) (Nat.le_refl _) (by omega) (by omega), if_pos (.inr hi)]
theorem div_nil (s : List Nat) (i : Nat) (hi : s.length ≤ i) : div s i i = [] := by rw [div_end s _ _ (by omega), if_neg (by omega)]
/-- bytes that are all different have no match -/
theorem best_diff (s : List Nat) (h : ∀ i j, i < j → j < s.length → s.getD j 0 ≠ s.getD i 0) (p : Nat) (hp : p < s.length) : (best s p).1 < 4 := by
  refine bst_none s p (fun d h1 h2 => ?_) _ (by omega)
  unfold mat
  rw [if_neg]
  · omega
  · rintro ⟨_, e⟩
    exact h (p - d) p (by omega) hp e

/-! strings with a period -/
theorem mat_period (s : List Nat) (d : Nat) (hd : 1 ≤ d) (h : ∀ i, d ≤ i → i < s.length → s.getD i 0 = s.getD (i - d) 0) (p : Nat) (hp : d ≤ p) (hl : p ≤ s.length) : min 131 (s.length - p) ≤ mat s p d 131 :=
  mat_ge s d 131 p _ (by omega) (fun j hj => ⟨by omega, h (p + j) (by omega) (by omega)⟩)
theorem best_period (s : List Nat) (d : Nat) (hd : 1 ≤ d) (hd2 : d ≤ 255) (h : ∀ i, d ≤ i → i < s.length → s.getD i 0 = s.getD (i - d) 0) (p : Nat) (hp : d ≤ p) (hl : p ≤ s.length) : (best s p).1 = min 131 (s.length - p) := by
  have h1 := mat_period s d hd h p hp hl
  have h2 := bst_ge s p (min p 255) d hd (by omega)
  have h3 := best_le s p
  have h4 := best_room s p hl
  unfold best at *
  omega
theorem period_tail (s : List Nat) (d : Nat) (hd : 1 ≤ d) (hd2 : d ≤ 255) (h : ∀ i, d ≤ i → i < s.length → s.getD i 0 = s.getD (i - d) 0) : ∀ (f p q : Nat), s.length - p ≤ f → d ≤ p → p ≤ s.length → q ≤ p → p - q < 128 →
    (spells s (div s q p)).length ≤ (p - q) + 1 + 2 * ((s.length - p) / 131) + 5 ∧ (q = p → (spells s (div s q p)).length ≤ 2 * ((s.length - p) / 131) + 4)
  | f, p, q, hf, hp, hl, hq, hpq => by
    have hb := best_period s d hd hd2 h p hp hl
    rcases Nat.lt_or_ge p s.length with hlt | hge
    · by_cases h4 : 4 ≤ (best s p).1
      · cases f with
        | zero => omega
        | succ f =>
          have hr := best_room s p hl
          have ih := (period_tail s d hd hd2 h f (p + (best s p).1) (p + (best s p).1) (by omega) (by omega) hr (Nat.le_refl _) (by omega)).2 rfl
          rw [len_copy s q p hlt h4]
          by_cases h131 : 131 ≤ s.length - p
          · have e : (best s p).1 = 131 := by omega
            rw [e] at ih ⊢
            refine ⟨?_, fun hqp => ?_⟩
            · split <;> omega
            · rw [if_neg (by omega)]; omega
          · have e : p + (best s p).1 = s.length := by omega
            rw [e, div_nil s _ (Nat.le_refl _)]
            have : (spells s []).length = 0 := rfl
            refine ⟨?_, fun hqp => ?_⟩
            · split <;> omega
            · rw [if_neg (by omega)]; omega
      · cases f with
        | zero => omega
        | succ f =>
          have hr : s.length - p < 4 := by omega
          by_cases h8 : p + 1 - q = 128
          · rw [len_full s q p hlt h4 h8]
            have ih := (period_tail s d hd hd2 h f (p + 1) (p + 1) (by omega) (by omega) (by omega) (Nat.le_refl _) (by omega))
            refine ⟨?_, fun hqp => by omega⟩
            -- at most three bytes are left
            have h3 : ∀ (m r : Nat), s.length - r ≤ m → p + 1 ≤ r → r ≤ s.length → (spells s (div s (p + 1) r)).length ≤ s.length - (p + 1) + 1 := by
              intro m
              induction m with
              | zero =>
                intro r h1 h2 h3
                rw [len_end s _ r (by omega)]
                split <;> omega
              | succ m ihm =>
                intro r h1 h2 h3
                rcases Nat.lt_or_ge r s.length with hr' | hr'
                · have hb' := best_period s d hd hd2 h r (by omega) h3
                  rw [div_next s _ r hr' (by omega) (by omega)]
                  exact ihm (r + 1) (by omega) (by omega) (by omega)
                · rw [len_end s _ r (by omega)]
                  split <;> omega
            have := h3 (s.length - (p + 1)) (p + 1) (Nat.le_refl _) (Nat.le_refl _) (by omega)
            omega
          · rw [div_next s q p hlt h4 h8]
            have h3 : ∀ (m r : Nat), s.length - r ≤ m → p ≤ r → r ≤ s.length → r - q < 128 → (spells s (div s q r)).length ≤ s.length - q + 2 ∧ (q = p → (spells s (div s q r)).length ≤ s.length - q + 1) := by
              intro m
              induction m with
              | zero =>
                intro r h1 h2 h3 h5
                rw [len_end s _ r (by omega)]
                split <;> omega
              | succ m ihm =>
                intro r h1 h2 h3 h5
                rcases Nat.lt_or_ge r s.length with hr' | hr'
                · have hb' := best_period s d hd hd2 h r (by omega) h3
                  by_cases h8' : r + 1 - q = 128
                  · rw [len_full s q r hr' (by omega) h8']
                    refine ⟨?_, fun hqp => by omega⟩
                    have := period_tail s d hd hd2 h f (r + 1) (r + 1) (by omega) (by omega) (by omega) (Nat.le_refl _) (by omega)
                    have h6 : ∀ (m' r' : Nat), s.length - r' ≤ m' → r + 1 ≤ r' → r' ≤ s.length → (spells s (div s (r + 1) r')).length ≤ s.length - (r + 1) + 1 := by
                      intro m'
                      induction m' with
                      | zero =>
                        intro r' g1 g2 g3
                        rw [len_end s _ r' (by omega)]
                        split <;> omega
                      | succ m' ihm' =>
                        intro r' g1 g2 g3
                        rcases Nat.lt_or_ge r' s.length with hr'' | hr''
                        · have hb'' := best_period s d hd hd2 h r' (by omega) g3
                          rw [div_next s _ r' hr'' (by omega) (by omega)]
                          exact ihm' (r' + 1) (by omega) (by omega) (by omega)
                        · rw [len_end s _ r' (by omega)]
                          split <;> omega
                    have := h6 (s.length - (r + 1)) (r + 1) (Nat.le_refl _) (Nat.le_refl _) (by omega)
                    omega
                  · rw [div_next s q r hr' (by omega) h8']
                    exact ihm (r + 1) (by omega) (by omega) (by omega) (by omega)
                · rw [len_end s _ r (by omega)]
                  split <;> omega
            have := h3 (s.length - (p + 1)) (p + 1) (Nat.le_refl _) (by omega) (by omega) (by omega)
            omega
    · obtain rfl : p = s.length := by omega
      rw [len_end s q _ rfl]
      refine ⟨?_, fun hqp => ?_⟩
      · split <;> omega
      · rw [if_neg (by omega)]; omega
/-- the encoding of a string with a period -/
theorem enc_period (s : List Nat) (d : Nat) (hd : 1 ≤ d) (hd2 : d ≤ 255) (h : ∀ i, d ≤ i → i < s.length → s.getD i 0 = s.getD (i - d) 0) : (enc s).length ≤ d + d / 128 + 2 * (s.length / 131) + 8 := by
  have key := div_ind s (fun start place => place ≤ d → (spells s (div s start place)).length ≤ (d - start) + (d - start) / 128 + 2 * (s.length / 131) + 8)
    (fun start place h1 h2 h3 hp => by rw [len_end s _ _ h2]; split <;> omega)
    (fun start place h1 h3 hlt h4 hr ih hp => by
      rw [len_copy s _ _ hlt h4]
      rcases Nat.lt_or_ge d (place + (best s place).1) with hc | hc
      · have := (period_tail s d hd hd2 h _ (place + (best s place).1) (place + (best s place).1) (Nat.le_refl _) (by omega) hr (Nat.le_refl _) (by omega)).2 rfl
        have hm : (s.length - (place + (best s place).1)) / 131 ≤ s.length / 131 := Nat.div_le_div_right (by omega)
        split <;> omega
      · have := ih hc
        split <;> omega)
    (fun start place h1 hlt h4 h8 ih hp => by
      rcases Nat.lt_or_ge place d with hc | hc
      · rw [len_full s _ _ hlt (by omega) h8]
        have := ih (by omega)
        omega
      · obtain rfl : place = d := by omega
        have := (period_tail s place hd hd2 h _ place start (Nat.le_refl _) (Nat.le_refl _) (by omega) h1 (by omega)).1
        have hm : (s.length - place) / 131 ≤ s.length / 131 := Nat.div_le_div_right (by omega)
        omega)
    (fun start place h1 h8 hlt h4 ih hp => by
      rcases Nat.lt_or_ge place d with hc | hc
      · rw [div_next s _ _ hlt (by omega) (by omega)]
        exact ih (by omega)
      · obtain rfl : place = d := by omega
        have := (period_tail s place hd hd2 h _ place start (Nat.le_refl _) (Nat.le_refl _) (by omega) h1 (by omega)).1
        have hm : (s.length - place) / 131 ≤ s.length / 131 := Nat.div_le_div_right (by omega)
        omega)
    _ 0 0 (Nat.le_refl _) (Nat.le_refl _) (Nat.zero_le _) (by omega) (Nat.zero_le _)
  simpa [enc] using key

end Go.Proofs.Ytnploljhikljfaa.Pk
