/-
  Mathematics of layer 7: what a run of the encoding is. Nothing of this program stands here.
-/
import Derived.Test.YtnploljhikljfaaPmb
namespace Go.Proofs.Ytnploljhikljfaa.Pk

theorem greedy_run (s : List Nat) (p : Nat) (hp : p < s.length) (hb : (best s p).1 < 4) : ∃ m, 1 ≤ m ∧ m ≤ 128 ∧ p + m ≤ s.length ∧ div s p p = .run p m :: div s (p + m) (p + m) ∧
    (∀ j, p ≤ j → j < p + m → (best s j).1 < 4) ∧ (m = 128 ∨ p + m = s.length ∨ 4 ≤ (best s (p + m)).1) := by
  have key := div_ind s (fun start place => (∀ j, start ≤ j → j < place → (best s j).1 < 4) → (start < place ∨ (place < s.length ∧ (best s place).1 < 4)) →
      ∃ m, 1 ≤ m ∧ m ≤ 128 ∧ start + m ≤ s.length ∧ div s start place = .run start m :: div s (start + m) (start + m) ∧
    (∀ j, start ≤ j → j < start + m → (best s j).1 < 4) ∧ (m = 128 ∨ start + m = s.length ∨ 4 ≤ (best s (start + m)).1))
    (fun start place h1 h2 h3 hj hc => by
      have hlt : start < place := by omega
      refine ⟨place - start, by omega, by omega, by omega, ?_, fun j g1 g2 => hj j g1 (by omega), .inr (.inl (by omega))⟩
      rw [div_end s _ _ (by omega), if_pos hlt, show start + (place - start) = s.length by omega, div_end s _ _ (by omega), if_neg (by omega)])
    (fun start place h1 h3 hlt h4 hr _ hj hc => by
      have hsp : start < place := by omega
      refine ⟨place - start, by omega, by omega, by omega, ?_, fun j g1 g2 => hj j g1 (by omega), .inr (.inr (by rw [show start + (place - start) = place by omega]; exact h4))⟩
      rw [div_copy s _ _ hlt h4, if_pos hsp, show start + (place - start) = place by omega, div_copy s place place hlt h4, if_neg (by omega)]
      rfl)
    (fun start place h1 hlt h4 h8 _ hj hc => by
      refine ⟨128, by omega, by omega, by omega, ?_, fun j g1 g2 => ?_, .inl rfl⟩
      · rw [div_full s _ _ hlt (by omega) h8, show start + 128 = place + 1 by omega]
      · rcases Nat.lt_or_ge j place with h | h
        · exact hj j g1 h
        · obtain rfl : j = place := by omega
          exact h4)
    (fun start place h1 h8 hlt h4 ih hj hc => by
      obtain ⟨m, m1, m2, m3, m4, m5, m6⟩ := ih (fun j g1 g2 => by
        rcases Nat.lt_or_ge j place with h | h
        · exact hj j g1 h
        · obtain rfl : j = place := by omega
          exact h4) (.inl (by omega))
      exact ⟨m, m1, m2, m3, by rw [div_next s _ _ hlt (by omega) (by omega)]; exact m4, m5, m6⟩)
    _ p p (Nat.le_refl _) (Nat.le_refl _) (by omega) (by omega)
  exact key (fun j g1 g2 => by omega) (.inr ⟨hp, hb⟩)
theorem mat_best (s : List Nat) (p d : Nat) (h1 : 1 ≤ d) (h2 : d ≤ p) (h3 : d ≤ 255) : mat s p d 131 ≤ (best s p).1 := bst_ge s p _ d h1 (by omega)
theorem mat_near (s : List Nat) (p d : Nat) (h1 : 1 ≤ d) (h2 : d < (best s p).2) : mat s p d 131 < (best s p).1 := bst_gt s p _ d h1 h2

end Go.Proofs.Ytnploljhikljfaa.Pk
