/-
  Layer 7: mathematics of the reference's Encode; a store into an own slice.
-/
import Derived.Test.YtnploljhikljfaaPwi
import Derived.Laws.OwnMore
namespace Go.Proofs.Ytnploljhikljfaa.Pk

/-- the reference's state: cur is done up to ps; the last run has r bytes, its mark lies at st -/
def Rd (L : List Nat) (ps r st : Nat) (cur : List Nat) : Prop :=
  ((r = 0 ∨ r = 128) ∧ cur ++ spells L (div L ps ps) = enc L) ∨
  (0 < r ∧ r < 128 ∧ r ≤ ps ∧ ∃ done, cur = done ++ (r - 1) :: (L.drop (ps - r)).take r ∧ done.length = st ∧ done ++ spells L (div L (ps - r) ps) = enc L)

theorem Rd.start (L : List Nat) : Rd L 0 0 0 [] := .inl ⟨.inl rfl, rfl⟩
theorem Rd.copy {L : List Nat} {ps r st : Nat} {cur : List Nat} (h : Rd L ps r st cur) (hp : ps < L.length) (h4 : 4 ≤ (best L ps).1) :
    Rd L (ps + (best L ps).1) 0 st (cur ++ [124 + (best L ps).1, (best L ps).2]) := by
  refine .inl ⟨.inl rfl, ?_⟩
  rcases h with ⟨_, h⟩ | ⟨h0, h1, h2, done, rfl, _, h⟩
  · rw [div_copy L _ _ hp h4, if_neg (by omega), List.nil_append, spells_cons] at h
    rw [List.append_assoc]; exact h
  · rw [div_copy L _ _ hp h4, if_pos (by omega), spells_append, spells_cons, show ps - (ps - r) = r by omega] at h
    rw [← h]; simp [spells, spell]
theorem take_one (L : List Nat) (ps : Nat) (hp : ps < L.length) : (L.drop ps).take 1 = [L.getD ps 0] := by
  rw [List.getD_eq_getElem?_getD, List.getElem?_eq_getElem hp, List.drop_eq_getElem_cons hp]; rfl
theorem Rd.fresh {L : List Nat} {ps r st : Nat} {cur : List Nat} (h : Rd L ps r st cur) (hr : r = 0 ∨ r = 128) (hp : ps < L.length) (h4 : ¬ 4 ≤ (best L ps).1) :
    Rd L (ps + 1) 1 cur.length ((cur ++ [0] ++ [L.getD ps 0]).set cur.length 0) := by
  rcases h with ⟨_, h⟩ | ⟨h0, h1, h2, done, rfl, _, h⟩
  · refine .inr ⟨by omega, by omega, by omega, cur, ?_, rfl, ?_⟩
    · rw [show ps + 1 - 1 = ps by omega, take_one L ps hp, List.append_assoc, List.set_append_right _ _ (Nat.le_refl _), Nat.sub_self]; rfl
    · rw [show ps + 1 - 1 = ps by omega, ← div_next L ps ps hp h4 (by omega)]; exact h
  · omega
theorem Rd.at {L : List Nat} {ps r st : Nat} {cur : List Nat} (h : Rd L ps r st cur) (h0 : 0 < r) (h1 : r < 128) : st < cur.length := by
  rcases h with ⟨h2, _⟩ | ⟨_, _, _, done, rfl, rfl, _⟩
  · omega
  · simp
theorem Rd.more {L : List Nat} {ps r st : Nat} {cur : List Nat} (h : Rd L ps r st cur) (h0 : 0 < r) (h1 : r < 128) (hp : ps < L.length) (h4 : ¬ 4 ≤ (best L ps).1) :
    Rd L (ps + 1) (r + 1) st ((cur ++ [L.getD ps 0]).set st r) := by
  rcases h with ⟨h2, _⟩ | ⟨_, _, h3, done, rfl, rfl, h⟩
  · omega
  have e : ((done ++ (r - 1) :: (L.drop (ps - r)).take r) ++ [L.getD ps 0]).set done.length r = done ++ r :: (L.drop (ps - r)).take (r + 1) := by
    rw [List.append_assoc, List.set_append_right _ _ (Nat.le_refl _), Nat.sub_self, List.cons_append, List.set_cons_zero]
    congr 2
    have hl : r < (L.drop (ps - r)).length := by rw [List.length_drop]; omega
    rw [List.take_succ_eq_append_getElem hl, List.getElem_drop]
    congr 2
    rw [List.getD_eq_getElem?_getD]
    simp only [show ps - r + r = ps by omega, List.getElem?_eq_getElem hp, Option.getD_some]
  rw [e]
  by_cases h8 : r + 1 = 128
  · refine .inl ⟨.inr h8, ?_⟩
    rw [div_full L _ _ hp h4 (by omega), spells_cons] at h
    rw [← h, List.append_assoc]
    simp only [spell, h8, show 128 - 1 = r by omega]
  · refine .inr ⟨by omega, by omega, by omega, done, ?_, rfl, ?_⟩
    · rw [show ps + 1 - (r + 1) = ps - r by omega, show r + 1 - 1 = r by omega]
    · rw [show ps + 1 - (r + 1) = ps - r by omega, ← div_next L _ _ hp h4 (by omega)]; exact h
theorem Rd.done {L : List Nat} {ps r st : Nat} {cur : List Nat} (h : Rd L ps r st cur) (hp : ps = L.length) : cur = enc L := by
  subst hp
  rcases h with ⟨_, h⟩ | ⟨h0, h1, h2, done, rfl, _, h⟩
  · rw [div_end L _ _ (by omega), if_neg (by omega)] at h
    simpa [spells] using h
  · rw [div_end L _ _ (by omega), if_pos (by omega), show L.length - (L.length - r) = r by omega] at h
    rw [← h]; simp [spells, spell]

end Go.Proofs.Ytnploljhikljfaa.Pk
namespace Go.Proofs.Ytnploljhikljfaa
open Go.RowKit Bs Pk
theorem own_set {W : World} {base g n cap : Nat} {t : TypeId} {k : IntKind} {l : List Nat} (h : Bs.Own W base t k (.slice (some ⟨g, 0, none⟩) n cap) l) (hn : l.length = n) (i : Nat) (Y : Int) (y : Nat) (hY : Y = y) :
    Bs.Own (W.setCell ⟨g, i, none⟩ (.int k Y)) base t k (.slice (some ⟨g, 0, none⟩) n cap) (l.set i y) := by
  subst hY hn
  refine ⟨?_⟩
  rw [List.length_set, show iv k (l.set i y) = (iv k l).set i (.int k (y : Int)) by simp [iv, List.map_set]]
  exact (h.row.stored i _).1
theorem own_free {W : World} {base g n cap : Nat} {t : TypeId} {k : IntKind} {l : List Nat} (h : Bs.Own W base t k (.slice (some ⟨g, 0, none⟩) n cap) l) (hn : l.length = n) (i : Nat) : W.frozen? ⟨g, i, none⟩ = false := by
  subst hn
  exact h.row.frozenAt i
end Go.Proofs.Ytnploljhikljfaa
