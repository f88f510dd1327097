/-
  The reference implementation of layer 2: a block of SHA-256.
-/
import Derived.Test.YtagcpjokajcdiaaDoorRsh
import Derived.Test.YtagcpjokajcdiaaDoorRap
namespace Go.Proofs.YtagcpjokajcdiaaDoor
open Go.RowKit Bs

theorem at_lt {n : Nat} (l : List Nat) (i : Nat) (h : ∀ x ∈ l, x < n) (hn : 0 < n := by omega) : Sha.at_ l i < n := by
  unfold Sha.at_
  rw [List.getD_eq_getElem?_getD]
  rcases Nat.lt_or_ge i l.length with hi | hi
  · rw [List.getElem?_eq_getElem hi]; exact h _ (List.getElem_mem _)
  · rw [List.getElem?_eq_none hi]; exact hn

theorem grow_snoc (w : List Nat) (j : Nat) : Sha.grow (j + 1) w = Sha.grow j w ++ [Sha.next (Sha.grow j w) (Sha.grow j w).length] := by
  induction j generalizing w with
  | zero => rfl
  | succ j ih => rw [Sha.grow, ih]; rfl
theorem next_lt (w : List Nat) (i : Nat) : Sha.next w i < 4294967296 := Nat.mod_lt _ (by decide)
theorem grow_lt (w : List Nat) (j : Nat) (h : ∀ x ∈ w, x < 4294967296) : ∀ x ∈ Sha.grow j w, x < 4294967296 := by
  induction j generalizing w with
  | zero => exact h
  | succ j ih =>
    refine ih _ fun x hx => ?_
    rcases List.mem_append.1 hx with hx | hx
    · exact h x hx
    · simp only [List.mem_singleton] at hx; subst hx; exact next_lt _ _
theorem words_lt (b : List Nat) (hb : ∀ x ∈ b, x < 256) : ∀ x ∈ Sha.words b, x < 4294967296 := by
  intro x hx
  simp only [Sha.words, List.mem_map] at hx
  obtain ⟨i, _, rfl⟩ := hx
  have h0 := at_lt b (4 * i) hb
  have h1 := at_lt b (4 * i + 1) hb
  have h2 := at_lt b (4 * i + 2) hb
  have h3 := at_lt b (4 * i + 3) hb
  unfold Sha.word; omega
theorem rnds_lt (w h : List Nat) (n : Nat) (hh : ∀ x ∈ h, x < 4294967296) : ∀ x ∈ Sha.rnds w h n, x < 4294967296 := by
  induction n with
  | zero => exact hh
  | succ n ih =>
    intro x hx
    have hg := fun i => at_lt (Sha.rnds w h n) i ih
    simp only [Sha.rnds, Sha.rnd, List.mem_cons, List.not_mem_nil, or_false] at hx
    rcases hx with rfl | rfl | rfl | rfl | rfl | rfl | rfl | rfl <;> first | exact hg _ | exact Nat.mod_lt _ (by decide)
theorem grow_length (w : List Nat) (j : Nat) : (Sha.grow j w).length = w.length + j := by
  induction j generalizing w with
  | zero => rfl
  | succ j ih => rw [Sha.grow, ih]; simp; omega

end Go.Proofs.YtagcpjokajcdiaaDoor
