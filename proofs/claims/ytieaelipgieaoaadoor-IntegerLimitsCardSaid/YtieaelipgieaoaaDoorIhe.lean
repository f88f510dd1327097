/-
  Layer 3: integers' quotients from those of their sizes.
-/
import Derived.Test.YtieaelipgieaoaaDoorIhb
namespace Go.Proofs.YtieaelipgieaoaaDoor
open Go.RowKit Bs Ig

theorem ediv_pos_a (p q : Nat) (hq : 0 < q) : (p : Int) / (q : Int) = ((p / q : Nat) : Int) ∧ (p : Int) % (q : Int) = ((p % q : Nat) : Int) := ⟨rfl, rfl⟩
theorem ediv_neg_a (p q : Nat) (hq : 0 < q) (h : p % q = 0) : (-(p : Int)) / (q : Int) = -((p / q : Nat) : Int) ∧ (-(p : Int)) % (q : Int) = ((p % q : Nat) : Int) := by
  refine (Int.ediv_emod_unique (by omega)).2 ⟨?_, by omega, by rw [h]; omega⟩
  have h1 := Nat.div_add_mod p q
  rw [h] at h1 ⊢
  have h2 : (q : Int) * ((p / q : Nat) : Int) = (p : Int) := by exact_mod_cast h1
  rw [Int.mul_neg, h2]
  simp
theorem ediv_neg_b (p q : Nat) (hq : 0 < q) (h : 0 < p % q) : (-(p : Int)) / (q : Int) = -((p / q + 1 : Nat) : Int) ∧ (-(p : Int)) % (q : Int) = ((q - p % q : Nat) : Int) := by
  have hlt := Nat.mod_lt p hq
  refine (Int.ediv_emod_unique (by omega)).2 ⟨?_, by omega, by omega⟩
  have h1 := Nat.div_add_mod p q
  have h2 : (q : Int) * ((p / q : Nat) : Int) + ((p % q : Nat) : Int) = (p : Int) := by exact_mod_cast h1
  rw [Int.mul_neg, show ((p / q + 1 : Nat) : Int) = ((p / q : Nat) : Int) + 1 by omega, Int.mul_add, Int.mul_one]
  omega

theorem ediv_sign (x y : Int) (hy : y ≠ 0) (Q R : Nat)
    (h : (decide (x < 0) = false ∨ x.natAbs % y.natAbs = 0) ∧ Q = x.natAbs / y.natAbs ∧ R = x.natAbs % y.natAbs ∨ (decide (x < 0) = true ∧ 0 < x.natAbs % y.natAbs) ∧ Q = x.natAbs / y.natAbs + 1 ∧ R = y.natAbs - x.natAbs % y.natAbs) :
    x / y = (if (decide (x < 0) != decide (y < 0)) = true then -(Q : Int) else (Q : Int)) ∧ x % y = (R : Int) := by
  have d0 : ∀ n : Nat, decide ((n : Int) < 0) = false := fun n => by simp
  have d1 : ∀ n : Nat, 0 < n → decide (-(n : Int) < 0) = true := fun n h => by simp; omega
  rcases int_cases x with ⟨p, rfl⟩ | ⟨p, hp, rfl⟩ <;> rcases int_cases y with ⟨q, rfl⟩ | ⟨q, hq, rfl⟩
  · have hq : 0 < q := by omega
    rw [d0] at h ⊢
    rw [d0]
    rw [Int.natAbs_natCast, Int.natAbs_natCast] at h
    rcases h with ⟨_, rfl, rfl⟩ | ⟨⟨h, _⟩, _⟩
    · exact ediv_pos_a p q hq
    · cases h
  · rw [d0] at h ⊢
    rw [d1 q hq]
    rw [Int.natAbs_natCast, Int.natAbs_neg, Int.natAbs_natCast] at h
    rw [Int.ediv_neg, Int.emod_neg]
    rcases h with ⟨_, rfl, rfl⟩ | ⟨⟨h, _⟩, _⟩
    · obtain ⟨h1, h2⟩ := ediv_pos_a p q hq
      rw [h1, h2]
      exact ⟨rfl, rfl⟩
    · cases h
  · have hq : 0 < q := by omega
    rw [d1 p hp] at h ⊢
    rw [d0]
    rw [Int.natAbs_natCast, Int.natAbs_neg, Int.natAbs_natCast] at h
    rcases h with ⟨h | h, rfl, rfl⟩ | ⟨⟨_, h⟩, rfl, rfl⟩
    · cases h
    · exact ediv_neg_a p q hq h
    · exact ediv_neg_b p q hq h
  · rw [d1 p hp] at h ⊢
    rw [d1 q hq]
    rw [Int.natAbs_neg, Int.natAbs_neg, Int.natAbs_natCast, Int.natAbs_natCast] at h
    rw [Int.ediv_neg, Int.emod_neg]
    rcases h with ⟨h | h, rfl, rfl⟩ | ⟨⟨_, h⟩, rfl, rfl⟩
    · cases h
    · obtain ⟨h1, h2⟩ := ediv_neg_a p q hq h
      rw [h1, h2, Int.neg_neg]
      exact ⟨rfl, rfl⟩
    · obtain ⟨h1, h2⟩ := ediv_neg_b p q hq h
      rw [h1, h2, Int.neg_neg]
      exact ⟨rfl, rfl⟩

theorem results_two_rows {P : Program} {fn : Func} {p q : Tmp} {ty : TypeId} (h : fn.results = #[.cell p ty, .cell q ty]) (tmps : Array Value) (w : World) (g k : Nat) (t t' : TypeId) (cs ds : Array Value) (fr fr' : Nat × Nat) (d : TypeDesc)
    (hp : tmps.getD p undef = .pointer (some ⟨g, 0, none⟩)) (hq : tmps.getD q undef = .pointer (some ⟨k, 0, none⟩)) (hg : w.heap[g]? = some (.cells cs t fr)) (hk : w.heap[k]? = some (.cells ds t' fr'))
    (hu : P.underlying ty = some d) (hd : (match d with | .struct _ | .array _ _ => true | _ => false) = true) (hi : (P.info? ty).map (·.size) = some cs.size) (hj : (P.info? ty).map (·.size) = some ds.size) :
    (results fn tmps).run P w = .ok (.tuple #[.agg cs, .agg ds]) w := by
  have hp' : tmps[p]?.getD undef = .pointer (some ⟨g, 0, none⟩) := by simpa using hp
  have hq' : tmps[q]?.getD undef = .pointer (some ⟨k, 0, none⟩) := by simpa using hq
  simp [results, h, hp', hq', asAddr, Sem.run_bind, Result.andThen, run_loadVar_row w g t ty cs fr d hg hu hd hi, run_loadVar_row w k t' ty ds fr' d hk hu hd hj]

/-- four boxes -/
structure Bw (w W : World) (bx : Bool) (a : Option Addr) (n c : Nat) (bz : Bool) (b : Option Addr) (k d : Nat) : Prop where
  bx : Bx w W bx a n c bz b k d
  r3 : ∃ b0 s m e, W.heap[w.heap.size + 1 + 1 + 1]? = some (.cells #[.bool b0, .slice s m e] 51 (0, 0))
theorem Bw.start (w : World) (bx : Bool) (a : Option Addr) (n c : Nat) (bz : Bool) (b : Option Addr) (k d : Nat) :
    Bw w ((((w.alloc (.cells #[.bool bx, .slice a n c] 51)).alloc (.cells #[.bool bz, .slice b k d] 51)).alloc (.cells #[.bool false, .slice none 0 0] 51)).alloc (.cells #[.bool false, .slice none 0 0] 51)) bx a n c bz b k d := by
  refine ⟨(Bx.start w bx a n c bz b k d).later ((Below.refl _ _).alloc (Nat.le_refl _) _), false, none, 0, 0, ?_⟩
  have := heap_alloc_new (((w.alloc (.cells #[.bool bx, .slice a n c] 51)).alloc (.cells #[.bool bz, .slice b k d] 51)).alloc (.cells #[.bool false, .slice none 0 0] 51)) (.cells #[.bool false, .slice none 0 0] 51)
  simp only [World.size_alloc] at this
  exact this
theorem Bw.later {w W W' : World} {bx bz : Bool} {a b : Option Addr} {n c k d : Nat} (h : Bw w W bx a n c bz b k d) (hb : Below W.heap.size W W') : Bw w W' bx a n c bz b k d := by
  obtain ⟨b0, s, m, e, h2⟩ := h.r3
  exact ⟨h.bx.later hb, b0, s, m, e, (hb.block _ (Array.getElem?_eq_some_iff.1 h2).1).trans h2⟩

end Go.Proofs.YtieaelipgieaoaaDoor
