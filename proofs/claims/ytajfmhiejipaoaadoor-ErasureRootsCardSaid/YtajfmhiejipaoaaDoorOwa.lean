/-
  Slices of strings that a walk owns: all strings of another one added.
-/
import Derived.Test.YtajfmhiejipaoaaDoorOws
import Derived.Laws.OwnMore
namespace Go.Proofs.YtajfmhiejipaoaaDoor
open Go.RowKit Bs

theorem wp_pushAllS {w : World} {o : Oper} {a : Act} {K : Act → World → Prop} {Q : Exit → Act → World → Prop} (s x : Operand)
    (ho : o.op = .call { callee := .builtin .append, args := #[s, x], argTypes := #[49, 49] })
    (base : Nat) (v : Value) (l : Strs) (hs : a.eval s = v) (hown : OwnS w base v l) (base2 : Nat) (u : Value) (l2 : Strs) (hx : a.eval x = u) (hu : OwnS w base2 u l2)
    (hlen : l.length + l2.length ≤ 2000000) (hbase : base ≤ w.heap.size)
    (h : ∀ v' w', OwnS w' base v' (l ++ l2) → Below base w w' → K (a.put o.dst v') w') : o.wp Tryd.prog a w K Q := by
  obtain ⟨i0, hi, hz0, hz1, hz2⟩ := info_parts Tryd.infoStr
  rcases hu.row.2 with ⟨rfl, h0⟩ | ⟨g, cap, cur, rfl, hb, hrow, h1, h2, h3, htake⟩
  · have : l2 = [] := List.length_eq_zero_iff.1 h0
    subst this
    have hrun := run_append_owned_none (P := Tryd.prog) (w := w) base 49 o.type 9 i0 1 Tryd.underlying49 hi v l.length (sv l) hown.row
    unfold Oper.wp
    simp [execOp, ho, resolve, invoke, builtin, hs, hx, hrun, Result.andThen]
    exact h v w (by rw [List.append_nil]; exact hown) (Below.refl _ _)
  · refine wp_append_own w s x 49 ho base 9 i0 (.string ByteArray.empty) 1 16 Tryd.underlying49 hi hz0 hz1 hz2 rfl (by omega) v l.length (sv l) hs hown.row ⟨g, 0, none⟩ l2.length cap (sv l2) hx (by rw [sv_length]; omega) ?_ ?_ ?_ ?_ hbase ?_
    · exact hu.row.cells (g := g) rfl
    · intro y hy
      simp only [sv, List.mem_map] at hy
      obtain ⟨z, _, rfl⟩ := hy
      rfl
    · unfold maxLen; omega
    · omega
    · intro v' w' hown' hgrow _
      refine h v' w' ⟨?_⟩ ((Below.refl base w).grown hgrow hbase hown.block)
      rw [sv_append, List.length_append]
      exact hown'
theorem step_pushAllS {w : World} {ops : Array Oper} {o : Oper} {a : Act} {K : Act → World → Prop} {Q : Exit → Act → World → Prop} {E : Prop} (hgd : o.guard = none) (s x : Operand)
    (ho : o.op = .call { callee := .builtin .append, args := #[s, x], argTypes := #[49, 49] })
    (base : Nat) (v : Value) (l : Strs) (hs : a.eval s = v) (hown : OwnS w base v l) (base2 : Nat) (u : Value) (l2 : Strs) (hx : a.eval x = u) (hu : OwnS w base2 u l2)
    (hlen : l.length + l2.length ≤ 2000000) (hbase : base ≤ w.heap.size)
    (h : ∀ v' w', OwnS w' base v' (l ++ l2) → Below base w w' → K (a.put o.dst v') w') :
    if Region.wanted o (yielded ops a.tmps) = true then Oper.wp Tryd.prog o a w K Q else E := by
  have hw : Region.wanted o (yielded ops a.tmps) = true := by simp [Region.wanted, hgd]
  rw [if_pos hw]
  exact wp_pushAllS s x ho base v l hs hown base2 u l2 hx hu hlen hbase h
theorem wpList_pushAllS {w : World} {ops : Array Oper} {rest : List Oper} {o : Oper} {a : Act} {Q : Exit → Act → World → Prop} (hgd : o.guard = none) (s x : Operand)
    (ho : o.op = .call { callee := .builtin .append, args := #[s, x], argTypes := #[49, 49] })
    (base : Nat) (v : Value) (l : Strs) (hs : a.eval s = v) (hown : OwnS w base v l) (base2 : Nat) (u : Value) (l2 : Strs) (hx : a.eval x = u) (hu : OwnS w base2 u l2)
    (hlen : l.length + l2.length ≤ 2000000) (hbase : base ≤ w.heap.size)
    (h : ∀ v' w', OwnS w' base v' (l ++ l2) → Below base w w' → wpList Tryd.prog ops Q rest (a.put o.dst v') w') : wpList Tryd.prog ops Q (o :: rest) a w := by
  refine wpList_plain hgd fun K hK => ?_
  exact wp_pushAllS s x ho base v l hs hown base2 u l2 hx hu hlen hbase fun v' w' h1 h2 => hK _ _ (h v' w' h1 h2)
/-- an empty slice of its own -/
theorem OwnS.none0 (W : World) (base : Nat) (hb : base ≤ W.heap.size) : OwnS (W.alloc (.cells #[] 9)) base (.slice (some ⟨W.heap.size, 0, none⟩) 0 0) [] :=
  ⟨World.ownsRow_lit W #[] 0 hb (by unfold maxLen; omega) rfl⟩

end Go.Proofs.YtajfmhiejipaoaaDoor
