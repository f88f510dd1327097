/-
  Slices of strings that a walk owns; the proofs of trees as recursions without fuel.
-/
import Derived.Test.YtajfmhiejipaoaaDoorDrt
namespace Go.Proofs.YtajfmhiejipaoaaDoor
open Go.RowKit Bs

/-- strings as values -/
def sv (l : Strs) : List Value := l.map fun s => Value.string (bs s)
theorem sv_append (l m : Strs) : sv (l ++ m) = sv l ++ sv m := by simp [sv]
theorem sv_length (l : Strs) : (sv l).length = l.length := by simp [sv]
/-- the slice v holds the strings l, at or behind the block 'base', and nobody else writes there -/
structure OwnS (W : World) (base : Nat) (v : Value) (l : Strs) : Prop where
  row : W.ownsRow base 9 1 v l.length (sv l)
theorem OwnS.nil (W : World) (base : Nat) : OwnS W base (.slice none 0 0) [] := ⟨World.ownsRow_nil _ _ _ _⟩
theorem OwnS.is {W : World} {base : Nat} {v : Value} {l : Strs} (h : OwnS W base v l) : ∃ a c, v = .slice a l.length c ∧ IsL W a l.length c l ∧ (0 < l.length → ∃ g, a = some ⟨g, 0, none⟩ ∧ base ≤ g) := by
  rcases h.row.2 with ⟨rfl, h0⟩ | ⟨g, cap, cur, rfl, hb, hrow, h1, h2, h3, htake⟩
  · have : l = [] := List.length_eq_zero_iff.1 h0
    subst this
    exact ⟨none, 0, rfl, IsL.nil W none 0 (Nat.zero_le _), fun h => by simp at h⟩
  · refine ⟨_, cap, rfl, ⟨rfl, h1, h2, .inr ⟨g, 0, rfl, fun i hi => ?_⟩⟩, fun _ => ⟨g, rfl, hb⟩⟩
    rw [Nat.zero_add, cell_of_row W g i _ _ _ hrow, ← Array.getElem?_toList]
    have e1 : cur.toList[i]? = (cur.toList.take (l.length * 1))[i]? := by rw [List.getElem?_take, if_pos (by omega)]
    rw [e1, htake]
    simp [sv, List.getD_eq_getElem?_getD, hi]
theorem OwnS.block {W : World} {base : Nat} {v : Value} {l : Strs} (h : OwnS W base v l) (j : Nat) (hj : v.ownBlock = some j) : base ≤ j := by
  rcases h.row.2 with ⟨rfl, _⟩ | ⟨g, cap, cur, rfl, hb, _⟩
  · cases hj
  · cases hj; exact hb
theorem OwnS.lt {W : World} {base : Nat} {v : Value} {l : Strs} (h : OwnS W base v l) (j : Nat) (hj : v.ownBlock = some j) : j < W.heap.size := by
  rcases h.row.2 with ⟨rfl, _⟩ | ⟨g, cap, cur, rfl, _, hrow, _⟩
  · cases hj
  · cases hj; exact (Array.getElem?_eq_some_iff.1 hrow).1
theorem OwnS.alloc {W : World} {base : Nat} {v : Value} {l : Strs} (h : OwnS W base v l) (o : Obj) : OwnS (W.alloc o) base v l := ⟨h.row.alloc o⟩
theorem OwnS.drew {W : World} {base : Nat} {v : Value} {l : Strs} (h : OwnS W base v l) : OwnS W.drew base v l := ⟨h.row.1, h.row.2⟩
theorem OwnS.below {W W' : World} {base n : Nat} {v : Value} {l : Strs} (h : OwnS W base v l) (hb : Below n W W') (hn : ∀ j, v.ownBlock = some j → j < n) : OwnS W' base v l := by
  refine ⟨h.row.1, ?_⟩
  rcases h.row.2 with h0 | ⟨g, cap, cur, rfl, h1, h2, h3⟩
  · exact .inl h0
  · exact .inr ⟨g, cap, cur, rfl, h1, (hb.block g (hn g rfl)).trans h2, h3⟩
theorem OwnS.later {W W' : World} {base : Nat} {v : Value} {l : Strs} (h : OwnS W base v l) (hb : Below W.heap.size W W') : OwnS W' base v l := h.below hb h.lt
theorem OwnS.mono {W : World} {base base' : Nat} {v : Value} {l : Strs} (h : OwnS W base v l) (hb : base' ≤ base) : OwnS W base' v l := ⟨h.row.mono hb⟩
theorem Tryd.infoStr : (Tryd.prog.info? 9).map (fun i => (i.zero, i.size, i.bytes)) = some (some (.string ByteArray.empty), 1, 16) := by kernel_rfl
/-- one string more, among operations whose order is drawn -/
theorem step_pushS {w : World} {ops : Array Oper} {o : Oper} {a : Act} {K : Act → World → Prop} {Q : Exit → Act → World → Prop} {E : Prop} (hgd : o.guard = none) (s x : Operand)
    (ho : o.op = .call { callee := .builtin .append, args := #[s, x], argTypes := #[49, 49] })
    (base : Nat) (v : Value) (l : Strs) (hs : a.eval s = v) (hown : OwnS w base v l) (ad : Addr) (c : Nat) (y : List UInt8) (hx : a.eval x = .slice (some ad) 1 c)
    (hc : w.cell? (ad.add 0) = some (.string (bs y))) (hlen : l.length ≤ 2000000) (hbase : base ≤ w.heap.size)
    (h : ∀ v' w', OwnS w' base v' (l ++ [y]) → Below base w w' → K (a.put o.dst v') w') :
    if Region.wanted o (yielded ops a.tmps) = true then Oper.wp Tryd.prog o a w K Q else E := by
  obtain ⟨i0, hi, hz0, hz1, hz2⟩ := info_parts Tryd.infoStr
  have hw : Region.wanted o (yielded ops a.tmps) = true := by simp [Region.wanted, hgd]
  rw [if_pos hw]
  refine wp_append_own w s x 49 ho base 9 i0 (.string ByteArray.empty) 1 16 Tryd.underlying49 hi hz0 hz1 hz2 rfl (by omega) v l.length (sv l) hs hown.row ad 1 c [.string (bs y)] hx rfl ?_ ?_ ?_ ?_ hbase ?_
  · intro j u hj
    match j, hj with
    | 0, hj => simp at hj; subst hj; exact hc
  · intro u hu; simp at hu; subst hu; rfl
  · unfold maxLen; omega
  · omega
  · intro v' w' hown' hgrow _
    refine h v' w' ⟨?_⟩ ((Below.refl base w).grown hgrow hbase hown.block)
    rw [sv_append, List.length_append]
    exact hown'
/-- the same among plain operations -/
theorem wpList_pushS {w : World} {ops : Array Oper} {rest : List Oper} {o : Oper} {a : Act} {Q : Exit → Act → World → Prop} (hgd : o.guard = none) (s x : Operand)
    (ho : o.op = .call { callee := .builtin .append, args := #[s, x], argTypes := #[49, 49] })
    (base : Nat) (v : Value) (l : Strs) (hs : a.eval s = v) (hown : OwnS w base v l) (ad : Addr) (c : Nat) (y : List UInt8) (hx : a.eval x = .slice (some ad) 1 c)
    (hc : w.cell? (ad.add 0) = some (.string (bs y))) (hlen : l.length ≤ 2000000) (hbase : base ≤ w.heap.size)
    (h : ∀ v' w', OwnS w' base v' (l ++ [y]) → Below base w w' → wpList Tryd.prog ops Q rest (a.put o.dst v') w') : wpList Tryd.prog ops Q (o :: rest) a w := by
  obtain ⟨i0, hi, hz0, hz1, hz2⟩ := info_parts Tryd.infoStr
  refine wpList_append_own w hgd s x 49 ho base 9 i0 (.string ByteArray.empty) 1 16 Tryd.underlying49 hi hz0 hz1 hz2 rfl (by omega) v l.length (sv l) hs hown.row ad 1 c [.string (bs y)] hx rfl ?_ ?_ ?_ ?_ hbase ?_
  · intro j u hj
    match j, hj with
    | 0, hj => simp at hj; subst hj; exact hc
  · intro u hu; simp at hu; subst hu; rfl
  · unfold maxLen; omega
  · omega
  · intro v' w' hown' hgrow _
    refine h v' w' ⟨?_⟩ ((Below.refl base w).grown hgrow hbase hown.block)
    rw [sv_append, List.length_append]
    exact hown'

/-! proofs without fuel -/
theorem prfF_more (S : List UInt8 → List UInt8) (f g : Nat) (l : Strs) (i : Nat) (hf : l.length ≤ f) (hg : l.length ≤ g) : Tr.prfF S f l i = Tr.prfF S g l i := by
  induction f generalizing g l i with
  | zero => cases g with
    | zero => rfl
    | succ g => unfold Tr.prfF; rw [if_pos (by omega)]
  | succ f ih =>
    cases g with
    | zero => unfold Tr.prfF; rw [if_pos (by omega)]
    | succ g =>
      unfold Tr.prfF
      by_cases h1 : l.length ≤ 1
      · rw [if_pos h1, if_pos h1]
      · have hk := Tr.lft_spec (n := l.length) (by omega)
        rw [if_neg h1, if_neg h1, ih g (l.take (Tr.lft l.length)) i (by rw [List.length_take]; omega) (by rw [List.length_take]; omega),
          ih g (l.drop (Tr.lft l.length)) (i - Tr.lft l.length) (by rw [List.length_drop]; omega) (by rw [List.length_drop]; omega)]
theorem prf_one (l : Strs) (i : Nat) (h : l.length ≤ 1) : Tr.prf dig l i = [] := by
  unfold Tr.prf
  rw [prfF_more dig l.length (l.length + 1) l i (by omega) (by omega)]
  unfold Tr.prfF; rw [if_pos h]
theorem prf_more (l : Strs) (i : Nat) (h : 2 ≤ l.length) : Tr.prf dig l i = if i < Tr.lft l.length then Tr.root dig (l.drop (Tr.lft l.length)) :: Tr.prf dig (l.take (Tr.lft l.length)) i else Tr.root dig (l.take (Tr.lft l.length)) :: Tr.prf dig (l.drop (Tr.lft l.length)) (i - Tr.lft l.length) := by
  have hk := Tr.lft_spec h
  unfold Tr.prf
  rw [prfF_more dig l.length (l.length + 1) l i (by omega) (by omega)]
  conv => lhs; unfold Tr.prfF
  rw [if_neg (by omega), prfF_more dig l.length (l.take (Tr.lft l.length)).length (l.take (Tr.lft l.length)) i (by rw [List.length_take]; omega) (Nat.le_refl _),
    prfF_more dig l.length (l.drop (Tr.lft l.length)).length (l.drop (Tr.lft l.length)) (i - Tr.lft l.length) (by rw [List.length_drop]; omega) (Nat.le_refl _)]
theorem partF_more (S : List UInt8 → List UInt8) (f g : Nat) (l : Strs) (m : Nat) (b : Bool) (h1 : 1 ≤ m) (hm : m ≤ l.length) (hf : l.length ≤ f) (hg : l.length ≤ g) : Tr.partF S f l m b = Tr.partF S g l m b := by
  induction f generalizing g l m b with
  | zero => omega
  | succ f ih =>
    cases g with
    | zero => omega
    | succ g =>
      unfold Tr.partF
      by_cases hc : m = l.length
      · rw [if_pos hc, if_pos hc]
      · have hk := Tr.lft_spec (n := l.length) (by omega)
        rw [if_neg hc, if_neg hc]
        by_cases hmk : m ≤ Tr.lft l.length
        · rw [if_pos hmk, if_pos hmk, ih g (l.take (Tr.lft l.length)) m b h1 (by rw [List.length_take]; omega) (by rw [List.length_take]; omega) (by rw [List.length_take]; omega)]
        · rw [if_neg hmk, if_neg hmk, ih g (l.drop (Tr.lft l.length)) (m - Tr.lft l.length) false (by omega) (by rw [List.length_drop]; omega) (by rw [List.length_drop]; omega) (by rw [List.length_drop]; omega)]
/-- the proof of a beginning, its last element first -/
def prt (l : Strs) (m : Nat) (b : Bool) : Strs := Tr.partF dig l.length l m b
theorem prt_all (l : Strs) (m : Nat) (b : Bool) (h1 : 1 ≤ m) (h : m = l.length) : prt l m b = if b then [] else [Tr.root dig l] := by
  unfold prt
  rw [partF_more dig l.length (l.length + 1) l m b h1 (by omega) (by omega) (by omega)]
  unfold Tr.partF; rw [if_pos h]
theorem prt_more (l : Strs) (m : Nat) (b : Bool) (h1 : 1 ≤ m) (h : m < l.length) : prt l m b = if m ≤ Tr.lft l.length then Tr.root dig (l.drop (Tr.lft l.length)) :: prt (l.take (Tr.lft l.length)) m b else Tr.root dig (l.take (Tr.lft l.length)) :: prt (l.drop (Tr.lft l.length)) (m - Tr.lft l.length) false := by
  have hk := Tr.lft_spec (n := l.length) (by omega)
  unfold prt
  rw [partF_more dig l.length (l.length + 1) l m b h1 (by omega) (by omega) (by omega)]
  conv => lhs; unfold Tr.partF
  rw [if_neg (by omega)]
  by_cases hmk : m ≤ Tr.lft l.length
  · rw [if_pos hmk, if_pos hmk, partF_more dig l.length (l.take (Tr.lft l.length)).length (l.take (Tr.lft l.length)) m b h1 (by rw [List.length_take]; omega) (by rw [List.length_take]; omega) (Nat.le_refl _)]
  · rw [if_neg hmk, if_neg hmk, partF_more dig l.length (l.drop (Tr.lft l.length)).length (l.drop (Tr.lft l.length)) (m - Tr.lft l.length) false (by omega) (by rw [List.length_drop]; omega) (by rw [List.length_drop]; omega) (Nat.le_refl _)]

end Go.Proofs.YtajfmhiejipaoaaDoor
