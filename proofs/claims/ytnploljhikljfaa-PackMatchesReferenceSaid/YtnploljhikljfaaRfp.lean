/-
  A range over a function: a law for the caller whose own invariant says what the iterator needs of memory; the iterator may make memory between two rounds. Nothing of this program stands here.
-/
import Derived.RangeFuncNested
import Derived.RangeFuncBound
import Derived.RangeFuncCalls
import Derived.RangeFuncLeaves
import Derived.RangeFuncFrom
import Derived.Below
namespace Go.Proofs.Ytnploljhikljfaa.Rfp
open Go.RowKit
variable {F : Fence} {n : Nat} {P : Program}

/-- two worlds that are alike but for block l -/
structure But (l : Nat) (A C : World) : Prop where
  os : C.os = A.os
  tape : C.tape = A.tape
  output : C.output = A.output
  size : C.heap.size = A.heap.size
  block : ∀ k, k ≠ l → C.heap[k]? = A.heap[k]?
theorem But.below {l B : Nat} {A C : World} (h : But l A C) (hB : B ≤ l) : Below B A C :=
  ⟨h.os, h.tape, h.output, Nat.le_of_eq h.size.symm, fun k hk => h.block k (by omega)⟩
theorem putObj_but (W : World) (l : Nat) (o : Obj) : But l W (W.putObj l o) :=
  ⟨rfl, rfl, rfl, by simp [World.putObj], fun _ hk => World.putObj_heap_other hk⟩

/-- every row of cells lies as it lay -/
structure CellsKept (A C : World) : Prop where
  same : ∀ (i : Nat) (o : Obj), A.heap[i]? = some o → o.isCells = true → C.heap[i]? = some o
theorem But.kept {l : Nat} {A C : World} (h : But l A C) {o : Obj} (hl : A.heap[l]? = some o) (ho : o.isCells = false) : CellsKept A C :=
  ⟨fun i o' hi hc => by
    by_cases e : i = l
    · subst e; rw [hl] at hi; cases hi; rw [ho] at hc; cases hc
    · exact (h.block i e).trans hi⟩
theorem CellsKept.of_below {A C : World} (h : Below A.heap.size A C) : CellsKept A C := ⟨fun i _ hi _ => (h.block i (Array.getElem?_eq_some_iff.1 hi).1).trans hi⟩
theorem CellsKept.cell {A C : World} (h : CellsKept A C) {p : Addr} {v : Value} (hp : A.cell? p = some v) : C.cell? p = some v := by
  unfold World.cell? at hp ⊢
  cases hr : A.heap[p.block]? with
  | none => rw [hr] at hp; cases hp
  | some o =>
    rw [hr] at hp
    cases o with
    | cells c t f => rw [h.same _ _ hr rfl]; exact hp
    | _ => cases hp
/-- the iterator g hands over just xs, one after the other, as long as what it needs lies there between two rounds -/
def Yields {α : Type} (F : Fence) (n : Nat) (P : Program) (g : Nat) (lb : Array Value) (encs : α → Array Value) (Need : World → Prop) (xs : List α) (w : World) : Prop :=
  ∀ (l : Nat) (J Jx : Nat → World → Prop) (W : World), Below w.heap.size w W →
    (∀ k W1, J k W1 → Need W1) → (∀ k A C, J k A → Below A.heap.size A C → J k C) →
    (∀ k (hk : k < xs.length) W1, J k W1 → YieldAt F (n - 1) P l (encs xs[k]) W1 fun e W' =>
      (e = .returned (.bool true) ∧ J (k + 1) W') ∨ (e = .returned (.bool false) ∧ Jx k W')) →
    J 0 W →
    CallsIn F n P g (#[.func (.yield l) #[] #[]] ++ lb) W fun e W' => (∃ v, e = .returned v) ∧ (J xs.length W' ∨ ∃ k, Jx k W')

/-- how a round's body may be left -/
def roundEnd (I : Nat → World → Prop) (Ix : Code → Nat → World → Prop) (k : Nat) (W : World) : Exit → Act → World → Prop
  | .normal, _, W' => KeepsOthers W W' ∧ I (k + 1) W'
  | .ret, _, W' => KeepsOthers W W' ∧ Ix .ret k W'
  | .exit id, _, W' => KeepsOthers W W' ∧ Ix (.exit id) k W'
  | .goto t, _, W' => KeepsOthers W W' ∧ Ix (.goto t) k W'
  | .panic _, _, _ => False
  | .outgrown, _, _ => False

theorem wpIn_rangeFunc_need {α : Type} {g : Operand} {ps : Array Tmp} {assign body : Code} {Q : Exit → Act → World → Prop} {a : Act} {w : World}
    (hro : F.round = none) (h1 : 1 ≤ n) {gf : Nat} {lb : Array Value} (hg : a.eval g = .func (.func gf) #[] lb) (hFg : F.fn gf) (eg : ∀ args w, (callFunc gf args).run P w = .ok (.enter gf args) w)
    {encs : α → Array Value} {Need : World → Prop} {xs : List α} {w0 : World} (hseq : Yields F (n - 1) P gf lb encs Need xs w0) (hb0 : Below w0.heap.size w0 w) (hps : ∀ x, (encs x).size = ps.size)
    (I : Nat → World → Prop) (Ix : Code → Nat → World → Prop) (hI : ∀ k A C, I k A → Below w.heap.size A C → CellsKept A C → I k C) (hIx : ∀ c k A C, Ix c k A → Below w.heap.size A C → CellsKept A C → Ix c k C) (hN : ∀ k W, I k W → Need W) (h0 : I 0 w)
    (hround : ∀ (l k : Nat) (hk : k < xs.length) (W : World), w.heap.size ≤ l → l < W.heap.size → I k W →
      assign.wpIn (F.inRound l) (n - 1 - 1) P (Exit.then (fun a1 W1 => KeepsOthers W W1 ∧ ∀ W2, But l W1 W2 → CellsKept W1 W2 → body.wpIn (F.inRound l) (n - 1 - 1) P (roundEnd I Ix k W2) a1 W2) (fun _ _ _ => False))
        { tmps := (ps.zip (encs xs[k])).foldl (fun t (p, v) => t.setIfInBounds p v) a.tmps, defers := [] } W)
    (hdone : ∀ (D : Nat) (W : World), w.heap.size ≤ D → D < W.heap.size → I xs.length W → W.heap[D]? = some (.deferred (some [])) → Q .normal { a with defers := { target := .collected D, args := #[] } :: a.defers } W)
    (hstop : ∀ (D : Nat) (c : Code) (k : Nat) (W : World), w.heap.size ≤ D → D < W.heap.size → Ix c k W → W.heap[D]? = some (.deferred (some [])) → c.wpIn F n P Q { a with defers := { target := .collected D, args := #[] } :: a.defers } W) :
    (Code.rangeFunc g ps assign body).wpIn F n P Q a w := by
  refine wpIn_rangeFunc fun fn hfn => ?_
  rw [hro]
  let rec_ : LoopState → Option Code → Loop := fun st pe => { state := st, pending := pe, fn, tmps := a.tmps, params := ps, assign, body, defers := w.heap.size }
  obtain ⟨W1, hW1⟩ : ∃ W1, (w.alloc (.deferred (some []))).alloc (.loop (rec_ .ready none)) = W1 := ⟨_, rfl⟩
  have hsz : W1.heap.size = w.heap.size + 2 := by rw [← hW1]; simp
  have hL : W1.heap[w.heap.size + 1]? = some (.loop (rec_ .ready none)) := by
    rw [← hW1]; have := World.alloc_heap_new (w.alloc (.deferred (some []))) (.loop (rec_ .ready none)); rwa [World.size_alloc] at this
  have hD : W1.heap[w.heap.size]? = some (.deferred (some [])) := by
    rw [← hW1]; exact (Below.heap_alloc _ _ _ (by simp)).trans (World.alloc_heap_new w _)
  have hbw : Below w.heap.size w W1 := by rw [← hW1]; exact ((Below.refl _ w).alloc (Nat.le_refl _) _).alloc (by simp) _
  refine ⟨w.heap.size + 1, [{ target := .collected w.heap.size, args := #[] }], W1, { target := .fn (.func gf) lb, args := #[.func (.yield (w.heap.size + 1)) #[] #[]] }, W1, gf,
    #[.func (.yield (w.heap.size + 1)) #[] #[]] ++ lb, W1, ?_, ?_, ?_, ?_, fun _ => h1, ?_⟩
  · rw [← hW1]; exact run_enterLoop_outer _ _ _ _ _
  · simp only [resolve, hg]
    simp [go_sem]
  · intro f' hf'; simp [Target.leads] at hf'; subst hf'; exact hFg
  · simp [invoke, go_sem, eg]
  · refine (hseq (w.heap.size + 1)
      (fun k W => I k W ∧ W.heap[w.heap.size + 1]? = some (.loop (rec_ .ready none)) ∧ W.heap[w.heap.size]? = some (.deferred (some [])))
      (fun k W => ∃ c, Ix c k W ∧ W.heap[w.heap.size + 1]? = some (.loop (rec_ .done (some c))) ∧ W.heap[w.heap.size]? = some (.deferred (some [])))
      W1 (hb0.trans (hbw.mono hb0.size)) (fun k W h => hN k W h.1) (by
        rintro k A C ⟨i1, i2, i3⟩ hb
        have hlt := (Array.getElem?_eq_some_iff.1 i2).1
        exact ⟨hI _ _ _ i1 (hb.mono (by omega)) (CellsKept.of_below hb), (hb.block _ hlt).trans i2, (hb.block _ (by omega)).trans i3⟩) ?_ ⟨hI _ _ _ h0 hbw (CellsKept.of_below hbw), hL, hD⟩).mono ?_
    · rintro k hk W ⟨i1, i2, i3⟩
      have hlt : w.heap.size + 1 < W.heap.size := (Array.getElem?_eq_some_iff.1 i2).1
      refine ⟨fn, _, assign, body, run_yield (P := P) (args := encs xs[k]) i2 (hps _), roundIn_of_wpIn hfn (wpIn_mono (hround (w.heap.size + 1) k hk W (by omega) hlt i1) ?_)⟩
      intro e a1 Wa hp
      cases e with
      | normal =>
        obtain ⟨ha, hbody⟩ := hp
        have l1 : Wa.heap[w.heap.size + 1]? = some (.loop (rec_ .ready none)) := ha.same _ _ i2 rfl
        have d1 : Wa.heap[w.heap.size]? = some (.deferred (some [])) := ha.same _ _ i3 rfl
        have hlt1 : w.heap.size + 1 < Wa.heap.size := (Array.getElem?_eq_some_iff.1 l1).1
        refine ⟨_, run_beginRound l1 rfl, ?_⟩
        have bu := putObj_but Wa (w.heap.size + 1) (.loop { rec_ .ready none with state := .busy })
        have l2 : (Wa.putObj (w.heap.size + 1) (.loop { rec_ .ready none with state := .busy })).heap[w.heap.size + 1]? = some (.loop { rec_ .ready none with state := .busy }) := World.putObj_heap_same hlt1
        refine wpIn_mono (hbody _ bu (bu.kept l1 rfl)) ?_
        have fin : ∀ (jump : Option Code) (W3 : World), KeepsOthers (Wa.putObj (w.heap.size + 1) (.loop { rec_ .ready none with state := .busy })) W3 →
            (Instr.endRound (w.heap.size + 1) jump).run P W3 = .ok (.bool jump.isNone) (W3.putObj (w.heap.size + 1) (.loop (rec_ (if jump.isNone then .ready else .done) jump))) ∧
            Below w.heap.size W3 (W3.putObj (w.heap.size + 1) (.loop (rec_ (if jump.isNone then .ready else .done) jump))) ∧ CellsKept W3 (W3.putObj (w.heap.size + 1) (.loop (rec_ (if jump.isNone then .ready else .done) jump))) ∧
            (W3.putObj (w.heap.size + 1) (.loop (rec_ (if jump.isNone then .ready else .done) jump))).heap[w.heap.size + 1]? = some (.loop (rec_ (if jump.isNone then .ready else .done) jump)) ∧
            (W3.putObj (w.heap.size + 1) (.loop (rec_ (if jump.isNone then .ready else .done) jump))).heap[w.heap.size]? = some (.deferred (some [])) := fun jump W3 h3 => by
          have l3 : W3.heap[w.heap.size + 1]? = _ := h3.same _ _ l2 rfl
          have d3 : W3.heap[w.heap.size]? = some (.deferred (some [])) := h3.same _ _ ((World.putObj_heap_other (by omega)).trans d1) rfl
          have b3 := putObj_but W3 (w.heap.size + 1) (.loop (rec_ (if jump.isNone then .ready else .done) jump))
          exact ⟨run_endRound jump l3, b3.below (by omega), b3.kept l3 rfl, World.putObj_heap_same (Array.getElem?_eq_some_iff.1 l3).1, (b3.block _ (by omega)).trans d3⟩
        rintro e a3 W3 hp
        cases e with
        | normal =>
          obtain ⟨h3, i⟩ := hp
          obtain ⟨r, b, ck, l4, d4⟩ := fin none W3 h3
          exact ⟨_, _, r, .inl ⟨rfl, ⟨hI _ _ _ i b ck, l4, d4⟩⟩⟩
        | ret =>
          obtain ⟨h3, i⟩ := hp
          obtain ⟨r, b, ck, l4, d4⟩ := fin (some .ret) W3 h3
          exact ⟨_, _, r, .inr ⟨rfl, .ret, hIx _ _ _ _ i b ck, l4, d4⟩⟩
        | exit id =>
          obtain ⟨h3, i⟩ := hp
          obtain ⟨r, b, ck, l4, d4⟩ := fin (some (.exit id)) W3 h3
          exact ⟨_, _, r, .inr ⟨rfl, .exit id, hIx _ _ _ _ i b ck, l4, d4⟩⟩
        | goto t =>
          obtain ⟨h3, i⟩ := hp
          obtain ⟨r, b, ck, l4, d4⟩ := fin (some (.goto t)) W3 h3
          exact ⟨_, _, r, .inr ⟨rfl, .goto t, hIx _ _ _ _ i b ck, l4, d4⟩⟩
        | panic ch => exact hp.elim
        | outgrown => exact hp.elim
      | exit id => exact hp.elim
      | goto l => exact hp.elim
      | ret => exact hp.elim
      | panic ch => exact hp.elim
      | outgrown => exact hp.elim
    · rintro e W2 ⟨⟨v, rfl⟩, (⟨hi, hl, hd⟩ | ⟨k, c, hi, hl, hd⟩)⟩
      · have b := putObj_but W2 (w.heap.size + 1) (.loop { rec_ .ready none with state := .exhausted })
        exact ⟨none, _, run_endLoop (P := P) hl (by simp [rec_]), hdone w.heap.size _ (Nat.le_refl _) (by rw [b.size]; exact (Array.getElem?_eq_some_iff.1 hd).1) (hI _ _ _ hi (b.below (by omega)) (b.kept hl rfl)) ((b.block _ (by omega)).trans hd)⟩
      · have b := putObj_but W2 (w.heap.size + 1) (.loop { rec_ .done (some c) with state := .exhausted })
        exact ⟨some c, _, run_endLoop (P := P) hl (by simp [rec_]), hstop w.heap.size c k _ (Nat.le_refl _) (by rw [b.size]; exact (Array.getElem?_eq_some_iff.1 hd).1) (hIx _ _ _ _ hi (b.below (by omega)) (b.kept hl rfl)) ((b.block _ (by omega)).trans hd)⟩

end Go.Proofs.Ytnploljhikljfaa.Rfp
