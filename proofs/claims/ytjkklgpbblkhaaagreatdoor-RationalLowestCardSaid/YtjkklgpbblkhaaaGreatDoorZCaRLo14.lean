/-
  Put together by program out of these texts, in this order: Qbu, Qst, Qva, Qop.
-/
import Derived.Test.YtjkklgpbblkhaaaGreatDoorZCaRLo08
import Derived.Laws.ResultCell
import Derived.Laws.EntriesVeiled
import Derived.Test.YtjkklgpbblkhaaaGreatDoorZCaRLo13

/-
  Layer 4: a chain of steps, each of which is skipped after an error.
-/
namespace Go.Proofs.YtjkklgpbblkhaaaGreatDoor
open Go.RowKit Bs Ig

/-- a result in a box beside one in a slot -/
theorem results_row_tmp {P : Program} {fn : Func} {p u : Tmp} {ty : TypeId} (h : fn.results = #[.cell p ty, .tmp u]) (tmps : Array Value) (w : World) (g : Nat) (t : TypeId) (cs : Array Value) (fr : Nat × Nat) (d : TypeDesc)
    (hp : tmps.getD p undef = .pointer (some ⟨g, 0, none⟩)) (hg : w.heap[g]? = some (.cells cs t fr))
    (hu : P.underlying ty = some d) (hd : (match d with | .struct _ | .array _ _ => true | _ => false) = true) (hi : (P.info? ty).map (·.size) = some cs.size) :
    (results fn tmps).run P w = .ok (.tuple #[.agg cs, tmps.getD u undef]) w := by
  rw [results_cell_tmp h, hp]
  simp [asAddr, run_loadVar_row w g t ty cs fr d hg hu hd hi, Result.andThen]
theorem str2_cells (a b : ByteArray) : (#[Value.string a, Value.string b] : Array Value).all (·.oneCell') = true := by simp [Value.oneCell']
/-- a box with two strings -/
def IsB (W : World) (g : Nat) (a b : ByteArray) : Prop := W.heap[g]? = some (.cells #[.string a, .string b] 23 (0, 0))
theorem IsB.later {W W' : World} {g n : Nat} {a b : ByteArray} (h : IsB W g a b) (hb : Below n W W') (hg : g < n) : IsB W' g a b := (hb.block g hg).trans h
theorem IsB.lt {W : World} {g : Nat} {a b : ByteArray} (h : IsB W g a b) : g < W.heap.size := (Array.getElem?_eq_some_iff.1 h).1
theorem IsB.new (W : World) (a b : ByteArray) : IsB (W.alloc (.cells #[.string a, .string b] 23)) W.heap.size a b := heap_alloc_new _ _
theorem IsB.new' (W : World) (a b : ByteArray) (g : Nat) (hg : g = W.heap.size) : IsB (W.alloc (.cells #[.string a, .string b] 23)) g a b := by subst hg; exact IsB.new W a b
theorem IsB.alloc {W : World} {g : Nat} {a b : ByteArray} (h : IsB W g a b) (o : Obj) : IsB (W.alloc o) g a b := (heap_alloc_old _ _ h.lt).trans h
theorem IsB.c0 {W : World} {g : Nat} {a b : ByteArray} (h : IsB W g a b) : W.cell? ⟨g, 0, none⟩ = some (.string a) := by rw [cell_of_row _ _ 0 _ _ _ h]; rfl
theorem IsB.c1 {W : World} {g : Nat} {a b : ByteArray} (h : IsB W g a b) : W.cell? ⟨g, 1, none⟩ = some (.string b) := by rw [cell_of_row _ _ 1 _ _ _ h]; rfl
theorem IsB.f0 {W : World} {g : Nat} {a b : ByteArray} (h : IsB W g a b) : W.frozen? ⟨g, 0, none⟩ = false := frozen_of_row _ _ 0 _ _ h
theorem IsB.f1 {W : World} {g : Nat} {a b : ByteArray} (h : IsB W g a b) : W.frozen? ⟨g, 1, none⟩ = false := frozen_of_row _ _ 1 _ _ h

theorem two_strs {W : World} {g : Nat} {a b : ByteArray} (h : IsB W g a b) (c d : ByteArray) : IsB ((W.setCell ⟨g, 0, none⟩ (.string c)).setCell ⟨g, 1, none⟩ (.string d)) g c d := by
  have h1 := heap_setCell_same W g 0 _ _ (.string c) h
  exact heap_setCell_same _ g 1 _ _ (.string d) h1
theorem far_strs {W : World} {g k : Nat} {a b : ByteArray} (h : IsB W g a b) (hk : k ≠ g) (c d : ByteArray) : IsB ((W.setCell ⟨k, 0, none⟩ (.string c)).setCell ⟨k, 1, none⟩ (.string d)) g a b := by
  exact ((heap_setCell_other _ _ _ _ (Ne.symm hk)).trans (heap_setCell_other _ _ _ _ (Ne.symm hk))).trans h
/-- the step v takes what I tells of k to what it tells of k + 1 -/
def Step (I : Nat → ByteArray → ByteArray → Int → World → Prop) (k : Nat) (v : Value) : Prop :=
  ∃ (f : FuncId) (cap : Array Value), v = .func (.func f) #[] cap ∧ (∀ args w, (callFunc f args).run Tryz.prog w = .ok (.enter f args) w) ∧
    ∀ (N D : ByteArray) (W : World), I k N D 0 W → Calls Tryz.prog f (#[.agg #[.string N, .string D]] ++ cap) W fun e W' => ∃ N' D' e', e = .returned (.tuple #[.agg #[.string N', .string D'], .int .i64 e']) ∧ I (k + 1) N' D' e' W' ∧ Below W.heap.size W W'

set_option maxRecDepth 100000 in
set_option maxHeartbeats 4000000 in
theorem build_any (I : Nat → ByteArray → ByteArray → Int → World → Prop) (vals : List Value) (g off n c : Nat) (N D : ByteArray) (w : World) (hn : vals.length = n) (hn2 : n ≤ 100) (hnc : n ≤ c) (hg : g < w.heap.size)
    (hcells : ∀ i (h : i < vals.length), w.cell? ⟨g, off + i, none⟩ = some vals[i])
    (hpass : ∀ k N D e W, e ≠ 0 → I k N D e W → I (k + 1) N D e W) (hlater : ∀ k N D e A C, I k N D e A → Below w.heap.size A C → I k N D e C)
    (hsteps : ∀ k (h : k < vals.length), Step I k vals[k]) (h0 : I 0 N D 0 w) :
    Calls Tryz.prog 59 #[.agg #[.string N, .string D], .slice (some ⟨g, off, none⟩) n c] w fun e W' => ∃ N' D' e', I n N' D' e' W' ∧ Below w.heap.size w W' ∧
      (e' = 0 ∧ e = .returned (.tuple #[.agg #[.string N', .string D'], .int .i64 0]) ∨ e' ≠ 0 ∧ e = .returned (.tuple #[.agg #[.string ⟨#[]⟩, .string ⟨#[]⟩], .int .i64 40])) := by
  go_enter Tryz.func59, Tryz.ntmps59
  go_wp2_with fail
  go_loopw [6, 11] (fun q p wr => ∃ (N D : ByteArray) (e : Int) (i : Nat), q = .int .i64 e ∧ p = .int .i64 (i : Int) ∧ i ≤ n ∧ I i N D e wr ∧ IsB wr w.heap.size N D ∧ IsB wr (w.heap.size + 1) ⟨#[]⟩ ⟨#[]⟩ ∧ Below w.heap.size w wr) (fun _ p _ => (n - intOf p).toNat)
  case atStart => 
    have hB : Below w.heap.size w ((w.alloc (.cells #[.string N, .string D] 23)).alloc (.cells #[.string ⟨#[]⟩, .string ⟨#[]⟩] 23)) := ((Below.refl _ w).alloc (Nat.le_refl _) _).alloc (by simp) _
    exact ⟨N, D, 0, 0, rfl, rfl, Nat.zero_le _, hlater _ _ _ _ _ _ h0 hB, (IsB.new w N D).alloc _, IsB.new' _ _ _ _ (by simp), hB⟩
  case round =>
    obtain ⟨N, D, e, i, rfl, rfl, hi, hI, b0, b1, hw⟩ := hrel
    rcases Nat.lt_or_ge i n with h1 | h1
    · obtain ⟨f, cap, hv, eg, hcall⟩ := hsteps i (by omega)
      have hcell : wr.cell? ⟨g, off + i, none⟩ = some (.func (.func f) #[] cap) := by rw [← hv]; exact (hw.cell (p := ⟨g, off + i, none⟩) hg).trans (hcells i (by omega))
      have f1 : decide (i < n) = true := decide_eq_true h1
      rcases Decidable.em (e = 0) with he | he
      · subst he
        have HC := Lib.hid (hcall N D wr hI)
        have k0 := b0.c0
        have k1 := b0.c1
        clear hcall hsteps hcells hpass hv
        go_wp2_with (refine (HC.out).mono ?_; rintro e1 w1 ⟨N1, D1, e', rfl, hI1, B1⟩; have b2 := b0.later B1 b0.lt; have b3 := b1.later B1 b1.lt; have g0 := b2.f0; have g1 := b2.f1; have g2 := b2.c0; have g3 := b2.c1)
        have hw1 := below_on hw B1 hw.size
        go_roundw
        case rel => exact ⟨N1, D1, e', i + 1, rfl, by go_num, h1, hlater _ _ _ _ _ _ hI1 ((Below.refl _ w1).setCell (p := ⟨w.heap.size, 0, none⟩) (Nat.le_refl _) _ |>.setCell (p := ⟨w.heap.size, 1, none⟩) (Nat.le_refl _) _), two_strs b2 N1 D1, far_strs b3 (by omega) N1 D1, (hw1.setCell (p := ⟨w.heap.size, 0, none⟩) (Nat.le_refl _) _).setCell (p := ⟨w.heap.size, 1, none⟩) (Nat.le_refl _) _⟩
        case measure => simp [intOf]; omega
      · have he2 : (e == 0) = false := beq_false_of_ne he
        have HI := Lib.hid (hpass _ _ _ _ _ he hI)
        clear hcall hsteps hcells hpass hv
        go_wp2_with fail
        go_roundw
        case rel => exact ⟨N, D, e, i + 1, rfl, by go_num, h1, HI.out, b0, b1, hw⟩
        case measure => simp [intOf]; omega
    · obtain rfl : i = n := by omega
      have f1 : decide (i < i) = false := decide_eq_false (by omega)
      have k0 := b0.c0
      have k1 := b0.c1
      have f2 := b1.f0
      have f3 := b1.f1
      have f4 := b1.c0
      have f5 := b1.c1
      clear hsteps hcells hpass
      rcases Decidable.em (e = 0) with he | he
      · subst he
        go_wp2_with fail
        exact bodyPost_ret (results_row_tmp rfl _ _ (w.heap.size + 1) 23 #[.string N, .string D] _ _ rfl (two_strs b1 N D) Tryz.underlying23 rfl (by kernel_rfl)) rfl ⟨N, D, 0, hlater _ _ _ _ _ _ hI (((Below.refl _ wr).setCell (p := ⟨w.heap.size + 1, 0, none⟩) (by show w.heap.size ≤ w.heap.size + 1; omega) _).setCell (p := ⟨w.heap.size + 1, 1, none⟩) (by show w.heap.size ≤ w.heap.size + 1; omega) _), (hw.setCell (p := ⟨w.heap.size + 1, 0, none⟩) (by show w.heap.size ≤ w.heap.size + 1; omega) _).setCell (p := ⟨w.heap.size + 1, 1, none⟩) (by show w.heap.size ≤ w.heap.size + 1; omega) _, .inl ⟨rfl, rfl⟩⟩
      · have he2 : (e == 0) = false := beq_false_of_ne he
        have he3 : (e != 0) = true := by rw [bne, he2]; rfl
        go_wp2_with fail
        exact bodyPost_ret (results_row_tmp rfl _ _ (w.heap.size + 1) 23 #[.string ⟨#[]⟩, .string ⟨#[]⟩] _ _ rfl (two_strs b1 ⟨#[]⟩ ⟨#[]⟩) Tryz.underlying23 rfl (by kernel_rfl)) rfl ⟨N, D, e, hlater _ _ _ _ _ _ hI (((Below.refl _ wr).setCell (p := ⟨w.heap.size + 1, 0, none⟩) (by show w.heap.size ≤ w.heap.size + 1; omega) _).setCell (p := ⟨w.heap.size + 1, 1, none⟩) (by show w.heap.size ≤ w.heap.size + 1; omega) _), (hw.setCell (p := ⟨w.heap.size + 1, 0, none⟩) (by show w.heap.size ≤ w.heap.size + 1; omega) _).setCell (p := ⟨w.heap.size + 1, 1, none⟩) (by show w.heap.size ≤ w.heap.size + 1; omega) _, .inr ⟨he, rfl⟩⟩

/-- what a step makes of a fraction: two strings and an error -/
abbrev Stp := ByteArray → ByteArray → ByteArray × ByteArray × Int
def runS : List Stp → ByteArray → ByteArray → Int → ByteArray × ByteArray × Int
  | [], N, D, e => (N, D, e)
  | F :: r, N, D, e => if e = 0 then runS r (F N D).1 (F N D).2.1 (F N D).2.2 else runS r N D e
def finS (x : ByteArray × ByteArray × Int) : ByteArray × ByteArray × Int := if x.2.2 = 0 then (x.1, x.2.1, 0) else (⟨#[]⟩, ⟨#[]⟩, 40)
def buildS (l : List Stp) (N D : ByteArray) : ByteArray × ByteArray × Int := finS (runS l N D 0)
theorem runS_snoc (l : List Stp) (F : Stp) (N D : ByteArray) (e : Int) :
    runS (l ++ [F]) N D e = if (runS l N D e).2.2 = 0 then F (runS l N D e).1 (runS l N D e).2.1 else runS l N D e := by
  induction l generalizing N D e with
  | nil => rfl
  | cons G r ih =>
    simp only [List.cons_append, runS]
    split <;> exact ih _ _ _
/-- the value v, as it was made in the world w0, is a function that does F -/
def Does (w0 : World) (v : Value) (F : Stp) : Prop :=
  ∃ (f : FuncId) (cap : Array Value), v = .func (.func f) #[] cap ∧ (∀ args w, (callFunc f args).run Tryz.prog w = .ok (.enter f args) w) ∧
    ∀ (N D : ByteArray) (W : World), Below w0.heap.size w0 W → Calls Tryz.prog f (#[.agg #[.string N, .string D]] ++ cap) W fun e W' => e = .returned (.tuple #[.agg #[.string (F N D).1, .string (F N D).2.1], .int .i64 (F N D).2.2]) ∧ Below W.heap.size W W'
theorem Does.later {w0 w1 : World} {v : Value} {F : Stp} (h : Does w0 v F) (hb : Below w0.heap.size w0 w1) : Does w1 v F := by
  obtain ⟨f, cap, hv, eg, hc⟩ := h
  exact ⟨f, cap, hv, eg, fun N D W hW => hc N D W (below_on hb hW hb.size)⟩
/-- the value v is a function of two strings that answers as op -/
def DoesOp (w0 : World) (v : Value) (op : ByteArray → ByteArray → ByteArray × Int) : Prop :=
  ∃ (f : FuncId) (cap : Array Value), v = .func (.func f) #[] cap ∧ (∀ args w, (callFunc f args).run Tryz.prog w = .ok (.enter f args) w) ∧
    ∀ (x y : ByteArray) (W : World), Below w0.heap.size w0 W → Calls Tryz.prog f (#[.string x, .string y] ++ cap) W fun e W' => e = .returned (.tuple #[.string (op x y).1, .int .i64 (op x y).2]) ∧ Below W.heap.size W W'
theorem DoesOp.later {w0 w1 : World} {v : Value} {F} (h : DoesOp w0 v F) (hb : Below w0.heap.size w0 w1) : DoesOp w1 v F := by
  obtain ⟨f, cap, hv, eg, hc⟩ := h
  exact ⟨f, cap, hv, eg, fun N D W hW => hc N D W (below_on hb hW hb.size)⟩
theorem build_does (fs : List Stp) (vals : List Value) (g off n c : Nat) (N D : ByteArray) (w : World) (hn : vals.length = n) (hf : fs.length = n) (hn2 : n ≤ 100) (hnc : n ≤ c) (hg : g < w.heap.size)
    (hcells : ∀ i (h : i < vals.length), w.cell? ⟨g, off + i, none⟩ = some vals[i]) (hdo : ∀ i (h : i < vals.length) (h' : i < fs.length), Does w vals[i] fs[i]) :
    Calls Tryz.prog 59 #[.agg #[.string N, .string D], .slice (some ⟨g, off, none⟩) n c] w fun e W' => e = .returned (.tuple #[.agg #[.string (buildS fs N D).1, .string (buildS fs N D).2.1], .int .i64 (buildS fs N D).2.2]) ∧ Below w.heap.size w W' := by
  refine (build_any (fun k N' D' e W => Below w.heap.size w W ∧ runS (fs.take k) N D 0 = (N', D', e) ∧ k ≤ n ∨ n < k) vals g off n c N D w hn hn2 hnc hg hcells ?_ ?_ ?_ ?_).mono ?_
  · rintro k N' D' e W he (⟨h1, h2, h3⟩ | h)
    · rcases Nat.lt_or_ge k n with h4 | h4
      · refine .inl ⟨h1, ?_, h4⟩
        rw [List.take_succ_eq_append_getElem (by omega), runS_snoc, h2, if_neg he]
      · exact .inr (by omega)
    · exact .inr (by omega)
  · rintro k N' D' e A C (⟨h1, h2, h3⟩ | h) hAC
    · exact .inl ⟨h1.trans hAC, h2, h3⟩
    · exact .inr h
  · intro k hk
    obtain ⟨f, cap, hv, eg, hc⟩ := hdo k hk (by omega)
    refine ⟨f, cap, hv, eg, ?_⟩
    rintro N' D' W (⟨h1, h2, h3⟩ | h)
    · refine (hc N' D' W h1).mono ?_
      rintro e W' ⟨rfl, hb⟩
      refine ⟨_, _, _, rfl, .inl ⟨below_on h1 hb h1.size, ?_, by omega⟩, hb⟩
      rw [List.take_succ_eq_append_getElem (by omega), runS_snoc, h2]
      rfl
    · omega
  · exact .inl ⟨Below.refl _ _, rfl, Nat.zero_le _⟩
  · rintro e W' ⟨N', D', e', hI, hb, he⟩
    obtain ⟨_, h2, _⟩ := hI.resolve_right (by omega)
    rw [List.take_of_length_le (by omega)] at h2
    unfold buildS finS
    rw [h2]
    rcases he with ⟨rfl, rfl⟩ | ⟨h0, rfl⟩
    · exact ⟨rfl, hb⟩
    · simp only [if_neg h0]
      exact ⟨trivial, hb⟩

end Go.Proofs.YtjkklgpbblkhaaaGreatDoor

/-
  Layer 4: the steps of a chain, as they are made.
-/
namespace Go.Proofs.YtjkklgpbblkhaaaGreatDoor
open Go.RowKit Bs Ig

def numS (op : ByteArray → ByteArray → ByteArray × Int) (y : ByteArray) : Stp := fun N D => ((op N y).1, D, (op N y).2)
def denS (op : ByteArray → ByteArray → ByteArray × Int) (y : ByteArray) : Stp := fun N D => (N, (op D y).1, (op D y).2)
/-- a box with a function value -/
theorem box_cell (W : World) (v : Value) (t : TypeId) : (W.alloc (.cells #[v] t)).cell? ⟨W.heap.size, 0, none⟩ = some v := by
  rw [cell_of_row _ _ 0 _ _ _ (heap_alloc_new _ _)]; rfl

set_option maxRecDepth 100000 in
set_option maxHeartbeats 2000000 in
theorem num1_any (op : ByteArray → ByteArray → ByteArray × Int) (y N D : ByteArray) (b1 b2 : Nat) (v : Value) (w : World) (h1 : w.cell? ⟨b1, 0, none⟩ = some v) (h2 : w.cell? ⟨b2, 0, none⟩ = some (.string y)) (hb1 : b1 < w.heap.size) (hb2 : b2 < w.heap.size) (hop : DoesOp w v op) :
    Calls Tryz.prog 100 #[.agg #[.string N, .string D], .pointer (some ⟨b1, 0, none⟩), .pointer (some ⟨b2, 0, none⟩)] w fun e w' => e = .returned (.tuple #[.agg #[.string (numS op y N D).1, .string (numS op y N D).2.1], .int .i64 (numS op y N D).2.2]) ∧ Below w.heap.size w w' := by
  have hB : Below w.heap.size w ((w.alloc (.cells #[.string N, .string D] 23)).alloc (.cells #[.string ⟨#[]⟩, .string ⟨#[]⟩] 23)) := ((Below.refl _ w).alloc (Nat.le_refl _) _).alloc (by simp) _
  obtain ⟨f, cap, rfl, eg, hc⟩ := hop
  have r0 := (IsB.new w N D).alloc (.cells #[.string ⟨#[]⟩, .string ⟨#[]⟩] 23)
  have r1 := IsB.new' (w.alloc (.cells #[.string N, .string D] 23)) ⟨#[]⟩ ⟨#[]⟩ (w.heap.size + 1) (by simp)
  have k1 := (hB.cell (p := ⟨b1, 0, none⟩) hb1).trans h1
  have k2 := (hB.cell (p := ⟨b2, 0, none⟩) hb2).trans h2
  have HC := Lib.hid (hc N y _ hB)
  unfold numS
  obtain ⟨S, E, hSE⟩ : ∃ S E, op N y = (S, E) := ⟨_, _, rfl⟩
  rw [hSE] at HC ⊢
  clear hc h1 h2 hSE
  go_enter Tryz.func100, Tryz.ntmps100
  go_wp2_with (refine (HC.out).mono ?_; rintro e1 w1 ⟨rfl, B1⟩; have q0 := r0.later B1 r0.lt; have q1 := r1.later B1 r1.lt; have g0 := q0.c1; have g1 := q1.f0; have g2 := q1.f1; have g3 := q1.c0; have g4 := q1.c1)
  have hw1 := below_on hB B1 hB.size
  exact bodyPost_ret (results_row_tmp rfl _ _ (w.heap.size + 1) 23 #[.string S, .string D] _ _ rfl (two_strs q1 S D) Tryz.underlying23 rfl (by kernel_rfl)) rfl ⟨rfl, (hw1.setCell (p := ⟨w.heap.size + 1, 0, none⟩) (by show w.heap.size ≤ w.heap.size + 1; omega) _).setCell (p := ⟨w.heap.size + 1, 1, none⟩) (by show w.heap.size ≤ w.heap.size + 1; omega) _⟩

set_option maxRecDepth 100000 in
set_option maxHeartbeats 2000000 in
theorem den1_any (op : ByteArray → ByteArray → ByteArray × Int) (y N D : ByteArray) (b1 b2 : Nat) (v : Value) (w : World) (h1 : w.cell? ⟨b1, 0, none⟩ = some v) (h2 : w.cell? ⟨b2, 0, none⟩ = some (.string y)) (hb1 : b1 < w.heap.size) (hb2 : b2 < w.heap.size) (hop : DoesOp w v op) :
    Calls Tryz.prog 102 #[.agg #[.string N, .string D], .pointer (some ⟨b1, 0, none⟩), .pointer (some ⟨b2, 0, none⟩)] w fun e w' => e = .returned (.tuple #[.agg #[.string (denS op y N D).1, .string (denS op y N D).2.1], .int .i64 (denS op y N D).2.2]) ∧ Below w.heap.size w w' := by
  have hB : Below w.heap.size w ((w.alloc (.cells #[.string N, .string D] 23)).alloc (.cells #[.string ⟨#[]⟩, .string ⟨#[]⟩] 23)) := ((Below.refl _ w).alloc (Nat.le_refl _) _).alloc (by simp) _
  obtain ⟨f, cap, rfl, eg, hc⟩ := hop
  have r0 := (IsB.new w N D).alloc (.cells #[.string ⟨#[]⟩, .string ⟨#[]⟩] 23)
  have r1 := IsB.new' (w.alloc (.cells #[.string N, .string D] 23)) ⟨#[]⟩ ⟨#[]⟩ (w.heap.size + 1) (by simp)
  have k1 := (hB.cell (p := ⟨b1, 0, none⟩) hb1).trans h1
  have k2 := (hB.cell (p := ⟨b2, 0, none⟩) hb2).trans h2
  have HC := Lib.hid (hc D y _ hB)
  unfold denS
  obtain ⟨S, E, hSE⟩ : ∃ S E, op D y = (S, E) := ⟨_, _, rfl⟩
  rw [hSE] at HC ⊢
  clear hc h1 h2 hSE
  go_enter Tryz.func102, Tryz.ntmps102
  go_wp2_with (refine (HC.out).mono ?_; rintro e1 w1 ⟨rfl, B1⟩; have q0 := r0.later B1 r0.lt; have q1 := r1.later B1 r1.lt; have g0 := q0.c0; have g1 := q1.f0; have g2 := q1.f1; have g3 := q1.c0; have g4 := q1.c1)
  have hw1 := below_on hB B1 hB.size
  exact bodyPost_ret (results_row_tmp rfl _ _ (w.heap.size + 1) 23 #[.string N, .string S] _ _ rfl (two_strs q1 N S) Tryz.underlying23 rfl (by kernel_rfl)) rfl ⟨rfl, (hw1.setCell (p := ⟨w.heap.size + 1, 0, none⟩) (by show w.heap.size ≤ w.heap.size + 1; omega) _).setCell (p := ⟨w.heap.size + 1, 1, none⟩) (by show w.heap.size ≤ w.heap.size + 1; omega) _⟩

set_option maxRecDepth 100000 in
set_option maxHeartbeats 2000000 in
theorem num_any (op : ByteArray → ByteArray → ByteArray × Int) (y : ByteArray) (v : Value) (w : World) (hop : DoesOp w v op) :
    Calls Tryz.prog 69 #[v, .string y] w fun e w' => ∃ cap, e = .returned (.func (.func 100) #[] cap) ∧ Does w' (.func (.func 100) #[] cap) (numS op y) ∧ Below w.heap.size w w' := by
  have hB : Below w.heap.size w ((w.alloc (.cells #[v] 101)).alloc (.cells #[.string y] 9)) := ((Below.refl _ w).alloc (Nat.le_refl _) _).alloc (by simp) _
  have hD : Does ((w.alloc (.cells #[v] 101)).alloc (.cells #[.string y] 9)) (.func (.func 100) #[] #[.pointer (some ⟨w.heap.size, 0, none⟩), .pointer (some ⟨w.heap.size + 1, 0, none⟩)]) (numS op y) := by
    refine ⟨_, _, rfl, fun args w => by kernel_rfl, fun N D W hW => ?_⟩
    have h1 : W.cell? ⟨w.heap.size, 0, none⟩ = some v := by
      refine (hW.cell (p := ⟨w.heap.size, 0, none⟩) (by simp; omega)).trans ?_
      rw [cell_of_row _ _ 0 _ _ _ ((heap_alloc_old _ _ (by simp)).trans (heap_alloc_new _ _))]; rfl
    have h2 : W.cell? ⟨w.heap.size + 1, 0, none⟩ = some (.string y) := by
      refine (hW.cell (p := ⟨w.heap.size + 1, 0, none⟩) (by simp)).trans ?_
      have := heap_alloc_new (w.alloc (.cells #[v] 101)) (.cells #[.string y] 9)
      simp only [World.size_alloc] at this
      rw [cell_of_row _ _ 0 _ _ _ this]; rfl
    have hs := hW.size
    simp only [World.size_alloc] at hs
    exact num1_any op y N D _ _ v W h1 h2 (by omega) (by omega) ((hop.later hB).later hW)
  have HD := Lib.hid hD
  obtain ⟨f, cap, rfl, eg, hc⟩ := hop
  clear hc hD
  go_enter Tryz.func69, Tryz.ntmps69
  go_wp2_with fail
  go_ret
  exact ⟨_, rfl, HD.out, hB⟩

set_option maxRecDepth 100000 in
set_option maxHeartbeats 2000000 in
theorem den_any (op : ByteArray → ByteArray → ByteArray × Int) (y : ByteArray) (v : Value) (w : World) (hop : DoesOp w v op) :
    Calls Tryz.prog 71 #[v, .string y] w fun e w' => ∃ cap, e = .returned (.func (.func 102) #[] cap) ∧ Does w' (.func (.func 102) #[] cap) (denS op y) ∧ Below w.heap.size w w' := by
  have hB : Below w.heap.size w ((w.alloc (.cells #[v] 101)).alloc (.cells #[.string y] 9)) := ((Below.refl _ w).alloc (Nat.le_refl _) _).alloc (by simp) _
  have hD : Does ((w.alloc (.cells #[v] 101)).alloc (.cells #[.string y] 9)) (.func (.func 102) #[] #[.pointer (some ⟨w.heap.size, 0, none⟩), .pointer (some ⟨w.heap.size + 1, 0, none⟩)]) (denS op y) := by
    refine ⟨_, _, rfl, fun args w => by kernel_rfl, fun N D W hW => ?_⟩
    have h1 : W.cell? ⟨w.heap.size, 0, none⟩ = some v := by
      refine (hW.cell (p := ⟨w.heap.size, 0, none⟩) (by simp; omega)).trans ?_
      rw [cell_of_row _ _ 0 _ _ _ ((heap_alloc_old _ _ (by simp)).trans (heap_alloc_new _ _))]; rfl
    have h2 : W.cell? ⟨w.heap.size + 1, 0, none⟩ = some (.string y) := by
      refine (hW.cell (p := ⟨w.heap.size + 1, 0, none⟩) (by simp)).trans ?_
      have := heap_alloc_new (w.alloc (.cells #[v] 101)) (.cells #[.string y] 9)
      simp only [World.size_alloc] at this
      rw [cell_of_row _ _ 0 _ _ _ this]; rfl
    have hs := hW.size
    simp only [World.size_alloc] at hs
    exact den1_any op y N D _ _ v W h1 h2 (by omega) (by omega) ((hop.later hB).later hW)
  have HD := Lib.hid hD
  obtain ⟨f, cap, rfl, eg, hc⟩ := hop
  clear hc hD
  go_enter Tryz.func71, Tryz.ntmps71
  go_wp2_with fail
  go_ret
  exact ⟨_, rfl, HD.out, hB⟩

end Go.Proofs.YtjkklgpbblkhaaaGreatDoor

/-
  Layer 4: Valid, and the step that checks it.
-/
namespace Go.Proofs.YtjkklgpbblkhaaaGreatDoor
open Go.RowKit Bs Ig

noncomputable def validB (N D : ByteArray) : Bool := (gcdS N D).2 == 0 && ((gcdS N D).1.toList == [49] && decide (0 < cmpS D ⟨#[48]⟩))

set_option maxRecDepth 100000 in
set_option maxHeartbeats 2000000 in
theorem qValid_any (N D : ByteArray) (w : World) (ht : TabP w) :
    Calls Tryz.prog 29 #[.agg #[.string N, .string D]] w fun e w' => e = .returned (.bool (validB N D)) ∧ Below w.heap.size w w' := by
  have hB : Below w.heap.size w (w.alloc (.cells #[.string N, .string D] 23)) := (Below.refl _ w).alloc (Nat.le_refl _) _
  have r0 := IsB.new w N D
  have HG := Lib.hid (Gcd_all N D _ (ht.later hB))
  have HC := Lib.hid (fun W => Compare_all D ⟨#[48]⟩ W)
  unfold validB
  unfold Gives at HG
  obtain ⟨G, E, hGE⟩ : ∃ G E, gcdS N D = (G, E) := ⟨_, _, rfl⟩
  obtain ⟨c, hc⟩ : ∃ c, cmpS D ⟨#[48]⟩ = c := ⟨_, rfl⟩
  rw [hGE] at HG ⊢
  rw [hc] at HC ⊢
  obtain ⟨x1, h1⟩ : ∃ x, (E == 0) = x := ⟨_, rfl⟩
  obtain ⟨x2, h2⟩ : ∃ x, (G.toList == [49]) = x := ⟨_, rfl⟩
  obtain ⟨x3, h3⟩ : ∃ x, decide (0 < c) = x := ⟨_, rfl⟩
  have hres : ((E == 0) && ((G.toList == [49]) && decide (0 < c))) = (x1 && (x2 && x3)) := by rw [h1, h2, h3]
  simp only [hres]
  have c0 := r0.c0
  have c1 := r0.c1
  clear hGE hc hres ht
  cases x1 with
  | false =>
    clear h2 h3
    go_enter Tryz.func29, Tryz.ntmps29
    go_wp2_with (go_at_call 63; (with_reducible refine HG.out.mono ?_); rintro e w1 ⟨rfl, B1⟩; have q0 := r0.later B1 r0.lt; have d1 := q0.c1)
    go_ret
    exact ⟨rfl, below_on hB B1 hB.size⟩
  | true =>
    cases x2 with
    | false =>
      clear h3
      go_enter Tryz.func29, Tryz.ntmps29
      go_wp2_with (go_at_call 63; (with_reducible refine HG.out.mono ?_); rintro e w1 ⟨rfl, B1⟩; have q0 := r0.later B1 r0.lt; have d1 := q0.c1)
      go_ret
      exact ⟨rfl, below_on hB B1 hB.size⟩
    | true =>
      go_enter Tryz.func29, Tryz.ntmps29
      go_wp2_with (first
        | (go_at_call 63; (with_reducible refine HG.out.mono ?_); rintro e w1 ⟨rfl, B1⟩; have q0 := r0.later B1 r0.lt; have d1 := q0.c1)
        | (go_at_call 51; (with_reducible refine (HC.out _).mono ?_); rintro e w2 ⟨rfl, B2⟩))
      go_ret
      exact ⟨rfl, below_on (below_on hB B1 hB.size) B2 (below_on hB B1 hB.size).size⟩

noncomputable def validS (l : List (ByteArray × ByteArray)) : Stp := fun N D => if l.all (fun p => validB p.1 p.2) then (N, D, 0) else (⟨#[]⟩, ⟨#[]⟩, 40)

/-- fractions lie one after the other -/
def Lies (W : World) (g off : Nat) (l : List (ByteArray × ByteArray)) : Prop :=
  g < W.heap.size ∧ ∀ i (h : i < l.length), W.cell? ⟨g, off + i * 2, none⟩ = some (.string l[i].1) ∧ W.cell? ⟨g, off + i * 2 + 1, none⟩ = some (.string l[i].2)
theorem Lies.later {W W' : World} {g off n : Nat} {l : List (ByteArray × ByteArray)} (h : Lies W g off l) (hb : Below n W W') (hg : g < n) : Lies W' g off l :=
  ⟨Nat.lt_of_lt_of_le h.1 hb.size, fun i hi => ⟨(hb.cell (p := ⟨g, off + i * 2, none⟩) hg).trans (h.2 i hi).1, (hb.cell (p := ⟨g, off + i * 2 + 1, none⟩) hg).trans (h.2 i hi).2⟩⟩

set_option maxRecDepth 100000 in
set_option maxHeartbeats 4000000 in
theorem valid1_any (l : List (ByteArray × ByteArray)) (N D : ByteArray) (b g off n c : Nat) (w : World) (ht : TabP w) (h1 : w.cell? ⟨b, 0, none⟩ = some (.slice (some ⟨g, off, none⟩) n c)) (hb : b < w.heap.size) (hl : Lies w g off l) (hn : l.length = n) (hn2 : n ≤ 100) (hnc : n ≤ c) :
    Calls Tryz.prog 99 #[.agg #[.string N, .string D], .pointer (some ⟨b, 0, none⟩)] w fun e w' => e = .returned (.tuple #[.agg #[.string (validS l N D).1, .string (validS l N D).2.1], .int .i64 (validS l N D).2.2]) ∧ Below w.heap.size w w' := by
  have hB : Below w.heap.size w ((w.alloc (.cells #[.string N, .string D] 23)).alloc (.cells #[.string ⟨#[]⟩, .string ⟨#[]⟩] 23)) := ((Below.refl _ w).alloc (Nat.le_refl _) _).alloc (by simp) _
  have k1 := (hB.cell (p := ⟨b, 0, none⟩) hb).trans h1
  have r0 := (IsB.new w N D).alloc (.cells #[.string ⟨#[]⟩, .string ⟨#[]⟩] 23)
  have r1 := IsB.new' (w.alloc (.cells #[.string N, .string D] 23)) ⟨#[]⟩ ⟨#[]⟩ (w.heap.size + 1) (by simp)
  have HB := Lib.hid (And.intro hB (And.intro r0 r1))
  clear hB r0 r1
  have HY := Lib.hid (show l.all (fun p => validB p.1 p.2) = true → validS l N D = (N, D, 0) from fun h => if_pos h)
  have HZ := Lib.hid (show l.all (fun p => validB p.1 p.2) = false → validS l N D = (⟨#[]⟩, ⟨#[]⟩, 40) from fun h => if_neg (by rw [h]; decide))
  generalize validS l N D = R at *
  go_enter Tryz.func99, Tryz.ntmps99
  go_wp2_with fail
  go_loopw [9] (fun p wr => ∃ i : Nat, p = .int .i64 (i : Int) ∧ i ≤ n ∧ (l.take i).all (fun p => validB p.1 p.2) = true ∧ IsB wr w.heap.size N D ∧ IsB wr (w.heap.size + 1) ⟨#[]⟩ ⟨#[]⟩ ∧ Below w.heap.size w wr) (fun p _ => (n - intOf p).toNat)
  case atStart => exact ⟨0, rfl, Nat.zero_le _, by simp, HB.out.2.1, HB.out.2.2, HB.out.1⟩
  case round =>
    obtain ⟨i, rfl, hi, hall, b0, b1, hw⟩ := hrel
    rcases Nat.lt_or_ge i n with h2 | h2
    · have f1 : decide (i < n) = true := decide_eq_true h2
      obtain ⟨x, hx⟩ : ∃ x, l[i]'(by omega) = x := ⟨_, rfl⟩
      obtain ⟨k2, k3⟩ := (hl.later hw hl.1).2 i (by omega)
      rw [hx] at k2 k3
      have hst : (l.take (i + 1)).all (fun p => validB p.1 p.2) = validB x.1 x.2 := by
        rw [List.take_succ_eq_append_getElem (by omega), List.all_append, hall, hx]; simp
      obtain ⟨X, Y⟩ := x
      simp only at k2 k3 hst
      have HV := Lib.hid (fun (W : World) (hb : Below w.heap.size w W) => qValid_any X Y W (ht.later hb))
      have hno : validB X Y = false → l.all (fun p => validB p.1 p.2) = false := fun h => by
        rw [List.all_eq_false]
        exact ⟨l[i]'(by omega), List.getElem_mem _, by rw [hx]; simpa using h⟩
      have Hst := Lib.hid hst
      have Hno := Lib.hid hno
      obtain ⟨v, hv⟩ : ∃ v, validB X Y = v := ⟨_, rfl⟩
      rw [hv] at HV Hst Hno
      have hwa : Below w.heap.size w (wr.alloc (.cells #[.string X, .string Y] 23)) := hw.alloc hw.size _
      have b2 := b0.alloc (.cells #[.string X, .string Y] 23)
      have b3 := b1.alloc (.cells #[.string X, .string Y] 23)
      clear hst hall hl hx hno hv
      cases v with
      | true =>
        go_wp2_with (go_at_call 29; (with_reducible refine (HV.out _ hwa).mono ?_); rintro e1 w1 ⟨rfl, B1⟩)
        go_roundw
        case rel => exact ⟨i + 1, by go_num, h2, Hst.out, b2.later B1 b2.lt, b3.later B1 b3.lt, below_on hwa B1 hwa.size⟩
        case measure => simp [intOf]; omega
      | false =>
        have Hres := Lib.hid (HZ.out (Hno.out rfl))
        go_wp2_with (go_at_call 29; (with_reducible refine (HV.out _ hwa).mono ?_); rintro e1 w1 ⟨rfl, B1⟩; have b5 := b3.later B1 b3.lt; have c2 := b5.c0; have c3 := b5.c1; have c4 := b5.f0; have c5 := b5.f1)
        have hw1 := below_on hwa B1 hwa.size
        exact bodyPost_ret (results_row_tmp rfl _ _ (w.heap.size + 1) 23 #[.string ⟨#[]⟩, .string ⟨#[]⟩] _ _ rfl (two_strs b5 ⟨#[]⟩ ⟨#[]⟩) Tryz.underlying23 rfl (by kernel_rfl)) rfl ⟨by rw [Hres.out]; rfl, (hw1.setCell (p := ⟨w.heap.size + 1, 0, none⟩) (by show w.heap.size ≤ w.heap.size + 1; omega) _).setCell (p := ⟨w.heap.size + 1, 1, none⟩) (by show w.heap.size ≤ w.heap.size + 1; omega) _⟩
    · obtain rfl : i = n := by omega
      have f1 : decide (i < i) = false := decide_eq_false (by omega)
      rw [List.take_of_length_le (by omega)] at hall
      have Hres := Lib.hid (HY.out hall)
      have c0 := b0.c0
      have c1 := b0.c1
      have c2 := b1.c0
      have c3 := b1.c1
      have c4 := b1.f0
      have c5 := b1.f1
      clear hl hall
      go_wp2_with fail
      exact bodyPost_ret (results_row_tmp rfl _ _ (w.heap.size + 1) 23 #[.string N, .string D] _ _ rfl (two_strs b1 N D) Tryz.underlying23 rfl (by kernel_rfl)) rfl ⟨by rw [Hres.out]; rfl, (hw.setCell (p := ⟨w.heap.size + 1, 0, none⟩) (by show w.heap.size ≤ w.heap.size + 1; omega) _).setCell (p := ⟨w.heap.size + 1, 1, none⟩) (by show w.heap.size ≤ w.heap.size + 1; omega) _⟩

set_option maxRecDepth 100000 in
set_option maxHeartbeats 2000000 in
theorem valid_any4 (l : List (ByteArray × ByteArray)) (g off n c : Nat) (w : World) (ht : TabP w) (hl : Lies w g off l) (hn : l.length = n) (hn2 : n ≤ 100) (hnc : n ≤ c) :
    Calls Tryz.prog 68 #[.slice (some ⟨g, off, none⟩) n c] w fun e w' => ∃ cap, e = .returned (.func (.func 99) #[] cap) ∧ Does w' (.func (.func 99) #[] cap) (validS l) ∧ Below w.heap.size w w' := by
  have hB : Below w.heap.size w (w.alloc (.cells #[.slice (some ⟨g, off, none⟩) n c] 30)) := (Below.refl _ w).alloc (Nat.le_refl _) _
  have hD : Does (w.alloc (.cells #[.slice (some ⟨g, off, none⟩) n c] 30)) (.func (.func 99) #[] #[.pointer (some ⟨w.heap.size, 0, none⟩)]) (validS l) := by
    refine ⟨_, _, rfl, fun args w => by kernel_rfl, fun N D W hW => ?_⟩
    have h1 : W.cell? ⟨w.heap.size, 0, none⟩ = some (.slice (some ⟨g, off, none⟩) n c) := by
      refine (hW.cell (p := ⟨w.heap.size, 0, none⟩) (by simp)).trans ?_
      rw [cell_of_row _ _ 0 _ _ _ (heap_alloc_new _ _)]; rfl
    have hs := hW.size
    simp only [World.size_alloc] at hs
    have hBW := below_on hB hW hB.size
    exact valid1_any l N D _ g off n c W (ht.later hBW) h1 (by omega) (hl.later hBW hl.1) hn hn2 hnc
  have HD := Lib.hid hD
  clear hD hl
  go_enter Tryz.func68, Tryz.ntmps68
  go_wp2_with fail
  go_ret
  exact ⟨_, rfl, HD.out, hB⟩

end Go.Proofs.YtjkklgpbblkhaaaGreatDoor

/-
  Layer 4: operations that are handed over as functions; rounding to integers.
-/
namespace Go.Proofs.YtjkklgpbblkhaaaGreatDoor
open Go.RowKit Bs Ig

theorem does_add (w : World) (ht : TabP w) : DoesOp w (.func (.func 67) #[] #[]) addS := ⟨_, _, rfl, fun args w => by kernel_rfl, fun x y W hW => Add_all x y W (ht.later hW)⟩
theorem does_sub (w : World) (ht : TabP w) : DoesOp w (.func (.func 72) #[] #[]) subS := ⟨_, _, rfl, fun args w => by kernel_rfl, fun x y W hW => Sub_all x y W (ht.later hW)⟩
theorem does_mul (w : World) (ht : TabP w) : DoesOp w (.func (.func 70) #[] #[]) mulS := ⟨_, _, rfl, fun args w => by kernel_rfl, fun x y W hW => Mul_all x y W (ht.later hW)⟩

noncomputable def floorS (x y : ByteArray) : ByteArray × Int := ((divS x y).1, (divS x y).2.2)
noncomputable def ceilS (x y : ByteArray) : ByteArray × Int := if ((divS x y).2.2 != 0) = true then floorS x y else if ((divS x y).2.1.toList == [48]) = true then floorS x y else addS (divS x y).1 ⟨#[49]⟩

set_option maxRecDepth 100000 in
set_option maxHeartbeats 2000000 in
theorem floor_any (x y : ByteArray) (w : World) (ht : TabP w) : Gives 56 x y (floorS x y) w := by
  have HD := Lib.hid (Div_all x y w ht)
  unfold Gives floorS
  obtain ⟨q, r, e, hq⟩ : ∃ q r e, divS x y = (q, r, e) := ⟨_, _, _, rfl⟩
  rw [hq] at HD ⊢
  clear hq ht
  go_enter Tryz.func56, Tryz.ntmps56
  go_wp2_with (go_at_call 50; (with_reducible refine HD.out.mono ?_); rintro e w1 ⟨rfl, B1⟩)
  go_ret2
  exact ⟨rfl, B1⟩
theorem does_floor (w : World) (ht : TabP w) : DoesOp w (.func (.func 56) #[] #[]) floorS := ⟨_, _, rfl, fun args w => by kernel_rfl, fun x y W hW => floor_any x y W (ht.later hW)⟩

set_option maxRecDepth 100000 in
set_option maxHeartbeats 2000000 in
theorem ceiling_any (x y : ByteArray) (w : World) (ht : TabP w) : Gives 58 x y (ceilS x y) w := by
  have HD := Lib.hid (Div_all x y w ht)
  unfold Gives ceilS floorS
  obtain ⟨q, r, e, hq⟩ : ∃ q r e, divS x y = (q, r, e) := ⟨_, _, _, rfl⟩
  rw [hq] at HD ⊢
  simp only at HD ⊢
  have HA := Lib.hid (fun (W : World) (hb : Below w.heap.size w W) => Add_all q ⟨#[49]⟩ W (ht.later hb))
  unfold Gives at HA
  obtain ⟨s, f, hs⟩ : ∃ s f, addS q ⟨#[49]⟩ = (s, f) := ⟨_, _, rfl⟩
  rw [hs] at HA ⊢
  clear hq ht hs
  obtain ⟨x1, h1⟩ : ∃ x, (e != 0) = x := ⟨_, rfl⟩
  obtain ⟨x2, h2⟩ : ∃ x, (r.toList == [48]) = x := ⟨_, rfl⟩
  simp only [h1, h2]
  cases x1 with
  | true =>
    simp only [if_true]
    clear h2
    go_enter Tryz.func58, Tryz.ntmps58
    go_wp2_with (go_at_call 50; (with_reducible refine HD.out.mono ?_); rintro e w1 ⟨rfl, B1⟩)
    go_ret2
    exact ⟨rfl, B1⟩
  | false =>
    cases x2 with
    | true =>
      simp only [if_true, if_false, Bool.false_eq_true]
      go_enter Tryz.func58, Tryz.ntmps58
      go_wp2_with (go_at_call 50; (with_reducible refine HD.out.mono ?_); rintro e w1 ⟨rfl, B1⟩)
      go_ret2
      exact ⟨rfl, B1⟩
    | false =>
      simp only [if_false, Bool.false_eq_true]
      go_enter Tryz.func58, Tryz.ntmps58
      go_wp2_with (first
        | (go_at_call 50; (with_reducible refine HD.out.mono ?_); rintro e w1 ⟨rfl, B1⟩)
        | (go_at_call 67; (with_reducible refine (HA.out _ B1).mono ?_); rintro e w2 ⟨rfl, B2⟩))
      go_ret2
      exact ⟨rfl, below_on B1 B2 B1.size⟩
theorem does_ceiling (w : World) (ht : TabP w) : DoesOp w (.func (.func 58) #[] #[]) ceilS := ⟨_, _, rfl, fun args w => by kernel_rfl, fun x y W hW => ceiling_any x y W (ht.later hW)⟩

/-- x, and y times d, calculated with -/
noncomputable def scaledS (op : ByteArray → ByteArray → ByteArray × Int) (d : ByteArray) (x y : ByteArray) : ByteArray × Int := if ((mulS y d).2 != 0) = true then (⟨#[]⟩, (mulS y d).2) else op x (mulS y d).1

set_option maxRecDepth 100000 in
set_option maxHeartbeats 2000000 in
theorem combine1_any (op : ByteArray → ByteArray → ByteArray × Int) (v : Value) (x y n d : ByteArray) (b1 b2 : Nat) (w : World) (ht : TabP w) (h1 : IsB w b1 n d) (h2 : w.cell? ⟨b2, 0, none⟩ = some v) (hb2 : b2 < w.heap.size) (hop : DoesOp w v op) :
    Calls Tryz.prog 97 #[.string x, .string y, .pointer (some ⟨b1, 0, none⟩), .pointer (some ⟨b2, 0, none⟩)] w fun e w' => e = .returned (.tuple #[.string (scaledS op d x y).1, .int .i64 (scaledS op d x y).2]) ∧ Below w.heap.size w w' := by
  have HM := Lib.hid (Mul_all y d w ht)
  unfold Gives at HM
  unfold scaledS
  obtain ⟨p, e, hp⟩ : ∃ p e, mulS y d = (p, e) := ⟨_, _, rfl⟩
  rw [hp] at HM ⊢
  simp only at HM ⊢
  obtain ⟨f, cap, rfl, eg, hc⟩ := hop
  have HC := Lib.hid (hc x p)
  obtain ⟨s, k, hs⟩ : ∃ s k, op x p = (s, k) := ⟨_, _, rfl⟩
  rw [hs] at HC ⊢
  have c1 := h1.c1
  have H2 := Lib.hid (And.intro h2 hb2)
  obtain ⟨x1, hx⟩ : ∃ x, (e != 0) = x := ⟨_, rfl⟩
  simp only [hx]
  clear hp hs hc ht h1 h2
  cases x1 with
  | true =>
    simp only [if_true]
    go_enter Tryz.func97, Tryz.ntmps97
    go_wp2_with (go_at_call 70; (with_reducible refine HM.out.mono ?_); rintro e w1 ⟨rfl, B1⟩)
    go_ret2
    exact ⟨rfl, B1⟩
  | false =>
    simp only [if_false, Bool.false_eq_true]
    go_enter Tryz.func97, Tryz.ntmps97
    go_wp2_with (first
      | (go_at_call 70; (with_reducible refine HM.out.mono ?_); rintro e w1 ⟨rfl, B1⟩; have k2 := (B1.cell (p := ⟨b2, 0, none⟩) H2.out.2).trans H2.out.1)
      | (refine (HC.out _ B1).mono ?_; rintro e w2 ⟨rfl, B2⟩))
    go_ret2
    exact ⟨rfl, below_on B1 B2 B1.size⟩

def overS (t : ByteArray) : Stp := fun N _ => (N, t, 0)
set_option maxRecDepth 100000 in
set_option maxHeartbeats 2000000 in
theorem round1_any (t N D : ByteArray) (b : Nat) (w : World) (h1 : w.cell? ⟨b, 0, none⟩ = some (.string t)) (hb : b < w.heap.size) :
    Calls Tryz.prog 89 #[.agg #[.string N, .string D], .pointer (some ⟨b, 0, none⟩)] w fun e w' => e = .returned (.tuple #[.agg #[.string (overS t N D).1, .string (overS t N D).2.1], .int .i64 (overS t N D).2.2]) ∧ Below w.heap.size w w' := by
  have hB : Below w.heap.size w ((w.alloc (.cells #[.string N, .string D] 23)).alloc (.cells #[.string ⟨#[]⟩, .string ⟨#[]⟩] 23)) := ((Below.refl _ w).alloc (Nat.le_refl _) _).alloc (by simp) _
  have r0 := (IsB.new w N D).alloc (.cells #[.string ⟨#[]⟩, .string ⟨#[]⟩] 23)
  have r1 := IsB.new' (w.alloc (.cells #[.string N, .string D] 23)) ⟨#[]⟩ ⟨#[]⟩ (w.heap.size + 1) (by simp)
  have k1 := (hB.cell (p := ⟨b, 0, none⟩) hb).trans h1
  have c0 := r0.c0
  have c1 := r0.c1
  have g1 := r1.f0
  have g2 := r1.f1
  have g3 := r1.c0
  have g4 := r1.c1
  go_enter Tryz.func89, Tryz.ntmps89
  go_wp2_with fail
  exact bodyPost_ret (results_row_tmp rfl _ _ (w.heap.size + 1) 23 #[.string N, .string t] _ _ rfl (IsB.new' (w.alloc (.cells #[.string N, .string D] 23)) N t (w.heap.size + 1) (by simp)) Tryz.underlying23 rfl (by kernel_rfl)) rfl ⟨rfl, ((Below.refl _ w).alloc (Nat.le_refl _) _).alloc (by simp) _⟩

end Go.Proofs.YtjkklgpbblkhaaaGreatDoor
