/-
  Layer 3: the number that columns add up to.
-/
import Derived.Test.YtieaelipgieaoaaDoorIgo
namespace Go.Proofs.YtieaelipgieaoaaDoor
open Go.RowKit Bs Ig

/-- one element more, and what becomes of the other blocks -/
theorem wpList_pushG {P : Program} {w : World} {ops : Array Oper} {rest : List Oper} {o : Oper} {a : Act} {Q : Exit → Act → World → Prop} (hgd : o.guard = none) (s x : Operand) (st : TypeId)
    (ho : o.op = .call { callee := .builtin .append, args := #[s, x], argTypes := #[st, st] })
    (base : Nat) (t : TypeId) (i : TypeInfo) (z : Value) (bytes : Nat) (ht : P.underlying st = some (.slice t)) (hi : P.info? t = some i) (hz : i.zero = some z)
    (hsize : i.size = 1) (hby : i.bytes = bytes) (hzs : z.cells.size = 1) (hb8 : bytes ≤ 8)
    (k : IntKind) (v : Value) (l : List Nat) (hs : a.eval s = v) (hown : Own w base t k v l) (ad : Addr) (c : Nat) (y : Nat) (hx : a.eval x = .slice (some ad) 1 c)
    (hc : w.cell? (ad.add 0) = some (.int k (y : Int))) (hlen : l.length ≤ 2000000) (hbase : base ≤ w.heap.size)
    (h : ∀ v' w', Own w' base t k v' (l ++ [y]) → w.grownBy w' v.ownBlock → wpList P ops Q rest (a.put o.dst v') w') : wpList P ops Q (o :: rest) a w := by
  refine wpList_append_own w hgd s x st ho base t i z 1 bytes ht hi hz hsize hby hzs (by omega) v l.length (iv k l) hs hown.row ad 1 c [.int k (y : Int)] hx rfl ?_ ?_ ?_ ?_ hbase ?_
  · intro j u hj
    match j, hj with
    | 0, hj => simp at hj; subst hj; exact hc
  · intro u hu; simp at hu; subst hu; rfl
  · unfold maxLen; omega
  · have : (l.length + 1) * bytes ≤ 2000001 * 8 := Nat.mul_le_mul (by omega) hb8
    omega
  · intro v' w' hown' hgrow _
    refine h v' w' ⟨?_⟩ hgrow
    rw [iv_append, List.length_append]
    exact hown'

theorem tmod_cases (s : Int) : (s.tmod 10000 = s % 10000 ∧ 0 ≤ s.tmod 10000) ∨ (s.tmod 10000 + 10000 = s % 10000 ∧ s.tmod 10000 < 0) := by
  rcases Int.le_total 0 s with h | h
  · left
    have e := Int.tmod_eq_emod_of_nonneg (b := 10000) h
    exact ⟨e, by omega⟩
  · obtain ⟨m, rfl⟩ : ∃ m, s = -m := ⟨-s, by omega⟩
    have e := Int.tmod_eq_emod_of_nonneg (a := m) (b := 10000) (by omega)
    rw [Int.neg_tmod, e]
    omega
theorem quo_exact (s : Int) : (s - s % 10000).tdiv 10000 = s / 10000 := by
  rw [show s - s % 10000 = 10000 * (s / 10000) by omega, Int.mul_tdiv_cancel_left _ (by omega)]

theorem infoInt : (Tryd.prog.info? 3).map (fun i => (i.zero, i.size, i.bytes)) = some (some (.int .i64 0), 1, 8) := by kernel_rfl
/-- the cell of 'out', and what it holds -/
structure Out (W : World) (B go : Nat) (L : List Nat) : Prop where
  row : ∃ v, W.heap[go]? = some (.cells #[v] 49 (0, 0)) ∧ Own W B 3 .i64 v L
  ge : B ≤ go

set_option maxRecDepth 100000 in
set_option maxHeartbeats 1000000 in
theorem carried1_any (B go : Nat) (carry column : Int) (L : List Nat) (w : World) (ho : Out w B go L) (hB : B ≤ w.heap.size) (h1 : -1000000000000000 ≤ carry ∧ carry ≤ 1000000000000000) (h2 : -1000000000000000 ≤ column ∧ column ≤ 1000000000000000) (hL : L.length ≤ 2000000) :
    Calls Tryd.prog 79 #[.int .i64 carry, .int .i64 column, .pointer (some ⟨go, 0, none⟩)] w fun e w' => e = .returned (.int .i64 ((column + carry) / 10000)) ∧ Out w' B go (L ++ [((column + carry) % 10000).toNat]) ∧ Below B w w' := by
  obtain ⟨⟨v, hrow, hown⟩, hge⟩ := ho
  obtain ⟨i0, hi, hz0, hz1, hz2⟩ := info_parts infoInt
  have hcell : w.cell? ⟨go, 0, none⟩ = some v := by rw [cell_of_row _ _ 0 _ _ _ hrow]; rfl
  have hfr : w.frozen? ⟨go, 0, none⟩ = false := frozen_of_row _ _ 0 _ _ hrow
  have e1 : (column + carry) - (column + carry) % 10000 = 10000 * ((column + carry) / 10000) := by omega
  have e2 := tmod_cases (column + carry)
  have e3 := quo_exact (column + carry)
  have hr0 : 0 ≤ (column + carry) % 10000 ∧ (column + carry) % 10000 < 10000 := by omega
  have hs0 : -2000000000000000 ≤ column + carry ∧ column + carry ≤ 2000000000000000 := by omega
  obtain ⟨s, hs⟩ : ∃ s, column + carry = s := ⟨_, rfl⟩
  rw [hs] at e1 e2 e3 hr0 hs0
  obtain ⟨r, hr⟩ : ∃ r : Nat, s % 10000 = (r : Int) := ⟨(s % 10000).toNat, by omega⟩
  obtain ⟨q, hq⟩ : ∃ q, s / 10000 = q := ⟨_, rfl⟩
  have HF := Lib.hid (show (column + carry) / 10000 = q ∧ ((column + carry) % 10000).toNat = r by rw [hs, hr, hq]; exact ⟨rfl, Int.toNat_natCast r⟩)
  rw [HF.out.1, HF.out.2]
  have hq0 : -1000000000000000 ≤ q ∧ q ≤ 1000000000000000 := by omega
  rw [hr] at e1 e2 e3 hr0
  rw [hq] at e1 e3
  have Hlen := Lib.hid hL
  have hs1 := hB
  clear hr hq e1 h1 h2 HF hL
  have fin : ∀ (v' : Value) (w' : World), Own w' B 3 .i64 v' (L ++ [r]) → (w.alloc (.cells #[.int .i64 (r : Int)] 3)).grownBy w' v.ownBlock → (∃ a n c, v' = .slice a n c) ∧ w'.cell? ⟨go, 0, none⟩ = some v ∧ w'.frozen? ⟨go, 0, none⟩ = false ∧ Out (w'.setCell ⟨go, 0, none⟩ v') B go (L ++ [r]) ∧ Below B w (w'.setCell ⟨go, 0, none⟩ v') := by
    intro v' w' hown' hg
    have hgo : go < w.heap.size := (Array.getElem?_eq_some_iff.1 hrow).1
    have hne : some go ≠ v.ownBlock := by
      intro e
      rcases hown.row.2 with ⟨rfl, _⟩ | ⟨g, cap, cur, rfl, _, hrow2, _⟩
      · cases e
      · cases e; rw [hrow] at hrow2; injection hrow2 with h1; injection h1 with h1 h2; exact absurd h2 (by decide)
    have hrow' : w'.heap[go]? = some (.cells #[v] 49 (0, 0)) := (hg.block go (by simp; omega) hne).trans ((heap_alloc_old w _ hgo).trans hrow)
    have hne' : v'.ownBlock ≠ some go := by
      intro e
      rcases hown'.row.2 with ⟨rfl, _⟩ | ⟨g, cap, cur, rfl, _, hrow2, _⟩
      · cases e
      · cases e; rw [hrow'] at hrow2; injection hrow2 with h1; injection h1 with h1 h2; exact absurd h2 (by decide)
    have hb : Below B w w' := ((Below.refl B w).alloc hB _).grown hg (by simp; omega) hown.block
    refine ⟨hown'.row.2.elim (fun h => ⟨_, _, _, h.1⟩) (fun ⟨g, cap, cur, hv, _⟩ => ⟨_, _, _, hv⟩), by rw [cell_of_row _ _ 0 _ _ _ hrow']; rfl, frozen_of_row _ _ 0 _ _ hrow', ⟨⟨v', ?_, ?_⟩, hge⟩, hb.setCell (p := ⟨go, 0, none⟩) hge _⟩
    · rw [heap_setCell_same _ go 0 _ _ _ hrow']; rfl
    · refine ⟨hown'.row.1, ?_⟩
      rcases hown'.row.2 with h0 | ⟨g, cap, cur, hv, h1, h2, h3⟩
      · exact .inl h0
      · exact .inr ⟨g, cap, cur, hv, h1, (heap_setCell_other w' ⟨go, 0, none⟩ g _ (by intro e; apply hne'; rw [hv, e]; rfl)).trans h2, h3⟩
  rcases e2 with ⟨e2, e4⟩ | ⟨e2, e4⟩
  · have e5 : decide (s.tmod 10000 < 0) = false := by simp; omega
    rw [e2] at e5 e4
    clear hge
    go_enter Tryd.func79, Tryd.ntmps79
    go_wp2_with (at_builtin; refine wpList_pushG rfl _ _ 49 rfl B 3 i0 (.int .i64 0) 8 Tryd.underlying49 hi hz0 hz1 hz2 rfl (by omega) .i64 v L rfl (hown.alloc _) ⟨w.heap.size, 0, none⟩ 1 r rfl ?c1 ?c2 ?c3 ?_)
    case c1 => simp [Addr.add]
    case c2 => exact Nat.le_trans Hlen.out (by omega)
    case c3 => simp; omega
    intro v' w' hown' hg
    obtain ⟨⟨a', n', c', rfl⟩, f1, f2, f3, f4⟩ := fin v' w' hown' hg
    clear fin hg hown' hown hcell hfr hrow
    go_wp2_with fail
    go_ret
    exact ⟨rfl, f3, f4⟩
  · have e5 : decide (s.tmod 10000 < 0) = true := by simp; omega
    have e6 : s.tmod 10000 = (r : Int) - 10000 := by omega
    rw [e6] at e5 e4
    clear hge e2
    go_enter Tryd.func79, Tryd.ntmps79
    go_wp2_with (at_builtin; refine wpList_pushG rfl _ _ 49 rfl B 3 i0 (.int .i64 0) 8 Tryd.underlying49 hi hz0 hz1 hz2 rfl (by omega) .i64 v L rfl (hown.alloc _) ⟨w.heap.size, 0, none⟩ 1 r rfl ?c1 ?c2 ?c3 ?_)
    case c1 => simp [Addr.add]
    case c2 => exact Nat.le_trans Hlen.out (by omega)
    case c3 => simp; omega
    intro v' w' hown' hg
    obtain ⟨⟨a', n', c', rfl⟩, f1, f2, f3, f4⟩ := fin v' w' hown' hg
    clear fin hg hown' hown hcell hfr hrow
    go_wp2_with fail
    go_ret
    exact ⟨rfl, f3, f4⟩

end Go.Proofs.YtieaelipgieaoaaDoor
