/-
  Layer 3: the number that columns add up to, whole.
-/
import Derived.Test.YtieaelipgieaoaaDoorIgf
import Derived.Laws.MakeOwn
namespace Go.Proofs.YtieaelipgieaoaaDoor
open Go.RowKit Bs Ig

/-- a slice that is made with room alone -/
theorem mkOwn (w : World) (t : TypeId) (ht : Tryd.prog.underlying t = some (.slice 3)) (m : Nat) (hm : m ≤ 2000000) :
    ∃ w', (Instr.makeSlice t (.int .i64 0) (.int .i64 (m : Int))).run Tryd.prog w = .ok (.slice (some ⟨w.heap.size, 0, none⟩) 0 m) w' ∧ Own w' w.heap.size 3 .i64 (.slice (some ⟨w.heap.size, 0, none⟩) 0 m) [] ∧ Below w.heap.size w w' ∧ w'.heap.size = w.heap.size + 1 := by
  obtain ⟨i0, hi, hz0, hz1, hz2⟩ := info_parts infoInt
  have hmx : m ≤ maxLen := by unfold maxLen; omega
  refine ⟨_, run_make w t 3 i0 (.int .i64 0) ht hi hz0 .i64 .i64 0 m (by omega) (by omega) (by rw [hz2]; omega) (by omega), ?_, (Below.refl _ w).alloc (Nat.le_refl _) _, by simp⟩
  refine ⟨rfl, .inr ⟨w.heap.size, m, _, rfl, Nat.le_refl _, heap_alloc_new _ _, Nat.zero_le _, hmx, by rw [size_madeCells, hz1]; simp, by simp [iv]⟩⟩

theorem Bs.Own.isZ {W : World} {base n c : Nat} {a : Option Addr} {l : List Nat} (h : Own W base 3 .i64 (.slice a n c) l) : IsZ W a n c (zs l) := by
  have hn : n = l.length := h.len
  refine ⟨by rw [zs_length, hn], ?_, ?_, ?_⟩
  · rcases h.row.2 with ⟨e, h0⟩ | ⟨g, cap, cur, e, _, _, h1, _⟩
    · cases e; exact Nat.le_refl _
    · cases e; exact h1
  · rcases h.row.2 with ⟨e, h0⟩ | ⟨g, cap, cur, e, _, _, _, h1, _⟩
    · cases e; exact Nat.zero_le _
    · cases e; exact h1
  · rcases Nat.eq_zero_or_pos n with h0 | h0
    · exact .inl h0
    · right
      obtain ⟨g, cap, e, _, _, hc⟩ := h.cells (by omega)
      cases e
      exact ⟨g, 0, rfl, fun i hi => by rw [Nat.zero_add, hc i (by rw [zs_length] at hi; exact hi), zs_getD]⟩

set_option maxRecDepth 100000 in
set_option maxHeartbeats 1000000 in
theorem carried_any (a : Option Addr) (n c N : Nat) (Z : List Int) (w : World) (hZ : IsZ w a n c Z) (hbd : ∀ x ∈ Z, -1000000000000000 ≤ x ∧ x ≤ 1000000000000000) (hn : n ≤ 100000) (hv : vali 10000 Z = (N : Nat)) (hN : N < 10000 ^ (n + 1)) :
    Calls Tryd.prog 62 #[.slice a n c] w fun e w' => ∃ a' n' c', e = .returned (.slice (some a') n' c') ∧ IsZ w' (some a') n' c' (zs (G N)) ∧ Below w.heap.size w w' := by
  have hcap := hZ.cap
  have hll := hZ.len
  obtain ⟨w1, hmk, hown1, hb1, hs1⟩ := mkOwn w 49 Tryd.underlying49 (n + 1) (by omega)
  rw [show ((n + 1 : Nat) : Int) = (n : Int) + 1 by omega] at hmk
  go_enter Tryd.func62, Tryd.ntmps62
  go_wp2_with fail
  have hb2 : Below w.heap.size w (w1.alloc (.cells #[.slice (some ⟨w.heap.size, 0, none⟩) 0 (n + 1)] 49)) := hb1.alloc (by omega) _
  have hout : Out (w1.alloc (.cells #[.slice (some ⟨w.heap.size, 0, none⟩) 0 (n + 1)] 49)) w.heap.size (w.heap.size + 1) [] :=
    ⟨⟨_, by rw [← hs1]; exact heap_alloc_new _ _, hown1.alloc _⟩, by omega⟩
  refine (fold_any w.heap.size (w.heap.size + 1) a n c Z _ (hZ.later hb2) hbd hout hb2.size (by omega) (fun g off e hn0 => by
    subst e
    obtain ⟨g', off', e', hI⟩ := hZ.at hn0
    cases e'
    exact hI.lt (by omega))).mono ?_
  rintro e w2 ⟨rfl, ⟨⟨v, hrow, hown⟩, _⟩, hb3⟩
  have hb4 := hb2.trans hb3
  obtain ⟨cc, hcc, hcry, hval⟩ := carried_val 10000 (by omega) Z N hv (by rw [hll]; exact hN)
  have hol : (outs 10000 Z 0).length = n := by rw [outs_length, hll]
  have hlt : ∀ x ∈ outs 10000 Z 0 ++ [cc], x < 10000 := by
    intro x hx
    rcases List.mem_append.1 hx with hx | hx
    · exact outs_lt 10000 (by omega) Z 0 x hx
    · rw [List.mem_singleton.1 hx]; exact hcc
  rw [hcry]
  obtain ⟨L, hL⟩ : ∃ L, outs 10000 Z 0 = L := ⟨_, rfl⟩
  rw [hL] at hown hol hlt hval
  obtain ⟨i0, hi, hz0, hz1, hz2⟩ := info_parts infoInt
  have hcell : w2.cell? ⟨w.heap.size + 1, 0, none⟩ = some v := by rw [cell_of_row _ _ 0 _ _ _ hrow]; rfl
  obtain ⟨a1, n1, c1, rfl⟩ : ∃ a n c, v = .slice a n c := hown.row.2.elim (fun h => ⟨_, _, _, h.1⟩) (fun ⟨g, cap, cur, hv, _⟩ => ⟨_, _, _, hv⟩)
  have Hol := Lib.hid hol
  have Hval := Lib.hid hval
  have Hlt := Lib.hid hlt
  have hs4 := hb4.size
  clear hZ hbd hb3 hb2 hout hL hcry hval hlt hol hown1 hb1 hmk hs1 hv hN hll hrow
  go_wp2_with (at_builtin; refine wpList_push rfl _ _ 49 rfl w.heap.size 3 i0 (.int .i64 0) 8 Tryd.underlying49 hi hz0 hz1 hz2 rfl (by omega) .i64 _ L rfl (hown.alloc _) ⟨w2.heap.size, 0, none⟩ 1 cc rfl ?c1 ?c2 ?c3 ?_)
  case c1 => simp [Addr.add]
  case c2 => rw [Hol.out]; omega
  case c3 => simp; omega
  intro v' w3 hown3 hb5
  have hb6 := (hb4.alloc hs4 _).trans hb5
  obtain ⟨a3, n3, c3, rfl⟩ : ∃ a n c, v' = .slice (some a) n c := by
    obtain ⟨g, cap, hv, _⟩ := hown3.cells (by simp)
    exact ⟨_, _, _, hv⟩
  have hn3 := hown3.len
  rw [List.length_append, Hol.out] at hn3
  have ht := trimmed_any (some a3) n3 c3 (L ++ [cc]) w3 hown3.isZ Hlt.out (by have : n3 = n + 1 := hn3; omega)
  rw [show V (L ++ [cc]) = N from Hval.out] at ht
  clear hown hown3 hb5 hb4 hcell
  go_wp2_with (go_at_call 66; refine ht.mono ?_; rintro e w4 ⟨m, rfl, hZ4, hb7⟩)
  go_ret
  exact ⟨_, _, _, rfl, hZ4, below_on hb6 hb7 hb6.size⟩

end Go.Proofs.YtieaelipgieaoaaDoor
