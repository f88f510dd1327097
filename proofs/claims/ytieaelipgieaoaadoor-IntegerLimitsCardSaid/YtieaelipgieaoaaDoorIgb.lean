/-
  Layer 3: a slice gone through from its end.
-/
import Derived.Test.YtieaelipgieaoaaDoorIgx
import Derived.Test.YtieaelipgieaoaaDoorRfn
import Derived.Shelf.RegionOpen
namespace Go.Proofs.YtieaelipgieaoaaDoor
open Go.RowKit Bs Ig Go.Shelf
attribute [local go_sem] Oper.semAt_some

theorem backward_any (a : Option Addr) (n c : Nat) (w : World) :
    Calls Tryd.prog 53 #[.slice a n c] w fun e w' => e = .returned (.func (.func 69) #[] #[.pointer (some ⟨w.heap.size, 0, none⟩)]) ∧ w' = w.alloc (.cells #[.slice a n c] 49) := by
  go_enter Tryd.func53, Tryd.ntmps53
  go_wp2
  go_ret
  exact ⟨rfl, rfl⟩

/-- what the iterator needs of memory -/
structure BkN (b : Nat) (a : Option Addr) (n c : Nat) (l : List Nat) (W : World) : Prop where
  cell : W.cell? ⟨b, 0, none⟩ = some (.slice a n c)
  isZ : IsZ W a n c (zs l)
theorem BkN.later {b n c : Nat} {a : Option Addr} {l : List Nat} {W W' : World} (h : BkN b a n c l W) (hb : Below W.heap.size W W') : BkN b a n c l W' :=
  ⟨(hb.cell (p := ⟨b, 0, none⟩) (block_lt_of_cell h.cell)).trans h.cell, h.isZ.later hb⟩
/-- places and numbers, from the end -/
def bks (l : List Nat) : List (Nat × Nat) := (List.range l.length).map fun k => (l.length - 1 - k, l.getD (l.length - 1 - k) 0)
theorem bks_length (l : List Nat) : (bks l).length = l.length := by simp [bks]
theorem bks_get (l : List Nat) (k : Nat) (hk : k < (bks l).length) : (bks l)[k] = (l.length - 1 - k, l.getD (l.length - 1 - k) 0) := by simp [bks]
def bkEnc (x : Nat × Nat) : Array Value := #[.int .i64 x.1, .int .i64 x.2]

set_option maxRecDepth 100000 in
set_option maxHeartbeats 1000000 in
theorem back1_in (q b : Nat) (a : Option Addr) (n c : Nat) (l : List Nat) (J Jx : Nat → World → Prop) (hn : n ≤ 1000000) (hl : l.length = n)
    (hN : ∀ k W, J k W → BkN b a n c l W)
    (hY : ∀ k W, k < n → J k W → YieldAt Fence.wide (3 - 1 - 1) Tryd.prog q #[.int .i64 ((n - 1 - k : Nat) : Int), .int .i64 (l.getD (n - 1 - k) 0 : Nat)] W fun e W' =>
      (e = .returned (.bool true) ∧ J (k + 1) W') ∨ (e = .returned (.bool false) ∧ Jx k W'))
    (W : World) (h0 : J 0 W) :
    CallsIn Fence.wide (3 - 1) Tryd.prog 69 #[.func (.yield q) #[] #[], .pointer (some ⟨b, 0, none⟩)] W fun e W' => (∃ v, e = .returned v) ∧ (J n W' ∨ ∃ k, Jx k W') := by
  have hcell := (hN 0 W h0).cell
  have hcap := (hN 0 W h0).isZ.cap
  refine callsIn_of_wp Tryd.func69 rfl trivial ?_ rfl
  simp only [Tryd.ntmps69, List.size_toArray, List.length_cons, List.length_nil, Nat.reduceAdd, Nat.reduceSub, Array.replicate_succ, Array.replicate_zero, List.push_toArray, List.append_toArray, List.nil_append, List.cons_append]
  gi_wp2
  clear hcell
  gi_loopw [3] (fun p wr => ∃ k : Nat, k ≤ n ∧ p = .int .i64 ((n : Int) - 1 - k) ∧ J k wr) (fun p _ => (intOf p + 1).toNat)
  case atStart => exact ⟨0, by omega, by simp, h0⟩
  case round =>
    obtain ⟨k, hk, rfl, hJ⟩ := hrel
    have hcell := (hN k wr hJ).cell
    rcases Nat.lt_or_ge k n with hkn | hkn
    · obtain ⟨g, off, rfl, hI⟩ := (hN k wr hJ).isZ.at (by omega)
      have hc := hI (n - 1 - k) (by rw [zs_length]; omega)
      rw [zs_getD] at hc
      obtain ⟨fn, tmps, assign, body, hy, hR⟩ := hY k wr hkn hJ
      rw [show ((n - 1 - k : Nat) : Int) = (n : Int) - 1 - k by omega] at hy
      generalize l.getD (n - 1 - k) 0 = x at *
      have e1 : ((n : Int) - 1 - k).toNat = n - 1 - k := by omega
      have e2 : decide (0 ≤ (n : Int) - 1 - k) = true := by simp; omega
      clear hI
      gi_wp2
      refine hR.mono ?_
      rintro e W' (⟨rfl, hJ'⟩ | ⟨rfl, hJx'⟩)
      · gi_wp2
        go_roundw
        case rel => exact ⟨k + 1, by omega, by go_num, hJ'⟩
        case measure => simp [intOf]; omega
      · gi_wp2
        refine bodyPost_ret (results_none rfl _ _ _) rfl ?_
        exact ⟨⟨_, rfl⟩, .inr ⟨_, hJx'⟩⟩
    · obtain rfl : n = k := by omega
      have e2 : decide (0 ≤ (n : Int) - 1 - n) = false := by simp; omega
      gi_wp2
      go_end0
      exact ⟨⟨_, rfl⟩, .inl hJ⟩

end Go.Proofs.YtieaelipgieaoaaDoor
