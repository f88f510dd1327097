/-
  Layer 3: numbers with signs: their order, sums and differences.
-/
import Derived.Test.YtieaelipgieaoaaDoorIgn
namespace Go.Proofs.YtieaelipgieaoaaDoor
open Go.RowKit Bs Ig

theorem zero_row (w : World) : Below w.heap.size w (w.alloc (.cells #[.bool false, .slice none 0 0] 51)) := (Below.refl _ w).alloc (Nat.le_refl _) _
theorem numV_eq (b : Bool) (m : Nat) (a : Option Addr) (n c : Nat) : numV (if b then -(m : Int) else m) a n c = .agg #[.bool (b && decide (0 < m)), .slice a n c] := by
  unfold numV
  cases b with
  | false => simp
  | true =>
    by_cases h : 0 < m
    · rw [show decide ((if true = true then -(m : Int) else m) < 0) = true by simp; omega, show decide (0 < m) = true by simp; omega]; rfl
    · rw [show decide ((if true = true then -(m : Int) else m) < 0) = false by simp; omega, show decide (0 < m) = false by simp; omega]; rfl
theorem len_pos {W : World} {a : Option Addr} {n c m : Nat} (h : IsZ W a n c (zs (G m))) : (0 < n) ↔ (0 < m) := by
  have := h.glen
  have h2 : (G m).length = 0 ↔ m = 0 := dgs_len0
  omega

set_option maxRecDepth 100000 in
set_option maxHeartbeats 1000000 in
theorem signed_any (b : Bool) (a : Option Addr) (n c m : Nat) (w : World) (hl : IsZ w a n c (zs (G m))) :
    Calls Tryd.prog 44 #[.bool b, .slice a n c] w fun e w' => e = .returned (numV (if b then -(m : Int) else m) a n c) ∧ Below w.heap.size w w' := by
  have hcap := hl.cap
  have hlp := len_pos hl
  rw [numV_eq]
  have hz0 := zero_row w
  have hrow := heap_alloc_new w (.cells #[.bool false, .slice none 0 0] 51)
  cases b with
  | false =>
    rw [Bool.false_and]
    go_enter Tryd.func44, Tryd.ntmps44
    go_wp2_with (refine wpList_store_row rfl 51 _ _ rfl w.heap.size _ rfl rfl 51 _ hrow ?g2 ?g3 ?g4 ?_)
    case g2 => kernel_rfl
    case g3 => rfl
    case g4 => exact two_cells _ _ _ _
    exact bodyPost_ret (results_cell_row rfl _ _ w.heap.size 51 #[.bool false, .slice a n c] _ _ rfl (setRow_heap _ w.heap.size _ _ _ _ hrow) Tryd.underlying51 rfl (by kernel_rfl)) rfl ⟨rfl, below_row hz0 (Nat.le_refl _) _⟩
  | true =>
    rw [Bool.true_and]
    rcases Nat.eq_zero_or_pos n with h | h
    · rw [show decide (0 < m) = false by simp; omega]
      subst h
      go_enter Tryd.func44, Tryd.ntmps44
      go_wp2_with (refine wpList_store_row rfl 51 _ _ rfl w.heap.size _ rfl rfl 51 _ hrow ?g2 ?g3 ?g4 ?_)
      case g2 => kernel_rfl
      case g3 => rfl
      case g4 => exact two_cells _ _ _ _
      exact bodyPost_ret (results_cell_row rfl _ _ w.heap.size 51 #[.bool false, .slice a 0 c] _ _ rfl (setRow_heap _ w.heap.size _ _ _ _ hrow) Tryd.underlying51 rfl (by kernel_rfl)) rfl ⟨rfl, below_row hz0 (Nat.le_refl _) _⟩
    · rw [show decide (0 < m) = true by simp; omega]
      have hd : decide (0 < (n : Int)) = true := by simp; omega
      clear hlp hl
      go_enter Tryd.func44, Tryd.ntmps44
      go_wp2_with (refine wpList_store_row rfl 51 _ _ rfl w.heap.size _ rfl rfl 51 _ hrow ?g2 ?g3 ?g4 ?_)
      case g2 => kernel_rfl
      case g3 => rfl
      case g4 => exact two_cells _ _ _ _
      exact bodyPost_ret (results_cell_row rfl _ _ w.heap.size 51 #[.bool true, .slice a n c] _ _ rfl (setRow_heap _ w.heap.size _ _ _ _ hrow) Tryd.underlying51 rfl (by kernel_rfl)) rfl ⟨rfl, below_row hz0 (Nat.le_refl _) _⟩

/-- -1, 0 or 1 -/
def cmpZ (x y : Int) : Int := if x < y then -1 else if y < x then 1 else 0
/-- two boxes -/
theorem two_boxes (w : World) (bx bz : Bool) (a : Option Addr) (n c : Nat) (b : Option Addr) (k d : Nat) :
    Below w.heap.size w ((w.alloc (.cells #[.bool bx, .slice a n c] 51)).alloc (.cells #[.bool bz, .slice b k d] 51)) := ((Below.refl _ w).alloc (Nat.le_refl _) _).alloc (by simp) _

set_option maxRecDepth 100000 in
set_option maxHeartbeats 1000000 in
theorem ncompare_any (x y : Int) (a : Option Addr) (n c : Nat) (b : Option Addr) (k d : Nat) (w : World) (hl : IsZ w a n c (zs (G x.natAbs))) (hm : IsZ w b k d (zs (G y.natAbs))) (hn : n ≤ 1000000) (hk : k ≤ 1000000) :
    Calls Tryd.prog 32 #[numV x a n c, numV y b k d] w fun e w' => e = .returned (.int .i64 (cmpZ x y)) ∧ Below w.heap.size w w' := by
  have hB := two_boxes w (decide (x < 0)) (decide (y < 0)) a n c b k d
  have hc1 := compare_any a n c b k d x.natAbs y.natAbs _ (hl.later hB) (hm.later hB) hn hk
  have hc2 := compare_any b k d a n c y.natAbs x.natAbs _ (hm.later hB) (hl.later hB) hk hn
  unfold numV
  rcases Int.lt_or_le x 0 with hx | hx <;> rcases Int.lt_or_le y 0 with hy | hy
  · rw [show decide (x < 0) = true by simpa using hx, show decide (y < 0) = true by simpa using hy] at *
    have h1 : cmpZ x y = cmp y.natAbs x.natAbs := by unfold cmpZ cmp; repeat' split
                                                     all_goals omega
    rw [h1]
    have HC := Lib.hid hc2
    clear hl hm hc1 hc2 hx hy h1
    go_enter Tryd.func32, Tryd.ntmps32
    go_wp2_with (go_at_call 46; refine HC.out.mono ?_; rintro e w1 ⟨rfl, hb1⟩)
    go_ret
    exact ⟨rfl, hB.trans (hb1.mono (by simp; omega))⟩
  · rw [show decide (x < 0) = true by simpa using hx, show decide (y < 0) = false by simpa using hy] at *
    have h1 : cmpZ x y = -1 := if_pos (by omega)
    rw [h1]
    clear hl hm hc1 hc2 hx hy h1
    go_enter Tryd.func32, Tryd.ntmps32
    go_wp2_with fail
    go_ret
    exact ⟨rfl, hB⟩
  · rw [show decide (x < 0) = false by simpa using hx, show decide (y < 0) = true by simpa using hy] at *
    have h1 : cmpZ x y = 1 := by unfold cmpZ; rw [if_neg (by omega), if_pos (by omega)]
    rw [h1]
    clear hl hm hc1 hc2 hx hy h1
    go_enter Tryd.func32, Tryd.ntmps32
    go_wp2_with fail
    go_ret
    exact ⟨rfl, hB⟩
  · rw [show decide (x < 0) = false by simpa using hx, show decide (y < 0) = false by simpa using hy] at *
    have h1 : cmpZ x y = cmp x.natAbs y.natAbs := by unfold cmpZ cmp; repeat' split
                                                     all_goals omega
    rw [h1]
    have HC := Lib.hid hc1
    clear hl hm hc1 hc2 hx hy h1
    go_enter Tryd.func32, Tryd.ntmps32
    go_wp2_with (go_at_call 46; refine HC.out.mono ?_; rintro e w1 ⟨rfl, hb1⟩)
    go_ret
    exact ⟨rfl, hB.trans (hb1.mono (by simp; omega))⟩

end Go.Proofs.YtieaelipgieaoaaDoor
