/-
  Layer 3: how many times a number contains another one.
-/
import Derived.Test.YtieaelipgieaoaaDoorIgq
import Derived.Test.YtieaelipgieaoaaDoorIga
import Derived.BigRegion
namespace Go.Proofs.YtieaelipgieaoaaDoor
open Go.RowKit Bs Ig Go.Shelf

set_option maxRecDepth 100000 in
set_option maxHeartbeats 1000000 in
theorem head_any (a : Option Addr) (n c x f : Nat) (w : World) (hl : IsZ w a n c (zs (G x))) (hn : n ≤ f + 4) (hf : f ≤ 1000) :
    Calls Tryd.prog 93 #[.slice a n c, .int .i64 (f : Int)] w fun e w' => e = .returned (.int .i64 (x / 10000 ^ f : Nat)) ∧ w = w' := by
  have hxl : (G x).length = n := by rw [← zs_length]; exact hl.len
  have hnc := hl.cap
  have hxb : x < 10000 ^ n := by have := dgs_lt_pow 9998 x; rwa [show (dgs 9998 x).length = n from hxl] at this
  go_enter Tryd.func93, Tryd.ntmps93
  go_wp2_with fail
  go_loopw [5, 6] (fun v i wr => ∃ j : Nat, j ≤ n ∧ (f ≤ j ∨ j = n) ∧ i = .int .i64 ((j : Int) - 1) ∧ v = .int .i64 (x / 10000 ^ j : Nat) ∧ w = wr) (fun _ i _ => (intOf i + 1).toNat)
  case atStart => exact ⟨n, Nat.le_refl _, .inr rfl, rfl, by rw [Nat.div_eq_of_lt hxb]; rfl, rfl⟩
  case round =>
    obtain ⟨j, hj, hfj, rfl, rfl, rfl⟩ := hrel
    rcases Nat.lt_or_ge f j with hlt | hge
    · obtain ⟨g, off, rfl, hI⟩ := hl.at (by omega)
      obtain ⟨i, rfl⟩ : ∃ i, j = i + 1 := ⟨j - 1, by omega⟩
      have hc := hI i (by rw [zs_length]; omega)
      rw [zs_getD, show (G x).getD i 0 = x / 10000 ^ i % 10000 from dgs_getD 9998 x i] at hc
      have hst := div_step 9998 x i
      rw [show (9998 + 2 : Nat) = 10000 from rfl] at hst
      have hb : x / 10000 ^ i < 10000000000000000 := by
        apply Nat.div_lt_of_lt_mul
        have h1 : 10000 ^ n ≤ 10000 ^ i * 10000 ^ 4 := by rw [← Nat.pow_add]; exact Nat.pow_le_pow_right (by omega) (by omega)
        have h2 : (10000 : Nat) ^ 4 = 10000000000000000 := by decide
        rw [h2] at h1
        omega
      have hfi : f ≤ i := by omega
      obtain ⟨X, hX⟩ : ∃ X, x / 10000 ^ i = X := ⟨_, rfl⟩
      rw [hX] at hc hst hb
      have HX := Lib.hid hX
      clear hX
      generalize x / 10000 ^ (i + 1) = Y at *
      obtain ⟨r, hr⟩ : ∃ r, X % 10000 = r := ⟨_, rfl⟩
      have hr1 : r < 10000 := by omega
      rw [hr] at hc hst
      have e1 : ((i + 1 : Nat) : Int) - 1 = (i : Int) := by omega
      rw [e1]
      clear hl hI hr hxb
      go_wp2_with fail
      go_roundw
      case rel => exact ⟨i, by omega, .inl hfi, by go_num, by rw [HX.out, hst]; congr 1; omega, trivial⟩
      case measure => simp [intOf]
    · have hfin : x / 10000 ^ j = x / 10000 ^ f := by
        rcases hfj with h | h
        · rw [show j = f by omega]
        · subst h; rw [Nat.div_eq_of_lt hxb, Nat.div_eq_of_lt (Nat.lt_of_lt_of_le hxb (Nat.pow_le_pow_right (by omega) hge))]
      rw [hfin]
      clear hl hxb hfin
      go_wp2_with fail
      go_ret
      exact ⟨rfl, rfl⟩

theorem pow_head (y k f : Nat) (hk : (G y).length = k) (hy : 0 < y) (hf : f + 1 ≤ k) : 0 < y / 10000 ^ f := by
  have h := dgs_le_pow 9998 y hy
  rw [show (dgs 9998 y).length = k from hk] at h
  exact Nat.div_pos (Nat.le_trans (Nat.pow_le_pow_right (by omega) (by omega)) h) (Nat.pow_pos (by omega))
theorem head_small (x n f : Nat) (hx : x < 10000 ^ n) (hn : n ≤ f + 4) : x / 10000 ^ f < 10000000000000000 := by
  apply Nat.div_lt_of_lt_mul
  have h1 : 10000 ^ n ≤ 10000 ^ f * 10000 ^ 4 := by rw [← Nat.pow_add]; exact Nat.pow_le_pow_right (by omega) (by omega)
  have h2 : (10000 : Nat) ^ 4 = 10000000000000000 := by decide
  rw [h2] at h1
  omega
set_option maxRecDepth 100000 in
set_option maxHeartbeats 1000000 in
theorem bounds_any (a : Option Addr) (n c : Nat) (b : Option Addr) (k d : Nat) (x y f : Nat) (w : World) (hl : IsZ w a n c (zs (G x))) (hm : IsZ w b k d (zs (G y))) (hf : f = k - 3) (hy : 0 < y) (hn : n ≤ k + 1) (hk : k ≤ 1000) :
    Calls Tryd.prog 81 #[.slice a n c, .slice b k d] w fun e w' => e = .returned (.tuple #[.int .i64 (x / 10000 ^ f / (y / 10000 ^ f + 1) : Nat), .int .i64 (min (x / 10000 ^ f / (y / 10000 ^ f)) 9999 : Nat)]) ∧ Below w.heap.size w w' := by
  have hxl : (G x).length = n := by rw [← zs_length]; exact hl.len
  have hyl : (G y).length = k := by rw [← zs_length]; exact hm.len
  have hxb : x < 10000 ^ n := by have := dgs_lt_pow 9998 x; rwa [show (dgs 9998 x).length = n from hxl] at this
  have hyb : y < 10000 ^ k := by have := dgs_lt_pow 9998 y; rwa [show (dgs 9998 y).length = k from hyl] at this
  have hk0 : 0 < k := by
    rcases Nat.eq_zero_or_pos k with h | h
    · rw [h] at hyl; have := dgs_len0.1 hyl; omega
    · exact h
  have h1 := head_any a n c x f w hl (by omega) (by omega)
  have h2 := head_any b k d y f w hm (by omega) (by omega)
  have hX := head_small x n f hxb (by omega)
  have hY := head_small y k f hyb (by omega)
  have hp := pow_head y k f hyl hy (by omega)
  have hmax : ∀ (w : World) (ts : Array TypeId) (t : TypeId), (Builtin.max_ ts t #[.int .i64 0, .int .i64 ((k : Int) - 3)]).run Tryd.prog w = .ok (.int .i64 (f : Int)) w := by
    intro w ts t
    rw [run_max_int2]
    congr 2
    split <;> omega
  generalize x / 10000 ^ f = X at *
  generalize y / 10000 ^ f = Y at *
  obtain ⟨p, hp1⟩ : ∃ p, X / (Y + 1) = p := ⟨_, rfl⟩
  obtain ⟨q, hq1⟩ : ∃ q, X / Y = q := ⟨_, rfl⟩
  have e1 : Int.tdiv (X : Int) ((Y : Int) + 1) = (p : Int) := by rw [← hp1]; rfl
  have e2 : Int.tdiv (X : Int) (Y : Int) = (q : Int) := by rw [← hq1]; rfl
  have hp2 : p ≤ X := by rw [← hp1]; exact Nat.div_le_self _ _
  have hq2 : q ≤ X := by rw [← hq1]; exact Nat.div_le_self _ _
  rw [hp1, hq1]
  obtain ⟨r, hr⟩ : ∃ r, min q 9999 = r := ⟨_, rfl⟩
  rw [hr]
  have hmin := fun (w : World) (ts : Array TypeId) (t : TypeId) => min_run (P := Tryd.prog) q 9999 r hr.symm 9999 rfl w ts t
  have n1 : ¬ ((Y : Int) + 1 = 0) := by omega
  have n2 : ¬ ((Y : Int) = 0) := by omega
  have H1 := Lib.hid h1
  have H2 := Lib.hid h2
  clear hl hm hxb hyb hxl hyl hp1 hq1 hr h1 h2 hf
  go_enter Tryd.func81, Tryd.ntmps81
  go_wp2_with (go_at_call 93; (first | ((with_reducible refine H1.out.mono ?_); rintro e w' ⟨rfl, rfl⟩) | ((with_reducible refine H2.out.mono ?_); rintro e w' ⟨rfl, rfl⟩)))
  go_region
  go_wp2_with fail
  go_ret2
  exact ⟨rfl, (Below.refl _ _).drew⟩

end Go.Proofs.YtieaelipgieaoaaDoor
