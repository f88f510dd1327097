/-
  The law WireRoundTrip: the walk.
-/
import Derived.Test.YtbcdigkndpjebaaDoorLaMath
namespace Go.Proofs.YtbcdigkndpjebaaDoor
open Go.RowKit

set_option maxRecDepth 100000 in
set_option maxHeartbeats 1000000 in
theorem RoundTrip_any (c : Int) (text a0 a1 : ByteArray) (w : World) (h : TabAt w) (c1 : -9223372036854775808 ≤ c) (c2 : c ≤ 9223372036854775807)
    (z0 : text.size ≤ maxLen) (z1 : a0.size ≤ maxLen) (z2 : a1.size ≤ maxLen) :
    Calls Tryd.prog 4 #[.int .i64 c, .string text, .agg #[.string a0, .string a1]] w fun e w' => e = .returned (.bool true) ∧ Below w.heap.size w w' := by
  unfold maxLen at z0 z1 z2
  obtain ⟨m0, t, ⟨m0a, m0b⟩, x0, l0, e0, -⟩ := cut_string text 200
  obtain ⟨m1, p, ⟨m1a, m1b⟩, x1, l1, e1, -⟩ := cut_string a0 200
  obtain ⟨m2, q, ⟨m2a, m2b⟩, x2, l2, e2, -⟩ := cut_string a1 200
  have r0 := fun w ts ty => min_run (P := Tryd.prog) text.size 200 m0 e0 200 rfl w ts ty
  have r1 := fun w ts ty => min_run (P := Tryd.prog) a0.size 200 m1 e1 200 rfl w ts ty
  have r2 := fun w ts ty => min_run (P := Tryd.prog) a1.size 200 m2 e2 200 rfl w ts ty
  have L0 := Lib.hid l0
  have L1 := Lib.hid l1
  have L2 := Lib.hid l2
  clear e0 e1 e2 l0 l1 l2
  go_enter Tryd.func4, Tryd.ntmps4
  go_wp2_with fail
  have k0 : (w.alloc (.cells #[.string a0, .string a1] 36)).cell? ⟨w.heap.size, 0, none⟩ = some (.string a0) := by rw [cell_of_row _ _ _ _ _ _ (heap_alloc_new _ _)]; rfl
  have k1 : (w.alloc (.cells #[.string a0, .string a1] 36)).cell? ⟨w.heap.size, 1, none⟩ = some (.string a1) := by rw [cell_of_row _ _ _ _ _ _ (heap_alloc_new _ _)]; rfl
  have hB0 : Below w.heap.size w (w.alloc (.cells #[.string a0, .string a1] 36)) := (Below.refl _ w).alloc (Nat.le_refl _) _
  have hlt : w.heap.size < (w.alloc (.cells #[.string a0, .string a1] 36)).heap.size := by simp
  refine (sane_any _ (h.below hB0)).mono ?_
  rintro e w1 ⟨rfl, b1⟩
  have B1 := below_on hB0 b1 (by simp)
  have l1 : w.heap.size < w1.heap.size := Nat.lt_of_lt_of_le hlt b1.size
  have k0' := (b1.cell (p := ⟨w.heap.size, 0, none⟩) hlt).trans k0
  have k1' := (b1.cell (p := ⟨w.heap.size, 1, none⟩) hlt).trans k1
  clear b1 k0 k1 hB0 hlt
  go_wp2_with fail
  refine (NumberFrom_any c _ c1 c2).mono ?_
  rintro e w2 ⟨rfl, b2⟩
  have B2 := below_on B1 b2 (by omega)
  have l2 : w.heap.size < w2.heap.size := Nat.lt_of_lt_of_le l1 b2.size
  have k0 := (b2.cell (p := ⟨w.heap.size, 0, none⟩) l1).trans k0'
  have k1 := (b2.cell (p := ⟨w.heap.size, 1, none⟩) l1).trans k1'
  clear b2 k0' k1' B1 l1
  obtain ⟨n1, n2⟩ := nf_bd c
  generalize nf c = n at *
  go_wp2_with fail
  refine (PutInt_at n _ (by omega) (by omega)).mono ?_
  rintro e w3 ⟨rfl, b3⟩
  have B3 := below_on B2 b3 (by omega)
  clear b3 B2 k0 k1 l2
  go_wp2_with fail
  have ht : t.length ≤ 200 := by have := L0.out; omega
  have hp : p.length ≤ 200 := by have := L1.out; omega
  have hq : q.length ≤ 200 := by have := L2.out; omega
  clear r0 r1 r2 x0 x1 x2
  have e1 := (encI_length n).2
  have e2 := (encI_length t.length).2
  refine (PutString_at t (by omega) _).mono ?_
  rintro e w4 ⟨rfl, b4⟩
  have B4 := below_on B3 b4 (by have := B3.size; omega)
  clear b4 B3
  have hap : ∀ l m, bs l ++ bs m = bs (l ++ m) := bs_append
  have hsz : ∀ l, (bs l).size = l.length := bs_size
  go_wp2_with fail
  refine (Int_at (by omega) (by omega) p q _ (by simp; omega)).mono ?_
  rintro e w5 ⟨rfl, rfl⟩
  go_wp2_with fail
  refine (String_at t (by omega) p q _ (by simp; omega)).mono ?_
  rintro e w6 ⟨rfl, rfl⟩
  go_wp2_with fail
  go_ret
  exact ⟨rfl, B4⟩

end Go.Proofs.YtbcdigkndpjebaaDoor
