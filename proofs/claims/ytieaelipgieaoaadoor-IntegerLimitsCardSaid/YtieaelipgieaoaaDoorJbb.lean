/-
  Layer 3, for the laws: how great sums and products become; the integers that strings determine, with numerals as a letter.
-/
import Derived.Test.YtieaelipgieaoaaDoorJmf
namespace Go.Proofs.YtieaelipgieaoaaDoor
open Go.RowKit Bs Ig

theorem add_lt {x y : Int} {i : Nat} (hx : x.natAbs < 10 ^ i) (hy : y.natAbs < 10 ^ i) : (x + y).natAbs < 10 ^ (i + 1) := by
  rw [Nat.pow_succ]
  have := Int.natAbs_add_le x y
  omega
theorem sub_lt {x y : Int} {i : Nat} (hx : x.natAbs < 10 ^ i) (hy : y.natAbs < 10 ^ i) : (x - y).natAbs < 10 ^ (i + 1) := by
  rw [Nat.pow_succ]
  have := Int.natAbs_sub_le x y
  omega
theorem mul_lt {x y : Int} {i j : Nat} (hx : x.natAbs < 10 ^ i) (hy : y.natAbs < 10 ^ j) : (x * y).natAbs < 10 ^ (i + j) := by
  rw [Int.natAbs_mul, Nat.pow_add]
  exact Nat.mul_lt_mul'' hx hy
theorem lt_more {x : Int} {i j : Nat} (hx : x.natAbs < 10 ^ i) (h : i ≤ j) : x.natAbs < 10 ^ j := Nat.lt_of_lt_of_le hx (Nat.pow_le_pow_right (by omega) h)
theorem lt_big {x : Int} {i : Nat} (hx : x.natAbs < 10 ^ i) (h : i ≤ 200) : x.natAbs < big := lt_more hx h
theorem zero_big : (0 : Int).natAbs < big := Nat.pow_pos (by omega)
theorem one_big : (1 : Int).natAbs < big := small_big 1 (by decide)

/-- the letter, and what the functions answer with it -/
structure Opm (T : Int → ByteArray) : Prop where
  ops : Ops T
  made : ∀ (s : ByteArray), s.size ≤ 9223372036854775807 → ∀ (most : Nat) (M : Int), M = most → most ≤ 200 → ∀ W, Calls Tryd.prog 20 #[.string s, .int .i64 M] W fun e w' => ∃ z : Int, z.natAbs < 10 ^ most ∧ e = .returned (.string (T z)) ∧ Below W.heap.size W w'
theorem opm : ∃ T : Int → ByteArray, Opm T := by
  obtain ⟨T, hT, HO⟩ := ops
  refine ⟨T, HO, fun s hs most M hM hmo W => (Made_any s hs most M hM hmo W).mono ?_⟩
  rintro e w' ⟨z, h1, rfl, hb⟩
  exact ⟨z, h1, by rw [hT], hb⟩

end Go.Proofs.YtieaelipgieaoaaDoor
