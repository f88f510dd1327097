/-
  Layer 3, for the laws: what the functions of the package answer, the numerals as a letter.
-/
import Derived.Test.YtieaelipgieaoaaDoorIhk
namespace Go.Proofs.YtieaelipgieaoaaDoor
open Go.RowKit Bs Ig

/-- where a law stands: what was there is as it was, and the table lies where it lay -/
structure Now (w W : World) : Prop where
  below : Below w.heap.size w W
  tab : TabP W
theorem Now.start {w : World} (h : TabP w) : Now w w := ⟨Below.refl _ _, h⟩
theorem Now.step {w W W' : World} (h : Now w W) (hb : Below W.heap.size W W') : Now w W' := ⟨below_on h.below hb h.below.size, h.tab.later hb⟩

/-- what the functions answer at integers -/
structure Ops (T : Int → ByteArray) : Prop where
  add : ∀ x y z : Int, x.natAbs < big → y.natAbs < big → x + y = z → z.natAbs < big → ∀ W, TabP W → Calls Tryd.prog 14 #[.string (T x), .string (T y)] W fun e w' => e = .returned (.tuple #[.string (T z), .int .i64 0]) ∧ Below W.heap.size W w'
  sub : ∀ x y z : Int, x.natAbs < big → y.natAbs < big → x - y = z → z.natAbs < big → ∀ W, TabP W → Calls Tryd.prog 15 #[.string (T x), .string (T y)] W fun e w' => e = .returned (.tuple #[.string (T z), .int .i64 0]) ∧ Below W.heap.size W w'
  mul : ∀ x y z : Int, x.natAbs < big → y.natAbs < big → x * y = z → z.natAbs < big → ∀ W, TabP W → Calls Tryd.prog 16 #[.string (T x), .string (T y)] W fun e w' => e = .returned (.tuple #[.string (T z), .int .i64 0]) ∧ Below W.heap.size W w'
  gcd : ∀ x y z : Int, x.natAbs < big → y.natAbs < big → (Int.gcd x y : Nat) = z → ∀ W, TabP W → Calls Tryd.prog 21 #[.string (T x), .string (T y)] W fun e w' => e = .returned (.tuple #[.string (T z), .int .i64 0]) ∧ Below W.heap.size W w'
  div : ∀ x y q r : Int, x.natAbs < big → y.natAbs < big → y ≠ 0 → x / y = q → x % y = r → ∀ W, TabP W → Calls Tryd.prog 18 #[.string (T x), .string (T y)] W fun e w' => e = .returned (.tuple #[.string (T q), .string (T r), .int .i64 0]) ∧ Below W.heap.size W w'
  divz : ∀ x y : Int, x.natAbs < big → y = 0 → ∀ W, Calls Tryd.prog 18 #[.string (T x), .string (T y)] W fun e w' => e = .returned (.tuple #[.string ⟨#[]⟩, .string ⟨#[]⟩, .int .i64 30]) ∧ Below W.heap.size W w'
  root : ∀ x r : Int, x.natAbs < big → 0 ≤ x → (rt x.natAbs : Nat) = r → ∀ W, TabP W → Calls Tryd.prog 22 #[.string (T x)] W fun e w' => e = .returned (.tuple #[.string (T r), .int .i64 0]) ∧ Below W.heap.size W w'
  rootn : ∀ x : Int, x.natAbs < big → x < 0 → ∀ W, Calls Tryd.prog 22 #[.string (T x)] W fun e w' => e = .returned (.tuple #[.string ⟨#[]⟩, .int .i64 30]) ∧ Below W.heap.size W w'
  cmp : ∀ x y c : Int, x.natAbs < big → y.natAbs < big → cmpZ x y = c → ∀ W, Calls Tryd.prog 17 #[.string (T x), .string (T y)] W fun e w' => e = .returned (.int .i64 c) ∧ Below W.heap.size W w'
  valid : ∀ x : Int, x.natAbs < big → ∀ W, Calls Tryd.prog 19 #[.string (T x)] W fun e w' => e = .returned (.bool true) ∧ w' = W
  toInt : ∀ x : Int, isInt x → ∀ W, Calls Tryd.prog 13 #[.string (T x)] W fun e w' => e = .returned (.tuple #[.int .i64 x, .int .i64 0]) ∧ Below W.heap.size W w'
  fromInt : ∀ x : Int, -9223372036854775808 ≤ x → x ≤ 9223372036854775807 → ∀ W, TabP W → Calls Tryd.prog 12 #[.int .i64 x] W fun e w' => e = .returned (.string (T x)) ∧ Below W.heap.size W w'
  eq : ∀ x y : Int, ((T x).toList == (T y).toList) = decide (x = y)
  eq0 : ∀ x : Int, ((T x).toList == [48]) = decide (x = 0)
  zero : T 0 = ⟨#[48]⟩
  one : T 1 = ⟨#[49]⟩
  ne : ∀ x : Int, ((T x).toList == []) = false
theorem int_bigs {n : Int} (h : isInt n) : n.natAbs < big := Nat.lt_trans (show n.natAbs < 10000000000000000000 by have := h.1; have := h.2; omega) (by decide +kernel)
theorem lt_bb {n : Nat} (h : n < big) : n < big * big := Nat.lt_of_lt_of_le h big_sq
theorem lit_0 : Lib.itoa 0 = [48] := by rw [show (0 : Int) = ((0 : Nat) : Int) from rfl, itoa_nat, dec_small (by omega)]; rfl
theorem gcd_big {x y : Int} (hx : x.natAbs < big) (hy : y.natAbs < big) : Int.gcd x y < big := by
  rcases Nat.eq_zero_or_pos y.natAbs with h | h
  · unfold Int.gcd; rw [h, Nat.gcd_zero_right]; exact hx
  · exact Nat.lt_of_le_of_lt (Nat.gcd_le_right _ h) hy
theorem ops : ∃ T : Int → ByteArray, (∀ n, bs (Lib.itoa n) = T n) ∧ Ops T := by
  refine ⟨fun n => bs (Lib.itoa n), fun _ => rfl, ?_⟩
  have ht : ∀ z : Int, z.natAbs < big → txt z = Lib.itoa z := fun z h => if_pos h
  have he : ∀ z : Int, z.natAbs < big → err z = 0 := fun z h => if_pos h
  refine ⟨?_, ?_, ?_, ?_, ?_, ?_, ?_, ?_, ?_, ?_, ?_, ?_, ?_, ?_, ?_, ?_, ?_⟩
  · rintro x y z hx hy rfl hz W hW
    have := Add_any x y hx hy (lt_bb hz) W hW
    rw [ht _ hz, he _ hz] at this
    exact this
  · rintro x y z hx hy rfl hz W hW
    have := Sub_any x y hx hy (lt_bb hz) W hW
    rw [ht _ hz, he _ hz] at this
    exact this
  · rintro x y z hx hy rfl hz W hW
    have := Mul_any x y hx hy (lt_bb hz) W hW
    rw [ht _ hz, he _ hz] at this
    exact this
  · rintro x y z hx hy rfl W hW
    have hg := gcd_big hx hy
    have := Gcd_any x y hx hy (lt_bb hg) W hW
    rw [ht _ (by rw [Int.natAbs_natCast]; exact hg), he _ (by rw [Int.natAbs_natCast]; exact hg)] at this
    exact this
  · rintro x y q r hx hy h0 rfl rfl W hW
    exact Div_any x y hx hy h0 W hW
  · rintro x y hx rfl W
    exact Div_zero x hx W
  · rintro x r hx h0 rfl W hW
    exact Root_any x hx h0 W hW
  · rintro x hx h0 W
    exact Root_neg x hx h0 W
  · rintro x y c hx hy rfl W
    exact Compare_any x y hx hy W
  · rintro x hx W
    exact Valid_yes x hx W
  · rintro x hx W
    exact ToInt_ok x (int_bigs hx) hx W
  · rintro x h0 h1 W hW
    exact FromInt_any x h0 h1 W hW
  · rintro x y
    rw [bs_toList, bs_toList]
    by_cases h : x = y
    · subst h; simp
    · rw [decide_eq_false h]; exact beq_false_of_ne fun e => h (itoa_inj e)
  · rintro x
    rw [bs_toList]
    by_cases h : x = 0
    · subst h; rw [lit_0]; rfl
    · rw [decide_eq_false h]; exact itoa_zero x h
  · show bs (Lib.itoa 0) = _; rw [lit_0]; rfl
  · show bs (Lib.itoa 1) = _; rw [lit_1]; rfl
  · rintro x
    rw [bs_toList]
    refine beq_false_of_ne fun e => ?_
    rcases int_cases x with ⟨n, rfl⟩ | ⟨n, hn, rfl⟩
    · rw [itoa_nat] at e; exact dec_ne n e
    · rw [itoa_neg _ hn] at e; cases e

end Go.Proofs.YtieaelipgieaoaaDoor
