/-
  Layer 3: the exported functions.
-/
import Derived.Test.YtieaelipgieaoaaDoorIhg
namespace Go.Proofs.YtieaelipgieaoaaDoor
open Go.RowKit Bs Ig

set_option maxRecDepth 100000 in
set_option maxHeartbeats 1000000 in
theorem Add_any (x y : Int) (hx : x.natAbs < big) (hy : y.natAbs < big) (hz : (x + y).natAbs < big * big) (w : World) (ht : TabP w) :
    Calls Tryd.prog 14 #[.string (bs (Lib.itoa x)), .string (bs (Lib.itoa y))] w fun e w' => e = .returned (.tuple #[.string (bs (txt (x + y))), .int .i64 (err (x + y))]) ∧ Below w.heap.size w w' := by
  have HC := Lib.hid (fun (W : World) (hb : Below w.heap.size w W) => calc_add x y hx hy hz W (ht.later hb))
  generalize bs (Lib.itoa x) = S at *
  generalize bs (Lib.itoa y) = T at *
  generalize bs (txt (x + y)) = U at *
  generalize err (x + y) = er at *
  clear hx hy hz ht
  go_enter Tryd.func14, Tryd.ntmps14
  go_wp2_with (go_at_call 27; (with_reducible refine (HC.out _ (Below.refl _ _)).mono ?_); rintro e w1 ⟨rfl, B1⟩)
  go_ret2
  exact ⟨rfl, B1⟩

set_option maxRecDepth 100000 in
set_option maxHeartbeats 1000000 in
theorem Add_no (l : List UInt8) (hl : ¬ IsI l) (T : ByteArray) (w : World) :
    Calls Tryd.prog 14 #[.string (bs l), .string T] w fun e w' => e = .returned (.tuple #[.string (bs []), .int .i64 30]) ∧ Below w.heap.size w w' := by
  have HC := Lib.hid (fun (W : World) v => calculate_no l hl T v W)
  generalize bs l = S at *
  generalize bs [] = U at *
  clear hl
  go_enter Tryd.func14, Tryd.ntmps14
  go_wp2_with (go_at_call 27; (with_reducible refine (HC.out _ _).mono ?_); rintro e w1 ⟨rfl, B1⟩)
  go_ret2
  exact ⟨rfl, B1⟩

set_option maxRecDepth 100000 in
set_option maxHeartbeats 1000000 in
theorem Sub_any (x y : Int) (hx : x.natAbs < big) (hy : y.natAbs < big) (hz : (x - y).natAbs < big * big) (w : World) (ht : TabP w) :
    Calls Tryd.prog 15 #[.string (bs (Lib.itoa x)), .string (bs (Lib.itoa y))] w fun e w' => e = .returned (.tuple #[.string (bs (txt (x - y))), .int .i64 (err (x - y))]) ∧ Below w.heap.size w w' := by
  have HC := Lib.hid (fun (W : World) (hb : Below w.heap.size w W) => calc_sub x y hx hy hz W (ht.later hb))
  generalize bs (Lib.itoa x) = S at *
  generalize bs (Lib.itoa y) = T at *
  generalize bs (txt (x - y)) = U at *
  generalize err (x - y) = er at *
  clear hx hy hz ht
  go_enter Tryd.func15, Tryd.ntmps15
  go_wp2_with (go_at_call 27; (with_reducible refine (HC.out _ (Below.refl _ _)).mono ?_); rintro e w1 ⟨rfl, B1⟩)
  go_ret2
  exact ⟨rfl, B1⟩

set_option maxRecDepth 100000 in
set_option maxHeartbeats 1000000 in
theorem Sub_no (l : List UInt8) (hl : ¬ IsI l) (T : ByteArray) (w : World) :
    Calls Tryd.prog 15 #[.string (bs l), .string T] w fun e w' => e = .returned (.tuple #[.string (bs []), .int .i64 30]) ∧ Below w.heap.size w w' := by
  have HC := Lib.hid (fun (W : World) v => calculate_no l hl T v W)
  generalize bs l = S at *
  generalize bs [] = U at *
  clear hl
  go_enter Tryd.func15, Tryd.ntmps15
  go_wp2_with (go_at_call 27; (with_reducible refine (HC.out _ _).mono ?_); rintro e w1 ⟨rfl, B1⟩)
  go_ret2
  exact ⟨rfl, B1⟩

set_option maxRecDepth 100000 in
set_option maxHeartbeats 1000000 in
theorem Mul_any (x y : Int) (hx : x.natAbs < big) (hy : y.natAbs < big) (hz : (x * y).natAbs < big * big) (w : World) (ht : TabP w) :
    Calls Tryd.prog 16 #[.string (bs (Lib.itoa x)), .string (bs (Lib.itoa y))] w fun e w' => e = .returned (.tuple #[.string (bs (txt (x * y))), .int .i64 (err (x * y))]) ∧ Below w.heap.size w w' := by
  have HC := Lib.hid (fun (W : World) (hb : Below w.heap.size w W) => calc_mul x y hx hy hz W (ht.later hb))
  generalize bs (Lib.itoa x) = S at *
  generalize bs (Lib.itoa y) = T at *
  generalize bs (txt (x * y)) = U at *
  generalize err (x * y) = er at *
  clear hx hy hz ht
  go_enter Tryd.func16, Tryd.ntmps16
  go_wp2_with (go_at_call 27; (with_reducible refine (HC.out _ (Below.refl _ _)).mono ?_); rintro e w1 ⟨rfl, B1⟩)
  go_ret2
  exact ⟨rfl, B1⟩

set_option maxRecDepth 100000 in
set_option maxHeartbeats 1000000 in
theorem Mul_no (l : List UInt8) (hl : ¬ IsI l) (T : ByteArray) (w : World) :
    Calls Tryd.prog 16 #[.string (bs l), .string T] w fun e w' => e = .returned (.tuple #[.string (bs []), .int .i64 30]) ∧ Below w.heap.size w w' := by
  have HC := Lib.hid (fun (W : World) v => calculate_no l hl T v W)
  generalize bs l = S at *
  generalize bs [] = U at *
  clear hl
  go_enter Tryd.func16, Tryd.ntmps16
  go_wp2_with (go_at_call 27; (with_reducible refine (HC.out _ _).mono ?_); rintro e w1 ⟨rfl, B1⟩)
  go_ret2
  exact ⟨rfl, B1⟩

set_option maxRecDepth 100000 in
set_option maxHeartbeats 1000000 in
theorem Gcd_any (x y : Int) (hx : x.natAbs < big) (hy : y.natAbs < big) (hz : (Int.gcd x y) < big * big) (w : World) (ht : TabP w) :
    Calls Tryd.prog 21 #[.string (bs (Lib.itoa x)), .string (bs (Lib.itoa y))] w fun e w' => e = .returned (.tuple #[.string (bs (txt ((Int.gcd x y : Nat) : Int))), .int .i64 (err ((Int.gcd x y : Nat) : Int))]) ∧ Below w.heap.size w w' := by
  have HC := Lib.hid (fun (W : World) (hb : Below w.heap.size w W) => calc_gcd x y hx hy hz W (ht.later hb))
  generalize bs (Lib.itoa x) = S at *
  generalize bs (Lib.itoa y) = T at *
  generalize bs (txt ((Int.gcd x y : Nat) : Int)) = U at *
  generalize err ((Int.gcd x y : Nat) : Int) = er at *
  clear hx hy hz ht
  go_enter Tryd.func21, Tryd.ntmps21
  go_wp2_with (go_at_call 27; (with_reducible refine (HC.out _ (Below.refl _ _)).mono ?_); rintro e w1 ⟨rfl, B1⟩)
  go_ret2
  exact ⟨rfl, B1⟩

set_option maxRecDepth 100000 in
set_option maxHeartbeats 1000000 in
theorem Gcd_no (l : List UInt8) (hl : ¬ IsI l) (T : ByteArray) (w : World) :
    Calls Tryd.prog 21 #[.string (bs l), .string T] w fun e w' => e = .returned (.tuple #[.string (bs []), .int .i64 30]) ∧ Below w.heap.size w w' := by
  have HC := Lib.hid (fun (W : World) v => calculate_no l hl T v W)
  generalize bs l = S at *
  generalize bs [] = U at *
  clear hl
  go_enter Tryd.func21, Tryd.ntmps21
  go_wp2_with (go_at_call 27; (with_reducible refine (HC.out _ _).mono ?_); rintro e w1 ⟨rfl, B1⟩)
  go_ret2
  exact ⟨rfl, B1⟩

set_option maxRecDepth 100000 in
set_option maxHeartbeats 1000000 in
theorem Compare_any (x y : Int) (hx : x.natAbs < big) (hy : y.natAbs < big) (w : World) :
    Calls Tryd.prog 17 #[.string (bs (Lib.itoa x)), .string (bs (Lib.itoa y))] w fun e w' => e = .returned (.int .i64 (cmpZ x y)) ∧ Below w.heap.size w w' := by
  have HV1 := Lib.hid (Valid_yes x hx)
  have HV2 := Lib.hid (Valid_yes y hy)
  have HN1 := Lib.hid (numberOf_any x hx)
  have HN2 := Lib.hid (numberOf_any y hy)
  have HK := Lib.hid (ncompare_any x y)
  unfold numV at HN1 HN2 HK
  obtain ⟨bx, hbx⟩ : ∃ bx, decide (x < 0) = bx := ⟨_, rfl⟩
  obtain ⟨bz, hbz⟩ : ∃ bz, decide (y < 0) = bz := ⟨_, rfl⟩
  simp only [hbx, hbz] at HN1 HN2 HK
  generalize bs (Lib.itoa x) = S at *
  generalize bs (Lib.itoa y) = T at *
  generalize cmpZ x y = U at *
  clear hx hy hbx hbz
  go_enter Tryd.func17, Tryd.ntmps17
  go_wp2_with (first
    | (go_at_call 19; (with_reducible refine (HV1.out _).mono ?_); rintro e w1 ⟨rfl, rfl⟩)
    | (go_at_call 19; (with_reducible refine (HV2.out _).mono ?_); rintro e w1 ⟨rfl, rfl⟩)
    | (go_at_call 31; (with_reducible refine (HN2.out _).mono ?_); rintro e w3 ⟨a2, n2, c2, rfl, z2, l2, B2⟩; have z12 := z1.later B2; have B12 := below_on B1 B2 B1.size)
    | (go_at_call 31; (with_reducible refine (HN1.out _).mono ?_); rintro e w2 ⟨a1, n1, c1, rfl, z1, l1, B1⟩)
    | (go_at_call 32; (with_reducible refine (HK.out _ _ _ _ _ _ _ z12 z2 (by omega) (by omega)).mono ?_); rintro e w4 ⟨rfl, B3⟩; have B23 := below_on B12 B3 B12.size))
  go_ret
  exact ⟨rfl, B23⟩

set_option maxRecDepth 100000 in
set_option maxHeartbeats 1000000 in
theorem FromInt_any (n : Int) (h0 : -9223372036854775808 ≤ n) (h1 : n ≤ 9223372036854775807) (w : World) (ht : TabP w) :
    Calls Tryd.prog 12 #[.int .i64 n] w fun e w' => e = .returned (.string (bs (Lib.itoa n))) ∧ Below w.heap.size w w' := by
  have hI : ∀ W, Below w.heap.size w W → Calls Tryd.prog 25 #[.int .i64 n] W fun e w' => e = .returned (.string (bs (Lib.itoa n))) ∧ Below W.heap.size W w' := fun W hb => by
    refine (Tryd.strconv_Itoa n h0 h1 W (ht.later hb)).mono ?_
    rintro e w' ⟨rfl, k, os, rfl⟩
    exact ⟨rfl, below_grow W k os⟩
  have HI := Lib.hid hI
  generalize bs (Lib.itoa n) = S at *
  clear hI ht
  go_enter Tryd.func12, Tryd.ntmps12
  go_wp2_with (go_at_call 25; (with_reducible refine (HI.out _ (Below.refl _ _)).mono ?_); rintro e w1 ⟨rfl, B1⟩)
  go_ret
  exact ⟨rfl, B1⟩

end Go.Proofs.YtieaelipgieaoaaDoor
