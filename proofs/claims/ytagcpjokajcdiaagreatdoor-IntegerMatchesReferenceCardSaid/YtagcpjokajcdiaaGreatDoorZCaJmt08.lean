/-
  Put together by program out of these texts, in this order: Ihg, Ihh, Ihi, Ihj.
-/
import Derived.Test.YtagcpjokajcdiaaGreatDoorZCaJmt07

/-
  Layer 3: the exported functions of two integers.
-/
namespace Go.Proofs.YtagcpjokajcdiaaGreatDoor
open Go.RowKit Bs Ig

theorem isI_itoa {z : Int} (hz : z.natAbs < big) : IsI (Lib.itoa z) := ⟨z, hz, rfl⟩
theorem Valid_yes (z : Int) (hz : z.natAbs < big) (w : World) :
    Calls Tryz.prog 21 #[.string (bs (Lib.itoa z))] w fun e w' => e = .returned (.bool true) ∧ w' = w :=
  (Valid_any (Lib.itoa z) w).mono fun e w' ⟨r, he, hr, hw⟩ => ⟨by rw [he, hr.2 (isI_itoa hz)], hw⟩
theorem Valid_no (l : List UInt8) (hl : ¬ IsI l) (w : World) :
    Calls Tryz.prog 21 #[.string (bs l)] w fun e w' => e = .returned (.bool false) ∧ w' = w :=
  (Valid_any l w).mono fun e w' ⟨r, he, hr, hw⟩ => ⟨by rw [he]; cases r with | false => rfl | true => exact (hl (hr.1 rfl)).elim, hw⟩

theorem len_z {W : World} {a : Option Addr} {n c x : Nat} (h : IsZ W a n c (zs (G x))) (hx : x < big * big) : n ≤ 100000 := by
  have := h.gle (m := 100) (by rw [big_pow, ← Nat.pow_add] at hx; exact hx)
  omega

set_option maxRecDepth 100000 in
set_option maxHeartbeats 1000000 in
theorem calc_add (x y : Int) (hx : x.natAbs < big) (hy : y.natAbs < big) (hz : (x + y).natAbs < big * big) (w : World) (ht : TabP w) :
    Calls Tryz.prog 28 #[.string (bs (Lib.itoa x)), .string (bs (Lib.itoa y)), .func (.func 29) #[] #[]] w fun e w' => e = .returned (.tuple #[.string (bs (txt (x + y))), .int .i64 (err (x + y))]) ∧ Below w.heap.size w w' := by
  have HV1 := Lib.hid (Valid_yes x hx)
  have HV2 := Lib.hid (Valid_yes y hy)
  have HN1 := Lib.hid (numberOf_any x hx)
  have HN2 := Lib.hid (numberOf_any y hy)
  have HR := Lib.hid (fun (W : World) (a : Option Addr) (n c : Nat) (h : IsZ W a n c (zs (G (x + y).natAbs))) (hb : Below w.heap.size w W) => valid_any (x + y) a n c W h (len_z h hz) (ht.later hb))
  have HK := Lib.hid (nplus_any x y)
  unfold numV at HN1 HN2 HR HK
  obtain ⟨bx, hbx⟩ : ∃ bx, decide (x < 0) = bx := ⟨_, rfl⟩
  obtain ⟨bz, hbz⟩ : ∃ bz, decide (y < 0) = bz := ⟨_, rfl⟩
  obtain ⟨br, hbr⟩ : ∃ br, decide ((x + y) < 0) = br := ⟨_, rfl⟩
  simp only [hbx, hbz, hbr] at HN1 HN2 HR HK
  generalize bs (Lib.itoa x) = S at *
  generalize bs (Lib.itoa y) = T at *
  generalize bs (txt (x + y)) = U at *
  generalize err (x + y) = er at *
  clear hx hy hz ht hbx hbz hbr
  go_enter Tryz.func28, Tryz.ntmps28
  go_wp2_with (first
    | (go_at_call 21; (with_reducible refine (HV1.out _).mono ?_); rintro e w1 ⟨rfl, rfl⟩)
    | (go_at_call 21; (with_reducible refine (HV2.out _).mono ?_); rintro e w1 ⟨rfl, rfl⟩)
    | (go_at_call 36; (with_reducible refine (HN2.out _).mono ?_); rintro e w3 ⟨a2, n2, c2, rfl, z2, l2, B2⟩; have z12 := z1.later B2; have B12 := below_on B1 B2 B1.size)
    | (go_at_call 36; (with_reducible refine (HN1.out _).mono ?_); rintro e w2 ⟨a1, n1, c1, rfl, z1, l1, B1⟩)
    | (go_at_call 29; (with_reducible refine (HK.out _ _ _ _ _ _ _ z12 z2 (by omega) (by omega)).mono ?_); rintro e w4 ⟨a3, n3, c3, rfl, z3, B3⟩; have B23 := below_on B12 B3 B12.size)
    | (go_at_call 38; (with_reducible refine (HR.out _ _ _ _ z3 B23).mono ?_); rintro e w5 ⟨rfl, B4⟩))
  go_ret2
  exact ⟨rfl, below_on B23 B4 B23.size⟩

set_option maxRecDepth 100000 in
set_option maxHeartbeats 1000000 in
theorem calc_sub (x y : Int) (hx : x.natAbs < big) (hy : y.natAbs < big) (hz : (x - y).natAbs < big * big) (w : World) (ht : TabP w) :
    Calls Tryz.prog 28 #[.string (bs (Lib.itoa x)), .string (bs (Lib.itoa y)), .func (.func 32) #[] #[]] w fun e w' => e = .returned (.tuple #[.string (bs (txt (x - y))), .int .i64 (err (x - y))]) ∧ Below w.heap.size w w' := by
  have HV1 := Lib.hid (Valid_yes x hx)
  have HV2 := Lib.hid (Valid_yes y hy)
  have HN1 := Lib.hid (numberOf_any x hx)
  have HN2 := Lib.hid (numberOf_any y hy)
  have HR := Lib.hid (fun (W : World) (a : Option Addr) (n c : Nat) (h : IsZ W a n c (zs (G (x - y).natAbs))) (hb : Below w.heap.size w W) => valid_any (x - y) a n c W h (len_z h hz) (ht.later hb))
  have HK := Lib.hid (nminus_any x y)
  unfold numV at HN1 HN2 HR HK
  obtain ⟨bx, hbx⟩ : ∃ bx, decide (x < 0) = bx := ⟨_, rfl⟩
  obtain ⟨bz, hbz⟩ : ∃ bz, decide (y < 0) = bz := ⟨_, rfl⟩
  obtain ⟨br, hbr⟩ : ∃ br, decide ((x - y) < 0) = br := ⟨_, rfl⟩
  simp only [hbx, hbz, hbr] at HN1 HN2 HR HK
  generalize bs (Lib.itoa x) = S at *
  generalize bs (Lib.itoa y) = T at *
  generalize bs (txt (x - y)) = U at *
  generalize err (x - y) = er at *
  clear hx hy hz ht hbx hbz hbr
  go_enter Tryz.func28, Tryz.ntmps28
  go_wp2_with (first
    | (go_at_call 21; (with_reducible refine (HV1.out _).mono ?_); rintro e w1 ⟨rfl, rfl⟩)
    | (go_at_call 21; (with_reducible refine (HV2.out _).mono ?_); rintro e w1 ⟨rfl, rfl⟩)
    | (go_at_call 36; (with_reducible refine (HN2.out _).mono ?_); rintro e w3 ⟨a2, n2, c2, rfl, z2, l2, B2⟩; have z12 := z1.later B2; have B12 := below_on B1 B2 B1.size)
    | (go_at_call 36; (with_reducible refine (HN1.out _).mono ?_); rintro e w2 ⟨a1, n1, c1, rfl, z1, l1, B1⟩)
    | (go_at_call 32; (with_reducible refine (HK.out _ _ _ _ _ _ _ z12 z2 (by omega) (by omega)).mono ?_); rintro e w4 ⟨a3, n3, c3, rfl, z3, B3⟩; have B23 := below_on B12 B3 B12.size)
    | (go_at_call 38; (with_reducible refine (HR.out _ _ _ _ z3 B23).mono ?_); rintro e w5 ⟨rfl, B4⟩))
  go_ret2
  exact ⟨rfl, below_on B23 B4 B23.size⟩

set_option maxRecDepth 100000 in
set_option maxHeartbeats 1000000 in
theorem calc_mul (x y : Int) (hx : x.natAbs < big) (hy : y.natAbs < big) (hz : (x * y).natAbs < big * big) (w : World) (ht : TabP w) :
    Calls Tryz.prog 28 #[.string (bs (Lib.itoa x)), .string (bs (Lib.itoa y)), .func (.func 33) #[] #[]] w fun e w' => e = .returned (.tuple #[.string (bs (txt (x * y))), .int .i64 (err (x * y))]) ∧ Below w.heap.size w w' := by
  have HV1 := Lib.hid (Valid_yes x hx)
  have HV2 := Lib.hid (Valid_yes y hy)
  have HN1 := Lib.hid (numberOf_any x hx)
  have HN2 := Lib.hid (numberOf_any y hy)
  have HR := Lib.hid (fun (W : World) (a : Option Addr) (n c : Nat) (h : IsZ W a n c (zs (G (x * y).natAbs))) (hb : Below w.heap.size w W) => valid_any (x * y) a n c W h (len_z h hz) (ht.later hb))
  have HK := Lib.hid (ntimes_any x y)
  unfold numV at HN1 HN2 HR HK
  obtain ⟨bx, hbx⟩ : ∃ bx, decide (x < 0) = bx := ⟨_, rfl⟩
  obtain ⟨bz, hbz⟩ : ∃ bz, decide (y < 0) = bz := ⟨_, rfl⟩
  obtain ⟨br, hbr⟩ : ∃ br, decide ((x * y) < 0) = br := ⟨_, rfl⟩
  simp only [hbx, hbz, hbr] at HN1 HN2 HR HK
  generalize bs (Lib.itoa x) = S at *
  generalize bs (Lib.itoa y) = T at *
  generalize bs (txt (x * y)) = U at *
  generalize err (x * y) = er at *
  clear hx hy hz ht hbx hbz hbr
  go_enter Tryz.func28, Tryz.ntmps28
  go_wp2_with (first
    | (go_at_call 21; (with_reducible refine (HV1.out _).mono ?_); rintro e w1 ⟨rfl, rfl⟩)
    | (go_at_call 21; (with_reducible refine (HV2.out _).mono ?_); rintro e w1 ⟨rfl, rfl⟩)
    | (go_at_call 36; (with_reducible refine (HN2.out _).mono ?_); rintro e w3 ⟨a2, n2, c2, rfl, z2, l2, B2⟩; have z12 := z1.later B2; have B12 := below_on B1 B2 B1.size)
    | (go_at_call 36; (with_reducible refine (HN1.out _).mono ?_); rintro e w2 ⟨a1, n1, c1, rfl, z1, l1, B1⟩)
    | (go_at_call 33; (with_reducible refine (HK.out _ _ _ _ _ _ _ z12 z2 (by omega) (by omega)).mono ?_); rintro e w4 ⟨a3, n3, c3, rfl, z3, B3⟩; have B23 := below_on B12 B3 B12.size)
    | (go_at_call 38; (with_reducible refine (HR.out _ _ _ _ z3 B23).mono ?_); rintro e w5 ⟨rfl, B4⟩))
  go_ret2
  exact ⟨rfl, below_on B23 B4 B23.size⟩

set_option maxRecDepth 100000 in
set_option maxHeartbeats 1000000 in
theorem calc_gcd (x y : Int) (hx : x.natAbs < big) (hy : y.natAbs < big) (hz : (Int.gcd x y) < big * big) (w : World) (ht : TabP w) :
    Calls Tryz.prog 28 #[.string (bs (Lib.itoa x)), .string (bs (Lib.itoa y)), .func (.func 43) #[] #[]] w fun e w' => e = .returned (.tuple #[.string (bs (txt ((Int.gcd x y : Nat) : Int))), .int .i64 (err ((Int.gcd x y : Nat) : Int))]) ∧ Below w.heap.size w w' := by
  have HV1 := Lib.hid (Valid_yes x hx)
  have HV2 := Lib.hid (Valid_yes y hy)
  have HN1 := Lib.hid (numberOf_any x hx)
  have HN2 := Lib.hid (numberOf_any y hy)
  have HR := Lib.hid (fun (W : World) (a : Option Addr) (n c : Nat) (h : IsZ W a n c (zs (G (Int.gcd x y)))) (hb : Below w.heap.size w W) => valid_any ((Int.gcd x y : Nat) : Int) a n c W (by rw [Int.natAbs_natCast]; exact h) (len_z h hz) (ht.later hb))
  have HK := Lib.hid (ngcd_any x y)
  unfold numV at HN1 HN2 HR HK
  obtain ⟨bx, hbx⟩ : ∃ bx, decide (x < 0) = bx := ⟨_, rfl⟩
  obtain ⟨bz, hbz⟩ : ∃ bz, decide (y < 0) = bz := ⟨_, rfl⟩
  obtain ⟨br, hbr⟩ : ∃ br, decide (((Int.gcd x y : Nat) : Int) < 0) = br := ⟨_, rfl⟩
  simp only [hbx, hbz, hbr] at HN1 HN2 HR HK
  generalize bs (Lib.itoa x) = S at *
  generalize bs (Lib.itoa y) = T at *
  generalize bs (txt ((Int.gcd x y : Nat) : Int)) = U at *
  generalize err ((Int.gcd x y : Nat) : Int) = er at *
  clear hx hy hz ht hbx hbz hbr
  go_enter Tryz.func28, Tryz.ntmps28
  go_wp2_with (first
    | (go_at_call 21; (with_reducible refine (HV1.out _).mono ?_); rintro e w1 ⟨rfl, rfl⟩)
    | (go_at_call 21; (with_reducible refine (HV2.out _).mono ?_); rintro e w1 ⟨rfl, rfl⟩)
    | (go_at_call 36; (with_reducible refine (HN2.out _).mono ?_); rintro e w3 ⟨a2, n2, c2, rfl, z2, l2, B2⟩; have z12 := z1.later B2; have B12 := below_on B1 B2 B1.size)
    | (go_at_call 36; (with_reducible refine (HN1.out _).mono ?_); rintro e w2 ⟨a1, n1, c1, rfl, z1, l1, B1⟩)
    | (go_at_call 43; (with_reducible refine (HK.out _ _ _ _ _ _ _ z12 z2 (by omega) (by omega)).mono ?_); rintro e w4 ⟨a3, n3, c3, rfl, z3, B3⟩; have B23 := below_on B12 B3 B12.size)
    | (go_at_call 38; (with_reducible refine (HR.out _ _ _ _ z3 B23).mono ?_); rintro e w5 ⟨rfl, B4⟩))
  go_ret2
  exact ⟨rfl, below_on B23 B4 B23.size⟩

set_option maxRecDepth 100000 in
set_option maxHeartbeats 1000000 in
theorem calculate_no (l : List UInt8) (hl : ¬ IsI l) (T : ByteArray) (v : Value) (w : World) :
    Calls Tryz.prog 28 #[.string (bs l), .string T, v] w fun e w' => e = .returned (.tuple #[.string (bs []), .int .i64 30]) ∧ Below w.heap.size w w' := by
  have HV1 := Lib.hid (Valid_no l hl)
  generalize bs l = S at *
  clear hl
  go_enter Tryz.func28, Tryz.ntmps28
  go_wp2_with (first
    | (go_at_call 21; (with_reducible refine (HV1.out _).mono ?_); rintro e w1 ⟨rfl, rfl⟩))
  go_ret2
  exact ⟨rfl, Below.refl _ _⟩

end Go.Proofs.YtagcpjokajcdiaaGreatDoor

/-
  Layer 3: the exported functions.
-/
namespace Go.Proofs.YtagcpjokajcdiaaGreatDoor
open Go.RowKit Bs Ig

set_option maxRecDepth 100000 in
set_option maxHeartbeats 1000000 in
theorem Add_any (x y : Int) (hx : x.natAbs < big) (hy : y.natAbs < big) (hz : (x + y).natAbs < big * big) (w : World) (ht : TabP w) :
    Calls Tryz.prog 7 #[.string (bs (Lib.itoa x)), .string (bs (Lib.itoa y))] w fun e w' => e = .returned (.tuple #[.string (bs (txt (x + y))), .int .i64 (err (x + y))]) ∧ Below w.heap.size w w' := by
  have HC := Lib.hid (fun (W : World) (hb : Below w.heap.size w W) => calc_add x y hx hy hz W (ht.later hb))
  generalize bs (Lib.itoa x) = S at *
  generalize bs (Lib.itoa y) = T at *
  generalize bs (txt (x + y)) = U at *
  generalize err (x + y) = er at *
  clear hx hy hz ht
  go_enter Tryz.func7, Tryz.ntmps7
  go_wp2_with (go_at_call 28; (with_reducible refine (HC.out _ (Below.refl _ _)).mono ?_); rintro e w1 ⟨rfl, B1⟩)
  go_ret2
  exact ⟨rfl, B1⟩

set_option maxRecDepth 100000 in
set_option maxHeartbeats 1000000 in
theorem Add_no (l : List UInt8) (hl : ¬ IsI l) (T : ByteArray) (w : World) :
    Calls Tryz.prog 7 #[.string (bs l), .string T] w fun e w' => e = .returned (.tuple #[.string (bs []), .int .i64 30]) ∧ Below w.heap.size w w' := by
  have HC := Lib.hid (fun (W : World) v => calculate_no l hl T v W)
  generalize bs l = S at *
  generalize bs [] = U at *
  clear hl
  go_enter Tryz.func7, Tryz.ntmps7
  go_wp2_with (go_at_call 28; (with_reducible refine (HC.out _ _).mono ?_); rintro e w1 ⟨rfl, B1⟩)
  go_ret2
  exact ⟨rfl, B1⟩

set_option maxRecDepth 100000 in
set_option maxHeartbeats 1000000 in
theorem Sub_any (x y : Int) (hx : x.natAbs < big) (hy : y.natAbs < big) (hz : (x - y).natAbs < big * big) (w : World) (ht : TabP w) :
    Calls Tryz.prog 9 #[.string (bs (Lib.itoa x)), .string (bs (Lib.itoa y))] w fun e w' => e = .returned (.tuple #[.string (bs (txt (x - y))), .int .i64 (err (x - y))]) ∧ Below w.heap.size w w' := by
  have HC := Lib.hid (fun (W : World) (hb : Below w.heap.size w W) => calc_sub x y hx hy hz W (ht.later hb))
  generalize bs (Lib.itoa x) = S at *
  generalize bs (Lib.itoa y) = T at *
  generalize bs (txt (x - y)) = U at *
  generalize err (x - y) = er at *
  clear hx hy hz ht
  go_enter Tryz.func9, Tryz.ntmps9
  go_wp2_with (go_at_call 28; (with_reducible refine (HC.out _ (Below.refl _ _)).mono ?_); rintro e w1 ⟨rfl, B1⟩)
  go_ret2
  exact ⟨rfl, B1⟩

set_option maxRecDepth 100000 in
set_option maxHeartbeats 1000000 in
theorem Sub_no (l : List UInt8) (hl : ¬ IsI l) (T : ByteArray) (w : World) :
    Calls Tryz.prog 9 #[.string (bs l), .string T] w fun e w' => e = .returned (.tuple #[.string (bs []), .int .i64 30]) ∧ Below w.heap.size w w' := by
  have HC := Lib.hid (fun (W : World) v => calculate_no l hl T v W)
  generalize bs l = S at *
  generalize bs [] = U at *
  clear hl
  go_enter Tryz.func9, Tryz.ntmps9
  go_wp2_with (go_at_call 28; (with_reducible refine (HC.out _ _).mono ?_); rintro e w1 ⟨rfl, B1⟩)
  go_ret2
  exact ⟨rfl, B1⟩

set_option maxRecDepth 100000 in
set_option maxHeartbeats 1000000 in
theorem Mul_any (x y : Int) (hx : x.natAbs < big) (hy : y.natAbs < big) (hz : (x * y).natAbs < big * big) (w : World) (ht : TabP w) :
    Calls Tryz.prog 11 #[.string (bs (Lib.itoa x)), .string (bs (Lib.itoa y))] w fun e w' => e = .returned (.tuple #[.string (bs (txt (x * y))), .int .i64 (err (x * y))]) ∧ Below w.heap.size w w' := by
  have HC := Lib.hid (fun (W : World) (hb : Below w.heap.size w W) => calc_mul x y hx hy hz W (ht.later hb))
  generalize bs (Lib.itoa x) = S at *
  generalize bs (Lib.itoa y) = T at *
  generalize bs (txt (x * y)) = U at *
  generalize err (x * y) = er at *
  clear hx hy hz ht
  go_enter Tryz.func11, Tryz.ntmps11
  go_wp2_with (go_at_call 28; (with_reducible refine (HC.out _ (Below.refl _ _)).mono ?_); rintro e w1 ⟨rfl, B1⟩)
  go_ret2
  exact ⟨rfl, B1⟩

set_option maxRecDepth 100000 in
set_option maxHeartbeats 1000000 in
theorem Mul_no (l : List UInt8) (hl : ¬ IsI l) (T : ByteArray) (w : World) :
    Calls Tryz.prog 11 #[.string (bs l), .string T] w fun e w' => e = .returned (.tuple #[.string (bs []), .int .i64 30]) ∧ Below w.heap.size w w' := by
  have HC := Lib.hid (fun (W : World) v => calculate_no l hl T v W)
  generalize bs l = S at *
  generalize bs [] = U at *
  clear hl
  go_enter Tryz.func11, Tryz.ntmps11
  go_wp2_with (go_at_call 28; (with_reducible refine (HC.out _ _).mono ?_); rintro e w1 ⟨rfl, B1⟩)
  go_ret2
  exact ⟨rfl, B1⟩

set_option maxRecDepth 100000 in
set_option maxHeartbeats 1000000 in
theorem Gcd_any (x y : Int) (hx : x.natAbs < big) (hy : y.natAbs < big) (hz : (Int.gcd x y) < big * big) (w : World) (ht : TabP w) :
    Calls Tryz.prog 15 #[.string (bs (Lib.itoa x)), .string (bs (Lib.itoa y))] w fun e w' => e = .returned (.tuple #[.string (bs (txt ((Int.gcd x y : Nat) : Int))), .int .i64 (err ((Int.gcd x y : Nat) : Int))]) ∧ Below w.heap.size w w' := by
  have HC := Lib.hid (fun (W : World) (hb : Below w.heap.size w W) => calc_gcd x y hx hy hz W (ht.later hb))
  generalize bs (Lib.itoa x) = S at *
  generalize bs (Lib.itoa y) = T at *
  generalize bs (txt ((Int.gcd x y : Nat) : Int)) = U at *
  generalize err ((Int.gcd x y : Nat) : Int) = er at *
  clear hx hy hz ht
  go_enter Tryz.func15, Tryz.ntmps15
  go_wp2_with (go_at_call 28; (with_reducible refine (HC.out _ (Below.refl _ _)).mono ?_); rintro e w1 ⟨rfl, B1⟩)
  go_ret2
  exact ⟨rfl, B1⟩

set_option maxRecDepth 100000 in
set_option maxHeartbeats 1000000 in
theorem Gcd_no (l : List UInt8) (hl : ¬ IsI l) (T : ByteArray) (w : World) :
    Calls Tryz.prog 15 #[.string (bs l), .string T] w fun e w' => e = .returned (.tuple #[.string (bs []), .int .i64 30]) ∧ Below w.heap.size w w' := by
  have HC := Lib.hid (fun (W : World) v => calculate_no l hl T v W)
  generalize bs l = S at *
  generalize bs [] = U at *
  clear hl
  go_enter Tryz.func15, Tryz.ntmps15
  go_wp2_with (go_at_call 28; (with_reducible refine (HC.out _ _).mono ?_); rintro e w1 ⟨rfl, B1⟩)
  go_ret2
  exact ⟨rfl, B1⟩

set_option maxRecDepth 100000 in
set_option maxHeartbeats 1000000 in
theorem Compare_any (x y : Int) (hx : x.natAbs < big) (hy : y.natAbs < big) (w : World) :
    Calls Tryz.prog 23 #[.string (bs (Lib.itoa x)), .string (bs (Lib.itoa y))] w fun e w' => e = .returned (.int .i64 (cmpZ x y)) ∧ Below w.heap.size w w' := by
  have HV1 := Lib.hid (Valid_yes x hx)
  have HV2 := Lib.hid (Valid_yes y hy)
  have HN1 := Lib.hid (numberOf_any x hx)
  have HN2 := Lib.hid (numberOf_any y hy)
  have HK := Lib.hid (ncompare_any x y)
  unfold numV at HN1 HN2 HK
  obtain ⟨bx, hbx⟩ : ∃ bx, decide (x < 0) = bx := ⟨_, rfl⟩
  obtain ⟨bz, hbz⟩ : ∃ bz, decide (y < 0) = bz := ⟨_, rfl⟩
  simp only [hbx, hbz] at HN1 HN2 HK
  generalize bs (Lib.itoa x) = S at *
  generalize bs (Lib.itoa y) = T at *
  generalize cmpZ x y = U at *
  clear hx hy hbx hbz
  go_enter Tryz.func23, Tryz.ntmps23
  go_wp2_with (first
    | (go_at_call 21; (with_reducible refine (HV1.out _).mono ?_); rintro e w1 ⟨rfl, rfl⟩)
    | (go_at_call 21; (with_reducible refine (HV2.out _).mono ?_); rintro e w1 ⟨rfl, rfl⟩)
    | (go_at_call 36; (with_reducible refine (HN2.out _).mono ?_); rintro e w3 ⟨a2, n2, c2, rfl, z2, l2, B2⟩; have z12 := z1.later B2; have B12 := below_on B1 B2 B1.size)
    | (go_at_call 36; (with_reducible refine (HN1.out _).mono ?_); rintro e w2 ⟨a1, n1, c1, rfl, z1, l1, B1⟩)
    | (go_at_call 49; (with_reducible refine (HK.out _ _ _ _ _ _ _ z12 z2 (by omega) (by omega)).mono ?_); rintro e w4 ⟨rfl, B3⟩; have B23 := below_on B12 B3 B12.size))
  go_ret
  exact ⟨rfl, B23⟩

set_option maxRecDepth 100000 in
set_option maxHeartbeats 1000000 in
theorem FromInt_any (n : Int) (h0 : -9223372036854775808 ≤ n) (h1 : n ≤ 9223372036854775807) (w : World) (ht : TabP w) :
    Calls Tryz.prog 25 #[.int .i64 n] w fun e w' => e = .returned (.string (bs (Lib.itoa n))) ∧ Below w.heap.size w w' := by
  have hI : ∀ W, Below w.heap.size w W → Calls Tryz.prog 50 #[.int .i64 n] W fun e w' => e = .returned (.string (bs (Lib.itoa n))) ∧ Below W.heap.size W w' := fun W hb => by
    refine (Tryz.strconv_Itoa n h0 h1 W (ht.later hb)).mono ?_
    rintro e w' ⟨rfl, k, os, rfl⟩
    exact ⟨rfl, below_grow W k os⟩
  have HI := Lib.hid hI
  generalize bs (Lib.itoa n) = S at *
  clear hI ht
  go_enter Tryz.func25, Tryz.ntmps25
  go_wp2_with (go_at_call 50; (with_reducible refine (HI.out _ (Below.refl _ _)).mono ?_); rintro e w1 ⟨rfl, B1⟩)
  go_ret
  exact ⟨rfl, B1⟩

end Go.Proofs.YtagcpjokajcdiaaGreatDoor

/-
  Layer 3: strings to numbers of a machine.
-/
namespace Go.Proofs.YtagcpjokajcdiaaGreatDoor
open Go.RowKit Bs Ig

theorem parse_full (l : List UInt8) (a : Nat) (h : ∀ c ∈ l, isDig c) (ha : a < 18446744073709551616) : Lib.parseUint10 a l = if numA a l < 18446744073709551616 then .ok (numA a l) else .range := by
  induction l generalizing a with
  | nil =>
    show Lib.NumEnd.ok a = if a < 18446744073709551616 then .ok a else .range
    rw [if_pos ha]
  | cons c r ih =>
    have hc := h c (List.mem_cons_self ..)
    have hle : a * 10 + (c.toNat - 48) ≤ numA (a * 10 + (c.toNat - 48)) r := by
      rw [numA_eq]
      have : 1 ≤ 10 ^ r.length := Nat.pow_pos (by omega)
      have := Nat.mul_le_mul_left (a * 10 + (c.toNat - 48)) this
      omega
    show Lib.parseUint10 a (c :: r) = if numA (a * 10 + (c.toNat - 48)) r < 18446744073709551616 then .ok (numA (a * 10 + (c.toNat - 48)) r) else .range
    unfold Lib.parseUint10
    rw [if_pos (show 48 ≤ c.toNat ∧ c.toNat ≤ 57 from hc)]
    by_cases h1 : 1844674407370955162 ≤ a
    · rw [if_pos h1, if_neg (by omega)]
    · rw [if_neg h1]
      by_cases h2 : 18446744073709551616 ≤ a * 10 + (c.toNat - 48)
      · rw [if_pos h2, if_neg (by omega)]
      · rw [if_neg h2]
        exact ih _ (fun y hy => h y (List.mem_cons_of_mem _ hy)) (by omega)
theorem parse_dec (n : Nat) : Lib.parseMag (Lib.decDigits n) = if n < 18446744073709551616 then .ok n else .range := by
  unfold Lib.parseMag
  rw [if_neg (dec_ne n), parse_full _ 0 (dec_dig n) (by omega), show numA 0 (Lib.decDigits n) = n from num_dec n]
/-- a number that an int holds -/
def isInt (z : Int) : Prop := -9223372036854775808 ≤ z ∧ z ≤ 9223372036854775807
instance (z : Int) : Decidable (isInt z) := inferInstanceAs (Decidable (_ ∧ _))
theorem atoi_itoa (z : Int) : Lib.atoiAll (Lib.itoa z) = if isInt z then .ok z else .range := by
  rcases int_cases z with ⟨n, rfl⟩ | ⟨n, hn, rfl⟩
  · have hp := parse_dec n
    rw [itoa_nat]
    cases hd : Lib.decDigits n with
    | nil => exact absurd hd (dec_ne n)
    | cons c r =>
      rw [hd] at hp
      have hc := dec_dig n c (by rw [hd]; exact List.mem_cons_self ..)
      have hc1 := hc.1
      unfold Lib.atoiAll
      simp only
      rw [if_neg (by omega), hp]
      have hI : isInt (n : Int) ↔ -9223372036854775808 ≤ (n : Int) ∧ (n : Int) ≤ 9223372036854775807 := Iff.rfl
      by_cases h1 : n < 18446744073709551616
      · rw [if_pos h1]
        simp only
        by_cases h2 : 9223372036854775808 ≤ n
        · rw [if_pos ⟨by omega, h2⟩, if_neg (mt hI.1 (by omega))]
        · rw [if_neg (by omega), if_neg (by omega), if_neg (by omega), if_pos (hI.2 (by omega))]
      · rw [if_neg h1]
        simp only
        rw [if_neg (mt hI.1 (by omega))]
  · have hp := parse_dec n
    rw [itoa_neg _ hn]
    unfold Lib.atoiAll
    simp only
    rw [if_pos (by decide), hp]
    have hI : isInt (-(n : Int)) ↔ -9223372036854775808 ≤ -(n : Int) ∧ -(n : Int) ≤ 9223372036854775807 := Iff.rfl
    by_cases h1 : n < 18446744073709551616
    · rw [if_pos h1]
      simp only
      rw [if_neg (fun h => h.1 (by decide))]
      by_cases h2 : 9223372036854775808 < n
      · rw [if_pos ⟨by decide, h2⟩, if_neg (mt hI.1 (by omega))]
      · rw [if_neg (fun h => h2 h.2), if_pos (by decide), if_pos (hI.2 (by omega))]
    · rw [if_neg h1]
      simp only
      rw [if_neg (mt hI.1 (by omega))]
/-- the cell of an error -/
def ErrP (W : World) : Prop := ∃ ev, W.cell? ⟨1, 0, none⟩ = some ev ∧ (ev = .nilIface ∨ ∃ te pe, ev = .iface te pe)
theorem ErrP.later {W W' : World} (h : ErrP W) (hb : Below W.heap.size W W') : ErrP W' := by
  obtain ⟨ev, h1, h2⟩ := h
  exact ⟨ev, (hb.cell (p := ⟨1, 0, none⟩) (block_lt_of_cell h1)).trans h1, h2⟩
theorem itoa_len {z : Int} (hz : z.natAbs < big) : (Lib.itoa z).length ≤ 201 := by
  have h := (dec_length_le z.natAbs 200 (by omega)).2 hz
  rcases int_cases z with ⟨n, rfl⟩ | ⟨n, hn, rfl⟩
  · rw [itoa_nat]
    rw [Int.natAbs_natCast] at h
    omega
  · rw [itoa_neg _ hn, List.length_cons]
    rw [Int.natAbs_neg, Int.natAbs_natCast] at h
    omega

set_option maxRecDepth 100000 in
set_option maxHeartbeats 1000000 in
theorem ToInt_ok (z : Int) (hz : z.natAbs < big) (hi : isInt z) (w : World) :
    Calls Tryz.prog 19 #[.string (bs (Lib.itoa z))] w fun e w' => e = .returned (.tuple #[.int .i64 z, .int .i64 0]) ∧ Below w.heap.size w w' := by
  have hA : ∀ W, Calls Tryz.prog 47 #[.string (bs (Lib.itoa z))] W fun e w' => e = .returned (.tuple #[.int .i64 z, .nilIface]) ∧ Below W.heap.size W w' := fun W => by
    refine (Tryz.strconv_Atoi_ok (bs (Lib.itoa z)) (by rw [bs_size]; have := itoa_len hz; omega) z (by rw [show (bs (Lib.itoa z)).data.toList = Lib.itoa z from rfl, atoi_itoa, if_pos hi]) W).mono ?_
    rintro e w' ⟨rfl, rfl | ⟨t, rfl⟩⟩
    · exact ⟨rfl, Below.refl _ _⟩
    · exact ⟨rfl, Lib.bytesWorld_below _ _ _⟩
  have HA := Lib.hid hA
  have HV := Lib.hid (Valid_yes z hz)
  generalize bs (Lib.itoa z) = S at *
  clear hA hz hi
  go_enter Tryz.func19, Tryz.ntmps19
  go_wp2_with (first
    | (go_at_call 21; (with_reducible refine (HV.out _).mono ?_); rintro e w1 ⟨rfl, rfl⟩)
    | (go_at_call 47; (with_reducible refine (HA.out _).mono ?_); rintro e w1 ⟨rfl, B1⟩))
  go_ret2
  exact ⟨rfl, B1⟩

set_option maxRecDepth 100000 in
set_option maxHeartbeats 1000000 in
theorem ToInt_far (z : Int) (hz : z.natAbs < big) (hi : ¬ isInt z) (w : World) (he : ErrP w) :
    Calls Tryz.prog 19 #[.string (bs (Lib.itoa z))] w fun e w' => e = .returned (.tuple #[.int .i64 0, .int .i64 30]) ∧ Below w.heap.size w w' := by
  have hA : ∀ W, Below w.heap.size w W → Calls Tryz.prog 47 #[.string (bs (Lib.itoa z))] W fun e w' => (∃ v p, e = .returned (.tuple #[.int .i64 v, .iface 90 p])) ∧ Below W.heap.size W w' := fun W hb => by
    obtain ⟨ev, h1, h2⟩ := he.later hb
    refine (Tryz.strconv_Atoi_range (bs (Lib.itoa z)) (by rw [bs_size]; have := itoa_len hz; omega) (by rw [show (bs (Lib.itoa z)).data.toList = Lib.itoa z from rfl, atoi_itoa, if_neg hi]) ev W h1 h2).mono ?_
    rintro e w' ⟨N, rfl, h3, h4, h5⟩
    exact ⟨⟨_, _, rfl⟩, h5⟩
  have HA := Lib.hid hA
  have HV := Lib.hid (Valid_yes z hz)
  generalize bs (Lib.itoa z) = S at *
  clear hA hz hi he
  go_enter Tryz.func19, Tryz.ntmps19
  go_wp2_with (first
    | (go_at_call 21; (with_reducible refine (HV.out _).mono ?_); rintro e w1 ⟨rfl, rfl⟩)
    | (go_at_call 47; (with_reducible refine (HA.out _ (Below.refl _ _)).mono ?_); rintro e w1 ⟨⟨v, p, rfl⟩, B1⟩))
  go_ret2
  exact ⟨rfl, B1⟩

set_option maxRecDepth 100000 in
set_option maxHeartbeats 1000000 in
theorem ToInt_no (l : List UInt8) (hl : ¬ IsI l) (w : World) :
    Calls Tryz.prog 19 #[.string (bs l)] w fun e w' => e = .returned (.tuple #[.int .i64 0, .int .i64 30]) ∧ Below w.heap.size w w' := by
  have HV := Lib.hid (Valid_no l hl)
  generalize bs l = S at *
  clear hl
  go_enter Tryz.func19, Tryz.ntmps19
  go_wp2_with (first
    | (go_at_call 21; (with_reducible refine (HV.out _).mono ?_); rintro e w1 ⟨rfl, rfl⟩))
  go_ret2
  exact ⟨rfl, Below.refl _ _⟩

end Go.Proofs.YtagcpjokajcdiaaGreatDoor

/-
  Layer 3: quotients and roots.
-/
namespace Go.Proofs.YtagcpjokajcdiaaGreatDoor
open Go.RowKit Bs Ig

theorem itoa_zero (y : Int) (hy : y ≠ 0) : (Lib.itoa y == [48]) = false := by
  refine beq_false_of_ne (fun h => hy (itoa_inj (y := 0) ?_))
  rw [h, show (0 : Int) = ((0 : Nat) : Int) from rfl, itoa_nat, dec_small (by omega)]; rfl
theorem itoa_pos (z : Int) (h : 0 ≤ z) : Lib.itoa z = Lib.decDigits z.natAbs := by
  obtain ⟨n, rfl⟩ : ∃ n : Nat, z = n := ⟨z.natAbs, by omega⟩
  rw [itoa_nat]; rfl
theorem results_tmp3 {fn : Func} {t u v : Tmp} (h : fn.results = #[.tmp t, .tmp u, .tmp v]) (tmps : Array Value) (P : Program) (w : World) :
    (results fn tmps).run P w = .ok (.tuple #[tmps.getD t undef, tmps.getD u undef, tmps.getD v undef]) w := by
  simp [results, h]
theorem big_sq : big ≤ big * big := Nat.le_mul_of_pos_right _ (Nat.pow_pos (by omega))

set_option maxRecDepth 100000 in
set_option maxHeartbeats 1000000 in
theorem Div_any (x y : Int) (hx : x.natAbs < big) (hy : y.natAbs < big) (hy0 : y ≠ 0) (w : World) (ht : TabP w) :
    Calls Tryz.prog 13 #[.string (bs (Lib.itoa x)), .string (bs (Lib.itoa y))] w fun e w' => e = .returned (.tuple #[.string (bs (Lib.itoa (x / y))), .string (bs (Lib.itoa (x % y))), .int .i64 0]) ∧ Below w.heap.size w w' := by
  have hq : (x / y).natAbs < big := Nat.lt_of_le_of_lt (Int.natAbs_ediv_le_natAbs x y) hx
  have hr0 : 0 ≤ x % y := Int.emod_nonneg x hy0
  have hr1 : (x % y).natAbs < big := by
    have := Int.emod_lt x hy0
    omega
  have HV1 := Lib.hid (Valid_yes x hx)
  have HV2 := Lib.hid (Valid_yes y hy)
  have HN1 := Lib.hid (numberOf_any x hx)
  have HN2 := Lib.hid (numberOf_any y hy)
  have HK := Lib.hid (ndivide_any x y hy0)
  have HR := Lib.hid (fun (W : World) (a : Option Addr) (n c : Nat) (h : IsZ W a n c (zs (G (x / y).natAbs))) (hb : Below w.heap.size w W) => (show Calls Tryz.prog 38 #[numV (x / y) a n c] W (fun e w' => e = .returned (.tuple #[.string (bs (Lib.itoa (x / y))), .int .i64 0]) ∧ Below W.heap.size W w') from by
    have := valid_any (x / y) a n c W h (len_z h (Nat.lt_of_lt_of_le hq big_sq)) (ht.later hb)
    unfold txt err at this
    rw [if_pos hq, if_pos hq] at this
    exact this))
  have HD := Lib.hid (fun (W : World) (a : Option Addr) (n c : Nat) (h : IsZ W a n c (zs (G (x % y).natAbs))) (hb : Below w.heap.size w W) => (show Calls Tryz.prog 39 #[.slice a n c] W (fun e w' => e = .returned (.string (bs (Lib.itoa (x % y)))) ∧ Below W.heap.size W w') from by
    have := digits_any a n c (x % y).natAbs W h (len_z h (Nat.lt_of_lt_of_le hr1 big_sq)) (ht.later hb)
    rw [itoa_pos _ hr0]
    exact this))
  unfold numV at HN1 HN2 HK HR
  obtain ⟨bx, hbx⟩ : ∃ bx, decide (x < 0) = bx := ⟨_, rfl⟩
  obtain ⟨bz, hbz⟩ : ∃ bz, decide (y < 0) = bz := ⟨_, rfl⟩
  obtain ⟨bq, hbq⟩ : ∃ bq, decide (x / y < 0) = bq := ⟨_, rfl⟩
  obtain ⟨br, hbr⟩ : ∃ br, decide (x % y < 0) = br := ⟨_, rfl⟩
  simp only [hbx, hbz, hbq, hbr] at HN1 HN2 HR HK
  have hne : ((bs (Lib.itoa y)).toList == [48]) = false := by rw [bs_toList]; exact itoa_zero y hy0
  generalize bs (Lib.itoa x) = S at *
  generalize bs (Lib.itoa y) = T at *
  generalize bs (Lib.itoa (x / y)) = U at *
  generalize bs (Lib.itoa (x % y)) = V at *
  clear hx hy hy0 hq hr0 hr1 ht hbx hbz hbq hbr
  go_enter Tryz.func13, Tryz.ntmps13
  go_wp2_with (first
    | (go_at_call 21; (with_reducible refine (HV1.out _).mono ?_); rintro e w1 ⟨rfl, rfl⟩)
    | (go_at_call 21; (with_reducible refine (HV2.out _).mono ?_); rintro e w1 ⟨rfl, rfl⟩)
    | (go_at_call 36; (with_reducible refine (HN2.out _).mono ?_); rintro e w3 ⟨a2, n2, c2, rfl, z2, l2, B2⟩; have z12 := z1.later B2; have B12 := below_on B1 B2 B1.size)
    | (go_at_call 36; (with_reducible refine (HN1.out _).mono ?_); rintro e w2 ⟨a1, n1, c1, rfl, z1, l1, B1⟩)
    | (go_at_call 37; (with_reducible refine (HK.out _ _ _ _ _ _ _ z12 z2 (by omega) (by omega)).mono ?_); rintro e w4 ⟨qa, qn, qc, ra, rn, rc, rfl, z3, z4, B3⟩; have B23 := below_on B12 B3 B12.size; have hr7 : ((w4.alloc (.cells #[.bool false, .slice none 0 0] 47)).alloc (.cells #[.bool false, .slice none 0 0] 47)).heap[w4.heap.size]? = some (.cells #[.bool false, .slice none 0 0] 47 (0, 0)) := ((heap_alloc_old _ _ (by simp)).trans (heap_alloc_new _ _)); have hr8 : ((w4.alloc (.cells #[.bool false, .slice none 0 0] 47)).alloc (.cells #[.bool false, .slice none 0 0] 47)).heap[w4.heap.size + 1]? = some (.cells #[.bool false, .slice none 0 0] 47 (0, 0)) := (by have := heap_alloc_new (w4.alloc (.cells #[.bool false, .slice none 0 0] 47)) (.cells #[.bool false, .slice none 0 0] 47); simp only [World.size_alloc] at this; exact this); have hr9 := (Go.setRow_other _ w4.heap.size (w4.heap.size + 1) #[.bool bq, .slice qa qn qc] (by omega)).trans hr8; have hA := (Go.setRow_other _ (w4.heap.size + 1) w4.heap.size #[.bool br, .slice ra rn rc] (by omega)).trans (setRow_heap _ w4.heap.size _ #[.bool bq, .slice qa qn qc] _ _ hr7); have hBB := setRow_heap _ (w4.heap.size + 1) _ #[.bool br, .slice ra rn rc] _ _ hr9; have hB4 := below_row (below_row (((Below.refl _ w4).alloc (Nat.le_refl _) (.cells #[.bool false, .slice none 0 0] 47)).alloc (by simp) (.cells #[.bool false, .slice none 0 0] 47)) (Nat.le_refl _) #[.bool bq, .slice qa qn qc]) (show w4.heap.size ≤ w4.heap.size + 1 by omega) #[.bool br, .slice ra rn rc]; have z5 := z3.later hB4; have z6 := z4.later hB4; have B5 := below_on B23 hB4 B23.size)
    | (refine wpList_load_row rfl 47 _ rfl w4.heap.size rfl 47 _ _ _ hA Tryz.underlying47 rfl ?l1 ?_)
    | (go_at_call 38; (with_reducible refine (HR.out _ _ _ _ z5 B5).mono ?_); rintro e w5 ⟨rfl, B6⟩; have z7 := z6.later B6; have B56 := below_on B5 B6 B5.size; have hc8 : w5.cell? ⟨w4.heap.size + 1, 1, none⟩ = some (.slice ra rn rc) := (by rw [cell_of_row _ _ 1 _ _ _ ((B6.block _ (Array.getElem?_eq_some_iff.1 hBB).1).trans hBB)]; rfl))
    | (go_at_call 39; (with_reducible refine (HD.out _ _ _ _ z7 B56).mono ?_); rintro e w6 ⟨rfl, B7⟩)
    | (refine wpList_store_row rfl 47 _ _ rfl w4.heap.size _ rfl rfl 47 _ hr7 ?s1 ?s2 ?s3 ?_)
    | (refine wpList_store_row rfl 47 _ _ rfl (w4.heap.size + 1) _ rfl rfl 47 _ hr9 ?s4 ?s5 ?s6 ?_))
  case s1 => kernel_rfl
  case s2 => rfl
  case s3 => exact two_cells _ _ _ _
  case s4 => kernel_rfl
  case s5 => rfl
  case s6 => exact two_cells _ _ _ _
  case l1 => kernel_rfl
  exact bodyPost_ret (results_tmp3 rfl _ _ _) rfl ⟨rfl, below_on B56 B7 B56.size⟩

set_option maxRecDepth 100000 in
set_option maxHeartbeats 1000000 in
theorem Div_zero (x : Int) (hx : x.natAbs < big) (w : World) :
    Calls Tryz.prog 13 #[.string (bs (Lib.itoa x)), .string (bs (Lib.itoa 0))] w fun e w' => e = .returned (.tuple #[.string (bs []), .string (bs []), .int .i64 30]) ∧ Below w.heap.size w w' := by
  have HV1 := Lib.hid (Valid_yes x hx)
  have HV2 := Lib.hid (Valid_yes 0 (Nat.pow_pos (by omega)))
  have hne : ((bs (Lib.itoa 0)).toList == [48]) = true := by
    rw [bs_toList, show (0 : Int) = ((0 : Nat) : Int) from rfl, itoa_nat, dec_small (by omega)]; rfl
  generalize bs (Lib.itoa x) = S at *
  generalize bs (Lib.itoa 0) = T at *
  clear hx
  go_enter Tryz.func13, Tryz.ntmps13
  go_wp2_with (first
    | (go_at_call 21; (with_reducible refine (HV1.out _).mono ?_); rintro e w1 ⟨rfl, rfl⟩)
    | (go_at_call 21; (with_reducible refine (HV2.out _).mono ?_); rintro e w1 ⟨rfl, rfl⟩))
  exact bodyPost_ret (results_tmp3 rfl _ _ _) rfl ⟨rfl, Below.refl _ _⟩

set_option maxRecDepth 100000 in
set_option maxHeartbeats 1000000 in
theorem Root_any (x : Int) (hx : x.natAbs < big) (hx0 : 0 ≤ x) (w : World) (ht : TabP w) :
    Calls Tryz.prog 17 #[.string (bs (Lib.itoa x))] w fun e w' => e = .returned (.tuple #[.string (bs (Lib.itoa (rt x.natAbs : Nat))), .int .i64 0]) ∧ Below w.heap.size w w' := by
  have hrb : ((rt x.natAbs : Nat) : Int).natAbs < big := by rw [Int.natAbs_natCast]; exact Nat.lt_of_le_of_lt (rt_le _) hx
  have HV1 := Lib.hid (Valid_yes x hx)
  have HN1 := Lib.hid (numberOf_any x hx)
  have HK := Lib.hid (fun (a : Option Addr) (n c : Nat) => root_any a n c x.natAbs)
  have HR := Lib.hid (fun (W : World) (a : Option Addr) (n c : Nat) (h : IsZ W a n c (zs (G (rt x.natAbs)))) (hb : Below w.heap.size w W) => (show Calls Tryz.prog 38 #[.agg #[.bool false, .slice a n c]] W (fun e w' => e = .returned (.tuple #[.string (bs (Lib.itoa (rt x.natAbs : Nat))), .int .i64 0]) ∧ Below W.heap.size W w') from by
    have := valid_any ((rt x.natAbs : Nat) : Int) a n c W (by rw [Int.natAbs_natCast]; exact h) (len_z h (Nat.lt_of_lt_of_le (by rw [Int.natAbs_natCast] at hrb; exact hrb) big_sq)) (ht.later hb)
    unfold txt err numV at this
    rw [if_pos hrb, if_pos hrb, show decide (((rt x.natAbs : Nat) : Int) < 0) = false by simp] at this
    exact this))
  have h0 : 0 < (bs (Lib.itoa x)).size := by rw [bs_size, itoa_pos x hx0]; exact dec_pos _
  obtain ⟨k0, hk0⟩ : ∃ k0, ((bs (Lib.itoa x))[0]'h0).toNat = k0 := ⟨_, rfl⟩
  have h45 : k0 ≠ 45 := by
    rw [← hk0]
    intro h
    have h1 : (Lib.itoa x).getD 0 0 = 45 := by
      rw [List.getD_eq_getElem?_getD, List.getElem?_eq_getElem (by rw [bs_size] at h0; exact h0)]
      exact byte_ext h
    rw [itoa_pos x hx0] at h1
    cases hd : Lib.decDigits x.natAbs with
    | nil => exact dec_ne _ hd
    | cons c r =>
      rw [hd] at h1
      exact dec_no45 x.natAbs r (by rw [hd]; rw [List.getD_cons_zero] at h1; rw [h1])
  have hd3 : ((k0 : Int) == 45) = false := beq_false_of_ne (by omega)
  unfold numV at HN1
  obtain ⟨bx, hbx⟩ : ∃ bx, decide (x < 0) = bx := ⟨_, rfl⟩
  simp only [hbx] at HN1
  generalize bs (Lib.itoa x) = S at *
  generalize bs (Lib.itoa (rt x.natAbs : Nat)) = U at *
  clear hx hx0 hrb h45 ht hbx
  have hfd : ∀ (a : Option Addr) (n c : Nat) (W : World), (Instr.field 47 (.agg #[.bool bx, .slice a n c]) 1).run Tryz.prog W = .ok (.slice a n c) W := fun _ _ _ _ => by kernel_rfl
  go_enter Tryz.func17, Tryz.ntmps17
  go_wp2_with (first
    | (go_at_call 21; (with_reducible refine (HV1.out _).mono ?_); rintro e w1 ⟨rfl, rfl⟩)
    | (go_at_call 36; (with_reducible refine (HN1.out _).mono ?_); rintro e w2 ⟨a1, n1, c1, rfl, z1, l1, B1⟩)
    | (go_at_call 44; (with_reducible refine (HK.out _ _ _ _ z1 (by omega)).mono ?_); rintro e w4 ⟨qa, qn, qc, rfl, z3, B3⟩; have B23 := below_on B1 B3 B1.size)
    | (go_at_call 38; (with_reducible refine (HR.out _ _ _ _ z3 B23).mono ?_); rintro e w5 ⟨rfl, B4⟩))
  go_ret2
  exact ⟨rfl, below_on B23 B4 B23.size⟩

set_option maxRecDepth 100000 in
set_option maxHeartbeats 1000000 in
theorem Root_neg (x : Int) (hx : x.natAbs < big) (hx0 : x < 0) (w : World) :
    Calls Tryz.prog 17 #[.string (bs (Lib.itoa x))] w fun e w' => e = .returned (.tuple #[.string (bs []), .int .i64 30]) ∧ Below w.heap.size w w' := by
  have HV1 := Lib.hid (Valid_yes x hx)
  obtain ⟨n, hn, rfl⟩ : ∃ n : Nat, 0 < n ∧ x = -(n : Int) := ⟨x.natAbs, by omega, by omega⟩
  have h0 : 0 < (bs (Lib.itoa (-(n : Int)))).size := by rw [bs_size, itoa_neg _ hn]; simp
  have hk0 : ((bs (Lib.itoa (-(n : Int))))[0]'h0) = 45 := by
    have h1 : (Lib.itoa (-(n : Int))).getD 0 0 = 45 := by rw [itoa_neg _ hn]; rfl
    rw [List.getD_eq_getElem?_getD, List.getElem?_eq_getElem (by rw [bs_size] at h0; exact h0)] at h1
    exact h1
  generalize bs (Lib.itoa (-(n : Int))) = S at *
  clear hx hx0
  go_enter Tryz.func17, Tryz.ntmps17
  go_wp2_with (first
    | (go_at_call 21; (with_reducible refine (HV1.out _).mono ?_); rintro e w1 ⟨rfl, rfl⟩))
  go_ret2
  exact ⟨rfl, Below.refl _ _⟩

end Go.Proofs.YtagcpjokajcdiaaGreatDoor
