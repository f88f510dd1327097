/-
  Layer 3: the exported functions of two integers.
-/
import Derived.Test.YtieaelipgieaoaaDoorIhf
namespace Go.Proofs.YtieaelipgieaoaaDoor
open Go.RowKit Bs Ig

theorem isI_itoa {z : Int} (hz : z.natAbs < big) : IsI (Lib.itoa z) := ⟨z, hz, rfl⟩
theorem Valid_yes (z : Int) (hz : z.natAbs < big) (w : World) :
    Calls Tryd.prog 19 #[.string (bs (Lib.itoa z))] w fun e w' => e = .returned (.bool true) ∧ w' = w :=
  (Valid_any (Lib.itoa z) w).mono fun e w' ⟨r, he, hr, hw⟩ => ⟨by rw [he, hr.2 (isI_itoa hz)], hw⟩
theorem Valid_no (l : List UInt8) (hl : ¬ IsI l) (w : World) :
    Calls Tryd.prog 19 #[.string (bs l)] w fun e w' => e = .returned (.bool false) ∧ w' = w :=
  (Valid_any l w).mono fun e w' ⟨r, he, hr, hw⟩ => ⟨by rw [he]; cases r with | false => rfl | true => exact (hl (hr.1 rfl)).elim, hw⟩

theorem len_z {W : World} {a : Option Addr} {n c x : Nat} (h : IsZ W a n c (zs (G x))) (hx : x < big * big) : n ≤ 100000 := by
  have := h.gle (m := 100) (by rw [big_pow, ← Nat.pow_add] at hx; exact hx)
  omega

set_option maxRecDepth 100000 in
set_option maxHeartbeats 1000000 in
theorem calc_add (x y : Int) (hx : x.natAbs < big) (hy : y.natAbs < big) (hz : (x + y).natAbs < big * big) (w : World) (ht : TabP w) :
    Calls Tryd.prog 27 #[.string (bs (Lib.itoa x)), .string (bs (Lib.itoa y)), .func (.func 28) #[] #[]] w fun e w' => e = .returned (.tuple #[.string (bs (txt (x + y))), .int .i64 (err (x + y))]) ∧ Below w.heap.size w w' := by
  have HV1 := Lib.hid (Valid_yes x hx)
  have HV2 := Lib.hid (Valid_yes y hy)
  have HN1 := Lib.hid (numberOf_any x hx)
  have HN2 := Lib.hid (numberOf_any y hy)
  have HR := Lib.hid (fun (W : World) (a : Option Addr) (n c : Nat) (h : IsZ W a n c (zs (G (x + y).natAbs))) (hb : Below w.heap.size w W) => valid_any (x + y) a n c W h (len_z h hz) (ht.later hb))
  have HK := Lib.hid (nplus_any x y)
  unfold numV at HN1 HN2 HR HK
  obtain ⟨bx, hbx⟩ : ∃ bx, decide (x < 0) = bx := ⟨_, rfl⟩
  obtain ⟨bz, hbz⟩ : ∃ bz, decide (y < 0) = bz := ⟨_, rfl⟩
  obtain ⟨br, hbr⟩ : ∃ br, decide ((x + y) < 0) = br := ⟨_, rfl⟩
  simp only [hbx, hbz, hbr] at HN1 HN2 HR HK
  generalize bs (Lib.itoa x) = S at *
  generalize bs (Lib.itoa y) = T at *
  generalize bs (txt (x + y)) = U at *
  generalize err (x + y) = er at *
  clear hx hy hz ht hbx hbz hbr
  go_enter Tryd.func27, Tryd.ntmps27
  go_wp2_with (first
    | (go_at_call 19; (with_reducible refine (HV1.out _).mono ?_); rintro e w1 ⟨rfl, rfl⟩)
    | (go_at_call 19; (with_reducible refine (HV2.out _).mono ?_); rintro e w1 ⟨rfl, rfl⟩)
    | (go_at_call 31; (with_reducible refine (HN2.out _).mono ?_); rintro e w3 ⟨a2, n2, c2, rfl, z2, l2, B2⟩; have z12 := z1.later B2; have B12 := below_on B1 B2 B1.size)
    | (go_at_call 31; (with_reducible refine (HN1.out _).mono ?_); rintro e w2 ⟨a1, n1, c1, rfl, z1, l1, B1⟩)
    | (go_at_call 28; (with_reducible refine (HK.out _ _ _ _ _ _ _ z12 z2 (by omega) (by omega)).mono ?_); rintro e w4 ⟨a3, n3, c3, rfl, z3, B3⟩; have B23 := below_on B12 B3 B12.size)
    | (go_at_call 34; (with_reducible refine (HR.out _ _ _ _ z3 B23).mono ?_); rintro e w5 ⟨rfl, B4⟩))
  go_ret2
  exact ⟨rfl, below_on B23 B4 B23.size⟩

set_option maxRecDepth 100000 in
set_option maxHeartbeats 1000000 in
theorem calc_sub (x y : Int) (hx : x.natAbs < big) (hy : y.natAbs < big) (hz : (x - y).natAbs < big * big) (w : World) (ht : TabP w) :
    Calls Tryd.prog 27 #[.string (bs (Lib.itoa x)), .string (bs (Lib.itoa y)), .func (.func 29) #[] #[]] w fun e w' => e = .returned (.tuple #[.string (bs (txt (x - y))), .int .i64 (err (x - y))]) ∧ Below w.heap.size w w' := by
  have HV1 := Lib.hid (Valid_yes x hx)
  have HV2 := Lib.hid (Valid_yes y hy)
  have HN1 := Lib.hid (numberOf_any x hx)
  have HN2 := Lib.hid (numberOf_any y hy)
  have HR := Lib.hid (fun (W : World) (a : Option Addr) (n c : Nat) (h : IsZ W a n c (zs (G (x - y).natAbs))) (hb : Below w.heap.size w W) => valid_any (x - y) a n c W h (len_z h hz) (ht.later hb))
  have HK := Lib.hid (nminus_any x y)
  unfold numV at HN1 HN2 HR HK
  obtain ⟨bx, hbx⟩ : ∃ bx, decide (x < 0) = bx := ⟨_, rfl⟩
  obtain ⟨bz, hbz⟩ : ∃ bz, decide (y < 0) = bz := ⟨_, rfl⟩
  obtain ⟨br, hbr⟩ : ∃ br, decide ((x - y) < 0) = br := ⟨_, rfl⟩
  simp only [hbx, hbz, hbr] at HN1 HN2 HR HK
  generalize bs (Lib.itoa x) = S at *
  generalize bs (Lib.itoa y) = T at *
  generalize bs (txt (x - y)) = U at *
  generalize err (x - y) = er at *
  clear hx hy hz ht hbx hbz hbr
  go_enter Tryd.func27, Tryd.ntmps27
  go_wp2_with (first
    | (go_at_call 19; (with_reducible refine (HV1.out _).mono ?_); rintro e w1 ⟨rfl, rfl⟩)
    | (go_at_call 19; (with_reducible refine (HV2.out _).mono ?_); rintro e w1 ⟨rfl, rfl⟩)
    | (go_at_call 31; (with_reducible refine (HN2.out _).mono ?_); rintro e w3 ⟨a2, n2, c2, rfl, z2, l2, B2⟩; have z12 := z1.later B2; have B12 := below_on B1 B2 B1.size)
    | (go_at_call 31; (with_reducible refine (HN1.out _).mono ?_); rintro e w2 ⟨a1, n1, c1, rfl, z1, l1, B1⟩)
    | (go_at_call 29; (with_reducible refine (HK.out _ _ _ _ _ _ _ z12 z2 (by omega) (by omega)).mono ?_); rintro e w4 ⟨a3, n3, c3, rfl, z3, B3⟩; have B23 := below_on B12 B3 B12.size)
    | (go_at_call 34; (with_reducible refine (HR.out _ _ _ _ z3 B23).mono ?_); rintro e w5 ⟨rfl, B4⟩))
  go_ret2
  exact ⟨rfl, below_on B23 B4 B23.size⟩

set_option maxRecDepth 100000 in
set_option maxHeartbeats 1000000 in
theorem calc_mul (x y : Int) (hx : x.natAbs < big) (hy : y.natAbs < big) (hz : (x * y).natAbs < big * big) (w : World) (ht : TabP w) :
    Calls Tryd.prog 27 #[.string (bs (Lib.itoa x)), .string (bs (Lib.itoa y)), .func (.func 30) #[] #[]] w fun e w' => e = .returned (.tuple #[.string (bs (txt (x * y))), .int .i64 (err (x * y))]) ∧ Below w.heap.size w w' := by
  have HV1 := Lib.hid (Valid_yes x hx)
  have HV2 := Lib.hid (Valid_yes y hy)
  have HN1 := Lib.hid (numberOf_any x hx)
  have HN2 := Lib.hid (numberOf_any y hy)
  have HR := Lib.hid (fun (W : World) (a : Option Addr) (n c : Nat) (h : IsZ W a n c (zs (G (x * y).natAbs))) (hb : Below w.heap.size w W) => valid_any (x * y) a n c W h (len_z h hz) (ht.later hb))
  have HK := Lib.hid (ntimes_any x y)
  unfold numV at HN1 HN2 HR HK
  obtain ⟨bx, hbx⟩ : ∃ bx, decide (x < 0) = bx := ⟨_, rfl⟩
  obtain ⟨bz, hbz⟩ : ∃ bz, decide (y < 0) = bz := ⟨_, rfl⟩
  obtain ⟨br, hbr⟩ : ∃ br, decide ((x * y) < 0) = br := ⟨_, rfl⟩
  simp only [hbx, hbz, hbr] at HN1 HN2 HR HK
  generalize bs (Lib.itoa x) = S at *
  generalize bs (Lib.itoa y) = T at *
  generalize bs (txt (x * y)) = U at *
  generalize err (x * y) = er at *
  clear hx hy hz ht hbx hbz hbr
  go_enter Tryd.func27, Tryd.ntmps27
  go_wp2_with (first
    | (go_at_call 19; (with_reducible refine (HV1.out _).mono ?_); rintro e w1 ⟨rfl, rfl⟩)
    | (go_at_call 19; (with_reducible refine (HV2.out _).mono ?_); rintro e w1 ⟨rfl, rfl⟩)
    | (go_at_call 31; (with_reducible refine (HN2.out _).mono ?_); rintro e w3 ⟨a2, n2, c2, rfl, z2, l2, B2⟩; have z12 := z1.later B2; have B12 := below_on B1 B2 B1.size)
    | (go_at_call 31; (with_reducible refine (HN1.out _).mono ?_); rintro e w2 ⟨a1, n1, c1, rfl, z1, l1, B1⟩)
    | (go_at_call 30; (with_reducible refine (HK.out _ _ _ _ _ _ _ z12 z2 (by omega) (by omega)).mono ?_); rintro e w4 ⟨a3, n3, c3, rfl, z3, B3⟩; have B23 := below_on B12 B3 B12.size)
    | (go_at_call 34; (with_reducible refine (HR.out _ _ _ _ z3 B23).mono ?_); rintro e w5 ⟨rfl, B4⟩))
  go_ret2
  exact ⟨rfl, below_on B23 B4 B23.size⟩

set_option maxRecDepth 100000 in
set_option maxHeartbeats 1000000 in
theorem calc_gcd (x y : Int) (hx : x.natAbs < big) (hy : y.natAbs < big) (hz : (Int.gcd x y) < big * big) (w : World) (ht : TabP w) :
    Calls Tryd.prog 27 #[.string (bs (Lib.itoa x)), .string (bs (Lib.itoa y)), .func (.func 39) #[] #[]] w fun e w' => e = .returned (.tuple #[.string (bs (txt ((Int.gcd x y : Nat) : Int))), .int .i64 (err ((Int.gcd x y : Nat) : Int))]) ∧ Below w.heap.size w w' := by
  have HV1 := Lib.hid (Valid_yes x hx)
  have HV2 := Lib.hid (Valid_yes y hy)
  have HN1 := Lib.hid (numberOf_any x hx)
  have HN2 := Lib.hid (numberOf_any y hy)
  have HR := Lib.hid (fun (W : World) (a : Option Addr) (n c : Nat) (h : IsZ W a n c (zs (G (Int.gcd x y)))) (hb : Below w.heap.size w W) => valid_any ((Int.gcd x y : Nat) : Int) a n c W (by rw [Int.natAbs_natCast]; exact h) (len_z h hz) (ht.later hb))
  have HK := Lib.hid (ngcd_any x y)
  unfold numV at HN1 HN2 HR HK
  obtain ⟨bx, hbx⟩ : ∃ bx, decide (x < 0) = bx := ⟨_, rfl⟩
  obtain ⟨bz, hbz⟩ : ∃ bz, decide (y < 0) = bz := ⟨_, rfl⟩
  obtain ⟨br, hbr⟩ : ∃ br, decide (((Int.gcd x y : Nat) : Int) < 0) = br := ⟨_, rfl⟩
  simp only [hbx, hbz, hbr] at HN1 HN2 HR HK
  generalize bs (Lib.itoa x) = S at *
  generalize bs (Lib.itoa y) = T at *
  generalize bs (txt ((Int.gcd x y : Nat) : Int)) = U at *
  generalize err ((Int.gcd x y : Nat) : Int) = er at *
  clear hx hy hz ht hbx hbz hbr
  go_enter Tryd.func27, Tryd.ntmps27
  go_wp2_with (first
    | (go_at_call 19; (with_reducible refine (HV1.out _).mono ?_); rintro e w1 ⟨rfl, rfl⟩)
    | (go_at_call 19; (with_reducible refine (HV2.out _).mono ?_); rintro e w1 ⟨rfl, rfl⟩)
    | (go_at_call 31; (with_reducible refine (HN2.out _).mono ?_); rintro e w3 ⟨a2, n2, c2, rfl, z2, l2, B2⟩; have z12 := z1.later B2; have B12 := below_on B1 B2 B1.size)
    | (go_at_call 31; (with_reducible refine (HN1.out _).mono ?_); rintro e w2 ⟨a1, n1, c1, rfl, z1, l1, B1⟩)
    | (go_at_call 39; (with_reducible refine (HK.out _ _ _ _ _ _ _ z12 z2 (by omega) (by omega)).mono ?_); rintro e w4 ⟨a3, n3, c3, rfl, z3, B3⟩; have B23 := below_on B12 B3 B12.size)
    | (go_at_call 34; (with_reducible refine (HR.out _ _ _ _ z3 B23).mono ?_); rintro e w5 ⟨rfl, B4⟩))
  go_ret2
  exact ⟨rfl, below_on B23 B4 B23.size⟩

set_option maxRecDepth 100000 in
set_option maxHeartbeats 1000000 in
theorem calculate_no (l : List UInt8) (hl : ¬ IsI l) (T : ByteArray) (v : Value) (w : World) :
    Calls Tryd.prog 27 #[.string (bs l), .string T, v] w fun e w' => e = .returned (.tuple #[.string (bs []), .int .i64 30]) ∧ Below w.heap.size w w' := by
  have HV1 := Lib.hid (Valid_no l hl)
  generalize bs l = S at *
  clear hl
  go_enter Tryd.func27, Tryd.ntmps27
  go_wp2_with (first
    | (go_at_call 19; (with_reducible refine (HV1.out _).mono ?_); rintro e w1 ⟨rfl, rfl⟩))
  go_ret2
  exact ⟨rfl, Below.refl _ _⟩

end Go.Proofs.YtieaelipgieaoaaDoor
