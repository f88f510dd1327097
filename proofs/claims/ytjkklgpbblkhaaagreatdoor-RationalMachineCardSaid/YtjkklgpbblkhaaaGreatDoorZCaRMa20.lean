/-
  Put together by program out of these texts, in this order: Qmw, CaRMa.
-/
import Derived.Test.YtjkklgpbblkhaaaGreatDoorZCaRMa19
import Derived.Test.YtjkklgpbblkhaaaGreatDoorCards
import Derived.Test.YtjkklgpbblkhaaaGreatDoorTie
import Derived.Test.YtjkklgpbblkhaaaGreatDoorZCaRMa04

/-
  RationalMachine: for every four ints, and in every memory in which the table of the decimal powers holds its numbers, the law returns true.
-/
namespace Go.Proofs.YtjkklgpbblkhaaaGreatDoor
open Go.RowKit Bs Ig Qq

/-- the boxes of the law: two fractions, the four results, their errors, and what they should be -/
structure Ma (w W : World) (ga gb g : Nat) (A1 A2 B1 B2 : ByteArray) (a0 b0 a1 b1 a2 b2 a3 b3 : ByteArray) (e3 : Int) (s dc t nm nc dm : Int) : Prop where
  below : Below w.heap.size w W
  tab0 : TabP w
  a : IsB W ga A1 A2
  b : IsB W gb B1 B2
  r : R8 W g (rz a0 b0 a1 b1 a2 b2 a3 b3)
  e : E4 W (g + 1) (ez 0 0 0 e3)
  v : W.heap[g + 1 + 1]? = some (.cells #[.int .i64 s, .int .i64 dc, .int .i64 t, .int .i64 dc, .int .i64 nm, .int .i64 dc, .int .i64 nc, .int .i64 dm] 51 (0, 0))
section
variable {w W W' : World} {ga gb g : Nat} {A1 A2 B1 B2 a0 b0 a1 b1 a2 b2 a3 b3 : ByteArray} {e3 s dc t nm nc dm : Int} (h : Ma w W ga gb g A1 A2 B1 B2 a0 b0 a1 b1 a2 b2 a3 b3 e3 s dc t nm nc dm)
include h
theorem Ma.tab : TabP W := h.tab0.later h.below
theorem Ma.step (hb : Below W.heap.size W W') : Ma w W' ga gb g A1 A2 B1 B2 a0 b0 a1 b1 a2 b2 a3 b3 e3 s dc t nm nc dm :=
  ⟨below_on h.below hb h.below.size, h.tab0, row_kept h.a hb, row_kept h.b hb, row_kept h.r hb, row_kept h.e hb, row_kept h.v hb⟩
theorem Ma.drewm : Ma w W.drew ga gb g A1 A2 B1 B2 a0 b0 a1 b1 a2 b2 a3 b3 e3 s dc t nm nc dm := h.step ((Below.refl _ W).drew)
theorem Ma.at0 : W.cell? ⟨g, 0, none⟩ = some (.string a0) ∧ W.frozen? ⟨g, 0, none⟩ = false ∧ W.cell? ⟨g, 1, none⟩ = some (.string b0) ∧ W.frozen? ⟨g, 1, none⟩ = false ∧ W.cell? ⟨g + 1, 0, none⟩ = some (.int .i64 0) ∧ W.frozen? ⟨g + 1, 0, none⟩ = false :=
  ⟨by rw [cell_of_row _ _ 0 _ _ _ h.r]; rfl, frozen_of_row _ _ _ _ _ h.r, by rw [cell_of_row _ _ 1 _ _ _ h.r]; rfl, frozen_of_row _ _ _ _ _ h.r, by rw [cell_of_row _ _ 0 _ _ _ h.e]; rfl, frozen_of_row _ _ _ _ _ h.e⟩
theorem Ma.w0 : W.cell? ⟨g + 1 + 1, 0, none⟩ = some (.int .i64 s) ∧ W.cell? ⟨g + 1 + 1, 1, none⟩ = some (.int .i64 dc) :=
  ⟨by rw [cell_of_row _ _ 0 _ _ _ h.v]; rfl, by rw [cell_of_row _ _ 1 _ _ _ h.v]; rfl⟩
theorem Ma.five0 : W.cell? ⟨g, 0, none⟩ = some (.string a0) ∧ W.cell? ⟨g, 1, none⟩ = some (.string b0) ∧ W.cell? ⟨g + 1, 0, none⟩ = some (.int .i64 0) ∧ W.cell? ⟨g + 1 + 1, 0, none⟩ = some (.int .i64 s) ∧ W.cell? ⟨g + 1 + 1, 1, none⟩ = some (.int .i64 dc) :=
  ⟨h.at0.1, h.at0.2.2.1, h.at0.2.2.2.2.1, h.w0.1, h.w0.2⟩
theorem Ma.at1 : W.cell? ⟨g, 2, none⟩ = some (.string a1) ∧ W.frozen? ⟨g, 2, none⟩ = false ∧ W.cell? ⟨g, 3, none⟩ = some (.string b1) ∧ W.frozen? ⟨g, 3, none⟩ = false ∧ W.cell? ⟨g + 1, 1, none⟩ = some (.int .i64 0) ∧ W.frozen? ⟨g + 1, 1, none⟩ = false :=
  ⟨by rw [cell_of_row _ _ 2 _ _ _ h.r]; rfl, frozen_of_row _ _ _ _ _ h.r, by rw [cell_of_row _ _ 3 _ _ _ h.r]; rfl, frozen_of_row _ _ _ _ _ h.r, by rw [cell_of_row _ _ 1 _ _ _ h.e]; rfl, frozen_of_row _ _ _ _ _ h.e⟩
theorem Ma.w1 : W.cell? ⟨g + 1 + 1, 2, none⟩ = some (.int .i64 t) ∧ W.cell? ⟨g + 1 + 1, 3, none⟩ = some (.int .i64 dc) :=
  ⟨by rw [cell_of_row _ _ 2 _ _ _ h.v]; rfl, by rw [cell_of_row _ _ 3 _ _ _ h.v]; rfl⟩
theorem Ma.five1 : W.cell? ⟨g, 2, none⟩ = some (.string a1) ∧ W.cell? ⟨g, 3, none⟩ = some (.string b1) ∧ W.cell? ⟨g + 1, 1, none⟩ = some (.int .i64 0) ∧ W.cell? ⟨g + 1 + 1, 2, none⟩ = some (.int .i64 t) ∧ W.cell? ⟨g + 1 + 1, 3, none⟩ = some (.int .i64 dc) :=
  ⟨h.at1.1, h.at1.2.2.1, h.at1.2.2.2.2.1, h.w1.1, h.w1.2⟩
theorem Ma.at2 : W.cell? ⟨g, 4, none⟩ = some (.string a2) ∧ W.frozen? ⟨g, 4, none⟩ = false ∧ W.cell? ⟨g, 5, none⟩ = some (.string b2) ∧ W.frozen? ⟨g, 5, none⟩ = false ∧ W.cell? ⟨g + 1, 2, none⟩ = some (.int .i64 0) ∧ W.frozen? ⟨g + 1, 2, none⟩ = false :=
  ⟨by rw [cell_of_row _ _ 4 _ _ _ h.r]; rfl, frozen_of_row _ _ _ _ _ h.r, by rw [cell_of_row _ _ 5 _ _ _ h.r]; rfl, frozen_of_row _ _ _ _ _ h.r, by rw [cell_of_row _ _ 2 _ _ _ h.e]; rfl, frozen_of_row _ _ _ _ _ h.e⟩
theorem Ma.w2 : W.cell? ⟨g + 1 + 1, 4, none⟩ = some (.int .i64 nm) ∧ W.cell? ⟨g + 1 + 1, 5, none⟩ = some (.int .i64 dc) :=
  ⟨by rw [cell_of_row _ _ 4 _ _ _ h.v]; rfl, by rw [cell_of_row _ _ 5 _ _ _ h.v]; rfl⟩
theorem Ma.five2 : W.cell? ⟨g, 4, none⟩ = some (.string a2) ∧ W.cell? ⟨g, 5, none⟩ = some (.string b2) ∧ W.cell? ⟨g + 1, 2, none⟩ = some (.int .i64 0) ∧ W.cell? ⟨g + 1 + 1, 4, none⟩ = some (.int .i64 nm) ∧ W.cell? ⟨g + 1 + 1, 5, none⟩ = some (.int .i64 dc) :=
  ⟨h.at2.1, h.at2.2.2.1, h.at2.2.2.2.2.1, h.w2.1, h.w2.2⟩
theorem Ma.at3 : W.cell? ⟨g, 6, none⟩ = some (.string a3) ∧ W.frozen? ⟨g, 6, none⟩ = false ∧ W.cell? ⟨g, 7, none⟩ = some (.string b3) ∧ W.frozen? ⟨g, 7, none⟩ = false ∧ W.cell? ⟨g + 1, 3, none⟩ = some (.int .i64 e3) ∧ W.frozen? ⟨g + 1, 3, none⟩ = false :=
  ⟨by rw [cell_of_row _ _ 6 _ _ _ h.r]; rfl, frozen_of_row _ _ _ _ _ h.r, by rw [cell_of_row _ _ 7 _ _ _ h.r]; rfl, frozen_of_row _ _ _ _ _ h.r, by rw [cell_of_row _ _ 3 _ _ _ h.e]; rfl, frozen_of_row _ _ _ _ _ h.e⟩
theorem Ma.w3 : W.cell? ⟨g + 1 + 1, 6, none⟩ = some (.int .i64 nc) ∧ W.cell? ⟨g + 1 + 1, 7, none⟩ = some (.int .i64 dm) :=
  ⟨by rw [cell_of_row _ _ 6 _ _ _ h.v]; rfl, by rw [cell_of_row _ _ 7 _ _ _ h.v]; rfl⟩
theorem Ma.five3 : W.cell? ⟨g, 6, none⟩ = some (.string a3) ∧ W.cell? ⟨g, 7, none⟩ = some (.string b3) ∧ W.cell? ⟨g + 1, 3, none⟩ = some (.int .i64 e3) ∧ W.cell? ⟨g + 1 + 1, 6, none⟩ = some (.int .i64 nc) ∧ W.cell? ⟨g + 1 + 1, 7, none⟩ = some (.int .i64 dm) :=
  ⟨h.at3.1, h.at3.2.2.1, h.at3.2.2.2.2.1, h.w3.1, h.w3.2⟩
end
/-- what the calls in a round answer -/
structure Rd (N0 N1 N2 N3 D0 D1 D2 D3 : ByteArray) (x0 x1 x2 x3 y0 y1 y2 y3 : Int) (last : Prop) : Prop where
  n0 : ∀ W, Calls Tryz.prog 37 #[.string N0] W fun e w' => e = .returned (.tuple #[.int .i64 x0, .int .i64 0]) ∧ Below W.heap.size W w'
  d0 : ∀ W, Calls Tryz.prog 37 #[.string D0] W fun e w' => e = .returned (.tuple #[.int .i64 y0, .int .i64 0]) ∧ Below W.heap.size W w'
  v0 : ∀ W, TabP W → Calls Tryz.prog 29 #[.agg #[.string N0, .string D0]] W fun e w' => e = .returned (.bool true) ∧ Below W.heap.size W w'
  n1 : ∀ W, Calls Tryz.prog 37 #[.string N1] W fun e w' => e = .returned (.tuple #[.int .i64 x1, .int .i64 0]) ∧ Below W.heap.size W w'
  d1 : ∀ W, Calls Tryz.prog 37 #[.string D1] W fun e w' => e = .returned (.tuple #[.int .i64 y1, .int .i64 0]) ∧ Below W.heap.size W w'
  v1 : ∀ W, TabP W → Calls Tryz.prog 29 #[.agg #[.string N1, .string D1]] W fun e w' => e = .returned (.bool true) ∧ Below W.heap.size W w'
  n2 : ∀ W, Calls Tryz.prog 37 #[.string N2] W fun e w' => e = .returned (.tuple #[.int .i64 x2, .int .i64 0]) ∧ Below W.heap.size W w'
  d2 : ∀ W, Calls Tryz.prog 37 #[.string D2] W fun e w' => e = .returned (.tuple #[.int .i64 y2, .int .i64 0]) ∧ Below W.heap.size W w'
  v2 : ∀ W, TabP W → Calls Tryz.prog 29 #[.agg #[.string N2, .string D2]] W fun e w' => e = .returned (.bool true) ∧ Below W.heap.size W w'
  n3 : last → ∀ W, Calls Tryz.prog 37 #[.string N3] W fun e w' => e = .returned (.tuple #[.int .i64 x3, .int .i64 0]) ∧ Below W.heap.size W w'
  d3 : last → ∀ W, Calls Tryz.prog 37 #[.string D3] W fun e w' => e = .returned (.tuple #[.int .i64 y3, .int .i64 0]) ∧ Below W.heap.size W w'
  v3 : last → ∀ W, TabP W → Calls Tryz.prog 29 #[.agg #[.string N3, .string D3]] W fun e w' => e = .returned (.bool true) ∧ Below W.heap.size W w'
/-- the numbers of the rounds -/
structure Rq (x0 x1 x2 x3 y0 y1 y2 y3 s dc t nm nc dm : Int) (last : Prop) : Prop where
  r0 : 1 ≤ y0 ∧ IntKind.i64.wrap (x0 * dc) = s * y0 ∧ IntKind.i64.wrap (s * y0) = s * y0
  r1 : 1 ≤ y1 ∧ IntKind.i64.wrap (x1 * dc) = t * y1 ∧ IntKind.i64.wrap (t * y1) = t * y1
  r2 : 1 ≤ y2 ∧ IntKind.i64.wrap (x2 * dc) = nm * y2 ∧ IntKind.i64.wrap (nm * y2) = nm * y2
  r3 : last → 1 ≤ y3 ∧ IntKind.i64.wrap (x3 * dm) = nc * y3 ∧ IntKind.i64.wrap (nc * y3) = nc * y3

theorem sum_in {a b k : Int} (ha : a.natAbs ≤ 900000000) (hb : b.natAbs ≤ 900000000) (h : a + b = k) : IntKind.i64.wrap (a + b) = k := by rw [IntKind.wrap_i64, ← h]; omega
theorem dif_in {a b k : Int} (ha : a.natAbs ≤ 900000000) (hb : b.natAbs ≤ 900000000) (h : a - b = k) : IntKind.i64.wrap (a - b) = k := by rw [IntKind.wrap_i64, ← h]; omega
theorem sum_b {a b k : Int} (ha : a.natAbs ≤ 900000000) (hb : b.natAbs ≤ 900000000) (h : a + b = k) : k.natAbs ≤ 2000000000 := by omega
theorem dif_b {a b k : Int} (ha : a.natAbs ≤ 900000000) (hb : b.natAbs ≤ 900000000) (h : a - b = k) : k.natAbs ≤ 2000000000 := by omega
theorem le_9 {a : Int} (ha : a.natAbs ≤ 900000000) : a.natAbs ≤ 2000000000 := by omega
theorem prod_in {x y k : Int} (hx : x.natAbs ≤ 2000000000) (hy : y.natAbs ≤ 2000000000) (h : x * y = k) : IntKind.i64.wrap (x * y) = k := by
  have h1 : (x * y).natAbs ≤ 4000000000000000000 := by rw [Int.natAbs_mul]; exact Nat.mul_le_mul hx hy
  rw [IntKind.wrap_i64, ← h]; omega
theorem prod_in' {x y : Int} (hx : x.natAbs ≤ 2000000000) (hy : y.natAbs ≤ 2000000000) : IntKind.i64.wrap (x * y) = x * y := prod_in hx hy rfl
theorem od_rows {r : ByteArray × ByteArray × Int} {m x y : Int} (h : m = 0 ∧ r = noA ∨ m ≠ 0 ∧ OkM r x y) : ∃ (N D : ByteArray) (e z1 z2 k : Int), r = (N, D, e) ∧ (m = 0 ∧ e = 40 ∧ N = ⟨#[]⟩ ∧ D = ⟨#[]⟩ ∨ m ≠ 0 ∧ e = 0) ∧
    (m ≠ 0 → toiS N = (z1, 0) ∧ toiS D = (z2, 0) ∧ 1 ≤ z2 ∧ z1 * y = k ∧ x * z2 = k ∧ validB N D = true ∧ N.size ≤ 1000 ∧ D.size ≤ 1000 ∧ z1.natAbs ≤ 2000000000 ∧ z2 ≤ 2000000000) := by
  rcases h with ⟨h1, h2⟩ | ⟨h1, h2⟩
  · exact ⟨⟨#[]⟩, ⟨#[]⟩, 40, 0, 0, 0, h2, .inl ⟨h1, rfl, rfl, rfl⟩, fun h => (h h1).elim⟩
  · obtain ⟨N, D, z1, z2, k, h3, h4⟩ := ok_rows h2
    exact ⟨N, D, 0, z1, z2, k, h3, .inr ⟨h1, rfl⟩, fun _ => h4⟩
theorem round_ok {N D : ByteArray} {x y X Y k : Int} (h : toiS N = (x, 0) ∧ toiS D = (y, 0) ∧ 1 ≤ y ∧ x * Y = k ∧ X * y = k ∧ validB N D = true ∧ N.size ≤ 1000 ∧ D.size ≤ 1000 ∧ x.natAbs ≤ 2000000000 ∧ y ≤ 2000000000) (hX : X.natAbs ≤ 2000000000) (hY : Y.natAbs ≤ 2000000000) :
    (∀ W, Calls Tryz.prog 37 #[.string N] W fun e w' => e = .returned (.tuple #[.int .i64 x, .int .i64 0]) ∧ Below W.heap.size W w') ∧
    (∀ W, Calls Tryz.prog 37 #[.string D] W fun e w' => e = .returned (.tuple #[.int .i64 y, .int .i64 0]) ∧ Below W.heap.size W w') ∧
    (∀ W, TabP W → Calls Tryz.prog 29 #[.agg #[.string N, .string D]] W fun e w' => e = .returned (.bool true) ∧ Below W.heap.size W w') ∧
    (1 ≤ y ∧ IntKind.i64.wrap (x * Y) = X * y ∧ IntKind.i64.wrap (X * y) = X * y) := by
  obtain ⟨h1, h2, h3, h4, h5, h6, h7, h8, h9, h10⟩ := h
  refine ⟨fun W => ?_, fun W => ?_, fun W hW => ?_, h3, ?_, ?_⟩
  · have hh := rToInt_S N (by omega) W; rw [h1] at hh; exact hh
  · have hh := rToInt_S D (by omega) W; rw [h2] at hh; exact hh
  · have hh := qValid_any N D W hW; rw [h6] at hh; exact hh
  · rw [h5]; exact prod_in h9 hY h4
  · exact prod_in' hX (by omega)

set_option maxRecDepth 100000 in
set_option maxHeartbeats 16000000 in
theorem RationalMachine_any (x0 : Int) (h0 : -9223372036854775808 ≤ x0) (k0 : x0 ≤ 9223372036854775807) (x1 : Int) (h1 : -9223372036854775808 ≤ x1) (k1 : x1 ≤ 9223372036854775807) (x2 : Int) (h2 : -9223372036854775808 ≤ x2) (k2 : x2 ≤ 9223372036854775807) (x3 : Int) (h3 : -9223372036854775808 ≤ x3) (k3 : x3 ≤ 9223372036854775807) (w : World) (ht : TabP w) :
    Calls Tryz.prog 5 #[.int .i64 x0, .int .i64 x1, .int .i64 x2, .int .i64 x3] w fun e w' => e = .returned (.bool true) ∧ Below w.heap.size w w' := by
  have HN := Lib.hid (St.start ht)
  have HS := Lib.hid qsane_any
  have P0 := Lib.hid (fun W => pick4_any x0 h0 k0 60001 60001 rfl (by omega) W)
  have P1 := Lib.hid (fun W => pick4_any x1 h1 k1 30000 30000 rfl (by omega) W)
  have P2 := Lib.hid (fun W => pick4_any x2 h2 k2 60001 60001 rfl (by omega) W)
  have P3 := Lib.hid (fun W => pick4_any x3 h3 k3 30000 30000 rfl (by omega) W)
  clear ht h0 k0 h1 k1 h2 k2 h3 k3
  go_enter Tryz.func5, Tryz.ntmps5
  go_upto_region 6 with (first
    | (go_at_call 11; (with_reducible refine (HS.out _ HN.out.tab).mono ?_); rintro ee w0 ⟨rfl, hB⟩; replace HN := Lib.hid (HN.out.step hB); clear hB)
    | (go_at_call 22; (with_reducible refine (P0.out _).mono ?_); rintro ee ww ⟨j0, hj0, rfl, hww⟩; rw [hww]; clear hww ww)
    | (go_at_call 22; (with_reducible refine (P2.out _).mono ?_); rintro ee ww ⟨j2, hj2, rfl, hww⟩; rw [hww]; clear hww ww)
    | (go_at_call 22; (with_reducible refine (P1.out _).mono ?_); rintro ee ww ⟨j1, hj1, rfl, hww⟩; rw [hww]; clear hww ww)
    | (go_at_call 22; (with_reducible refine (P3.out _).mono ?_); rintro ee ww ⟨j3, hj3, rfl, hww⟩; rw [hww]; clear hww ww))
  obtain ⟨n, hn⟩ : ∃ n : Int, (j0 : Int) - 30000 = n := ⟨_, rfl⟩
  obtain ⟨m, hm⟩ : ∃ n : Int, (j2 : Int) - 30000 = n := ⟨_, rfl⟩
  obtain ⟨d, hd⟩ : ∃ n : Int, 1 + (j1 : Int) = n := ⟨_, rfl⟩
  obtain ⟨c, hc⟩ : ∃ n : Int, 1 + (j3 : Int) = n := ⟨_, rfl⟩
  rw [hn, hm, hd, hc]
  obtain ⟨p, q, hmp, hmq, hp, hq, oa, os, om, od, hcmp⟩ := mach_facts (n := n) (d := d) (m := m) (c := c) (by omega) (by omega) (by omega) (by omega) (by omega) (by omega)
  have of1 := fun (W : World) (h : TabP W) => qOf_any n d (by omega) (by omega) (by omega) (by omega) W h
  have of2 := fun (W : World) (h : TabP W) => qOf_any m c (by omega) (by omega) (by omega) (by omega) W h
  rw [show makeQ (bs (Lib.itoa n)) (bs (Lib.itoa d)) = okA p from hmp] at of1
  rw [show makeQ (bs (Lib.itoa m)) (bs (Lib.itoa c)) = okA q from hmq] at of2
  unfold Answers okA at of1 of2
  simp only at of1 of2
  have hcm := fun (W : World) (h : TabP W) => qcompare hp hq W h
  rw [hcmp] at hcm
  have bb1 : (n * c).natAbs ≤ 900000000 := mul_le9 (by omega) (by omega)
  have bb2 : (m * d).natAbs ≤ 900000000 := mul_le9 (by omega) (by omega)
  have bb3 : (d * c).natAbs ≤ 900000000 := mul_le9 (by omega) (by omega)
  have bb4 : (n * m).natAbs ≤ 900000000 := mul_le9 (by omega) (by omega)
  have bb5 : (d * m).natAbs ≤ 900000000 := mul_le9 (by omega) (by omega)
  obtain ⟨a0, b0, z0, y0, t0, ha, ra⟩ := ok_rows oa
  obtain ⟨a1, b1, z1, y1, t1, hs, rs⟩ := ok_rows os
  obtain ⟨a2, b2, z2, y2, t2, hmu, rm⟩ := ok_rows om
  obtain ⟨a3, b3, e3, z3, y3, t3, hdv, hE, rd3⟩ := od_rows od
  have fr := fun (W : World) (h : TabP W) => four_any (T p.1) (T p.2) (T q.1) (T q.2) W h a0 b0 a1 b1 a2 b2 a3 b3 0 0 0 e3 ha hs hmu hdv
  generalize T p.1 = A1 at *
  generalize T p.2 = A2 at *
  generalize T q.1 = B1 at *
  generalize T q.2 = B2 at *
  obtain ⟨nc, hnc⟩ : ∃ k, n * c = k := ⟨_, rfl⟩
  obtain ⟨md, hmd⟩ : ∃ k, m * d = k := ⟨_, rfl⟩
  obtain ⟨dc, hdc⟩ : ∃ k, d * c = k := ⟨_, rfl⟩
  obtain ⟨nm, hnm⟩ : ∃ k, n * m = k := ⟨_, rfl⟩
  obtain ⟨dm, hdm⟩ : ∃ k, d * m = k := ⟨_, rfl⟩
  have m1 := (prod_in' (x := n) (y := c) (by omega) (by omega)).trans hnc
  have m2 := (prod_in' (x := m) (y := d) (by omega) (by omega)).trans hmd
  have m3 := (prod_in' (x := d) (y := c) (by omega) (by omega)).trans hdc
  have m4 := (prod_in' (x := n) (y := m) (by omega) (by omega)).trans hnm
  have m5 := (prod_in' (x := d) (y := m) (by omega) (by omega)).trans hdm
  rw [hnc] at bb1 ra rs rd3 hcm
  rw [hmd] at bb2 ra rs hcm
  rw [hdc] at bb3 ra rs rm
  rw [hnm] at bb4 rm
  rw [hdm] at bb5 rd3
  obtain ⟨s, hsu⟩ : ∃ k, nc + md = k := ⟨_, rfl⟩
  obtain ⟨t, htd⟩ : ∃ k, nc - md = k := ⟨_, rfl⟩
  have m6 := sum_in bb1 bb2 hsu
  have m7 := dif_in bb1 bb2 htd
  have hs9 := sum_b bb1 bb2 hsu
  have ht9 := dif_b bb1 bb2 htd
  have c9 := le_9 bb1
  have c8 := le_9 bb3
  have c7 := le_9 bb4
  have c6 := le_9 bb5
  rw [hsu] at ra
  rw [htd] at rs
  obtain ⟨ta1, ta2, ta3, ta4⟩ := round_ok ra hs9 c8
  obtain ⟨ts1, ts2, ts3, ts4⟩ := round_ok rs ht9 c8
  obtain ⟨tm1, tm2, tm3, tm4⟩ := round_ok rm c7 c8
  have td := fun h => round_ok (rd3 h) c9 c6
  have HT := Lib.hid (show Rd a0 a1 a2 a3 b0 b1 b2 b3 z0 z1 z2 z3 y0 y1 y2 y3 (m ≠ 0) from ⟨ta1, ta2, ta3, ts1, ts2, ts3, tm1, tm2, tm3, fun h => (td h).1, fun h => (td h).2.1, fun h => (td h).2.2.1⟩)
  have HQ := Lib.hid (show Rq z0 z1 z2 z3 y0 y1 y2 y3 s dc t nm nc dm (m ≠ 0) from ⟨ta4, ts4, tm4, fun h => (td h).2.2.2⟩)
  have HC := Lib.hid hcm
  have HE := Lib.hid hE
  have OF1 := Lib.hid of1
  have OF2 := Lib.hid of2
  have FR := Lib.hid fr
  have HM := Lib.hid (And.intro bb1 bb2)
  clear hs9 ht9 c6 c7 c8 c9 ha hs hmu hdv hE ra rs rm rd3 ta1 ta2 ta3 ta4 ts1 ts2 ts3 ts4 tm1 tm2 tm3 tm4 td hcm of1 of2 fr bb1 bb2 bb3 bb4 bb5 hnc hmd hdc hnm hdm hsu htd oa os om od hp hq hmp hmq hcmp hn hm hd hc P0 P1 P2 P3 HS hj0 hj1 hj2 hj3
  go_upto_region 10 with (first
    | (go_at_call 31; (with_reducible refine (OF1.out _ HN.out.tab).mono ?_); rintro ee w1 ⟨rfl, hB⟩; replace HN := Lib.hid ((HN.out.step hB).add A1 A2); clear hB)
    | (go_at_call 31; (with_reducible refine (OF2.out _ HN.out.tab).mono ?_); rintro ee w2 ⟨rfl, hB⟩; replace HN := Lib.hid ((HN.out.step hB).add B1 B2); clear hB; have u0 := HN.out.tail.head.c0; have u1 := HN.out.tail.head.c1; have u2 := HN.out.head.c0; have u3 := HN.out.head.c1)
    | (go_at_call 15; (with_reducible refine (FR.out _ HN.out.tab).mono ?_); rintro ee w3 ⟨rfl, hB⟩; replace HN := Lib.hid (HN.out.step hB); clear hB u0 u1 u2 u3))
  have hMa : Ma w (((w3.alloc (.cells (rz a0 b0 a1 b1 a2 b2 a3 b3) 31)).alloc (.cells (ez 0 0 0 e3) 33)).alloc (.cells #[.int .i64 s, .int .i64 dc, .int .i64 t, .int .i64 dc, .int .i64 nm, .int .i64 dc, .int .i64 nc, .int .i64 dm] 51)) w1.heap.size w2.heap.size w3.heap.size A1 A2 B1 B2 a0 b0 a1 b1 a2 b2 a3 b3 e3 s dc t nm nc dm := by
    have h := HN.out
    refine ⟨(((h.step (al_f _ _)).step (al_f _ _)).step (al_f _ _)).below, h.tab0, ?_, ?_, ?_, ?_, ?_⟩
    · exact row_kept (row_kept (row_kept h.tail.head (al_f _ _)) (al_f _ _)) (al_f _ _)
    · exact row_kept (row_kept (row_kept h.head (al_f _ _)) (al_f _ _)) (al_f _ _)
    · exact row_kept (row_kept (new_f _ _ _ _ rfl) (al_f _ _)) (al_f _ _)
    · exact row_kept (new_f _ _ _ _ (by simp)) (al_f _ _)
    · exact new_f _ _ _ _ (by simp)
  replace HN := Lib.hid hMa
  have HW := Lib.hid (And.intro m1 m2)
  clear hMa OF1 OF2 FR m1 m2 m3 m4 m5 m6 m7
  refine wp_world fun W hW => ?_
  rw [← hW] at HN
  clear hW
  obtain ⟨g, hg⟩ : ∃ g, w3.heap.size = g := ⟨_, rfl⟩
  rw [hg] at HN ⊢
  obtain ⟨ga, hga⟩ : ∃ g, w1.heap.size = g := ⟨_, rfl⟩
  rw [hga] at HN ⊢
  obtain ⟨gb, hgb⟩ : ∃ g, w2.heap.size = g := ⟨_, rfl⟩
  rw [hgb] at HN ⊢
  clear hg hga hgb
  go_wp2_with fail
  go_loopw [17] (fun q wr => ∃ i : Nat, q = .int .i64 (i : Int) ∧ i ≤ 4 ∧ Ma w wr ga gb g A1 A2 B1 B2 a0 b0 a1 b1 a2 b2 a3 b3 e3 s dc t nm nc dm) (fun q _ => (4 - intOf q).toNat)
  case atStart => exact ⟨0, rfl, by omega, HN.out⟩
  case round =>
    clear HN
    obtain ⟨i, rfl, hi, hma⟩ := hrel
    have HN := Lib.hid hma
    clear hma
    have hcase : i = 0 ∨ i = 1 ∨ i = 2 ∨ i = 3 ∨ i = 4 := by omega
    rcases hcase with rfl | rfl | rfl | rfl | rfl
    · skip
      obtain ⟨c0, f0, c1, f1, c2, f2⟩ := HN.out.at0
      obtain ⟨v0, v1⟩ := HN.out.w0
      have TN := Lib.hid HT.out.n0
      have TD := Lib.hid HT.out.d0
      have KV := Lib.hid HT.out.v0
      obtain ⟨q1, q2, q3⟩ := HQ.out.r0
      obtain ⟨kk, hkk⟩ : ∃ k, s * y0 = k := ⟨_, rfl⟩
      replace q2 : IntKind.i64.wrap (z0 * dc) = kk := q2.trans hkk
      replace q3 : IntKind.i64.wrap (s * y0) = kk := q3.trans hkk
      clear hkk
      have q4 : ¬ y0 < 1 := by omega
      have q5 : decide (y0 < 1) = false := decide_eq_false q4
      go_upto_region 18 with (first
        | (go_at_call 37; (with_reducible refine (TN.out _).mono ?_); rintro ee wa ⟨rfl, hB⟩; replace HN := Lib.hid (HN.out.step hB); clear hB c0 f0 c1 f1 c2 f2 v0 v1; obtain ⟨c0, f0, c1, f1, c2, f2⟩ := HN.out.at0; obtain ⟨v0, v1⟩ := HN.out.w0)
        | (go_at_call 37; (with_reducible refine (TD.out _).mono ?_); rintro ee wb ⟨rfl, hB⟩; replace HN := Lib.hid (HN.out.step hB); clear hB c0 f0 c1 f1 c2 f2 v0 v1; obtain ⟨c0, f0, c1, f1, c2, f2⟩ := HN.out.at0; obtain ⟨v0, v1⟩ := HN.out.w0))
      refine wp_world fun W hW => ?_
      rw [← hW] at HN c0 f0 c1 f1 c2 f2 v0 v1
      clear hW f0 f1 f2 TN TD
      go_region_held3 (fun w' => w'.cell? ⟨g, 0, none⟩ = some (.string a0) ∧ w'.cell? ⟨g, 1, none⟩ = some (.string b0) ∧ w'.cell? ⟨g + 1, 0, none⟩ = some (.int .i64 0) ∧ w'.cell? ⟨g + 1 + 1, 0, none⟩ = some (.int .i64 s) ∧ w'.cell? ⟨g + 1 + 1, 1, none⟩ = some (.int .i64 dc)) (first | exact HN.out.five0 | go_keep)
        (first | (go_at_call 29; (with_reducible first | refine (KV.out _ HN.out.tab).mono ?_ | refine (KV.out _ HN.out.drewm.tab).mono ?_); rintro ee wc ⟨rfl, hB⟩; (first | replace HN := Lib.hid (HN.out.step hB) | replace HN := Lib.hid (HN.out.step (below_undrew hB))); clear hB))
      go_wp2_with fail
      case roundEnd => exact ⟨⟨0 + 1, rfl, by omega, HN.out⟩, by simp [intOf]⟩
    · skip
      obtain ⟨c0, f0, c1, f1, c2, f2⟩ := HN.out.at1
      obtain ⟨v0, v1⟩ := HN.out.w1
      have TN := Lib.hid HT.out.n1
      have TD := Lib.hid HT.out.d1
      have KV := Lib.hid HT.out.v1
      obtain ⟨q1, q2, q3⟩ := HQ.out.r1
      obtain ⟨kk, hkk⟩ : ∃ k, t * y1 = k := ⟨_, rfl⟩
      replace q2 : IntKind.i64.wrap (z1 * dc) = kk := q2.trans hkk
      replace q3 : IntKind.i64.wrap (t * y1) = kk := q3.trans hkk
      clear hkk
      have q4 : ¬ y1 < 1 := by omega
      have q5 : decide (y1 < 1) = false := decide_eq_false q4
      go_upto_region 18 with (first
        | (go_at_call 37; (with_reducible refine (TN.out _).mono ?_); rintro ee wa ⟨rfl, hB⟩; replace HN := Lib.hid (HN.out.step hB); clear hB c0 f0 c1 f1 c2 f2 v0 v1; obtain ⟨c0, f0, c1, f1, c2, f2⟩ := HN.out.at1; obtain ⟨v0, v1⟩ := HN.out.w1)
        | (go_at_call 37; (with_reducible refine (TD.out _).mono ?_); rintro ee wb ⟨rfl, hB⟩; replace HN := Lib.hid (HN.out.step hB); clear hB c0 f0 c1 f1 c2 f2 v0 v1; obtain ⟨c0, f0, c1, f1, c2, f2⟩ := HN.out.at1; obtain ⟨v0, v1⟩ := HN.out.w1))
      refine wp_world fun W hW => ?_
      rw [← hW] at HN c0 f0 c1 f1 c2 f2 v0 v1
      clear hW f0 f1 f2 TN TD
      go_region_held3 (fun w' => w'.cell? ⟨g, 2, none⟩ = some (.string a1) ∧ w'.cell? ⟨g, 3, none⟩ = some (.string b1) ∧ w'.cell? ⟨g + 1, 1, none⟩ = some (.int .i64 0) ∧ w'.cell? ⟨g + 1 + 1, 2, none⟩ = some (.int .i64 t) ∧ w'.cell? ⟨g + 1 + 1, 3, none⟩ = some (.int .i64 dc)) (first | exact HN.out.five1 | go_keep)
        (first | (go_at_call 29; (with_reducible first | refine (KV.out _ HN.out.tab).mono ?_ | refine (KV.out _ HN.out.drewm.tab).mono ?_); rintro ee wc ⟨rfl, hB⟩; (first | replace HN := Lib.hid (HN.out.step hB) | replace HN := Lib.hid (HN.out.step (below_undrew hB))); clear hB))
      go_wp2_with fail
      case roundEnd => exact ⟨⟨1 + 1, rfl, by omega, HN.out⟩, by simp [intOf]⟩
    · skip
      obtain ⟨c0, f0, c1, f1, c2, f2⟩ := HN.out.at2
      obtain ⟨v0, v1⟩ := HN.out.w2
      have TN := Lib.hid HT.out.n2
      have TD := Lib.hid HT.out.d2
      have KV := Lib.hid HT.out.v2
      obtain ⟨q1, q2, q3⟩ := HQ.out.r2
      obtain ⟨kk, hkk⟩ : ∃ k, nm * y2 = k := ⟨_, rfl⟩
      replace q2 : IntKind.i64.wrap (z2 * dc) = kk := q2.trans hkk
      replace q3 : IntKind.i64.wrap (nm * y2) = kk := q3.trans hkk
      clear hkk
      have q4 : ¬ y2 < 1 := by omega
      have q5 : decide (y2 < 1) = false := decide_eq_false q4
      go_upto_region 18 with (first
        | (go_at_call 37; (with_reducible refine (TN.out _).mono ?_); rintro ee wa ⟨rfl, hB⟩; replace HN := Lib.hid (HN.out.step hB); clear hB c0 f0 c1 f1 c2 f2 v0 v1; obtain ⟨c0, f0, c1, f1, c2, f2⟩ := HN.out.at2; obtain ⟨v0, v1⟩ := HN.out.w2)
        | (go_at_call 37; (with_reducible refine (TD.out _).mono ?_); rintro ee wb ⟨rfl, hB⟩; replace HN := Lib.hid (HN.out.step hB); clear hB c0 f0 c1 f1 c2 f2 v0 v1; obtain ⟨c0, f0, c1, f1, c2, f2⟩ := HN.out.at2; obtain ⟨v0, v1⟩ := HN.out.w2))
      refine wp_world fun W hW => ?_
      rw [← hW] at HN c0 f0 c1 f1 c2 f2 v0 v1
      clear hW f0 f1 f2 TN TD
      go_region_held3 (fun w' => w'.cell? ⟨g, 4, none⟩ = some (.string a2) ∧ w'.cell? ⟨g, 5, none⟩ = some (.string b2) ∧ w'.cell? ⟨g + 1, 2, none⟩ = some (.int .i64 0) ∧ w'.cell? ⟨g + 1 + 1, 4, none⟩ = some (.int .i64 nm) ∧ w'.cell? ⟨g + 1 + 1, 5, none⟩ = some (.int .i64 dc)) (first | exact HN.out.five2 | go_keep)
        (first | (go_at_call 29; (with_reducible first | refine (KV.out _ HN.out.tab).mono ?_ | refine (KV.out _ HN.out.drewm.tab).mono ?_); rintro ee wc ⟨rfl, hB⟩; (first | replace HN := Lib.hid (HN.out.step hB) | replace HN := Lib.hid (HN.out.step (below_undrew hB))); clear hB))
      go_wp2_with fail
      case roundEnd => exact ⟨⟨2 + 1, rfl, by omega, HN.out⟩, by simp [intOf]⟩
    · skip
      rcases HE.out with ⟨rfl, rfl, rfl, rfl⟩ | ⟨hm0, rfl⟩
      · skip
        obtain ⟨c0, f0, c1, f1, c2, f2⟩ := HN.out.at3
        obtain ⟨v0, v1⟩ := HN.out.w3
        go_wp2_with fail
        case roundEnd => exact ⟨⟨3 + 1, rfl, by omega, HN.out⟩, by simp [intOf]⟩
      · have mz1 : (m == 0) = false := beq_false_of_ne hm0
        have mz2 : decide (m = 0) = false := decide_eq_false hm0
        obtain ⟨c0, f0, c1, f1, c2, f2⟩ := HN.out.at3
        obtain ⟨v0, v1⟩ := HN.out.w3
        have TN := Lib.hid (HT.out.n3 hm0)
        have TD := Lib.hid (HT.out.d3 hm0)
        have KV := Lib.hid (HT.out.v3 hm0)
        obtain ⟨q1, q2, q3⟩ := HQ.out.r3 hm0
        obtain ⟨kk, hkk⟩ : ∃ k, nc * y3 = k := ⟨_, rfl⟩
        replace q2 : IntKind.i64.wrap (z3 * dm) = kk := q2.trans hkk
        replace q3 : IntKind.i64.wrap (nc * y3) = kk := q3.trans hkk
        clear hkk
        have q4 : ¬ y3 < 1 := by omega
        have q5 : decide (y3 < 1) = false := decide_eq_false q4
        go_upto_region 18 with (first
          | (go_at_call 37; (with_reducible refine (TN.out _).mono ?_); rintro ee wa ⟨rfl, hB⟩; replace HN := Lib.hid (HN.out.step hB); clear hB c0 f0 c1 f1 c2 f2 v0 v1; obtain ⟨c0, f0, c1, f1, c2, f2⟩ := HN.out.at3; obtain ⟨v0, v1⟩ := HN.out.w3)
          | (go_at_call 37; (with_reducible refine (TD.out _).mono ?_); rintro ee wb ⟨rfl, hB⟩; replace HN := Lib.hid (HN.out.step hB); clear hB c0 f0 c1 f1 c2 f2 v0 v1; obtain ⟨c0, f0, c1, f1, c2, f2⟩ := HN.out.at3; obtain ⟨v0, v1⟩ := HN.out.w3))
        refine wp_world fun W hW => ?_
        rw [← hW] at HN c0 f0 c1 f1 c2 f2 v0 v1
        clear hW f0 f1 f2 TN TD
        go_region_held3 (fun w' => w'.cell? ⟨g, 6, none⟩ = some (.string a3) ∧ w'.cell? ⟨g, 7, none⟩ = some (.string b3) ∧ w'.cell? ⟨g + 1, 3, none⟩ = some (.int .i64 0) ∧ w'.cell? ⟨g + 1 + 1, 6, none⟩ = some (.int .i64 nc) ∧ w'.cell? ⟨g + 1 + 1, 7, none⟩ = some (.int .i64 dm)) (first | exact HN.out.five3 | go_keep)
          (first | (go_at_call 29; (with_reducible first | refine (KV.out _ HN.out.tab).mono ?_ | refine (KV.out _ HN.out.drewm.tab).mono ?_); rintro ee wc ⟨rfl, hB⟩; (first | replace HN := Lib.hid (HN.out.step hB) | replace HN := Lib.hid (HN.out.step (below_undrew hB))); clear hB))
        go_wp2_with fail
        case roundEnd => exact ⟨⟨3 + 1, rfl, by omega, HN.out⟩, by simp [intOf]⟩
    · skip
      obtain ⟨m1, m2⟩ := HW.out
      have u0 := HN.out.a.c0
      have u1 := HN.out.a.c1
      have u2 := HN.out.b.c0
      have u3 := HN.out.b.c1
      have hc0 := HC.out
      clear HT HQ HM HW HC
      rcases Int.lt_trichotomy nc md with h | h | h
      · rw [show Int.sign (nc - md) = -1 from Int.sign_eq_neg_one_of_neg (by omega)] at hc0
        have HC := Lib.hid hc0
        have k1 : decide (nc < md) = true := decide_eq_true h
        clear hc0
        go_wp2_with (go_at_call 20; (with_reducible refine (HC.out _ HN.out.tab).mono ?_); rintro ee wa ⟨rfl, hB⟩; replace HN := Lib.hid (HN.out.step hB); clear hB u0 u1 u2 u3)
        go_ret
        exact ⟨rfl, HN.out.below⟩
      · rw [show Int.sign (nc - md) = 0 from by rw [h, Int.sub_self]; rfl] at hc0
        have HC := Lib.hid hc0
        have k1 : decide (nc < md) = false := decide_eq_false (by omega)
        have k2 : decide (md < nc) = false := decide_eq_false (by omega)
        have k3 : ¬ nc < md := by omega
        have k4 : ¬ md < nc := by omega
        clear hc0 h
        go_wp2_with (go_at_call 20; (with_reducible refine (HC.out _ HN.out.tab).mono ?_); rintro ee wa ⟨rfl, hB⟩; replace HN := Lib.hid (HN.out.step hB); clear hB u0 u1 u2 u3)
        go_ret
        exact ⟨rfl, HN.out.below⟩
      · rw [show Int.sign (nc - md) = 1 from Int.sign_eq_one_of_pos (by omega)] at hc0
        have HC := Lib.hid hc0
        have k1 : decide (nc < md) = false := decide_eq_false (by omega)
        have k2 : decide (md < nc) = true := decide_eq_true h
        have k3 : ¬ nc < md := by omega
        clear hc0
        go_wp2_with (go_at_call 20; (with_reducible refine (HC.out _ HN.out.tab).mono ?_); rintro ee wa ⟨rfl, hB⟩; replace HN := Lib.hid (HN.out.step hB); clear hB u0 u1 u2 u3)
        go_ret
        exact ⟨rfl, HN.out.below⟩

end Go.Proofs.YtjkklgpbblkhaaaGreatDoor

/-
  RationalMachine: for every input the law returns true, and each argument reads afterwards as it read before.
  Conditions: the variables (the tables of the decimal powers and of the bit counts, and the errors of strconv) hold what the program's own text lays there, which the card ties to that text. The card's set-up speaks of the pruned copy of the project.
-/
namespace Go.Proofs.YtjkklgpbblkhaaaGreatDoor.rationalMachine
open Go.ChangeShapes Go.WideShapes Go.ChangeAt Go.RowKit
open Go.ChangeMaps (open_string shut_string)

theorem params_ok : ∀ t ∈ Tryz.f5.params.toList, Tryz.prog.readableRec t = true ∧ t < Tryz.prog.types.size := by
  rw [Tryz.params5]
  intro t ht
  simp only [List.mem_cons, List.not_mem_nil, or_false] at ht
  rcases ht with rfl | rfl | rfl | rfl <;> exact ⟨by kernel_rfl, of_decide_eq_true (by kernel_rfl)⟩

set_option maxRecDepth 100000 in
theorem walk_args {H : Type} {enc : TypeId × Value → H} {W : World} {base : Nat} {args : Array Value} {ds : List (DataW H)} {p : List MemPlace}
    (hval : ∀ (j : Nat) t v, Tryz.f5.params[j]? = some t → args[j]? = some v → Value.okWide Tryz.prog W .any base t v)
    (hA : DataW.TrodAll enc Tryz.prog W 0 (fun _ => true) true Tryz.f5.params.toList args.toList ds p) (ht : TabP W) :
    ds.length = 4 ∧ Calls Tryz.prog 5 args W fun e W' => e = .returned (.bool true) ∧ Below W.heap.size W W' := by
  rw [Tryz.params5] at hA hval
  obtain ⟨v0, vs0, d0, ds0, p0, q0, hargs, rfl, rfl, h0, r0⟩ := trodAll_cons hA
  obtain ⟨v1, vs1, d1, ds1, p1, q1, rfl, rfl, rfl, h1, r1⟩ := trodAll_cons r0
  obtain ⟨v2, vs2, d2, ds2, p2, q2, rfl, rfl, rfl, h2, r2⟩ := trodAll_cons r1
  obtain ⟨v3, vs3, d3, ds3, p3, q3, rfl, rfl, rfl, h3, r3⟩ := trodAll_cons r2
  obtain ⟨rfl, rfl, rfl⟩ := trodAll_nil r3
  obtain rfl : args = #[v0, v1, v2, v3] := by cases args; simp_all
  refine ⟨rfl, ?_⟩
  obtain ⟨a0, rfl, rfl, rfl, w0⟩ := open_int Tryz.underlying3 (hval 0 3 v0 rfl rfl) h0
  obtain ⟨l0, u0⟩ := bounds_i64 w0
  obtain ⟨a1, rfl, rfl, rfl, w1⟩ := open_int Tryz.underlying3 (hval 1 3 v1 rfl rfl) h1
  obtain ⟨l1, u1⟩ := bounds_i64 w1
  obtain ⟨a2, rfl, rfl, rfl, w2⟩ := open_int Tryz.underlying3 (hval 2 3 v2 rfl rfl) h2
  obtain ⟨l2, u2⟩ := bounds_i64 w2
  obtain ⟨a3, rfl, rfl, rfl, w3⟩ := open_int Tryz.underlying3 (hval 3 3 v3 rfl rfl) h3
  obtain ⟨l3, u3⟩ := bounds_i64 w3
  exact RationalMachine_any a0 l0 u0 a1 l1 u1 a2 l2 u2 a3 l3 u3 W ht

def wargs : Array Value := #[.int .i64 0, .int .i64 0, .int .i64 0, .int .i64 0]
theorem laid_met (os : Os) : laidMet Tryz.prog Rows.rationalMachineRow.laid ((Tab.laidWorld os).forCall (fun _ _ => 0) ⟨#[], wargs, []⟩).memory :=
  Tab.laid_met os wargs
theorem reads (os : Os) {H : Type} (enc : TypeId × Value → H) : ∃ ds places, DataW.whole enc Tryz.prog ((Tab.laidWorld os).forCall (fun _ _ => 0) ⟨#[], wargs, []⟩).memory Tryz.f5.params.toList Rows.rationalMachineSpec.vars false wargs.toList 8 = some (ds, [], places) :=
  ⟨[.lit (.int .i64 0), .lit (.int .i64 0), .lit (.int .i64 0), .lit (.int .i64 0)], [], by kernel_rfl⟩

set_option maxRecDepth 100000 in
theorem lifted (os : Os) (started : os.Started) (H : Type) (enc : TypeId × Value → H) (F : Stop.Interp) :
    ReturnsInHanded {} Tryz.checked os 5 .any ((OpenSpec.ofChange Rows.rationalMachineSpec).preRow enc Tryz.prog Tryz.f5 Rows.rationalMachineRow.domain false Rows.rationalMachineRow.laid) (((OpenSpec.ofChange Rows.rationalMachineSpec).at F).post enc Tryz.prog Tryz.f5 false true false false) := by
  obtain ⟨wd, places, hx⟩ := reads os enc
  refine returnsInHanded_of_row (C := Tryz.checked) (s := OpenSpec.ofChange Rows.rationalMachineSpec) Tab.own started (by kernel_rfl) Tryz.func5
    (witness_row_at (enc := enc) (C := Tryz.checked) false (Tab.laidWorld os) wargs (Tab.laidWorld_os os) (by kernel_rfl) (by kernel_rfl) (by kernel_rfl)
      (OpenSpec.preRow_of_cond 8 hx (by kernel_rfl) (fun k hk => by cases hk) (by kernel_rfl) (laid_met os))) ?_
  intro W base args ds gs before hval hW _ _ _ hL _ _
  have hW' := hW
  obtain ⟨p, q, hA, -, -, -, -⟩ := hW'
  obtain ⟨h3, walk⟩ := walk_args hval hA (Tab.table hL)
  refine Fr.law_contract Tab.laidOut params_ok rfl (by kernel_rfl) Tryz.underlying4 hW ?_ walk
  match ds, h3 with
  | [_, _, _, _], _ => rfl

theorem said : Rows.RationalMachineSaid :=
  OpenClaim.holds_of_cond 5 Tryz.f5 rfl rfl rfl rfl rfl rfl rfl ⟨rfl, rfl, rfl, rfl, rfl⟩ rfl rfl rfl rfl rfl (by kernel_rfl) Tryz.func5 (by kernel_rfl)
    (of_decide_eq_true (by kernel_rfl)) (by unfold Func.isWrapper; first | (rw [if_pos (by decide +kernel)]; kernel_rfl) | (rw [if_neg (by decide +kernel)]; exact ⟨rfl, rfl⟩))
    (fun os started H enc _ F => by rw [OpenClaim.pre_eq_preRow]; exact lifted os started H enc F)

theorem plain (f : FuncId) (fn : Func) (hf : Tryz.pinned.checked.prog.funcNamed "longliner/longlinerlaw04.RationalMachine" = some f) (hfn : Tryz.pinned.checked.prog.funcs[f]? = some fn) :
    true = Tryz.pinned.checked.prog.looks [] ∧ ∀ (j : Nat) t, fn.params[j]? = some t → Tryz.pinned.checked.prog.wantsStandIn t = false := by
  obtain rfl : f = 5 := Option.some.inj ((show Tryz.prog.funcNamed "longliner/longlinerlaw04.RationalMachine" = some 5 by kernel_rfl).symm.trans hf) |>.symm
  obtain rfl : fn = Tryz.f5 := (Option.some.inj (Tryz.func5.symm.trans hfn)).symm
  refine ⟨by kernel_rfl, fun j t ht => ?_⟩
  rw [Tryz.params5] at ht
  have hm := Array.mem_of_getElem? ht
  simp only [List.mem_toArray, List.mem_cons, List.not_mem_nil, or_false] at hm
  rcases hm with rfl | rfl | rfl | rfl
  all_goals (show Tryz.prog.wantsStandIn _ = false; kernel_rfl)

theorem card : Rows.RationalMachineCardSaid :=
  Claim7.holds_tied_plain_at .later [] _ _ _ _ said (fun _ h => by cases h) (by kernel_rfl) (fun _ h => by cases h) rationalMachine_row_tie rfl ⟨rfl, rfl⟩ (by kernel_rfl) rfl plain (by kernel_rfl)
end Go.Proofs.YtjkklgpbblkhaaaGreatDoor.rationalMachine
