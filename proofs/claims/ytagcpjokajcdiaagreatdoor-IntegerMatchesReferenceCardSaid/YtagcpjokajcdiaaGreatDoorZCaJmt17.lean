/-
  Put together by program out of these texts, in this order: Jmt, CaJmt.
-/
import Derived.Test.YtagcpjokajcdiaaGreatDoorZCaJmt15
import Derived.Test.YtagcpjokajcdiaaGreatDoorZCaJmt16
import Derived.Test.YtagcpjokajcdiaaGreatDoorZCaJmt09
import Derived.Deep.DeepCutAuto
import Derived.Test.YtagcpjokajcdiaaGreatDoorCards
import Derived.Test.YtagcpjokajcdiaaGreatDoorTie

/-
  IntegerMatchesReference: for every two strings and every int, and in every memory in which the table of the decimal powers holds its numbers and ErrRange an error, the law returns true.
-/
namespace Go.Proofs.YtagcpjokajcdiaaGreatDoor
open Go.RowKit Bs Ig

/-- the box of a pair of strings -/
structure Pb (W : World) (g : Nat) (U V : ByteArray) : Prop where
  row : W.heap[g]? = some (.cells #[.string U, .string V] 23 (0, 0))
theorem Pb.c0 {W : World} {g : Nat} {U V : ByteArray} (h : Pb W g U V) : W.cell? ⟨g, 0, none⟩ = some (.string U) := by rw [cell_of_row _ _ 0 _ _ _ h.row]; rfl
theorem Pb.c1 {W : World} {g : Nat} {U V : ByteArray} (h : Pb W g U V) : W.cell? ⟨g, 1, none⟩ = some (.string V) := by rw [cell_of_row _ _ 1 _ _ _ h.row]; rfl
theorem Pb.lt {W : World} {g : Nat} {U V : ByteArray} (h : Pb W g U V) : g < W.heap.size := (Array.getElem?_eq_some_iff.1 h.row).1
theorem Pb.later {W W' : World} {g : Nat} {U V : ByteArray} (h : Pb W g U V) (hb : Below W.heap.size W W') : Pb W' g U V := ⟨(hb.block _ h.lt).trans h.row⟩
theorem Pb.new (W : World) (U V : ByteArray) : Pb (W.alloc (.cells #[.string U, .string V] 23)) W.heap.size U V := ⟨heap_alloc_new _ _⟩
/-- the list of three pairs -/
structure Six (W : World) (g : Nat) (a b c d e f : ByteArray) : Prop where
  row : W.heap[g]? = some (.cells #[.string a, .string b, .string c, .string d, .string e, .string f] 23 (0, 0))
theorem Six.lt {W : World} {g : Nat} {a b c d e f : ByteArray} (h : Six W g a b c d e f) : g < W.heap.size := (Array.getElem?_eq_some_iff.1 h.row).1
theorem Six.later {W W' : World} {g : Nat} {a b c d e f : ByteArray} (h : Six W g a b c d e f) (hb : Below W.heap.size W W') : Six W' g a b c d e f := ⟨(hb.block _ h.lt).trans h.row⟩
theorem Six.new (W : World) (a b c d e f : ByteArray) : Six (W.alloc (.cells #[.string a, .string b, .string c, .string d, .string e, .string f] 23)) W.heap.size a b c d e f := ⟨heap_alloc_new _ _⟩
theorem below_al2 (W : World) (o : Obj) : Below W.heap.size W (W.alloc o) := (Below.refl _ W).alloc (Nat.le_refl _) o
theorem Six.cells {W : World} {g : Nat} {a b c d e f : ByteArray} (h : Six W g a b c d e f) :
    W.cell? ⟨g, 0, none⟩ = some (.string a) ∧ W.cell? ⟨g, 1, none⟩ = some (.string b) ∧ W.cell? ⟨g, 2, none⟩ = some (.string c) ∧ W.cell? ⟨g, 3, none⟩ = some (.string d) ∧ W.cell? ⟨g, 4, none⟩ = some (.string e) ∧ W.cell? ⟨g, 5, none⟩ = some (.string f) :=
  ⟨by rw [cell_of_row _ _ 0 _ _ _ h.row]; rfl, by rw [cell_of_row _ _ 1 _ _ _ h.row]; rfl, by rw [cell_of_row _ _ 2 _ _ _ h.row]; rfl, by rw [cell_of_row _ _ 3 _ _ _ h.row]; rfl, by rw [cell_of_row _ _ 4 _ _ _ h.row]; rfl, by rw [cell_of_row _ _ 5 _ _ _ h.row]; rfl⟩
structure Nw (w W : World) : Prop where
  below : Below w.heap.size w W
  tab : TabP W
  err : ErrP W
theorem Nw.start {w : World} (h : TabP w) (he : ErrP w) : Nw w w := ⟨Below.refl _ _, h, he⟩
theorem Nw.step {w W W' : World} (h : Nw w W) (hb : Below W.heap.size W W') : Nw w W' := ⟨below_on h.below hb h.below.size, h.tab.later hb, h.err.later hb⟩

/-- what all functions answer at two strings -/
structure Both (U V : ByteArray) : Prop where
  su : U.size ≤ 9223372036854775807
  sv : V.size ≤ 9223372036854775807

set_option maxRecDepth 100000 in
set_option maxHeartbeats 16000000 in
theorem IntegerMatchesReference_any (s t : ByteArray) (n : Int) (h0 : -9223372036854775808 ≤ n) (h1 : n ≤ 9223372036854775807) (w : World) (ht : TabP w) (he : ErrP w) :
    Calls Tryz.prog 3 #[.string s, .string t, .int .i64 n] w fun e w' => e = .returned (.bool true) ∧ Below w.heap.size w w' := by
  have hm1 : ∀ (W : World) (ts : Array TypeId) (ty : TypeId), (Builtin.min_ ts ty #[.int .i64 (s.size : Int), .int .i64 210]).run Tryz.prog W = .ok (.int .i64 ((min s.size 210 : Nat) : Int)) W := by
    intro W ts ty
    rw [run_min_int2]
    congr 2
    split <;> omega
  have hm2 : ∀ (W : World) (ts : Array TypeId) (ty : TypeId), (Builtin.min_ ts ty #[.int .i64 (t.size : Int), .int .i64 210]).run Tryz.prog W = .ok (.int .i64 ((min t.size 210 : Nat) : Int)) W := by
    intro W ts ty
    rw [run_min_int2]
    congr 2
    split <;> omega
  have hs1 := str_h s (min s.size 210) ((min s.size 210 : Nat) : Int) rfl (by omega)
  have hs2 := str_h t (min t.size 210) ((min t.size 210 : Nat) : Int) rfl (by omega)
  have z1 : (s.extract 0 (min s.size 210)).size ≤ 210 := by rw [ByteArray.size_extract]; omega
  have z2 : (t.extract 0 (min t.size 210)).size ≤ 210 := by rw [ByteArray.size_extract]; omega
  obtain ⟨A, hA⟩ : ∃ A, s.extract 0 (min s.size 210) = A := ⟨_, rfl⟩
  obtain ⟨B, hB⟩ : ∃ B, t.extract 0 (min t.size 210) = B := ⟨_, rfl⟩
  rw [hA] at hs1 z1
  rw [hB] at hs2 z2
  obtain ⟨m1, hM1⟩ : ∃ m, min s.size 210 = m := ⟨_, rfl⟩
  obtain ⟨m2, hM2⟩ : ∃ m, min t.size 210 = m := ⟨_, rfl⟩
  rw [hM1] at hm1 hs1
  rw [hM2] at hm2 hs2
  have HN := Lib.hid (Nw.start ht he)
  have HS := Lib.hid (fun W h => sane_any W h)
  have HM1 := Lib.hid (fun W => Made_any A (by omega) 70 70 rfl (by omega) W)
  have HM2 := Lib.hid (fun W => Made_any B (by omega) 30 30 rfl (by omega) W)
  have HM3 := Lib.hid (fun W => Made_any A (by omega) 12 12 rfl (by omega) W)
  have HF := Lib.hid (fun W => rFromInt_bs n h0 h1 W)
  have HG := Lib.hid (fun (W : World) (h : TabP W) => FromInt_any n h0 h1 W h)
  have hbA : A.size ≤ 9223372036854775807 := by omega
  have hbB : B.size ≤ 9223372036854775807 := by omega
  have HbA := Lib.hid hbA
  have HbB := Lib.hid hbB
  have HbF := Lib.hid (show (bs (Lib.itoa n)).size ≤ 9223372036854775807 from by rw [bs_size]; have := itoa_len (lt_big19 n (by omega)); omega)
  clear hA hB z1 z2 hM1 hM2 ht he h0 h1 hbA hbB
  generalize bs (Lib.itoa n) = FN at *
  go_enter Tryz.func3, Tryz.ntmps3
  go_wp2_with (first
    | (go_at_call 4; (with_reducible refine (HS.out _ HN.out.tab).mono ?_); rintro e w1 ⟨rfl, hB⟩; have HN := Lib.hid (HN.out.step hB); clear hB)
    | (go_at_call 5; (with_reducible refine (HM1.out _).mono ?_); rintro e w2 ⟨x1, hx1, rfl, hB⟩; have HN := Lib.hid (HN.out.step hB); clear hB)
    | (go_at_call 5; (with_reducible refine (HM2.out _).mono ?_); rintro e w3 ⟨x2, hx2, rfl, hB⟩; have HN := Lib.hid (HN.out.step hB); clear hB)
    | (go_at_call 5; (with_reducible refine (HM3.out _).mono ?_); rintro e w4 ⟨x3, hx3, rfl, hB⟩; have HN := Lib.hid (HN.out.step hB); clear hB)
    | (go_at_call 6; (with_reducible refine (HF.out _).mono ?_); rintro e w5 ⟨rfl, hB⟩; have HN := Lib.hid (HN.out.step hB); clear hB))
  have S1 := Lib.hid (show (bs (Lib.itoa x1)).size ≤ 9223372036854775807 from by rw [bs_size]; have := itoa_len (z := x1) (Nat.lt_of_lt_of_le hx1 (Nat.pow_le_pow_right (by omega) (by omega))); omega)
  have S2 := Lib.hid (show (bs (Lib.itoa x2)).size ≤ 9223372036854775807 from by rw [bs_size]; have := itoa_len (z := x2) (Nat.lt_of_lt_of_le hx2 (Nat.pow_le_pow_right (by omega) (by omega))); omega)
  have S3 := Lib.hid (show (bs (Lib.itoa x3)).size ≤ 9223372036854775807 from by rw [bs_size]; have := itoa_len (z := x3) (Nat.lt_of_lt_of_le hx3 (Nat.pow_le_pow_right (by omega) (by omega))); omega)
  generalize bs (Lib.itoa x1) = X1 at *
  generalize bs (Lib.itoa x2) = X2 at *
  generalize bs (Lib.itoa x3) = X3 at *
  have H6 := Lib.hid (Six.new w5 A B X1 X2 X3 FN)
  have HN := Lib.hid (HN.out.step (below_al2 w5 (.cells #[.string A, .string B, .string X1, .string X2, .string X3, .string FN] 23)))
  clear hx1 hx2 hx3 hs1 hs2 hm1 hm2 HM1 HM2 HM3 HS
  go_loopw [50] (fun p wr => ∃ i : Nat, p = .int .i64 (i : Int) ∧ i ≤ 3 ∧ Nw w wr ∧ Six wr w5.heap.size A B X1 X2 X3 FN) (fun p _ => (3 - intOf p).toNat)
  case atStart => exact ⟨0, rfl, by omega, HN.out, H6.out⟩
  case round =>
    clear HN H6
    obtain ⟨i, rfl, hi, hnw, h6⟩ := hrel
    have HN := Lib.hid hnw
    have H6 := Lib.hid h6
    obtain ⟨t0, t1, t2, t3, t4, t5⟩ := h6.cells
    clear hnw h6
    have hcs : i = 0 ∨ i = 1 ∨ i = 2 ∨ i = 3 := by omega
    rcases hcs with rfl | rfl | rfl | rfl
    · skip
      have su := HbA.out
      have sv := HbB.out
      obtain ⟨p1, q1, e1⟩ : ∃ p q, addS A B = (p, q) := ⟨_, _, rfl⟩
      obtain ⟨p2, q2, e2⟩ : ∃ p q, subS A B = (p, q) := ⟨_, _, rfl⟩
      obtain ⟨p3, q3, e3⟩ : ∃ p q, mulS A B = (p, q) := ⟨_, _, rfl⟩
      obtain ⟨p4, q4, o4, e4⟩ : ∃ p q r, divS A B = (p, q, r) := ⟨_, _, _, rfl⟩
      obtain ⟨p5, q5, e5⟩ : ∃ p q, gcdS A B = (p, q) := ⟨_, _, rfl⟩
      obtain ⟨p6, q6, e6⟩ : ∃ p q, rootS A = (p, q) := ⟨_, _, rfl⟩
      obtain ⟨p7, q7, e7⟩ : ∃ p q, toiS A = (p, q) := ⟨_, _, rfl⟩
      obtain ⟨p8, e8⟩ : ∃ p, cmpS A B = p := ⟨_, rfl⟩
      obtain ⟨p9, e9⟩ : ∃ p, (rd A).isSome = p := ⟨_, rfl⟩
      have k1 := fun (W : World) (h : TabP W) => Add_all A B W h
      have k2 := fun (W : World) (h : TabP W) => Sub_all A B W h
      have k3 := fun (W : World) (h : TabP W) => Mul_all A B W h
      have k4 := fun (W : World) (h : TabP W) => Div_all A B W h
      have k5 := fun (W : World) (h : TabP W) => Gcd_all A B W h
      have k6 := fun (W : World) (h : TabP W) => root_all A W h
      have k7 := fun (W : World) (h : ErrP W) => toi_all A W h
      have k8 := fun (W : World) => Compare_all A B W
      have k9 := fun (W : World) => Valid_all A W
      have r1 := fun (W : World) => rAdd_S A B su sv W
      have r2 := fun (W : World) => rSub_S A B su sv W
      have r3 := fun (W : World) => rMul_S A B su sv W
      have r4 := fun (W : World) => rDiv_S A B su sv W
      have r5 := fun (W : World) => rGcd_S A B su sv W
      have r6 := fun (W : World) => rRoot_S A su W
      have r7 := fun (W : World) => rToInt_S A su W
      have r8 := fun (W : World) => rCompare_S A B su sv W
      have r9 := fun (W : World) => rvalid_rd A su W
      unfold Gives at k1 k2 k3 k5 r1 r2 r3 r5
      simp only [e1, e2, e3, e4, e5, e6, e7, e8, e9] at k1 k2 k3 k4 k5 k6 k7 k8 k9 r1 r2 r3 r4 r5 r6 r7 r8 r9
      have K1 := Lib.hid k1
      have K2 := Lib.hid k2
      have K3 := Lib.hid k3
      have K4 := Lib.hid k4
      have K5 := Lib.hid k5
      have K6 := Lib.hid k6
      have K7 := Lib.hid k7
      have K8 := Lib.hid k8
      have K9 := Lib.hid k9
      have R1 := Lib.hid r1
      have R2 := Lib.hid r2
      have R3 := Lib.hid r3
      have R4 := Lib.hid r4
      have R5 := Lib.hid r5
      have R6 := Lib.hid r6
      have R7 := Lib.hid r7
      have R8 := Lib.hid r8
      have R9 := Lib.hid r9
      clear k1 k2 k3 k4 k5 k6 k7 k8 k9 r1 r2 r3 r4 r5 r6 r7 r8 r9 e1 e2 e3 e4 e5 e6 e7 e8 e9 su sv
      go_upto_region 7 with fail
      have HP := Lib.hid (Pb.new wr A B)
      replace HN := Lib.hid (HN.out.step (below_al2 wr (.cells #[.string A, .string B] 23)))
      replace H6 := Lib.hid (H6.out.later (below_al2 wr (.cells #[.string A, .string B] 23)))
      clear t0 t1 t2 t3 t4 t5
      have y0 := HP.out.c0
      have y1 := HP.out.c1
      go_upto_region 33 with (first
        | (go_at_call 7; (with_reducible refine (K1.out _ HN.out.tab).mono ?_); rintro e wa ⟨rfl, hB⟩; replace HN := Lib.hid (HN.out.step hB); replace HP := Lib.hid (HP.out.later hB); replace H6 := Lib.hid (H6.out.later hB); clear hB; replace y0 := HP.out.c0; replace y1 := HP.out.c1)
        | (go_at_call 8; (with_reducible refine (R1.out _).mono ?_); rintro e wb ⟨rfl, hB⟩; replace HN := Lib.hid (HN.out.step hB); replace HP := Lib.hid (HP.out.later hB); replace H6 := Lib.hid (H6.out.later hB); clear hB; replace y0 := HP.out.c0; replace y1 := HP.out.c1)
        | (go_at_call 9; (with_reducible refine (K2.out _ HN.out.tab).mono ?_); rintro e wc ⟨rfl, hB⟩; replace HN := Lib.hid (HN.out.step hB); replace HP := Lib.hid (HP.out.later hB); replace H6 := Lib.hid (H6.out.later hB); clear hB; replace y0 := HP.out.c0; replace y1 := HP.out.c1)
        | (go_at_call 10; (with_reducible refine (R2.out _).mono ?_); rintro e wd ⟨rfl, hB⟩; replace HN := Lib.hid (HN.out.step hB); replace HP := Lib.hid (HP.out.later hB); replace H6 := Lib.hid (H6.out.later hB); clear hB; replace y0 := HP.out.c0; replace y1 := HP.out.c1)
        | (go_at_call 11; (with_reducible refine (K3.out _ HN.out.tab).mono ?_); rintro e we ⟨rfl, hB⟩; replace HN := Lib.hid (HN.out.step hB); replace HP := Lib.hid (HP.out.later hB); replace H6 := Lib.hid (H6.out.later hB); clear hB; replace y0 := HP.out.c0; replace y1 := HP.out.c1)
        | (go_at_call 12; (with_reducible refine (R3.out _).mono ?_); rintro e wf ⟨rfl, hB⟩; replace HN := Lib.hid (HN.out.step hB); replace HP := Lib.hid (HP.out.later hB); replace H6 := Lib.hid (H6.out.later hB); clear hB; replace y0 := HP.out.c0; replace y1 := HP.out.c1)
        | (go_at_call 13; (with_reducible refine (K4.out _ HN.out.tab).mono ?_); rintro e wg ⟨rfl, hB⟩; replace HN := Lib.hid (HN.out.step hB); replace HP := Lib.hid (HP.out.later hB); replace H6 := Lib.hid (H6.out.later hB); clear hB; replace y0 := HP.out.c0; replace y1 := HP.out.c1)
        | (go_at_call 14; (with_reducible refine (R4.out _).mono ?_); rintro e wh ⟨rfl, hB⟩; replace HN := Lib.hid (HN.out.step hB); replace HP := Lib.hid (HP.out.later hB); replace H6 := Lib.hid (H6.out.later hB); clear hB; replace y0 := HP.out.c0; replace y1 := HP.out.c1)
        | (go_at_call 15; (with_reducible refine (K5.out _ HN.out.tab).mono ?_); rintro e wi ⟨rfl, hB⟩; replace HN := Lib.hid (HN.out.step hB); replace HP := Lib.hid (HP.out.later hB); replace H6 := Lib.hid (H6.out.later hB); clear hB; replace y0 := HP.out.c0; replace y1 := HP.out.c1)
        | (go_at_call 16; (with_reducible refine (R5.out _).mono ?_); rintro e wj ⟨rfl, hB⟩; replace HN := Lib.hid (HN.out.step hB); replace HP := Lib.hid (HP.out.later hB); replace H6 := Lib.hid (H6.out.later hB); clear hB; replace y0 := HP.out.c0; replace y1 := HP.out.c1)
        | (go_at_call 17; (with_reducible refine (K6.out _ HN.out.tab).mono ?_); rintro e wk ⟨rfl, hB⟩; replace HN := Lib.hid (HN.out.step hB); replace HP := Lib.hid (HP.out.later hB); replace H6 := Lib.hid (H6.out.later hB); clear hB; replace y0 := HP.out.c0; replace y1 := HP.out.c1)
        | (go_at_call 18; (with_reducible refine (R6.out _).mono ?_); rintro e wl ⟨rfl, hB⟩; replace HN := Lib.hid (HN.out.step hB); replace HP := Lib.hid (HP.out.later hB); replace H6 := Lib.hid (H6.out.later hB); clear hB; replace y0 := HP.out.c0; replace y1 := HP.out.c1)
        | (go_at_call 19; (with_reducible refine (K7.out _ HN.out.err).mono ?_); rintro e wm ⟨rfl, hB⟩; replace HN := Lib.hid (HN.out.step hB); replace HP := Lib.hid (HP.out.later hB); replace H6 := Lib.hid (H6.out.later hB); clear hB; replace y0 := HP.out.c0; replace y1 := HP.out.c1)
        | (go_at_call 20; (with_reducible refine (R7.out _).mono ?_); rintro e wn ⟨rfl, hB⟩; replace HN := Lib.hid (HN.out.step hB); replace HP := Lib.hid (HP.out.later hB); replace H6 := Lib.hid (H6.out.later hB); clear hB; replace y0 := HP.out.c0; replace y1 := HP.out.c1))
      refine wp_world fun W hW => ?_
      rw [← hW] at HN HP H6 y0 y1
      clear hW
      go_region_held3 (fun w' => w'.cell? ⟨wr.heap.size, 0, none⟩ = some (.string A) ∧ w'.cell? ⟨wr.heap.size, 1, none⟩ = some (.string B)) (first | exact ⟨HP.out.c0, HP.out.c1⟩ | go_keep)
        (first
          | (go_at_call 21; (with_reducible refine (K9.out _).mono ?_); rintro e ww ⟨rfl, rfl⟩)
          | (go_at_call 22; (with_reducible refine (R9.out _).mono ?_); rintro e ww ⟨rfl, rfl⟩)
          | (go_at_call 23; (with_reducible refine (K8.out _).mono ?_); rintro e ww ⟨rfl, hB⟩; (first | (replace HP := Lib.hid (HP.out.later hB); replace HN := Lib.hid (HN.out.step hB); replace H6 := Lib.hid (H6.out.later hB)) | (replace HP := Lib.hid (HP.out.later (below_undrew hB)); replace HN := Lib.hid (HN.out.step (below_undrew hB)); replace H6 := Lib.hid (H6.out.later (below_undrew hB)))); clear hB)
          | (go_at_call 24; (with_reducible refine (R8.out _).mono ?_); rintro e ww ⟨rfl, hB⟩; (first | (replace HP := Lib.hid (HP.out.later hB); replace HN := Lib.hid (HN.out.step hB); replace H6 := Lib.hid (H6.out.later hB)) | (replace HP := Lib.hid (HP.out.later (below_undrew hB)); replace HN := Lib.hid (HN.out.step (below_undrew hB)); replace H6 := Lib.hid (H6.out.later (below_undrew hB)))); clear hB))
      go_wp2_with fail
      case roundEnd => exact ⟨⟨0 + 1, rfl, by omega, HN.out, H6.out⟩, by simp [intOf]⟩
    · skip
      have su := S1.out
      have sv := S2.out
      obtain ⟨p1, q1, e1⟩ : ∃ p q, addS X1 X2 = (p, q) := ⟨_, _, rfl⟩
      obtain ⟨p2, q2, e2⟩ : ∃ p q, subS X1 X2 = (p, q) := ⟨_, _, rfl⟩
      obtain ⟨p3, q3, e3⟩ : ∃ p q, mulS X1 X2 = (p, q) := ⟨_, _, rfl⟩
      obtain ⟨p4, q4, o4, e4⟩ : ∃ p q r, divS X1 X2 = (p, q, r) := ⟨_, _, _, rfl⟩
      obtain ⟨p5, q5, e5⟩ : ∃ p q, gcdS X1 X2 = (p, q) := ⟨_, _, rfl⟩
      obtain ⟨p6, q6, e6⟩ : ∃ p q, rootS X1 = (p, q) := ⟨_, _, rfl⟩
      obtain ⟨p7, q7, e7⟩ : ∃ p q, toiS X1 = (p, q) := ⟨_, _, rfl⟩
      obtain ⟨p8, e8⟩ : ∃ p, cmpS X1 X2 = p := ⟨_, rfl⟩
      obtain ⟨p9, e9⟩ : ∃ p, (rd X1).isSome = p := ⟨_, rfl⟩
      have k1 := fun (W : World) (h : TabP W) => Add_all X1 X2 W h
      have k2 := fun (W : World) (h : TabP W) => Sub_all X1 X2 W h
      have k3 := fun (W : World) (h : TabP W) => Mul_all X1 X2 W h
      have k4 := fun (W : World) (h : TabP W) => Div_all X1 X2 W h
      have k5 := fun (W : World) (h : TabP W) => Gcd_all X1 X2 W h
      have k6 := fun (W : World) (h : TabP W) => root_all X1 W h
      have k7 := fun (W : World) (h : ErrP W) => toi_all X1 W h
      have k8 := fun (W : World) => Compare_all X1 X2 W
      have k9 := fun (W : World) => Valid_all X1 W
      have r1 := fun (W : World) => rAdd_S X1 X2 su sv W
      have r2 := fun (W : World) => rSub_S X1 X2 su sv W
      have r3 := fun (W : World) => rMul_S X1 X2 su sv W
      have r4 := fun (W : World) => rDiv_S X1 X2 su sv W
      have r5 := fun (W : World) => rGcd_S X1 X2 su sv W
      have r6 := fun (W : World) => rRoot_S X1 su W
      have r7 := fun (W : World) => rToInt_S X1 su W
      have r8 := fun (W : World) => rCompare_S X1 X2 su sv W
      have r9 := fun (W : World) => rvalid_rd X1 su W
      unfold Gives at k1 k2 k3 k5 r1 r2 r3 r5
      simp only [e1, e2, e3, e4, e5, e6, e7, e8, e9] at k1 k2 k3 k4 k5 k6 k7 k8 k9 r1 r2 r3 r4 r5 r6 r7 r8 r9
      have K1 := Lib.hid k1
      have K2 := Lib.hid k2
      have K3 := Lib.hid k3
      have K4 := Lib.hid k4
      have K5 := Lib.hid k5
      have K6 := Lib.hid k6
      have K7 := Lib.hid k7
      have K8 := Lib.hid k8
      have K9 := Lib.hid k9
      have R1 := Lib.hid r1
      have R2 := Lib.hid r2
      have R3 := Lib.hid r3
      have R4 := Lib.hid r4
      have R5 := Lib.hid r5
      have R6 := Lib.hid r6
      have R7 := Lib.hid r7
      have R8 := Lib.hid r8
      have R9 := Lib.hid r9
      clear k1 k2 k3 k4 k5 k6 k7 k8 k9 r1 r2 r3 r4 r5 r6 r7 r8 r9 e1 e2 e3 e4 e5 e6 e7 e8 e9 su sv
      go_upto_region 7 with fail
      have HP := Lib.hid (Pb.new wr X1 X2)
      replace HN := Lib.hid (HN.out.step (below_al2 wr (.cells #[.string X1, .string X2] 23)))
      replace H6 := Lib.hid (H6.out.later (below_al2 wr (.cells #[.string X1, .string X2] 23)))
      clear t0 t1 t2 t3 t4 t5
      have y0 := HP.out.c0
      have y1 := HP.out.c1
      go_upto_region 33 with (first
        | (go_at_call 7; (with_reducible refine (K1.out _ HN.out.tab).mono ?_); rintro e wa ⟨rfl, hB⟩; replace HN := Lib.hid (HN.out.step hB); replace HP := Lib.hid (HP.out.later hB); replace H6 := Lib.hid (H6.out.later hB); clear hB; replace y0 := HP.out.c0; replace y1 := HP.out.c1)
        | (go_at_call 8; (with_reducible refine (R1.out _).mono ?_); rintro e wb ⟨rfl, hB⟩; replace HN := Lib.hid (HN.out.step hB); replace HP := Lib.hid (HP.out.later hB); replace H6 := Lib.hid (H6.out.later hB); clear hB; replace y0 := HP.out.c0; replace y1 := HP.out.c1)
        | (go_at_call 9; (with_reducible refine (K2.out _ HN.out.tab).mono ?_); rintro e wc ⟨rfl, hB⟩; replace HN := Lib.hid (HN.out.step hB); replace HP := Lib.hid (HP.out.later hB); replace H6 := Lib.hid (H6.out.later hB); clear hB; replace y0 := HP.out.c0; replace y1 := HP.out.c1)
        | (go_at_call 10; (with_reducible refine (R2.out _).mono ?_); rintro e wd ⟨rfl, hB⟩; replace HN := Lib.hid (HN.out.step hB); replace HP := Lib.hid (HP.out.later hB); replace H6 := Lib.hid (H6.out.later hB); clear hB; replace y0 := HP.out.c0; replace y1 := HP.out.c1)
        | (go_at_call 11; (with_reducible refine (K3.out _ HN.out.tab).mono ?_); rintro e we ⟨rfl, hB⟩; replace HN := Lib.hid (HN.out.step hB); replace HP := Lib.hid (HP.out.later hB); replace H6 := Lib.hid (H6.out.later hB); clear hB; replace y0 := HP.out.c0; replace y1 := HP.out.c1)
        | (go_at_call 12; (with_reducible refine (R3.out _).mono ?_); rintro e wf ⟨rfl, hB⟩; replace HN := Lib.hid (HN.out.step hB); replace HP := Lib.hid (HP.out.later hB); replace H6 := Lib.hid (H6.out.later hB); clear hB; replace y0 := HP.out.c0; replace y1 := HP.out.c1)
        | (go_at_call 13; (with_reducible refine (K4.out _ HN.out.tab).mono ?_); rintro e wg ⟨rfl, hB⟩; replace HN := Lib.hid (HN.out.step hB); replace HP := Lib.hid (HP.out.later hB); replace H6 := Lib.hid (H6.out.later hB); clear hB; replace y0 := HP.out.c0; replace y1 := HP.out.c1)
        | (go_at_call 14; (with_reducible refine (R4.out _).mono ?_); rintro e wh ⟨rfl, hB⟩; replace HN := Lib.hid (HN.out.step hB); replace HP := Lib.hid (HP.out.later hB); replace H6 := Lib.hid (H6.out.later hB); clear hB; replace y0 := HP.out.c0; replace y1 := HP.out.c1)
        | (go_at_call 15; (with_reducible refine (K5.out _ HN.out.tab).mono ?_); rintro e wi ⟨rfl, hB⟩; replace HN := Lib.hid (HN.out.step hB); replace HP := Lib.hid (HP.out.later hB); replace H6 := Lib.hid (H6.out.later hB); clear hB; replace y0 := HP.out.c0; replace y1 := HP.out.c1)
        | (go_at_call 16; (with_reducible refine (R5.out _).mono ?_); rintro e wj ⟨rfl, hB⟩; replace HN := Lib.hid (HN.out.step hB); replace HP := Lib.hid (HP.out.later hB); replace H6 := Lib.hid (H6.out.later hB); clear hB; replace y0 := HP.out.c0; replace y1 := HP.out.c1)
        | (go_at_call 17; (with_reducible refine (K6.out _ HN.out.tab).mono ?_); rintro e wk ⟨rfl, hB⟩; replace HN := Lib.hid (HN.out.step hB); replace HP := Lib.hid (HP.out.later hB); replace H6 := Lib.hid (H6.out.later hB); clear hB; replace y0 := HP.out.c0; replace y1 := HP.out.c1)
        | (go_at_call 18; (with_reducible refine (R6.out _).mono ?_); rintro e wl ⟨rfl, hB⟩; replace HN := Lib.hid (HN.out.step hB); replace HP := Lib.hid (HP.out.later hB); replace H6 := Lib.hid (H6.out.later hB); clear hB; replace y0 := HP.out.c0; replace y1 := HP.out.c1)
        | (go_at_call 19; (with_reducible refine (K7.out _ HN.out.err).mono ?_); rintro e wm ⟨rfl, hB⟩; replace HN := Lib.hid (HN.out.step hB); replace HP := Lib.hid (HP.out.later hB); replace H6 := Lib.hid (H6.out.later hB); clear hB; replace y0 := HP.out.c0; replace y1 := HP.out.c1)
        | (go_at_call 20; (with_reducible refine (R7.out _).mono ?_); rintro e wn ⟨rfl, hB⟩; replace HN := Lib.hid (HN.out.step hB); replace HP := Lib.hid (HP.out.later hB); replace H6 := Lib.hid (H6.out.later hB); clear hB; replace y0 := HP.out.c0; replace y1 := HP.out.c1))
      refine wp_world fun W hW => ?_
      rw [← hW] at HN HP H6 y0 y1
      clear hW
      go_region_held3 (fun w' => w'.cell? ⟨wr.heap.size, 0, none⟩ = some (.string X1) ∧ w'.cell? ⟨wr.heap.size, 1, none⟩ = some (.string X2)) (first | exact ⟨HP.out.c0, HP.out.c1⟩ | go_keep)
        (first
          | (go_at_call 21; (with_reducible refine (K9.out _).mono ?_); rintro e ww ⟨rfl, rfl⟩)
          | (go_at_call 22; (with_reducible refine (R9.out _).mono ?_); rintro e ww ⟨rfl, rfl⟩)
          | (go_at_call 23; (with_reducible refine (K8.out _).mono ?_); rintro e ww ⟨rfl, hB⟩; (first | (replace HP := Lib.hid (HP.out.later hB); replace HN := Lib.hid (HN.out.step hB); replace H6 := Lib.hid (H6.out.later hB)) | (replace HP := Lib.hid (HP.out.later (below_undrew hB)); replace HN := Lib.hid (HN.out.step (below_undrew hB)); replace H6 := Lib.hid (H6.out.later (below_undrew hB)))); clear hB)
          | (go_at_call 24; (with_reducible refine (R8.out _).mono ?_); rintro e ww ⟨rfl, hB⟩; (first | (replace HP := Lib.hid (HP.out.later hB); replace HN := Lib.hid (HN.out.step hB); replace H6 := Lib.hid (H6.out.later hB)) | (replace HP := Lib.hid (HP.out.later (below_undrew hB)); replace HN := Lib.hid (HN.out.step (below_undrew hB)); replace H6 := Lib.hid (H6.out.later (below_undrew hB)))); clear hB))
      go_wp2_with fail
      case roundEnd => exact ⟨⟨1 + 1, rfl, by omega, HN.out, H6.out⟩, by simp [intOf]⟩
    · skip
      have su := S3.out
      have sv := HbF.out
      obtain ⟨p1, q1, e1⟩ : ∃ p q, addS X3 FN = (p, q) := ⟨_, _, rfl⟩
      obtain ⟨p2, q2, e2⟩ : ∃ p q, subS X3 FN = (p, q) := ⟨_, _, rfl⟩
      obtain ⟨p3, q3, e3⟩ : ∃ p q, mulS X3 FN = (p, q) := ⟨_, _, rfl⟩
      obtain ⟨p4, q4, o4, e4⟩ : ∃ p q r, divS X3 FN = (p, q, r) := ⟨_, _, _, rfl⟩
      obtain ⟨p5, q5, e5⟩ : ∃ p q, gcdS X3 FN = (p, q) := ⟨_, _, rfl⟩
      obtain ⟨p6, q6, e6⟩ : ∃ p q, rootS X3 = (p, q) := ⟨_, _, rfl⟩
      obtain ⟨p7, q7, e7⟩ : ∃ p q, toiS X3 = (p, q) := ⟨_, _, rfl⟩
      obtain ⟨p8, e8⟩ : ∃ p, cmpS X3 FN = p := ⟨_, rfl⟩
      obtain ⟨p9, e9⟩ : ∃ p, (rd X3).isSome = p := ⟨_, rfl⟩
      have k1 := fun (W : World) (h : TabP W) => Add_all X3 FN W h
      have k2 := fun (W : World) (h : TabP W) => Sub_all X3 FN W h
      have k3 := fun (W : World) (h : TabP W) => Mul_all X3 FN W h
      have k4 := fun (W : World) (h : TabP W) => Div_all X3 FN W h
      have k5 := fun (W : World) (h : TabP W) => Gcd_all X3 FN W h
      have k6 := fun (W : World) (h : TabP W) => root_all X3 W h
      have k7 := fun (W : World) (h : ErrP W) => toi_all X3 W h
      have k8 := fun (W : World) => Compare_all X3 FN W
      have k9 := fun (W : World) => Valid_all X3 W
      have r1 := fun (W : World) => rAdd_S X3 FN su sv W
      have r2 := fun (W : World) => rSub_S X3 FN su sv W
      have r3 := fun (W : World) => rMul_S X3 FN su sv W
      have r4 := fun (W : World) => rDiv_S X3 FN su sv W
      have r5 := fun (W : World) => rGcd_S X3 FN su sv W
      have r6 := fun (W : World) => rRoot_S X3 su W
      have r7 := fun (W : World) => rToInt_S X3 su W
      have r8 := fun (W : World) => rCompare_S X3 FN su sv W
      have r9 := fun (W : World) => rvalid_rd X3 su W
      unfold Gives at k1 k2 k3 k5 r1 r2 r3 r5
      simp only [e1, e2, e3, e4, e5, e6, e7, e8, e9] at k1 k2 k3 k4 k5 k6 k7 k8 k9 r1 r2 r3 r4 r5 r6 r7 r8 r9
      have K1 := Lib.hid k1
      have K2 := Lib.hid k2
      have K3 := Lib.hid k3
      have K4 := Lib.hid k4
      have K5 := Lib.hid k5
      have K6 := Lib.hid k6
      have K7 := Lib.hid k7
      have K8 := Lib.hid k8
      have K9 := Lib.hid k9
      have R1 := Lib.hid r1
      have R2 := Lib.hid r2
      have R3 := Lib.hid r3
      have R4 := Lib.hid r4
      have R5 := Lib.hid r5
      have R6 := Lib.hid r6
      have R7 := Lib.hid r7
      have R8 := Lib.hid r8
      have R9 := Lib.hid r9
      clear k1 k2 k3 k4 k5 k6 k7 k8 k9 r1 r2 r3 r4 r5 r6 r7 r8 r9 e1 e2 e3 e4 e5 e6 e7 e8 e9 su sv
      go_upto_region 7 with fail
      have HP := Lib.hid (Pb.new wr X3 FN)
      replace HN := Lib.hid (HN.out.step (below_al2 wr (.cells #[.string X3, .string FN] 23)))
      replace H6 := Lib.hid (H6.out.later (below_al2 wr (.cells #[.string X3, .string FN] 23)))
      clear t0 t1 t2 t3 t4 t5
      have y0 := HP.out.c0
      have y1 := HP.out.c1
      go_upto_region 33 with (first
        | (go_at_call 7; (with_reducible refine (K1.out _ HN.out.tab).mono ?_); rintro e wa ⟨rfl, hB⟩; replace HN := Lib.hid (HN.out.step hB); replace HP := Lib.hid (HP.out.later hB); replace H6 := Lib.hid (H6.out.later hB); clear hB; replace y0 := HP.out.c0; replace y1 := HP.out.c1)
        | (go_at_call 8; (with_reducible refine (R1.out _).mono ?_); rintro e wb ⟨rfl, hB⟩; replace HN := Lib.hid (HN.out.step hB); replace HP := Lib.hid (HP.out.later hB); replace H6 := Lib.hid (H6.out.later hB); clear hB; replace y0 := HP.out.c0; replace y1 := HP.out.c1)
        | (go_at_call 9; (with_reducible refine (K2.out _ HN.out.tab).mono ?_); rintro e wc ⟨rfl, hB⟩; replace HN := Lib.hid (HN.out.step hB); replace HP := Lib.hid (HP.out.later hB); replace H6 := Lib.hid (H6.out.later hB); clear hB; replace y0 := HP.out.c0; replace y1 := HP.out.c1)
        | (go_at_call 10; (with_reducible refine (R2.out _).mono ?_); rintro e wd ⟨rfl, hB⟩; replace HN := Lib.hid (HN.out.step hB); replace HP := Lib.hid (HP.out.later hB); replace H6 := Lib.hid (H6.out.later hB); clear hB; replace y0 := HP.out.c0; replace y1 := HP.out.c1)
        | (go_at_call 11; (with_reducible refine (K3.out _ HN.out.tab).mono ?_); rintro e we ⟨rfl, hB⟩; replace HN := Lib.hid (HN.out.step hB); replace HP := Lib.hid (HP.out.later hB); replace H6 := Lib.hid (H6.out.later hB); clear hB; replace y0 := HP.out.c0; replace y1 := HP.out.c1)
        | (go_at_call 12; (with_reducible refine (R3.out _).mono ?_); rintro e wf ⟨rfl, hB⟩; replace HN := Lib.hid (HN.out.step hB); replace HP := Lib.hid (HP.out.later hB); replace H6 := Lib.hid (H6.out.later hB); clear hB; replace y0 := HP.out.c0; replace y1 := HP.out.c1)
        | (go_at_call 13; (with_reducible refine (K4.out _ HN.out.tab).mono ?_); rintro e wg ⟨rfl, hB⟩; replace HN := Lib.hid (HN.out.step hB); replace HP := Lib.hid (HP.out.later hB); replace H6 := Lib.hid (H6.out.later hB); clear hB; replace y0 := HP.out.c0; replace y1 := HP.out.c1)
        | (go_at_call 14; (with_reducible refine (R4.out _).mono ?_); rintro e wh ⟨rfl, hB⟩; replace HN := Lib.hid (HN.out.step hB); replace HP := Lib.hid (HP.out.later hB); replace H6 := Lib.hid (H6.out.later hB); clear hB; replace y0 := HP.out.c0; replace y1 := HP.out.c1)
        | (go_at_call 15; (with_reducible refine (K5.out _ HN.out.tab).mono ?_); rintro e wi ⟨rfl, hB⟩; replace HN := Lib.hid (HN.out.step hB); replace HP := Lib.hid (HP.out.later hB); replace H6 := Lib.hid (H6.out.later hB); clear hB; replace y0 := HP.out.c0; replace y1 := HP.out.c1)
        | (go_at_call 16; (with_reducible refine (R5.out _).mono ?_); rintro e wj ⟨rfl, hB⟩; replace HN := Lib.hid (HN.out.step hB); replace HP := Lib.hid (HP.out.later hB); replace H6 := Lib.hid (H6.out.later hB); clear hB; replace y0 := HP.out.c0; replace y1 := HP.out.c1)
        | (go_at_call 17; (with_reducible refine (K6.out _ HN.out.tab).mono ?_); rintro e wk ⟨rfl, hB⟩; replace HN := Lib.hid (HN.out.step hB); replace HP := Lib.hid (HP.out.later hB); replace H6 := Lib.hid (H6.out.later hB); clear hB; replace y0 := HP.out.c0; replace y1 := HP.out.c1)
        | (go_at_call 18; (with_reducible refine (R6.out _).mono ?_); rintro e wl ⟨rfl, hB⟩; replace HN := Lib.hid (HN.out.step hB); replace HP := Lib.hid (HP.out.later hB); replace H6 := Lib.hid (H6.out.later hB); clear hB; replace y0 := HP.out.c0; replace y1 := HP.out.c1)
        | (go_at_call 19; (with_reducible refine (K7.out _ HN.out.err).mono ?_); rintro e wm ⟨rfl, hB⟩; replace HN := Lib.hid (HN.out.step hB); replace HP := Lib.hid (HP.out.later hB); replace H6 := Lib.hid (H6.out.later hB); clear hB; replace y0 := HP.out.c0; replace y1 := HP.out.c1)
        | (go_at_call 20; (with_reducible refine (R7.out _).mono ?_); rintro e wn ⟨rfl, hB⟩; replace HN := Lib.hid (HN.out.step hB); replace HP := Lib.hid (HP.out.later hB); replace H6 := Lib.hid (H6.out.later hB); clear hB; replace y0 := HP.out.c0; replace y1 := HP.out.c1))
      refine wp_world fun W hW => ?_
      rw [← hW] at HN HP H6 y0 y1
      clear hW
      go_region_held3 (fun w' => w'.cell? ⟨wr.heap.size, 0, none⟩ = some (.string X3) ∧ w'.cell? ⟨wr.heap.size, 1, none⟩ = some (.string FN)) (first | exact ⟨HP.out.c0, HP.out.c1⟩ | go_keep)
        (first
          | (go_at_call 21; (with_reducible refine (K9.out _).mono ?_); rintro e ww ⟨rfl, rfl⟩)
          | (go_at_call 22; (with_reducible refine (R9.out _).mono ?_); rintro e ww ⟨rfl, rfl⟩)
          | (go_at_call 23; (with_reducible refine (K8.out _).mono ?_); rintro e ww ⟨rfl, hB⟩; (first | (replace HP := Lib.hid (HP.out.later hB); replace HN := Lib.hid (HN.out.step hB); replace H6 := Lib.hid (H6.out.later hB)) | (replace HP := Lib.hid (HP.out.later (below_undrew hB)); replace HN := Lib.hid (HN.out.step (below_undrew hB)); replace H6 := Lib.hid (H6.out.later (below_undrew hB)))); clear hB)
          | (go_at_call 24; (with_reducible refine (R8.out _).mono ?_); rintro e ww ⟨rfl, hB⟩; (first | (replace HP := Lib.hid (HP.out.later hB); replace HN := Lib.hid (HN.out.step hB); replace H6 := Lib.hid (H6.out.later hB)) | (replace HP := Lib.hid (HP.out.later (below_undrew hB)); replace HN := Lib.hid (HN.out.step (below_undrew hB)); replace H6 := Lib.hid (H6.out.later (below_undrew hB)))); clear hB))
      go_wp2_with fail
      case roundEnd => exact ⟨⟨2 + 1, rfl, by omega, HN.out, H6.out⟩, by simp [intOf]⟩
    · skip
      clear t0 t1 t2 t3 t4 t5 H6
      go_wp2_with (first
        | (go_at_call 25; (with_reducible refine (HG.out _ HN.out.tab).mono ?_); rintro e wa ⟨rfl, hB⟩; replace HN := Lib.hid (HN.out.step hB); clear hB)
        | (go_at_call 6; (with_reducible refine (HF.out _).mono ?_); rintro e wb ⟨rfl, hB⟩; replace HN := Lib.hid (HN.out.step hB); clear hB))
      go_ret
      exact ⟨rfl, HN.out.below⟩

end Go.Proofs.YtagcpjokajcdiaaGreatDoor

/-
  IntegerMatchesReference: for every input the law returns true, and each argument reads afterwards as it read before.
  Conditions: the variables (internal/strconv.uint64pow10, and the error strconv.ErrRange) hold what the program's own text lays there, which the card ties to that text. The card's set-up speaks of the pruned copy of the project.
-/
namespace Go.Proofs.YtagcpjokajcdiaaGreatDoor.integerMatchesReference
open Go.ChangeShapes Go.WideShapes Go.ChangeAt Go.RowKit
open Go.ChangeMaps (open_string shut_string)

theorem params_ok : ∀ t ∈ Tryz.f3.params.toList, Tryz.prog.readableRec t = true ∧ t < Tryz.prog.types.size := by
  rw [Tryz.params3]
  intro t ht
  simp only [List.mem_cons, List.not_mem_nil, or_false] at ht
  rcases ht with rfl | rfl | rfl <;> exact ⟨by kernel_rfl, of_decide_eq_true (by kernel_rfl)⟩

set_option maxRecDepth 100000 in
theorem walk_args {H : Type} {enc : TypeId × Value → H} {W : World} {base : Nat} {args : Array Value} {ds : List (DataW H)} {p : List MemPlace}
    (hval : ∀ (j : Nat) t v, Tryz.f3.params[j]? = some t → args[j]? = some v → Value.okWide Tryz.prog W .any base t v)
    (hA : DataW.TrodAll enc Tryz.prog W 0 (fun _ => true) true Tryz.f3.params.toList args.toList ds p) (ht : TabE W) :
    ds.length = 3 ∧ Calls Tryz.prog 3 args W fun e W' => e = .returned (.bool true) ∧ Below W.heap.size W W' := by
  rw [Tryz.params3] at hA hval
  obtain ⟨v0, vs0, d0, ds0, p0, q0, hargs, rfl, rfl, h0, r0⟩ := trodAll_cons hA
  obtain ⟨v1, vs1, d1, ds1, p1, q1, rfl, rfl, rfl, h1, r1⟩ := trodAll_cons r0
  obtain ⟨v2, vs2, d2, ds2, p2, q2, rfl, rfl, rfl, h2, r2⟩ := trodAll_cons r1
  obtain ⟨rfl, rfl, rfl⟩ := trodAll_nil r2
  obtain rfl : args = #[v0, v1, v2] := by cases args; simp_all
  refine ⟨rfl, ?_⟩
  obtain ⟨a0, rfl, rfl, rfl, w0⟩ := open_string Tryz.underlying9 (hval 0 9 v0 rfl rfl) h0
  obtain ⟨a1, rfl, rfl, rfl, w1⟩ := open_string Tryz.underlying9 (hval 1 9 v1 rfl rfl) h1
  obtain ⟨a2, rfl, rfl, rfl, w2⟩ := open_int Tryz.underlying3 (hval 2 3 v2 rfl rfl) h2
  obtain ⟨l2, u2⟩ := bounds_i64 w2
  exact IntegerMatchesReference_any a0 a1 a2 l2 u2 W ht.1 ht.2

def wargs : Array Value := #[.string ByteArray.empty, .string ByteArray.empty, .int .i64 0]
theorem laid_met (os : Os) : laidMet Tryz.prog Rows.integerMatchesReferenceRow.laid ((Tab.laidWorld os).forCall (fun _ _ => 0) ⟨#[], wargs, []⟩).memory :=
  Tab.laid_met os wargs
theorem reads (os : Os) {H : Type} (enc : TypeId × Value → H) : ∃ ds places, DataW.whole enc Tryz.prog ((Tab.laidWorld os).forCall (fun _ _ => 0) ⟨#[], wargs, []⟩).memory Tryz.f3.params.toList Rows.integerMatchesReferenceSpec.vars false wargs.toList 8 = some (ds, [], places) :=
  ⟨[.lit (.string []), .lit (.string []), .lit (.int .i64 0)], [], by kernel_rfl⟩

set_option maxRecDepth 100000 in
theorem lifted (os : Os) (started : os.Started) (H : Type) (enc : TypeId × Value → H) (F : Stop.Interp) :
    ReturnsInHanded {} Tryz.checked os 3 .any ((OpenSpec.ofChange Rows.integerMatchesReferenceSpec).preRow enc Tryz.prog Tryz.f3 Rows.integerMatchesReferenceRow.domain false Rows.integerMatchesReferenceRow.laid) (((OpenSpec.ofChange Rows.integerMatchesReferenceSpec).at F).post enc Tryz.prog Tryz.f3 false true false false) := by
  obtain ⟨wd, places, hx⟩ := reads os enc
  refine returnsInHanded_of_row (C := Tryz.checked) (s := OpenSpec.ofChange Rows.integerMatchesReferenceSpec) Tab.own started (by kernel_rfl) Tryz.func3
    (witness_row_at (enc := enc) (C := Tryz.checked) false (Tab.laidWorld os) wargs (Tab.laidWorld_os os) (by kernel_rfl) (by kernel_rfl) (by kernel_rfl)
      (OpenSpec.preRow_of_cond 8 hx (by kernel_rfl) (fun k hk => by cases hk) (by kernel_rfl) (laid_met os))) ?_
  intro W base args ds gs before hval hW _ _ _ hL _ _
  have hW' := hW
  obtain ⟨p, q, hA, -, -, -, -⟩ := hW'
  obtain ⟨h3, walk⟩ := walk_args hval hA (Tab.table hL)
  refine Fr.law_contract Tab.laidOut params_ok rfl (by kernel_rfl) Tryz.underlying4 hW ?_ walk
  match ds, h3 with
  | [_, _, _], _ => rfl

theorem said : Rows.IntegerMatchesReferenceSaid :=
  OpenClaim.holds_of_cond 3 Tryz.f3 rfl rfl rfl rfl rfl rfl rfl ⟨rfl, rfl, rfl, rfl, rfl⟩ rfl rfl rfl rfl rfl (by kernel_rfl) Tryz.func3 (by kernel_rfl)
    (of_decide_eq_true (by kernel_rfl)) (by unfold Func.isWrapper; first | (rw [if_pos (by decide +kernel)]; kernel_rfl) | (rw [if_neg (by decide +kernel)]; exact ⟨rfl, rfl⟩))
    (fun os started H enc _ F => by rw [OpenClaim.pre_eq_preRow]; exact lifted os started H enc F)

theorem plain (f : FuncId) (fn : Func) (hf : Tryz.pinned.checked.prog.funcNamed "longliner/longlinerlaw03.IntegerMatchesReference" = some f) (hfn : Tryz.pinned.checked.prog.funcs[f]? = some fn) :
    true = Tryz.pinned.checked.prog.looks [] ∧ ∀ (j : Nat) t, fn.params[j]? = some t → Tryz.pinned.checked.prog.wantsStandIn t = false := by
  obtain rfl : f = 3 := Option.some.inj ((show Tryz.prog.funcNamed "longliner/longlinerlaw03.IntegerMatchesReference" = some 3 by kernel_rfl).symm.trans hf) |>.symm
  obtain rfl : fn = Tryz.f3 := (Option.some.inj (Tryz.func3.symm.trans hfn)).symm
  refine ⟨by kernel_rfl, fun j t ht => ?_⟩
  rw [Tryz.params3] at ht
  have hm := Array.mem_of_getElem? ht
  simp only [List.mem_toArray, List.mem_cons, List.not_mem_nil, or_false] at hm
  rcases hm with rfl | rfl | rfl
  all_goals (show Tryz.prog.wantsStandIn _ = false; kernel_rfl)

theorem card : Rows.IntegerMatchesReferenceCardSaid :=
  Claim7.holds_tied_plain_at .later [] _ _ _ _ said (fun _ h => by cases h) (by kernel_rfl) (fun _ h => by cases h) integerMatchesReference_row_tie rfl ⟨rfl, rfl⟩ (by kernel_rfl) rfl plain (by kernel_rfl)
end Go.Proofs.YtagcpjokajcdiaaGreatDoor.integerMatchesReference
