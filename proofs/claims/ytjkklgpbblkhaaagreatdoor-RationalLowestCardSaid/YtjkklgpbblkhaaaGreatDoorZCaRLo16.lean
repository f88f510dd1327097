/-
  Put together by program out of these texts, in this order: Qro, Qrm, Qcn, Qse, Rmk.
-/
import Derived.Test.YtjkklgpbblkhaaaGreatDoorZCaRLo15
import Derived.WalkMore
import Derived.Test.YtjkklgpbblkhaaaGreatDoorZCaRLo13

/-
  Layer 4: rounding; Make and Of.
-/
namespace Go.Proofs.YtjkklgpbblkhaaaGreatDoor
open Go.RowKit Bs Ig

/-- 1 with zeros behind it -/
def tq (m : Nat) : ByteArray := ⟨#[49]⟩ ++ zb m
noncomputable def roundQ (op : ByteArray → ByteArray → ByteArray × Int) (a b : ByteArray) (m : Nat) : ByteArray × ByteArray × Int := buildS [validS [(a, b)], numS mulS (tq m), numS op b, overS (tq m), reduceS] a b
theorem ne12 (s : Nat) : s + 1 ≠ s + 1 + 1 := by omega
theorem does_over (t : ByteArray) (g : Nat) (W : World) (h : W.cell? ⟨g, 0, none⟩ = some (.string t)) (hg : g < W.heap.size) : Does W (.func (.func 89) #[] #[.pointer (some ⟨g, 0, none⟩)]) (overS t) :=
  ⟨_, _, rfl, fun args w => by kernel_rfl, fun N D W' hW' => round1_any t N D g W' ((hW'.cell (p := ⟨g, 0, none⟩) hg).trans h) (Nat.lt_of_lt_of_le hg hW'.size)⟩

set_option maxRecDepth 100000 in
set_option maxHeartbeats 4000000 in
theorem round_no (v : Value) (a b : ByteArray) (p : Int) (hp : p < 0 ∨ 30 < p) (w : World) :
    Answers 55 #[.agg #[.string a, .string b], .int .i64 p, v] (⟨#[]⟩, ⟨#[]⟩, 40) w := by
  obtain ⟨hB, r0, r1⟩ := box1 w a b
  unfold Answers
  have g1 := r1.f0
  have g2 := r1.f1
  have g3 := r1.c0
  have g4 := r1.c1
  rcases Int.lt_or_le p 0 with h | h
  · have e1 : decide (p < 0) = true := decide_eq_true h
    clear hp h
    go_enter Tryz.func55, Tryz.ntmps55
    go_wp2_with fail
    exact bodyPost_ret (results_row_tmp rfl _ _ (w.heap.size + 1) 23 #[.string ⟨#[]⟩, .string ⟨#[]⟩] _ _ rfl r1 Tryz.underlying23 rfl (by kernel_rfl)) rfl ⟨rfl, hB⟩
  · have e1 : decide (p < 0) = false := decide_eq_false (by omega)
    have e2 : decide (30 < p) = true := decide_eq_true (by omega)
    clear hp h
    go_enter Tryz.func55, Tryz.ntmps55
    go_wp2_with fail
    exact bodyPost_ret (results_row_tmp rfl _ _ (w.heap.size + 1) 23 #[.string ⟨#[]⟩, .string ⟨#[]⟩] _ _ rfl r1 Tryz.underlying23 rfl (by kernel_rfl)) rfl ⟨rfl, hB⟩

set_option maxRecDepth 100000 in
set_option maxHeartbeats 8000000 in
theorem round_any (op : ByteArray → ByteArray → ByteArray × Int) (v : Value) (a b : ByteArray) (m : Nat) (hm : m ≤ 30) (w : World) (ht : TabP w) (hop : DoesOp w v op) :
    Answers 55 #[.agg #[.string a, .string b], .int .i64 (m : Int), v] (roundQ op a b m) w := by
  obtain ⟨hB, r0, r1⟩ := box1 w a b
  unfold Answers roundQ
  have e1 : decide ((m : Int) < 0) = false := decide_eq_false (by omega)
  have e2 : decide (30 < (m : Int)) = false := decide_eq_false (by omega)
  have HR := Lib.hid (fun W => repeat_any m hm W)
  obtain ⟨Z, hZ⟩ : ∃ Z, zb m = Z := ⟨_, rfl⟩
  obtain ⟨t, hT⟩ : ∃ t, (⟨#[49]⟩ : ByteArray) ++ Z = t := ⟨_, rfl⟩
  have htq : tq m = t := by unfold tq; rw [hZ, hT]
  rw [hZ] at HR
  rw [htq]
  have hzs : Z.size ≤ 30 := by rw [← hZ]; unfold zb; rw [bs_size, List.length_replicate]; exact hm
  have hA := hB.alloc hB.size (.cells #[.string t] 9)
  have s0 := r0.alloc (.cells #[.string t] 9)
  have s1 := r1.alloc (.cells #[.string t] 9)
  have k8 : ((((w.alloc (.cells #[.string a, .string b] 23)).alloc (.cells #[.string ⟨#[]⟩, .string ⟨#[]⟩] 23)).alloc (.cells #[.string t] 9))).cell? ⟨w.heap.size + 1 + 1, 0, none⟩ = some (.string t) := by
    have h := heap_alloc_new ((w.alloc (.cells #[.string a, .string b] 23)).alloc (.cells #[.string ⟨#[]⟩, .string ⟨#[]⟩] 23)) (.cells #[.string t] 9)
    rw [show ((w.alloc (.cells #[.string a, .string b] 23)).alloc (.cells #[.string ⟨#[]⟩, .string ⟨#[]⟩] 23)).heap.size = w.heap.size + 1 + 1 by simp] at h
    rw [cell_of_row _ _ 0 _ _ _ h]; rfl
  have k9 : w.heap.size + 1 + 1 < (((w.alloc (.cells #[.string a, .string b] 23)).alloc (.cells #[.string ⟨#[]⟩, .string ⟨#[]⟩] 23)).alloc (.cells #[.string t] 9)).heap.size := by simp
  have hX : ∃ X, X = (((w.alloc (.cells #[.string a, .string b] 23)).alloc (.cells #[.string ⟨#[]⟩, .string ⟨#[]⟩] 23)).alloc (.cells #[.string t] 9)) := ⟨_, rfl⟩
  obtain ⟨W0, hW0⟩ := hX
  rw [← hW0] at hA s0 s1 k8 k9
  have HN := Lib.hid (fun (W : World) (hb : Below w.heap.size w W) => num_any mulS t _ W (does_mul W (ht.later hb)))
  have HS := Lib.hid (fun (W : World) (hb : Below w.heap.size w W) => num_any op b v W (hop.later hb))
  have HB := Lib.hid (fun (u1 u2 u3 : Value) (W : World) (hb : Below w.heap.size w W) (h1 : Does W u1 (validS [(a, b)])) (h2 : Does W u2 (numS mulS t)) (h3 : Does W u3 (numS op b)) (k : W.cell? ⟨w.heap.size + 1 + 1, 0, none⟩ = some (.string t)) (k' : w.heap.size + 1 + 1 < W.heap.size) => build_5 h1 h2 h3 (does_over t (w.heap.size + 1 + 1) W k k') (does_reduce W (ht.later hb)) a b)
  unfold Builds at HB
  obtain ⟨R1, R2, R3, hR⟩ : ∃ x y z, buildS [validS [(a, b)], numS mulS t, numS op b, overS t, reduceS] a b = (x, y, z) := ⟨_, _, _, rfl⟩
  rw [hR] at HB ⊢
  simp only at HB
  have hA2 := hA.alloc hA.size (.cells #[.string a, .string b] 23)
  have HV := Lib.hid (valid_any4 [(a, b)] W0.heap.size 0 1 1 (W0.alloc (.cells #[.string a, .string b] 23)).drew (ht.later hA2.drew) ⟨(lies_1 W0 a b).1, (lies_1 W0 a b).2⟩ rfl (by omega) (by omega))
  have q0 := s0.alloc (.cells #[.string a, .string b] 23)
  have q1 := s1.alloc (.cells #[.string a, .string b] 23)
  have q8 := (((Below.refl _ W0).alloc (Nat.le_refl _) (.cells #[.string a, .string b] 23)).cell (p := ⟨w.heap.size + 1 + 1, 0, none⟩) k9).trans k8
  have q9 : w.heap.size + 1 + 1 < (W0.alloc (.cells #[.string a, .string b] 23)).heap.size := by rw [World.size_alloc]; omega
  have K9 := Lib.hid q9
  obtain ⟨f, cap, rfl, eg, hc⟩ := id hop
  clear hop hc hR q9 htq hZ
  go_enter Tryz.func55, Tryz.ntmps55
  go_wp2_with (go_at_call 88; (with_reducible refine (HR.out _).mono ?_); rintro e w1 ⟨rfl, rfl⟩)
  refine wp_world fun W hW => ?_
  rw [hW0.symm] at hW
  subst hW
  clear hW0 r0 r1
  have c0 := s0.c0
  have c1 := s0.c1
  go_region_held3 (fun w' => w'.cell? ⟨w.heap.size, 0, none⟩ = some (.string a) ∧ w'.cell? ⟨w.heap.size, 1, none⟩ = some (.string b) ∧ w'.cell? ⟨w.heap.size + 1 + 1, 0, none⟩ = some (.string t)) (first | exact ⟨q0.c0, q0.c1, q8⟩ | exact ⟨x0.c0, x0.c1, x8⟩ | exact ⟨y0.c0, y0.c1, y8⟩ | exact ⟨t0.c0, t0.c1, t8⟩ | exact ⟨v0.c0, v0.c1, v8⟩ | exact ⟨u0.c0, u0.c1, u8⟩ | exact ⟨far2 (Nat.succ_ne_self _) u0.c0, far2 (Nat.succ_ne_self _) u0.c1, far2 (ne12 _) u8⟩ | go_keep)
    (first
      | (go_at_call 68; (with_reducible refine HV.out.mono ?_); rintro e w1 ⟨p1, rfl, d1, B1'⟩; have B1 := below_undrew B1'; have hw1 := below_on hA2 B1 hA2.size; have x0 := q0.later B1 q0.lt; have x1 := q1.later B1 q1.lt; have x8 := (B1.cell (p := ⟨w.heap.size + 1 + 1, 0, none⟩) K9.out).trans q8; have x9 := Lib.hid (Nat.lt_of_lt_of_le K9.out B1.size))
      | (go_at_call 69; (with_reducible refine (HN.out _ hw1).mono ?_); rintro e w2 ⟨p2, rfl, d2, B2⟩; have hw2 := below_on hw1 B2 hw1.size; have d12 := d1.later B2; have y0 := x0.later B2 x0.lt; have y1 := x1.later B2 x1.lt; have y8 := (B2.cell (p := ⟨w.heap.size + 1 + 1, 0, none⟩) x9.out).trans x8; have y9 := Lib.hid (Nat.lt_of_lt_of_le x9.out B2.size))
      | (go_at_call 69; (with_reducible refine (HS.out _ hw2).mono ?_); rintro e w5 ⟨p5, rfl, d5, B5⟩; have hw5 := below_on hw2 B5 hw2.size; have d15 := d12.later B5; have d25 := d2.later B5; have t0 := y0.later B5 y0.lt; have t1 := y1.later B5 y1.lt; have t8 := (B5.cell (p := ⟨w.heap.size + 1 + 1, 0, none⟩) y9.out).trans y8; have t9 := Lib.hid (Nat.lt_of_lt_of_le y9.out B5.size); have v0 := t0.alloc (.cells #[.func (.func 99) #[] p1, .func (.func 100) #[] p2, .func (.func 100) #[] p5, .func (.func 89) #[] #[.pointer (some ⟨w.heap.size + 1 + 1, 0, none⟩)], .func (.func 60) #[] #[]] 79); have v1 := t1.alloc (.cells #[.func (.func 99) #[] p1, .func (.func 100) #[] p2, .func (.func 100) #[] p5, .func (.func 89) #[] #[.pointer (some ⟨w.heap.size + 1 + 1, 0, none⟩)], .func (.func 60) #[] #[]] 79); have BA := (Below.refl _ w5).alloc (Nat.le_refl _) (.cells #[.func (.func 99) #[] p1, .func (.func 100) #[] p2, .func (.func 100) #[] p5, .func (.func 89) #[] #[.pointer (some ⟨w.heap.size + 1 + 1, 0, none⟩)], .func (.func 60) #[] #[]] 79); have v8 := (BA.cell (p := ⟨w.heap.size + 1 + 1, 0, none⟩) t9.out).trans t8; have v9 := Lib.hid (Nat.lt_of_lt_of_le t9.out BA.size))
      | (go_at_call 59; (with_reducible refine (HB.out _ _ _ _ hw5 d15 d25 d5 t8 t9.out).mono ?_); rintro e w4 ⟨rfl, B4⟩; have hw4 := below_on (hw5.alloc hw5.size _) B4 (hw5.alloc hw5.size _).size; have u0 := v0.later B4 v0.lt; have u1 := v1.later B4 v1.lt; have u8 := (B4.cell (p := ⟨w.heap.size + 1 + 1, 0, none⟩) v9.out).trans v8; have g1 := u1.f0; have g2 := u1.f1; have g3 := u1.c0; have g4 := u1.c1))
  go_wp2_with fail
  exact bodyPost_ret (results_row_tmp rfl _ _ (w.heap.size + 1) 23 #[.string R1, .string R2] _ _ rfl (two_strs u1 R1 R2) Tryz.underlying23 rfl (by kernel_rfl)) rfl ⟨rfl, fin1 u1 hw4 (by omega) _ _⟩

end Go.Proofs.YtjkklgpbblkhaaaGreatDoor

/-
  Layer 4: Down, Up, Make and Of.
-/
namespace Go.Proofs.YtjkklgpbblkhaaaGreatDoor
open Go.RowKit Bs Ig

set_option maxRecDepth 100000 in
set_option maxHeartbeats 4000000 in
theorem Down_any (a b : ByteArray) (p : Int) (w : World) (R1 R2 : ByteArray) (R3 : Int) (h : ∀ W, Below w.heap.size w W → Answers 55 #[.agg #[.string a, .string b], .int .i64 p, .func (.func 56) #[] #[]] (R1, R2, R3) W) :
    Answers 23 #[.agg #[.string a, .string b], .int .i64 p] (R1, R2, R3) w := by
  obtain ⟨hB, r0, r1⟩ := box1 w a b
  have hc := h _ hB
  unfold Answers at hc ⊢
  simp only at hc ⊢
  have HC := Lib.hid hc
  have c0 := r0.c0
  have c1 := r0.c1
  clear hc h
  go_enter Tryz.func23, Tryz.ntmps23
  go_wp2_with (go_at_call 55; (with_reducible refine HC.out.mono ?_); rintro e w4 ⟨rfl, B4⟩; have hw4 := below_on hB B4 hB.size; have u2 := r1.later B4 r1.lt; have g1 := u2.f0; have g2 := u2.f1; have g3 := u2.c0; have g4 := u2.c1)
  exact bodyPost_ret (results_row_tmp rfl _ _ (w.heap.size + 1) 23 #[.string R1, .string R2] _ _ rfl (two_strs u2 R1 R2) Tryz.underlying23 rfl (by kernel_rfl)) rfl ⟨rfl, fin1 u2 hw4 (by omega) _ _⟩

set_option maxRecDepth 100000 in
set_option maxHeartbeats 4000000 in
theorem Up_any (a b : ByteArray) (p : Int) (w : World) (R1 R2 : ByteArray) (R3 : Int) (h : ∀ W, Below w.heap.size w W → Answers 55 #[.agg #[.string a, .string b], .int .i64 p, .func (.func 58) #[] #[]] (R1, R2, R3) W) :
    Answers 25 #[.agg #[.string a, .string b], .int .i64 p] (R1, R2, R3) w := by
  obtain ⟨hB, r0, r1⟩ := box1 w a b
  have hc := h _ hB
  unfold Answers at hc ⊢
  simp only at hc ⊢
  have HC := Lib.hid hc
  have c0 := r0.c0
  have c1 := r0.c1
  clear hc h
  go_enter Tryz.func25, Tryz.ntmps25
  go_wp2_with (go_at_call 55; (with_reducible refine HC.out.mono ?_); rintro e w4 ⟨rfl, B4⟩; have hw4 := below_on hB B4 hB.size; have u2 := r1.later B4 r1.lt; have g1 := u2.f0; have g2 := u2.f1; have g3 := u2.c0; have g4 := u2.c1)
  exact bodyPost_ret (results_row_tmp rfl _ _ (w.heap.size + 1) 23 #[.string R1, .string R2] _ _ rfl (two_strs u2 R1 R2) Tryz.underlying23 rfl (by kernel_rfl)) rfl ⟨rfl, fin1 u2 hw4 (by omega) _ _⟩

noncomputable def downQ (a b : ByteArray) (p : Int) : ByteArray × ByteArray × Int := if 0 ≤ p ∧ p ≤ 30 then roundQ floorS a b p.toNat else (⟨#[]⟩, ⟨#[]⟩, 40)
noncomputable def upQ (a b : ByteArray) (p : Int) : ByteArray × ByteArray × Int := if 0 ≤ p ∧ p ≤ 30 then roundQ ceilS a b p.toNat else (⟨#[]⟩, ⟨#[]⟩, 40)
theorem qDown_any (a b : ByteArray) (p : Int) (w : World) (ht : TabP w) : Answers 23 #[.agg #[.string a, .string b], .int .i64 p] (downQ a b p) w := by
  unfold downQ
  split
  · rename_i h
    obtain ⟨m, rfl⟩ : ∃ m : Nat, p = m := ⟨p.toNat, by omega⟩
    exact Down_any a b m w _ _ _ fun W hW => round_any floorS _ a b m (by omega) W (ht.later hW) (does_floor W (ht.later hW))
  · exact Down_any a b p w _ _ _ fun W hW => round_no _ a b p (by omega) W
theorem qUp_any (a b : ByteArray) (p : Int) (w : World) (ht : TabP w) : Answers 25 #[.agg #[.string a, .string b], .int .i64 p] (upQ a b p) w := by
  unfold upQ
  split
  · rename_i h
    obtain ⟨m, rfl⟩ : ∃ m : Nat, p = m := ⟨p.toNat, by omega⟩
    exact Up_any a b m w _ _ _ fun W hW => round_any ceilS _ a b m (by omega) W (ht.later hW) (does_ceiling W (ht.later hW))
  · exact Up_any a b p w _ _ _ fun W hW => round_no _ a b p (by omega) W

noncomputable def makeQ (a b : ByteArray) : ByteArray × ByteArray × Int := buildS [reduceS] a b
theorem box0 (w : World) : Below w.heap.size w (w.alloc (.cells #[.string ⟨#[]⟩, .string ⟨#[]⟩] 23)) ∧ IsB (w.alloc (.cells #[.string ⟨#[]⟩, .string ⟨#[]⟩] 23)) w.heap.size ⟨#[]⟩ ⟨#[]⟩ :=
  ⟨(Below.refl _ w).alloc (Nat.le_refl _) _, IsB.new _ _ _⟩
set_option maxRecDepth 100000 in
set_option maxHeartbeats 4000000 in
theorem qMake_any (a b : ByteArray) (w : World) (ht : TabP w) : Answers 27 #[.string a, .string b] (makeQ a b) w := by
  obtain ⟨hB, r1⟩ := box0 w
  have hb := build_1 (does_reduce _ (ht.later hB)) a b
  unfold Builds at hb
  rw [show (w.alloc (.cells #[.string ⟨#[]⟩, .string ⟨#[]⟩] 23)).heap.size = w.heap.size + 1 by simp] at hb
  have HB := Lib.hid hb
  unfold Answers makeQ
  obtain ⟨R1, R2, R3, hR⟩ : ∃ x y z, buildS [reduceS] a b = (x, y, z) := ⟨_, _, _, rfl⟩
  rw [hR] at HB ⊢
  simp only at HB ⊢
  have hA := hB.alloc hB.size (.cells #[.func (.func 60) #[] #[]] 79)
  have r2 := r1.alloc (.cells #[.func (.func 60) #[] #[]] 79)
  clear hR hb ht
  go_enter Tryz.func27, Tryz.ntmps27
  go_wp2_with (go_at_call 59; (with_reducible refine HB.out.mono ?_); rintro e w4 ⟨rfl, B4⟩; have hw4 := below_on hA B4 hA.size; have u2 := r2.later B4 r2.lt; have g1 := u2.f0; have g2 := u2.f1; have g3 := u2.c0; have g4 := u2.c1)
  exact bodyPost_ret (results_row_tmp rfl _ _ w.heap.size 23 #[.string R1, .string R2] _ _ rfl (two_strs u2 R1 R2) Tryz.underlying23 rfl (by kernel_rfl)) rfl ⟨rfl, fin1 u2 hw4 (by omega) _ _⟩

set_option maxRecDepth 100000 in
set_option maxHeartbeats 4000000 in
theorem qOf_any (x y : Int) (hx0 : -9223372036854775808 ≤ x) (hx1 : x ≤ 9223372036854775807) (hy0 : -9223372036854775808 ≤ y) (hy1 : y ≤ 9223372036854775807) (w : World) (ht : TabP w) :
    Answers 31 #[.int .i64 x, .int .i64 y] (makeQ (bs (Lib.itoa x)) (bs (Lib.itoa y))) w := by
  obtain ⟨hB, r1⟩ := box0 w
  have HX := Lib.hid (fun (W : World) (hb : Below w.heap.size w W) => FromInt_any x hx0 hx1 W (ht.later hb))
  have HY := Lib.hid (fun (W : World) (hb : Below w.heap.size w W) => FromInt_any y hy0 hy1 W (ht.later hb))
  have HM := Lib.hid (fun (W : World) (hb : Below w.heap.size w W) => qMake_any (bs (Lib.itoa x)) (bs (Lib.itoa y)) W (ht.later hb))
  unfold Answers at HM ⊢
  obtain ⟨R1, R2, R3, hR⟩ : ∃ u v z, makeQ (bs (Lib.itoa x)) (bs (Lib.itoa y)) = (u, v, z) := ⟨_, _, _, rfl⟩
  rw [hR] at HM ⊢
  simp only at HM ⊢
  generalize bs (Lib.itoa x) = X at *
  generalize bs (Lib.itoa y) = Y at *
  clear hR ht
  go_enter Tryz.func31, Tryz.ntmps31
  go_wp2_with (first
    | (go_at_call 64; (with_reducible refine (HY.out _ hw1).mono ?_); rintro e w2 ⟨rfl, B2⟩; have hw2 := below_on hw1 B2 hw1.size; have v1 := u1.later B2 u1.lt)
    | (go_at_call 64; (with_reducible refine (HX.out _ hB).mono ?_); rintro e w1 ⟨rfl, B1⟩; have hw1 := below_on hB B1 hB.size; have u1 := r1.later B1 r1.lt)
    | (go_at_call 27; (with_reducible refine (HM.out _ hw2).mono ?_); rintro e w4 ⟨rfl, B4⟩; have hw4 := below_on hw2 B4 hw2.size; have u2 := v1.later B4 v1.lt; have g1 := u2.f0; have g2 := u2.f1; have g3 := u2.c0; have g4 := u2.c1))
  exact bodyPost_ret (results_row_tmp rfl _ _ w.heap.size 23 #[.string R1, .string R2] _ _ rfl (two_strs u2 R1 R2) Tryz.underlying23 rfl (by kernel_rfl)) rfl ⟨rfl, fin1 u2 hw4 (by omega) _ _⟩

end Go.Proofs.YtjkklgpbblkhaaaGreatDoor

/-
  Layer 4: the order of fractions, whatever strings they are; Print.
-/
namespace Go.Proofs.YtjkklgpbblkhaaaGreatDoor
open Go.RowKit Bs Ig

set_option maxRecDepth 100000 in
set_option maxHeartbeats 4000000 in
theorem compare_no (a b c d : ByteArray) (w : World) (ht : TabP w) (h : validB a b = false ∨ validB c d = false) :
    Calls Tryz.prog 20 #[.agg #[.string a, .string b], .agg #[.string c, .string d]] w fun e w' => e = .returned (.int .i64 0) ∧ Below w.heap.size w w' := by
  obtain ⟨W0, hW0, hB, r0, r1⟩ : ∃ W, W = ((w.alloc (.cells #[.string a, .string b] 23)).alloc (.cells #[.string c, .string d] 23)) ∧ Below w.heap.size w W ∧ IsB W w.heap.size a b ∧ IsB W (w.heap.size + 1) c d :=
    ⟨_, rfl, ((Below.refl _ w).alloc (Nat.le_refl _) _).alloc (by simp) _, (IsB.new w a b).alloc _, IsB.new' _ _ _ _ (by simp)⟩
  have HV1 := Lib.hid (fun (W : World) (hb : Below w.heap.size w W) => qValid_any a b W (ht.later hb))
  have HV2 := Lib.hid (fun (W : World) (hb : Below w.heap.size w W) => qValid_any c d W (ht.later hb))
  obtain ⟨v1, h1⟩ : ∃ v, validB a b = v := ⟨_, rfl⟩
  obtain ⟨v2, h2⟩ : ∃ v, validB c d = v := ⟨_, rfl⟩
  rw [h1] at HV1 h
  rw [h2] at HV2 h
  have k0 := r0.c0
  have k1 := r0.c1
  rw [hW0] at k0 k1
  clear ht h1 h2
  cases v1 with
  | false =>
    clear h
    go_enter Tryz.func20, Tryz.ntmps20
    go_wp2_with fail
    go_step3
    go_wp2_with (go_at_call 29; rw [← hW0]; (with_reducible refine (HV1.out _ hB).mono ?_); rintro e w1 ⟨rfl, B1⟩; have hw1 := below_on hB B1 hB.size)
    rw [Exit.noGoto_ret]
    go_ret
    exact ⟨rfl, hw1⟩
  | true =>
    obtain rfl : v2 = false := by rcases h with h | h; cases h; exact h
    go_enter Tryz.func20, Tryz.ntmps20
    go_wp2_with fail
    go_step3
    go_wp2_with (first
      | (go_at_call 29; rw [← hW0]; (with_reducible refine (HV1.out _ hB).mono ?_); rintro e w1 ⟨rfl, B1⟩; have hw1 := below_on hB B1 hB.size; have s1 := r1.later B1 r1.lt; have k2 := s1.c0; have k3 := s1.c1)
      | (go_at_call 29; (with_reducible refine (HV2.out _ hw1).mono ?_); rintro e w2 ⟨rfl, B2⟩; have hw2 := below_on hw1 B2 hw1.size))
    rw [Exit.noGoto_ret]
    go_ret
    exact ⟨rfl, hw2⟩

noncomputable def printQ (N D : ByteArray) : ByteArray := if validB N D = true then (if (D.toList == [49]) = true then N else N ++ ⟨#[47]⟩ ++ D) else ⟨#[]⟩
set_option maxRecDepth 100000 in
set_option maxHeartbeats 4000000 in
theorem qPrint_any (N D : ByteArray) (hN : N.size ≤ 1000) (hD : D.size ≤ 1000) (w : World) (ht : TabP w) :
    Calls Tryz.prog 33 #[.agg #[.string N, .string D]] w fun e w' => e = .returned (.string (printQ N D)) ∧ Below w.heap.size w w' := by
  have hB : Below w.heap.size w (w.alloc (.cells #[.string N, .string D] 23)) := (Below.refl _ w).alloc (Nat.le_refl _) _
  have r0 := IsB.new w N D
  have HV := Lib.hid (qValid_any N D _ (ht.later hB))
  unfold printQ
  obtain ⟨v, hv⟩ : ∃ v, validB N D = v := ⟨_, rfl⟩
  obtain ⟨x, hx⟩ : ∃ v, (D.toList == [49]) = v := ⟨_, rfl⟩
  rw [hv] at HV ⊢
  simp only [hx]
  have c0 := r0.c0
  have c1 := r0.c1
  have hs : N.size + 1 + D.size ≤ 9223372036854775807 := by omega
  clear ht hv
  cases v with
  | false =>
    clear hx
    go_enter Tryz.func33, Tryz.ntmps33
    go_wp2_with (go_at_call 29; (with_reducible refine HV.out.mono ?_); rintro e w1 ⟨rfl, B1⟩)
    go_ret
    exact ⟨rfl, below_on hB B1 hB.size⟩
  | true =>
    cases x with
    | true =>
      go_enter Tryz.func33, Tryz.ntmps33
      go_wp2_with (go_at_call 29; (with_reducible refine HV.out.mono ?_); rintro e w1 ⟨rfl, B1⟩; have s0 := r0.later B1 r0.lt; have k0 := s0.c0; have k1 := s0.c1)
      go_ret
      exact ⟨rfl, below_on hB B1 hB.size⟩
    | false =>
      have f1 : ¬ 9223372036854775807 < N.size + 1 := by omega
      have f2 : ¬ 9223372036854775807 < (N ++ ⟨#[47]⟩).size + D.size := by rw [ByteArray.size_append]; show ¬ 9223372036854775807 < N.size + 1 + D.size; omega
      go_enter Tryz.func33, Tryz.ntmps33
      go_wp2_with (go_at_call 29; (with_reducible refine HV.out.mono ?_); rintro e w1 ⟨rfl, B1⟩; have s0 := r0.later B1 r0.lt; have k0 := s0.c0; have k1 := s0.c1)
      go_ret
      exact ⟨rfl, below_on hB B1 hB.size⟩

end Go.Proofs.YtjkklgpbblkhaaaGreatDoor

/-
  Layer 4: what the functions answer at fractions in lowest terms, as numbers.
-/
namespace Go.Proofs.YtjkklgpbblkhaaaGreatDoor
open Go.RowKit Bs Ig Qq

def T (z : Int) : ByteArray := bs (Lib.itoa z)
/-- a fraction of integers of at most 200 digits, in lowest terms -/
structure FV (p : Int × Int) : Prop where
  isF : IsF p
  b1 : p.1.natAbs < big
  b2 : p.2.natAbs < big
theorem FV.pos {p : Int × Int} (h : FV p) : 0 < p.2 := h.isF.pos
def noA : ByteArray × ByteArray × Int := (⟨#[]⟩, ⟨#[]⟩, 40)
/-- the answer that is the fraction p -/
def okA (p : Int × Int) : ByteArray × ByteArray × Int := (T p.1, T p.2, 0)
theorem T0 : T 0 = ⟨#[48]⟩ := by
  unfold T; rw [show Lib.itoa 0 = [48] from by rw [show (0 : Int) = ((0 : Nat) : Int) from rfl, itoa_nat, dec_small (by omega)]; rfl]; rfl
theorem T1 : T 1 = ⟨#[49]⟩ := by
  unfold T; rw [show Lib.itoa 1 = [49] from by rw [show (1 : Int) = ((1 : Nat) : Int) from rfl, itoa_nat, dec_small (by omega)]; rfl]; rfl
theorem T_inj {x y : Int} (h : T x = T y) : x = y := itoa_inj (bs_inj h)
theorem rd_T {z : Int} (h : z.natAbs < big) : rd (T z) = some z := rd_some h
theorem wrS_ok {z : Int} (h : z.natAbs < big) : wrS z = (T z, 0) := by unfold wrS txt err T; rw [if_pos h, if_pos h]
theorem wrS_no {z : Int} (h : ¬ z.natAbs < big) : wrS z = (⟨#[]⟩, 30) := by unfold wrS txt err; rw [if_neg h, if_neg h]; rfl
theorem zero_bigQ : (0 : Int).natAbs < big := Nat.pow_pos (by omega)
theorem one_bigQ : (1 : Int).natAbs < big := Nat.lt_of_lt_of_le (by decide) big5_4
theorem gcd_natAbs {x y : Int} : ((Int.gcd x y : Nat) : Int).natAbs = Int.gcd x y := Int.natAbs_natCast _
section
variable {x y : Int} (hx : x.natAbs < big) (hy : y.natAbs < big)
include hx hy
theorem addS_T : addS (T x) (T y) = wrS (x + y) := by unfold addS onS; rw [rd_T hx, rd_T hy]
theorem subS_T : subS (T x) (T y) = wrS (x - y) := by unfold subS onS; rw [rd_T hx, rd_T hy]
theorem mulS_T : mulS (T x) (T y) = wrS (x * y) := by unfold mulS onS; rw [rd_T hx, rd_T hy]
theorem gcdS_T : gcdS (T x) (T y) = (T (Int.gcd x y : Nat), 0) := by
  unfold gcdS onS; rw [rd_T hx, rd_T hy]
  exact wrS_ok (by rw [gcd_natAbs]; exact gcd_big4 hx hy)
theorem cmpS_T : cmpS (T x) (T y) = cmpZ x y := by unfold cmpS; rw [rd_T hx, rd_T hy]
theorem divS_T (h : y ≠ 0) : divS (T x) (T y) = (T (x / y), T (x % y), 0) := by unfold divS; rw [rd_T hx, rd_T hy]; exact if_neg h
theorem floorS_T (h : y ≠ 0) : floorS (T x) (T y) = (T (x / y), 0) := by unfold floorS; rw [divS_T hx hy h]
end
theorem T_eq1 (z : Int) : ((T z).toList == [49]) = decide (z = 1) := by
  unfold T
  rw [bs_toList]
  by_cases h : z = 1
  · subst h
    rw [show Lib.itoa 1 = [49] from by rw [show (1 : Int) = ((1 : Nat) : Int) from rfl, itoa_nat, dec_small (by omega)]; rfl]; rfl
  · rw [decide_eq_false h]
    refine beq_false_of_ne (fun h2 => h (itoa_inj (y := 1) ?_))
    rw [h2, show (1 : Int) = ((1 : Nat) : Int) from rfl, itoa_nat, dec_small (by omega)]; rfl
theorem cmpZ_pos {x : Int} (h : 0 < x) : cmpZ x 0 = 1 := by unfold cmpZ; rw [if_neg (by omega), if_pos h]
theorem cmpZ_neg {x : Int} (h : x < 0) : cmpZ x 0 = -1 := if_pos h
theorem cmpZ_eq (x : Int) : cmpZ x x = 0 := by unfold cmpZ; rw [if_neg (by omega), if_neg (by omega)]

theorem validB_T {p : Int × Int} (h : FV p) : validB (T p.1) (T p.2) = true := by
  unfold validB
  rw [gcdS_T h.b1 h.b2, ← T0, cmpS_T h.b2 zero_bigQ, h.isF.low, T_eq1, cmpZ_pos h.pos]
  rfl
theorem cmpS_none {s t : ByteArray} (h : rd s = none) : cmpS s t = 0 := by unfold cmpS; rw [h]
theorem validB_inv {N D : ByteArray} (h : validB N D = true) : ∃ p : Int × Int, FV p ∧ N = T p.1 ∧ D = T p.2 := by
  unfold validB at h
  simp only [Bool.and_eq_true] at h
  obtain ⟨h1, h2, h3⟩ := h
  cases hN : rd N with
  | none => unfold gcdS onS at h1; rw [hN] at h1; cases h1
  | some n =>
    cases hD : rd D with
    | none => unfold gcdS onS at h1; rw [hN, hD] at h1; cases h1
    | some d =>
      obtain ⟨hn, rfl⟩ := rd_eq hN
      obtain ⟨hd, rfl⟩ := rd_eq hD
      have h2' : ((gcdS (T n) (T d)).1.toList == [49]) = true := h2
      have h3' : decide (0 < cmpS (T d) ⟨#[48]⟩) = true := h3
      rw [gcdS_T hn hd, T_eq1] at h2'
      rw [← T0, cmpS_T hd zero_bigQ] at h3'
      have h4 := of_decide_eq_true h2'
      have h5 := of_decide_eq_true h3'
      refine ⟨(n, d), ⟨⟨?_, by show Int.gcd n d = 1; omega⟩, hn, hd⟩, rfl, rfl⟩
      show 0 < d
      rcases Int.lt_trichotomy d 0 with h | h | h
      · rw [cmpZ_neg h] at h5; omega
      · rw [h, cmpZ_eq] at h5; omega
      · exact h
theorem runS_e (F : List Stp) (N D : ByteArray) {e : Int} (h : e ≠ 0) : runS F N D e = (N, D, e) := by
  induction F with
  | nil => rfl
  | cons G r ih => unfold runS; rw [if_neg h]; exact ih
theorem runS_ok {F : Stp} {r : List Stp} {N D N' D' : ByteArray} (h : F N D = (N', D', 0)) : runS (F :: r) N D 0 = runS r N' D' 0 := by
  show (if (0 : Int) = 0 then runS r (F N D).1 (F N D).2.1 (F N D).2.2 else _) = _
  rw [if_pos rfl, h]
theorem runS_err {F : Stp} {r : List Stp} {N D N' D' : ByteArray} {e : Int} (h : F N D = (N', D', e)) (he : e ≠ 0) : runS (F :: r) N D 0 = (N', D', e) := by
  show (if (0 : Int) = 0 then runS r (F N D).1 (F N D).2.1 (F N D).2.2 else _) = _
  rw [if_pos rfl, h, runS_e _ _ _ he]
theorem buildS_ok {F : List Stp} {N D N' D' : ByteArray} (h : runS F N D 0 = (N', D', 0)) : buildS F N D = (N', D', 0) := by unfold buildS finS; rw [h]; rfl
theorem buildS_no {F : List Stp} {N D N' D' : ByteArray} {e : Int} (h : runS F N D 0 = (N', D', e)) (he : e ≠ 0) : buildS F N D = noA := by unfold buildS finS; rw [h]; exact if_neg he
theorem ne30 : (30 : Int) ≠ 0 := by decide
theorem ne40 : (40 : Int) ≠ 0 := by decide
theorem build_ne {F : List Stp} {N D : ByteArray} (h : (runS F N D 0).2.2 ≠ 0) : buildS F N D = noA := by unfold buildS finS; exact if_neg h
theorem numS_ok {op : ByteArray → ByteArray → ByteArray × Int} {y N D s : ByteArray} {e : Int} (h : op N y = (s, e)) : numS op y N D = (s, D, e) := by unfold numS; rw [h]
theorem denS_ok {op : ByteArray → ByteArray → ByteArray × Int} {y N D s : ByteArray} {e : Int} (h : op D y = (s, e)) : denS op y N D = (N, s, e) := by unfold denS; rw [h]

theorem red_b1 {n d : Int} (h : n.natAbs < big) : (red n d).1.natAbs < big := Nat.lt_of_le_of_lt red_le.1 h
theorem red_b2 {n d : Int} (h : d.natAbs < big) : (red n d).2.natAbs < big := Nat.lt_of_le_of_lt red_le.2 h
theorem red_FV {n d : Int} (h : d ≠ 0) (hn : n.natAbs < big) (hd : d.natAbs < big) : FV (red n d) := ⟨red_isF h, red_b1 hn, red_b2 hd⟩
theorem lowestS_T {n d : Int} (hn : n.natAbs < big) (hd : d.natAbs < big) (h : 0 < d) : lowestS (T n) (T d) = okA (red n d) := by
  have hg := gcd_pos (n := n) (d := d) (by omega)
  have hgb : ((Int.gcd n d : Nat) : Int).natAbs < big := by rw [gcd_natAbs]; exact gcd_big4 hn hd
  unfold lowestS
  rw [gcdS_T hn hd]
  refine (if_neg (by simp)).trans (buildS_ok ?_)
  rw [runS_ok (numS_ok (floorS_T hn hgb (by omega))), runS_ok (denS_ok (floorS_T hd hgb (by omega)))]
  show (_, _, _) = _
  unfold red
  rw [if_neg (by omega)]
theorem positiveS_pos {n d : Int} (hd : d.natAbs < big) (h : 0 < d) : positiveS (T n) (T d) = (T n, T d, 0) := by
  unfold positiveS
  rw [← T0, cmpS_T hd zero_bigQ, cmpZ_pos h]
  rfl
theorem positiveS_neg {n d : Int} (hn : n.natAbs < big) (hd : d.natAbs < big) (h : d < 0) : positiveS (T n) (T d) = (T (0 - n), T (0 - d), 0) := by
  unfold positiveS
  rw [← T0, cmpS_T hd zero_bigQ, cmpZ_neg h]
  refine (if_neg (by decide)).trans ((if_pos rfl).trans (buildS_ok ?_))
  rw [runS_ok (numS_ok ((subS_T zero_bigQ hn).trans (wrS_ok (by omega)))), runS_ok (denS_ok ((subS_T zero_bigQ hd).trans (wrS_ok (by omega))))]
  rfl
theorem positiveS_0 (N : ByteArray) : positiveS N (T 0) = noA := by
  unfold positiveS
  rw [← T0, cmpS_T zero_bigQ zero_bigQ, cmpZ_eq]
  rfl
theorem reduceS_T {n d : Int} (hn : n.natAbs < big) (hd : d.natAbs < big) (h : d ≠ 0) : reduceS (T n) (T d) = okA (red n d) := by
  unfold reduceS
  refine buildS_ok ?_
  rcases Int.lt_or_le d 0 with h0 | h0
  · rw [runS_ok (positiveS_neg hn hd h0), runS_ok (N' := T (red (0 - n) (0 - d)).1) (D' := T (red (0 - n) (0 - d)).2) (lowestS_T (by omega) (by omega) (by omega))]
    have : red (0 - n) (0 - d) = red n d := red_congr (by omega) h (by rw [Int.sub_mul, Int.mul_sub]; omega)
    rw [this]; rfl
  · rw [runS_ok (positiveS_pos hd (by omega)), runS_ok (N' := T (red n d).1) (D' := T (red n d).2) (lowestS_T hn hd (by omega))]
    rfl
theorem reduceS_0 (N : ByteArray) : reduceS N (T 0) = noA := by
  unfold reduceS
  exact buildS_no (runS_err (positiveS_0 N) (by decide)) (by decide)

/-! the operations -/
theorem validS_ok {l : List (ByteArray × ByteArray)} {N D : ByteArray} (h : l.all (fun p => validB p.1 p.2) = true) : validS l N D = (N, D, 0) := by unfold validS; rw [if_pos h]
theorem validS_no {l : List (ByteArray × ByteArray)} {N D : ByteArray} (h : l.all (fun p => validB p.1 p.2) = false) : validS l N D = noA := by unfold validS; rw [if_neg (by rw [h]; decide)]; rfl
theorem two_ok {p q : Int × Int} (hp : FV p) (hq : FV q) : [(T p.1, T p.2), (T q.1, T q.2)].all (fun p => validB p.1 p.2) = true := by
  simp [validB_T hp, validB_T hq]
theorem two_no {a b c d : ByteArray} (h : validB a b = false ∨ validB c d = false) : [(a, b), (c, d)].all (fun p => validB p.1 p.2) = false := by
  rcases h with h | h <;> simp [h]
theorem one_ok {p : Int × Int} (hp : FV p) : [(T p.1, T p.2)].all (fun p => validB p.1 p.2) = true := by
  simp [validB_T hp]
theorem one_no {a b : ByteArray} (h : validB a b = false) : [(a, b)].all (fun p => validB p.1 p.2) = false := by simp [h]
theorem mulQ_inv {a b c d : ByteArray} (h : validB a b = false ∨ validB c d = false) : mulQ a b c d = noA := buildS_no (runS_err (validS_no (two_no h)) (by decide)) (by decide)
theorem divQ_inv {a b c d : ByteArray} (h : validB a b = false ∨ validB c d = false) : divQ a b c d = noA := buildS_no (runS_err (validS_no (two_no h)) (by decide)) (by decide)
theorem addQ_inv {a b c d : ByteArray} (h : validB a b = false ∨ validB c d = false) : addQ a b c d = noA := buildS_no (runS_err (validS_no (two_no h)) (by decide)) (by decide)
theorem subQ_inv {a b c d : ByteArray} (h : validB a b = false ∨ validB c d = false) : subQ a b c d = noA := buildS_no (runS_err (validS_no (two_no h)) (by decide)) (by decide)
section
variable {p q : Int × Int} (hp : FV p) (hq : FV q)
include hp hq
theorem mulQ_ok (h1 : (p.1 * q.1).natAbs < big) (h2 : (p.2 * q.2).natAbs < big) : mulQ (T p.1) (T p.2) (T q.1) (T q.2) = okA (times p q) := by
  refine buildS_ok ?_
  rw [runS_ok (validS_ok (two_ok hp hq)), runS_ok (numS_ok ((mulS_T hp.b1 hq.b1).trans (wrS_ok h1))), runS_ok (denS_ok ((mulS_T hp.b2 hq.b2).trans (wrS_ok h2))),
    runS_ok (N' := T (times p q).1) (D' := T (times p q).2) (reduceS_T h1 h2 (den_ne hp.isF hq.isF))]
  rfl
theorem mulQ_no (h : ¬ ((p.1 * q.1).natAbs < big ∧ (p.2 * q.2).natAbs < big)) : mulQ (T p.1) (T p.2) (T q.1) (T q.2) = noA := by
  unfold mulQ
  by_cases h1 : (p.1 * q.1).natAbs < big
  · refine build_ne ?_
    rw [runS_ok (validS_ok (two_ok hp hq)), runS_ok (numS_ok ((mulS_T hp.b1 hq.b1).trans (wrS_ok h1)))]
    rw [runS_err (denS_ok ((mulS_T hp.b2 hq.b2).trans (wrS_no (fun h2 => h ⟨h1, h2⟩)))) (by decide)]; first | exact ne30 | exact ne40
  · refine build_ne ?_
    rw [runS_ok (validS_ok (two_ok hp hq))]
    rw [runS_err (numS_ok ((mulS_T hp.b1 hq.b1).trans (wrS_no h1))) (by decide)]; first | exact ne30 | exact ne40
theorem divQ_ok (h0 : q.1 ≠ 0) (h1 : (p.1 * q.2).natAbs < big) (h2 : (p.2 * q.1).natAbs < big) : divQ (T p.1) (T p.2) (T q.1) (T q.2) = okA (over p q) := by
  refine buildS_ok ?_
  rw [runS_ok (validS_ok (two_ok hp hq)), runS_ok (numS_ok ((mulS_T hp.b1 hq.b2).trans (wrS_ok h1))), runS_ok (denS_ok ((mulS_T hp.b2 hq.b1).trans (wrS_ok h2))),
    runS_ok (N' := T (over p q).1) (D' := T (over p q).2) (reduceS_T h1 h2 (Int.mul_ne_zero (by have := hp.pos; omega) h0))]
  rfl
theorem divQ_no (h : ¬ (q.1 ≠ 0 ∧ (p.1 * q.2).natAbs < big ∧ (p.2 * q.1).natAbs < big)) : divQ (T p.1) (T p.2) (T q.1) (T q.2) = noA := by
  unfold divQ
  by_cases h1 : (p.1 * q.2).natAbs < big
  · by_cases h2 : (p.2 * q.1).natAbs < big
    · have h0 : q.1 = 0 := Decidable.byContradiction fun h0 => h ⟨h0, h1, h2⟩
      refine build_ne ?_
      have hm := mulS_T hp.b2 hq.b1
      rw [h0, Int.mul_zero, wrS_ok zero_bigQ] at hm
      rw [runS_ok (validS_ok (two_ok hp hq)), runS_ok (numS_ok ((mulS_T hp.b1 hq.b2).trans (wrS_ok h1))), h0, runS_ok (denS_ok hm)]
      rw [runS_err (reduceS_0 _) (by decide)]; first | exact ne30 | exact ne40
    · refine build_ne ?_
      rw [runS_ok (validS_ok (two_ok hp hq)), runS_ok (numS_ok ((mulS_T hp.b1 hq.b2).trans (wrS_ok h1)))]
      rw [runS_err (denS_ok ((mulS_T hp.b2 hq.b1).trans (wrS_no h2))) (by decide)]; first | exact ne30 | exact ne40
  · refine build_ne ?_
    rw [runS_ok (validS_ok (two_ok hp hq))]
    rw [runS_err (numS_ok ((mulS_T hp.b1 hq.b2).trans (wrS_no h1))) (by decide)]; first | exact ne30 | exact ne40
end

/-- the fractions are the fraction with these numbers, or there is none -/
theorem inv_or (a b : ByteArray) : validB a b = false ∨ ∃ p : Int × Int, FV p ∧ a = T p.1 ∧ b = T p.2 := by
  cases h : validB a b with
  | false => exact .inl rfl
  | true => exact .inr (validB_inv h)
section
variable {p q : Int × Int} (hp : FV p) (hq : FV q)
include hp hq
theorem scaledS_ok {op : ByteArray → ByteArray → ByteArray × Int} {X : ByteArray} (h2 : (q.1 * p.2).natAbs < big) : scaledS op (T p.2) X (T q.1) = op X (T (q.1 * p.2)) := by
  unfold scaledS
  rw [mulS_T hq.b1 hp.b2, wrS_ok h2]
  rfl
theorem scaledS_no {op : ByteArray → ByteArray → ByteArray × Int} {X : ByteArray} (h2 : ¬ (q.1 * p.2).natAbs < big) : scaledS op (T p.2) X (T q.1) = (⟨#[]⟩, 30) := by
  unfold scaledS
  rw [mulS_T hq.b1 hp.b2, wrS_no h2]
  rfl
theorem addQ_ok (h1 : (p.1 * q.2).natAbs < big) (h2 : (q.1 * p.2).natAbs < big) (h3 : (p.1 * q.2 + q.1 * p.2).natAbs < big) (h4 : (p.2 * q.2).natAbs < big) : addQ (T p.1) (T p.2) (T q.1) (T q.2) = okA (plus p q) := by
  refine buildS_ok ?_
  rw [runS_ok (validS_ok (two_ok hp hq)), runS_ok (numS_ok ((mulS_T hp.b1 hq.b2).trans (wrS_ok h1))), runS_ok (numS_ok ((scaledS_ok hp hq h2).trans ((addS_T h1 h2).trans (wrS_ok h3)))), runS_ok (denS_ok ((mulS_T hp.b2 hq.b2).trans (wrS_ok h4))),
    runS_ok (N' := T (plus p q).1) (D' := T (plus p q).2) (reduceS_T h3 h4 (den_ne hp.isF hq.isF))]
  rfl
theorem subQ_ok (h1 : (p.1 * q.2).natAbs < big) (h2 : (q.1 * p.2).natAbs < big) (h3 : (p.1 * q.2 - q.1 * p.2).natAbs < big) (h4 : (p.2 * q.2).natAbs < big) : subQ (T p.1) (T p.2) (T q.1) (T q.2) = okA (less p q) := by
  refine buildS_ok ?_
  rw [runS_ok (validS_ok (two_ok hp hq)), runS_ok (numS_ok ((mulS_T hp.b1 hq.b2).trans (wrS_ok h1))), runS_ok (numS_ok ((scaledS_ok hp hq h2).trans ((subS_T h1 h2).trans (wrS_ok h3)))), runS_ok (denS_ok ((mulS_T hp.b2 hq.b2).trans (wrS_ok h4))),
    runS_ok (N' := T (less p q).1) (D' := T (less p q).2) (reduceS_T h3 h4 (den_ne hp.isF hq.isF))]
  rfl
theorem addQ_no (h : ¬ ((p.1 * q.2).natAbs < big ∧ (q.1 * p.2).natAbs < big ∧ (p.1 * q.2 + q.1 * p.2).natAbs < big ∧ (p.2 * q.2).natAbs < big)) : addQ (T p.1) (T p.2) (T q.1) (T q.2) = noA := by
  unfold addQ combineQ
  refine build_ne ?_
  by_cases h1 : (p.1 * q.2).natAbs < big
  · rw [runS_ok (validS_ok (two_ok hp hq)), runS_ok (numS_ok ((mulS_T hp.b1 hq.b2).trans (wrS_ok h1)))]
    by_cases h2 : (q.1 * p.2).natAbs < big
    · by_cases h3 : (p.1 * q.2 + q.1 * p.2).natAbs < big
      · rw [runS_ok (numS_ok ((scaledS_ok hp hq h2).trans ((addS_T h1 h2).trans (wrS_ok h3)))), runS_err (denS_ok ((mulS_T hp.b2 hq.b2).trans (wrS_no (fun h4 => h ⟨h1, h2, h3, h4⟩)))) (by decide)]; first | exact ne30 | exact ne40
      · rw [runS_err (numS_ok ((scaledS_ok hp hq h2).trans ((addS_T h1 h2).trans (wrS_no h3)))) (by decide)]; first | exact ne30 | exact ne40
    · rw [runS_err (numS_ok (scaledS_no hp hq h2)) (by decide)]; first | exact ne30 | exact ne40
  · rw [runS_ok (validS_ok (two_ok hp hq)), runS_err (numS_ok ((mulS_T hp.b1 hq.b2).trans (wrS_no h1))) (by decide)]; first | exact ne30 | exact ne40
theorem subQ_no (h : ¬ ((p.1 * q.2).natAbs < big ∧ (q.1 * p.2).natAbs < big ∧ (p.1 * q.2 - q.1 * p.2).natAbs < big ∧ (p.2 * q.2).natAbs < big)) : subQ (T p.1) (T p.2) (T q.1) (T q.2) = noA := by
  unfold subQ combineQ
  refine build_ne ?_
  by_cases h1 : (p.1 * q.2).natAbs < big
  · rw [runS_ok (validS_ok (two_ok hp hq)), runS_ok (numS_ok ((mulS_T hp.b1 hq.b2).trans (wrS_ok h1)))]
    by_cases h2 : (q.1 * p.2).natAbs < big
    · by_cases h3 : (p.1 * q.2 - q.1 * p.2).natAbs < big
      · rw [runS_ok (numS_ok ((scaledS_ok hp hq h2).trans ((subS_T h1 h2).trans (wrS_ok h3)))), runS_err (denS_ok ((mulS_T hp.b2 hq.b2).trans (wrS_no (fun h4 => h ⟨h1, h2, h3, h4⟩)))) (by decide)]; first | exact ne30 | exact ne40
      · rw [runS_err (numS_ok ((scaledS_ok hp hq h2).trans ((subS_T h1 h2).trans (wrS_no h3)))) (by decide)]; first | exact ne30 | exact ne40
    · rw [runS_err (numS_ok (scaledS_no hp hq h2)) (by decide)]; first | exact ne30 | exact ne40
  · rw [runS_ok (validS_ok (two_ok hp hq)), runS_err (numS_ok ((mulS_T hp.b1 hq.b2).trans (wrS_no h1))) (by decide)]; first | exact ne30 | exact ne40
end
/-! rounding -/
theorem tq_T (m : Nat) : tq m = T ((10 ^ m : Nat) : Int) := by
  unfold tq zb T
  rw [show (⟨#[49]⟩ : ByteArray) = bs [49] from rfl, bs_append, itoa_nat]
  congr 1
  have hn : num ([49] ++ List.replicate m 48) = 10 ^ m := by
    have h0 : num (List.replicate m 48) = 0 := by
      induction m with
      | zero => rfl
      | succ k ih => rw [List.replicate_succ, num_cons, ih]; simp
    rw [num_append, List.length_replicate, h0, Nat.add_zero, show num [49] = 1 from rfl, Nat.one_mul]
  rw [← hn]
  exact (dec_num _ (fun c hc => by
    rcases List.mem_cons.1 hc with hc | hc
    · rw [hc]; decide
    · rw [List.eq_of_mem_replicate hc]; decide) 49 (List.replicate m 48) rfl (by decide)).symm
theorem ten_big {m : Nat} (h : m ≤ 30) : ((10 ^ m : Nat) : Int).natAbs < big := by
  rw [Int.natAbs_natCast]; exact Nat.pow_lt_pow_right (by omega) (by omega)
theorem ten_pos (m : Nat) : (0 : Int) < ((10 ^ m : Nat) : Int) := by have : 0 < 10 ^ m := Nat.pow_pos (by omega); omega
theorem roundQ_ok {p : Int × Int} (hp : FV p) {m : Nat} {t : Int} (ht : tq m = T t) (h0 : 0 < t) (hb : t.natAbs < big) {op : ByteArray → ByteArray → ByteArray × Int} {k : Int} (h1 : (p.1 * t).natAbs < big) (h2 : op (T (p.1 * t)) (T p.2) = (T k, 0)) (h3 : k.natAbs < big) :
    roundQ op (T p.1) (T p.2) m = okA (red k t) := by
  unfold roundQ
  rw [ht]
  have hr := reduceS_T h3 hb (by omega)
  refine buildS_ok ?_
  rw [runS_ok (validS_ok (one_ok hp)), runS_ok (numS_ok ((mulS_T hp.b1 hb).trans (wrS_ok h1))), runS_ok (numS_ok h2), runS_ok (F := overS (T t)) (N' := T k) (D' := T t) rfl,
    runS_ok (N' := T (red k t).1) (D' := T (red k t).2) hr]
  rfl
theorem roundQ_no1 {p : Int × Int} (hp : FV p) {m : Nat} {t : Int} (ht : tq m = T t) (hb : t.natAbs < big) {op : ByteArray → ByteArray → ByteArray × Int} (h1 : ¬ (p.1 * t).natAbs < big) : roundQ op (T p.1) (T p.2) m = noA := by
  unfold roundQ
  rw [ht]
  refine build_ne ?_
  rw [runS_ok (validS_ok (one_ok hp)), runS_err (numS_ok ((mulS_T hp.b1 hb).trans (wrS_no h1))) (by decide)]
  exact ne30
theorem roundQ_no2 {p : Int × Int} (hp : FV p) {m : Nat} {t : Int} (ht : tq m = T t) (hb : t.natAbs < big) {op : ByteArray → ByteArray → ByteArray × Int} {s : ByteArray} (h1 : (p.1 * t).natAbs < big) (h2 : op (T (p.1 * t)) (T p.2) = (s, 30)) : roundQ op (T p.1) (T p.2) m = noA := by
  unfold roundQ
  rw [ht]
  refine build_ne ?_
  rw [runS_ok (validS_ok (one_ok hp)), runS_ok (numS_ok ((mulS_T hp.b1 hb).trans (wrS_ok h1))), runS_err (numS_ok h2) (by decide)]
  exact ne30
theorem roundQ_inv {a b : ByteArray} {m : Nat} {op : ByteArray → ByteArray → ByteArray × Int} (h : validB a b = false) : roundQ op a b m = noA :=
  buildS_no (runS_err (validS_no (one_no h)) (by decide)) (by decide)
theorem ceilS_T {x y : Int} (hx : x.natAbs < big) (hy : y.natAbs < big) (h : y ≠ 0) : ceilS (T x) (T y) = wrS (ce x y) := by
  unfold ceilS floorS ce
  rw [divS_T hx hy h]
  have hq : (x / y).natAbs < big := Nat.lt_of_le_of_lt (Int.natAbs_ediv_le_natAbs x y) hx
  have e : ((T (x % y)).toList == [48]) = decide (x % y = 0) := by
    unfold T; rw [bs_toList]
    by_cases h : x % y = 0
    · rw [h]; show (Lib.itoa 0 == [48]) = _; rw [show Lib.itoa 0 = [48] from by rw [show (0 : Int) = ((0 : Nat) : Int) from rfl, itoa_nat, dec_small (by omega)]; rfl]; rfl
    · rw [decide_eq_false h]; exact itoa_zero _ h
  simp only [e]
  rw [if_neg (by simp)]
  by_cases h0 : x % y = 0
  · rw [if_pos (by simpa using h0), if_pos h0, wrS_ok hq]
  · rw [if_neg (by simpa using h0), if_neg h0, ← T1, addS_T hq one_bigQ]

end Go.Proofs.YtjkklgpbblkhaaaGreatDoor

/-
  Layer 4, the reference: Make, with a positive denominator.
-/
namespace Go.Proofs.YtjkklgpbblkhaaaGreatDoor
open Go.RowKit Bs Ig Qq

set_option maxRecDepth 100000 in
set_option maxHeartbeats 8000000 in
theorem rMake_T (n d : Int) (hn : n.natAbs < big) (hd : d.natAbs < big) (h0 : 0 < d) (w : World) :
    Answers 28 #[.string (T n), .string (T d)] (okA (red n d)) w := by
  have hg := gcd_pos (n := n) (d := d) (by omega)
  have hgb : ((Int.gcd n d : Nat) : Int).natAbs < big := by rw [gcd_natAbs]; exact gcd_big4 hn hd
  have HV1 := Lib.hid (rValid_T n hn)
  have HV2 := Lib.hid (rValid_T d hd)
  have hc := rCompare_T d 0 hd zero_bigQ
  rw [cmpZ_pos h0, show bs (Lib.itoa 0) = (⟨#[48]⟩ : ByteArray) from T0] at hc
  have HC := Lib.hid hc
  have HG := Lib.hid (rGcd_T n d hn hd)
  have HD1 := Lib.hid (rDiv_T n (Int.gcd n d : Nat) hn hgb (by omega))
  have HD2 := Lib.hid (rDiv_T d (Int.gcd n d : Nat) hd hgb (by omega))
  have hz : ((bs (Lib.itoa d)).toList == [48]) = false := by rw [bs_toList]; exact itoa_zero d (by omega)
  obtain ⟨hB, r1⟩ := box0 w
  have HA := Lib.hid (And.intro hB r1)
  have hr : red n d = (n / (Int.gcd n d : Nat), d / (Int.gcd n d : Nat)) := by unfold red; rw [if_neg (by omega)]
  unfold Answers okA
  rw [hr]
  simp only
  unfold T
  generalize bs (Lib.itoa n) = X at *
  generalize bs (Lib.itoa d) = Y at *
  generalize bs (Lib.itoa (Int.gcd n d : Nat)) = G at *
  generalize bs (Lib.itoa (n / (Int.gcd n d : Nat))) = R1 at *
  generalize bs (Lib.itoa (d / (Int.gcd n d : Nat))) = R2 at *
  generalize bs (Lib.itoa (n % (Int.gcd n d : Nat))) = R3 at *
  generalize bs (Lib.itoa (d % (Int.gcd n d : Nat))) = R4 at *
  clear hn hd h0 hg hgb hc hr hB r1
  go_enter Tryz.func28, Tryz.ntmps28
  go_wp2_with (first
    | (go_at_call 61; (with_reducible refine (HV1.out _).mono ?_); rintro e w1 ⟨rfl, hww⟩; rw [hww]; clear hww w1)
    | (go_at_call 61; (with_reducible refine (HV2.out _).mono ?_); rintro e w1 ⟨rfl, hww⟩; rw [hww]; clear hww w1)
    | (go_at_call 53; (with_reducible refine (HC.out _).mono ?_); rintro e w3 ⟨rfl, B3⟩; have b3 := below_on HA.out.1 B3 HA.out.1.size; have r3 := HA.out.2.later B3 HA.out.2.lt)
    | (go_at_call 62; (with_reducible refine (HG.out _).mono ?_); rintro e w4 ⟨rfl, B4⟩; have b4 := below_on b3 B4 b3.size; have r4 := r3.later B4 r3.lt)
    | (go_at_call 52; (with_reducible refine (HD2.out _).mono ?_); rintro e w6 ⟨rfl, B6⟩; have b6 := below_on b5 B6 b5.size; have u2 := r5.later B6 r5.lt; have g1 := u2.f0; have g2 := u2.f1; have g3 := u2.c0; have g4 := u2.c1)
    | (go_at_call 52; (with_reducible refine (HD1.out _).mono ?_); rintro e w5 ⟨rfl, B5⟩; have b5 := below_on b4 B5 b4.size; have r5 := r4.later B5 r4.lt))
  exact bodyPost_ret (results_row_tmp rfl _ _ w.heap.size 23 #[.string R1, .string R2] _ _ rfl (two_strs u2 R1 R2) Tryz.underlying23 rfl (by kernel_rfl)) rfl ⟨rfl, fin1 u2 b6 (by omega) _ _⟩

end Go.Proofs.YtjkklgpbblkhaaaGreatDoor
