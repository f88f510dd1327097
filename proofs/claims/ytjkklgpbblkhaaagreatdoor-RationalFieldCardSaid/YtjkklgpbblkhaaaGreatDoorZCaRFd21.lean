/-
  Put together by program out of these texts, in this order: Qfw, CaRFd.
-/
import Derived.Test.YtjkklgpbblkhaaaGreatDoorZCaRFd20
import Derived.Test.YtjkklgpbblkhaaaGreatDoorZCaRFd19
import Derived.Test.YtjkklgpbblkhaaaGreatDoorCards
import Derived.Test.YtjkklgpbblkhaaaGreatDoorTie
import Derived.Test.YtjkklgpbblkhaaaGreatDoorZCaRFd04

/-
  RationalField: for every ten integers and every bool, and in every memory in which the table of the decimal powers holds its numbers, the law returns true.
-/
namespace Go.Proofs.YtjkklgpbblkhaaaGreatDoor
open Go.RowKit Bs Ig Qq

/-- where the law stands: what was there is as it was, and blocks hold what they held -/
structure Sg (w W : World) (L : List (Nat × Array Value × TypeId)) : Prop where
  below : Below w.heap.size w W
  tab0 : TabP w
  box : ∀ x ∈ L, W.heap[x.1]? = some (.cells x.2.1 x.2.2 (0, 0))
section
variable {w W W' : World} {L : List (Nat × Array Value × TypeId)}
theorem Sg.tab (h : Sg w W L) : TabP W := h.tab0.later h.below
theorem Sg.start (h : TabP w) : Sg w w [] := ⟨Below.refl _ _, h, fun _ hx => nomatch hx⟩
theorem Sg.step (h : Sg w W L) (hb : Below W.heap.size W W') : Sg w W' L := ⟨below_on h.below hb h.below.size, h.tab0, fun x hx => row_kept (h.box x hx) hb⟩
theorem Sg.add (h : Sg w W L) (cs : Array Value) (t : TypeId) : Sg w (W.alloc (.cells cs t)) ((W.heap.size, cs, t) :: L) := by
  refine ⟨(h.step (al_f _ _)).below, h.tab0, fun x hx => ?_⟩
  rcases List.mem_cons.1 hx with rfl | hx
  · exact new_f _ _ _ _ rfl
  · exact (h.step (al_f _ _)).box x hx
theorem Sg.add2 (h : Sg w W L) (cs ds : Array Value) (t u : TypeId) : Sg w ((W.alloc (.cells cs t)).alloc (.cells ds u)) ((W.heap.size + 1, ds, u) :: (W.heap.size, cs, t) :: L) := by
  have h2 := (h.add cs t).add ds u
  rw [World.size_alloc] at h2
  exact h2
theorem Sg.add3 (h : Sg w W L) (cs ds es : Array Value) (t u v : TypeId) : Sg w (((W.alloc (.cells cs t)).alloc (.cells ds u)).alloc (.cells es v)) ((W.heap.size + 1 + 1, es, v) :: (W.heap.size + 1, ds, u) :: (W.heap.size, cs, t) :: L) := by
  have h2 := (h.add2 cs ds t u).add es v
  rw [World.size_alloc, World.size_alloc] at h2
  exact h2
theorem Sg.sub (h : Sg w W L) (M : List (Nat × Array Value × TypeId)) (hs : ∀ x ∈ M, x ∈ L) : Sg w W M := ⟨h.below, h.tab0, fun x hx => h.box x (hs x hx)⟩
theorem Sg.c (h : Sg w W L) (i : Nat) {g : Nat} {cs : Array Value} {t : TypeId} (hi : L[i]? = some (g, cs, t)) (j : Nat) {v : Value} (hv : cs[j]? = some v) : W.cell? ⟨g, j, none⟩ = some v := by
  rw [cell_of_row W g j _ _ _ (h.box (g, cs, t) (List.mem_of_getElem? hi))]; exact hv
theorem Sg.f (h : Sg w W L) (i : Nat) {g : Nat} {cs : Array Value} {t : TypeId} (hi : L[i]? = some (g, cs, t)) (j : Nat) : W.frozen? ⟨g, j, none⟩ = false :=
  frozen_of_row W g j _ _ (h.box (g, cs, t) (List.mem_of_getElem? hi))
theorem Sg.lt (h : Sg w W L) : ∀ x ∈ L, x.1 < W.heap.size := fun x hx => (Array.getElem?_eq_some_iff.1 (h.box x hx)).1
theorem Sg.put (h : Sg w W L) {g : Nat} {a b : ByteArray} (hm : (g, #[.string a, .string b], 23) ∈ L) (hg : w.heap.size ≤ g) (M : List (Nat × Array Value × TypeId)) (hM : ∀ x ∈ M, x ∈ L ∧ x.1 ≠ g) (N D : ByteArray) :
    Sg w ((W.setCell ⟨g, 0, none⟩ (.string N)).setCell ⟨g, 1, none⟩ (.string D)) ((g, #[.string N, .string D], 23) :: M) := by
  refine ⟨(h.below.setCell (p := ⟨g, 0, none⟩) hg _).setCell (p := ⟨g, 1, none⟩) hg _, h.tab0, fun x hx => ?_⟩
  rcases List.mem_cons.1 hx with rfl | hx
  · exact two_strs (h.box _ hm) N D
  · exact ((heap_setCell_other _ _ _ _ (hM x hx).2).trans (heap_setCell_other _ _ _ _ (hM x hx).2)).trans (h.box x (hM x hx).1)
end
theorem hund4 {n : Nat} (h : n < 10 ^ 4) : n < 10 ^ 100 := Nat.lt_of_lt_of_le h (Nat.pow_le_pow_right (by omega) (by omega))
theorem qAdd_row {a b c d x y : ByteArray} {e : Int} (h : addQ a b c d = (x, y, e)) (W : World) (hW : TabP W) : Calls Tryz.prog 38 #[.agg #[.string a, .string b], .agg #[.string c, .string d]] W fun ee w' => ee = .returned (.tuple #[.agg #[.string x, .string y], .int .i64 e]) ∧ Below W.heap.size W w' := by
  have k := qAdd_any a b c d W hW
  unfold Answers at k
  rw [h] at k
  exact k
theorem qSub_row {a b c d x y : ByteArray} {e : Int} (h : subQ a b c d = (x, y, e)) (W : World) (hW : TabP W) : Calls Tryz.prog 40 #[.agg #[.string a, .string b], .agg #[.string c, .string d]] W fun ee w' => ee = .returned (.tuple #[.agg #[.string x, .string y], .int .i64 e]) ∧ Below W.heap.size W w' := by
  have k := qSub_any a b c d W hW
  unfold Answers at k
  rw [h] at k
  exact k
theorem qMul_row {a b c d x y : ByteArray} {e : Int} (h : mulQ a b c d = (x, y, e)) (W : World) (hW : TabP W) : Calls Tryz.prog 39 #[.agg #[.string a, .string b], .agg #[.string c, .string d]] W fun ee w' => ee = .returned (.tuple #[.agg #[.string x, .string y], .int .i64 e]) ∧ Below W.heap.size W w' := by
  have k := qMul_any a b c d W hW
  unfold Answers at k
  rw [h] at k
  exact k
theorem bz (e : Int) : ((e == 0) = true ∧ decide (e = 0) = true ∧ Hid (e = 0)) ∨ ((e == 0) = false ∧ decide (e = 0) = false ∧ Hid (e ≠ 0)) := by
  by_cases h : e = 0
  · exact .inl ⟨by rw [h]; rfl, decide_eq_true h, Lib.hid h⟩
  · exact .inr ⟨beq_false_of_ne h, decide_eq_false h, Lib.hid h⟩
abbrev rat (g : Nat) (a b : ByteArray) : Nat × Array Value × TypeId := (g, #[.string a, .string b], 23)
abbrev rat4 (g : Nat) (cs : Array Value) : Nat × Array Value × TypeId := (g, cs, 31)
abbrev err4 (g : Nat) (cs : Array Value) : Nat × Array Value × TypeId := (g, cs, 33)
abbrev ints4 (a b c d : Int) : Array Value := #[.int .i64 a, .int .i64 b, .int .i64 c, .int .i64 d]

set_option maxRecDepth 100000 in
set_option maxHeartbeats 16000000 in
theorem RationalField_any (x0 x1 x2 x3 y0 y1 y2 y3 z0 z1 : Int) (hx0 : -9223372036854775808 ≤ x0) (kx0 : x0 ≤ 9223372036854775807) (hx1 : -9223372036854775808 ≤ x1) (kx1 : x1 ≤ 9223372036854775807) (hx2 : -9223372036854775808 ≤ x2) (kx2 : x2 ≤ 9223372036854775807) (hx3 : -9223372036854775808 ≤ x3) (kx3 : x3 ≤ 9223372036854775807)
    (hy0 : -9223372036854775808 ≤ y0) (ky0 : y0 ≤ 9223372036854775807) (hy1 : -9223372036854775808 ≤ y1) (ky1 : y1 ≤ 9223372036854775807) (hy2 : -9223372036854775808 ≤ y2) (ky2 : y2 ≤ 9223372036854775807) (hy3 : -9223372036854775808 ≤ y3) (ky3 : y3 ≤ 9223372036854775807)
    (hz0 : -9223372036854775808 ≤ z0) (kz0 : z0 ≤ 9223372036854775807) (hz1 : -9223372036854775808 ≤ z1) (kz1 : z1 ≤ 9223372036854775807) (long : Bool) (w : World) (ht : TabP w) :
    Calls Tryz.prog 6 #[.agg #[.int .i64 x0, .int .i64 x1, .int .i64 x2, .int .i64 x3], .agg #[.int .i64 y0, .int .i64 y1, .int .i64 y2, .int .i64 y3], .agg #[.int .i64 z0, .int .i64 z1], .bool long] w fun e w' => e = .returned (.bool true) ∧ Below w.heap.size w w' := by
  have HN := Lib.hid ((Sg.start ht).add3 (ints4 x0 x1 x2 x3) (ints4 y0 y1 y2 y3) #[.int .i64 z0, .int .i64 z1] 24 24 25)
  have HS := Lib.hid qsane_any
  have S1 := Lib.hid (rSmall_any x0 x1 hx0 kx0 hx1 kx1)
  have S2 := Lib.hid (rSmall_any y0 y1 hy0 ky0 hy1 ky1)
  have S3 := Lib.hid (rSmall_any z0 z1 hz0 kz0 hz1 kz1)
  have L1 := Lib.hid (rLong_any x0 x1 x2 x3 hx0 kx0 hx1 kx1 hx2 kx2 hx3 kx3)
  have L2 := Lib.hid (rLong_any y0 y1 y2 y3 hy0 ky0 hy1 ky1 hy2 ky2 hy3 ky3)
  clear ht hx0 kx0 hx1 kx1 hx2 kx2 hx3 kx3 hy0 ky0 hy1 ky1 hy2 ky2 hy3 ky3 hz0 kz0 hz1 kz1
  go_enter Tryz.func6, Tryz.ntmps6
  go_upto_region 2 with (go_at_call 11; (with_reducible refine (HS.out _ HN.out.tab).mono ?_); rintro e w0 ⟨rfl, hB⟩; replace HN := Lib.hid (HN.out.step hB); clear hB)
  have c0 := HN.out.c 2 rfl 0 rfl
  have c1 := HN.out.c 2 rfl 1 rfl
  go_upto_region 3 with (go_at_call 14; (with_reducible refine (S1.out _ HN.out.tab).mono ?_); rintro e w1 ⟨p, hp, hp1, hp2, rfl, hB⟩; have HW1 := Lib.hid (HN.out.step hB); replace HN := Lib.hid (HW1.out.add #[.string (T p.1), .string (T p.2)] 23); clear hB c0 c1)
  have c0 := HN.out.c 2 rfl 0 rfl
  have c1 := HN.out.c 2 rfl 1 rfl
  go_upto_region 4 with (go_at_call 14; (with_reducible refine (S2.out _ HN.out.tab).mono ?_); rintro e w2 ⟨q, hq, hq1, hq2, rfl, hB⟩; have HW2 := Lib.hid (HN.out.step hB); replace HN := Lib.hid (HW2.out.add #[.string (T q.1), .string (T q.2)] 23); clear hB c0 c1)
  have c0 := HN.out.c 2 rfl 0 rfl
  have c1 := HN.out.c 2 rfl 1 rfl
  go_upto_region 5 with (go_at_call 14; (with_reducible refine (S3.out _ HN.out.tab).mono ?_); rintro e w3 ⟨r, hr, hr1, hr2, rfl, hB⟩; have HW3 := Lib.hid (HN.out.step hB); replace HN := Lib.hid (HW3.out.add #[.string (T r.1), .string (T r.2)] 23); clear hB c0 c1)
  clear hr1 hr2 S1 S2 S3 HS
  refine wp_world fun W hW => ?_
  rw [← hW] at HN
  have hl := HN.out.lt
  have k1 := hl (rat w1.heap.size (T p.1) (T p.2)) (by simp)
  have k3 : w.heap.size + 1 + 1 < w1.heap.size ∧ w1.heap.size < w2.heap.size ∧ w2.heap.size < w3.heap.size := by
    have a1 := HW1.out.lt (w.heap.size + 1 + 1, #[.int .i64 z0, .int .i64 z1], 25) (by simp)
    have a2 := HW2.out.lt (rat w1.heap.size (T p.1) (T p.2)) (by simp)
    have a3 := HW3.out.lt (rat w2.heap.size (T q.1) (T q.2)) (by simp)
    exact ⟨a1, a2, a3⟩
  clear hW hl k1 HW1 HW2 HW3
  go_upto_if 52 with (fail)
  go_cut [52] (fun _ wx => ∃ p q : Int × Int, FV p ∧ FV q ∧ (p.1.natAbs < 10 ^ 100 ∧ p.2.natAbs < 10 ^ 100) ∧ (long = false → q.1.natAbs < 10 ^ 4 ∧ q.2.natAbs < 10 ^ 4) ∧ Sg w wx [rat w3.heap.size (T r.1) (T r.2), rat w2.heap.size (T q.1) (T q.2), rat w1.heap.size (T p.1) (T p.2)])
  case first =>
    cases long with
    | false =>
      go_wp2_with fail
      go_meet
      exact ⟨p, q, hp, hq, ⟨hund4 hp1, hund4 hp2⟩, fun _ => ⟨hq1, hq2⟩, HN.out.sub _ (by simp)⟩
    | true =>
      clear hp hp1 hp2 hq hq1 hq2
      have c0 := HN.out.c 5 rfl 0 rfl
      have c1 := HN.out.c 5 rfl 1 rfl
      have c2 := HN.out.c 5 rfl 2 rfl
      have c3 := HN.out.c 5 rfl 3 rfl
      go_upto_region 7 with (go_at_call 13; (with_reducible refine (L1.out _).mono ?_); rintro e w4 ⟨p', hp, hp1, hp2, rfl, hB⟩; replace HN := Lib.hid (HN.out.step hB); clear hB c0 c1 c2 c3; have f0 := HN.out.f 2 rfl 0; have f1 := HN.out.f 2 rfl 1; have c0 := HN.out.c 2 rfl 0 rfl; have c1 := HN.out.c 2 rfl 1 rfl)
      replace HN := Lib.hid (HN.out.put (g := w1.heap.size) (a := T p.1) (b := T p.2) (by simp) (by omega) [rat w3.heap.size (T r.1) (T r.2), rat w2.heap.size (T q.1) (T q.2), (w.heap.size + 1, ints4 y0 y1 y2 y3, 24)] (by
        intro x hx
        simp only [List.mem_cons, List.not_mem_nil, or_false] at hx
        rcases hx with rfl | rfl | rfl
        · exact ⟨by simp, by simp only; omega⟩
        · exact ⟨by simp, by simp only; omega⟩
        · exact ⟨by simp, by simp only; omega⟩) (T p'.1) (T p'.2))
      clear f0 f1 c0 c1
      refine wp_world fun W hW => ?_
      rw [← hW] at HN
      clear hW
      have c0 := HN.out.c 3 rfl 0 rfl
      have c1 := HN.out.c 3 rfl 1 rfl
      have c2 := HN.out.c 3 rfl 2 rfl
      have c3 := HN.out.c 3 rfl 3 rfl
      go_wp2_with (go_at_call 13; (with_reducible refine (L2.out _).mono ?_); rintro e w5 ⟨q', hq, hq1, hq2, rfl, hB⟩; replace HN := Lib.hid (HN.out.step hB); clear hB c0 c1 c2 c3; have f0 := HN.out.f 2 rfl 0; have f1 := HN.out.f 2 rfl 1; have c0 := HN.out.c 2 rfl 0 rfl; have c1 := HN.out.c 2 rfl 1 rfl)
      replace HN := Lib.hid (HN.out.put (g := w2.heap.size) (a := T q.1) (b := T q.2) (by simp) (by omega) [rat w3.heap.size (T r.1) (T r.2), rat w1.heap.size (T p'.1) (T p'.2)] (by
        intro x hx
        simp only [List.mem_cons, List.not_mem_nil, or_false] at hx
        rcases hx with rfl | rfl
        · exact ⟨by simp, by simp only; omega⟩
        · exact ⟨by simp, by simp only; omega⟩) (T q'.1) (T q'.2))
      go_meet
      exact ⟨p', q', hp, hq, ⟨hp1, hp2⟩, (fun h => nomatch h), HN.out.sub _ (by simp)⟩
  case rest =>
    as_aux_lemma =>
      obtain ⟨p', q', hp', hq', hbp, hbq, hsg⟩ := hcut
      clear HN L1 L2 hp hq hp1 hp2 hq1 hq2
      have HN := Lib.hid hsg
      clear hsg k3
      obtain ⟨r01, r02, e0, F0⟩ := f_row (addQ (T p'.1) (T p'.2) (T q'.1) (T q'.2))
      obtain ⟨r11, r12, e1, F1⟩ := f_row (subQ (T p'.1) (T p'.2) (T q'.1) (T q'.2))
      obtain ⟨r21, r22, e2, F2⟩ := f_row (mulQ (T p'.1) (T p'.2) (T q'.1) (T q'.2))
      obtain ⟨r31, r32, e3, F3⟩ := f_row (divQ (T p'.1) (T p'.2) (T q'.1) (T q'.2))
      obtain ⟨s11, s12, f1, G1⟩ := f_row (subQ (T q'.1) (T q'.2) (T p'.1) (T p'.2))
      obtain ⟨s31, s32, f3, G3⟩ := f_row (divQ (T q'.1) (T q'.2) (T p'.1) (T p'.2))
      obtain ⟨b01, b02, g0, H0⟩ := f_row (addQ (T q'.1) (T q'.2) (T r.1) (T r.2))
      obtain ⟨b11, b12, g1, H1⟩ := f_row (subQ (T q'.1) (T q'.2) (T r.1) (T r.2))
      obtain ⟨b21, b22, g2, H2⟩ := f_row (mulQ (T q'.1) (T q'.2) (T r.1) (T r.2))
      obtain ⟨b31, b32, g3, H3⟩ := f_row (divQ (T q'.1) (T q'.2) (T r.1) (T r.2))
      obtain ⟨a01, a02, h0, I0⟩ := f_row (addQ r01 r02 (T r.1) (T r.2))
      obtain ⟨a11, a12, h1, I1⟩ := f_row (subQ r01 r02 (T r.1) (T r.2))
      obtain ⟨a21, a22, h2, I2⟩ := f_row (mulQ r01 r02 (T r.1) (T r.2))
      obtain ⟨a31, a32, h3, I3⟩ := f_row (divQ r01 r02 (T r.1) (T r.2))
      obtain ⟨o1, o2, i0, J1⟩ := f_row (addQ (T p'.1) (T p'.2) b01 b02)
      obtain ⟨t1, t2, j0, J2⟩ := f_row (mulQ (T p'.1) (T p'.2) b21 b22)
      obtain ⟨l1, l2, k0, J3⟩ := f_row (mulQ r21 r22 (T r.1) (T r.2))
      obtain ⟨c1, c2, l0, J4⟩ := f_row (mulQ (T p'.1) (T p'.2) (T r.1) (T r.2))
      obtain ⟨m1, m2, m0, J5⟩ := f_row (addQ c1 c2 b21 b22)
      obtain ⟨n1, n2, q0, J6⟩ := f_row (subQ r01 r02 (T q'.1) (T q'.2))
      obtain ⟨u1, u2, p0, J7⟩ := f_row (mulQ r31 r32 (T q'.1) (T q'.2))
      have G0 := (addQ_comm (T p'.1) (T p'.2) (T q'.1) (T q'.2)).trans F0
      have G2 := (mulQ_comm (T p'.1) (T p'.2) (T q'.1) (T q'.2)).trans F2
      have P1 : long = false → e0 = 0 ∧ e2 = 0 := fun h => by
        obtain ⟨d1, d2⟩ := hbq h
        obtain ⟨v1, v2, -, -⟩ := ord_ans hp' hq' hbp.1 hbp.2 d1 d2
        exact ⟨(okA_0 (v1.symm.trans F0)).2.2, (okA_0 (v2.symm.trans F2)).2.2⟩
      have P2 : e0 = 0 ∧ g0 = 0 ∧ h0 = 0 ∧ i0 = 0 → a01 = o1 ∧ a02 = o2 := fun ⟨z1, z2, z3, z4⟩ => by subst z1; subst z2; subst z3; subst z4; exact f_assoc F0 H0 I0 J1
      have P3 : e2 = 0 ∧ g2 = 0 ∧ j0 = 0 ∧ k0 = 0 → t1 = l1 ∧ t2 = l2 := fun ⟨z1, z2, z3, z4⟩ => by subst z1; subst z2; subst z3; subst z4; exact f_massoc F2 H2 J2 J3
      have P4 : e0 = 0 ∧ l0 = 0 ∧ g2 = 0 ∧ m0 = 0 ∧ h2 = 0 → m1 = a21 ∧ m2 = a22 := fun ⟨z1, z2, z3, z4, z5⟩ => by subst z1; subst z2; subst z3; subst z4; subst z5; exact f_distrib F0 J4 H2 J5 I2
      have P5 : e0 = 0 ∧ q0 = 0 → n1 = T p'.1 ∧ n2 = T p'.2 := fun ⟨z1, z2⟩ => by subst z1; subst z2; exact f_back F0 J6
      have P6 : e3 = 0 ∧ p0 = 0 → u1 = T p'.1 ∧ u2 = T p'.2 := fun ⟨z1, z2⟩ => by subst z1; subst z2; exact f_again F3 J7
      have C1 := fun (W : World) (h : TabP W) => four_any (T p'.1) (T p'.2) (T q'.1) (T q'.2) W h r01 r02 r11 r12 r21 r22 r31 r32 e0 e1 e2 e3 F0 F1 F2 F3
      have C2 := fun (W : World) (h : TabP W) => four_any (T q'.1) (T q'.2) (T p'.1) (T p'.2) W h r01 r02 s11 s12 r21 r22 s31 s32 e0 f1 e2 f3 G0 G1 G2 G3
      have C3 := fun (W : World) (h : TabP W) => four_any (T q'.1) (T q'.2) (T r.1) (T r.2) W h b01 b02 b11 b12 b21 b22 b31 b32 g0 g1 g2 g3 H0 H1 H2 H3
      have C4 := fun (W : World) (h : TabP W) => four_any r01 r02 (T r.1) (T r.2) W h a01 a02 a11 a12 a21 a22 a31 a32 h0 h1 h2 h3 I0 I1 I2 I3
      have C5 := fun (W : World) (h : TabP W) => qAdd_row J1 W h
      have C6 := fun (W : World) (h : TabP W) => qMul_row J2 W h
      have C7 := fun (W : World) (h : TabP W) => qMul_row J3 W h
      have C8 := fun (W : World) (h : TabP W) => qMul_row J4 W h
      have C9 := fun (W : World) (h : TabP W) => qAdd_row J5 W h
      have C10 := fun (W : World) (h : TabP W) => qMul_row I2 W h
      have C11 := fun (W : World) (h : TabP W) => qSub_row J6 W h
      have C12 := fun (W : World) (h : TabP W) => qMul_row J7 W h
      clear F0 F1 F2 F3 G1 G3 H0 H1 H2 H3 I0 I1 I2 I3 J1 J2 J3 J4 J5 J6 J7 G0 G2 hp' hq' hbp hbq hr
      generalize T p'.1 = A1 at *
      generalize T p'.2 = A2 at *
      generalize T q'.1 = B1 at *
      generalize T q'.2 = B2 at *
      generalize T r.1 = X1 at *
      generalize T r.2 = X2 at *
      replace C1 := Lib.hid C1
      replace C2 := Lib.hid C2
      replace C3 := Lib.hid C3
      replace C4 := Lib.hid C4
      replace C5 := Lib.hid C5
      replace C6 := Lib.hid C6
      replace C7 := Lib.hid C7
      replace C8 := Lib.hid C8
      replace C9 := Lib.hid C9
      replace C10 := Lib.hid C10
      replace C11 := Lib.hid C11
      replace C12 := Lib.hid C12
      replace P1 := Lib.hid P1
      replace P2 := Lib.hid P2
      replace P3 := Lib.hid P3
      replace P4 := Lib.hid P4
      replace P5 := Lib.hid P5
      replace P6 := Lib.hid P6
      obtain ⟨ga, hga⟩ : ∃ g, w1.heap.size = g := ⟨_, rfl⟩
      obtain ⟨gb, hgb⟩ : ∃ g, w2.heap.size = g := ⟨_, rfl⟩
      obtain ⟨gc, hgc⟩ : ∃ g, w3.heap.size = g := ⟨_, rfl⟩
      rw [hga, hgb, hgc] at HN ⊢
      clear hga hgb hgc
      have y0 := HN.out.c 2 rfl 0 rfl
      have y1 := HN.out.c 2 rfl 1 rfl
      have y2 := HN.out.c 1 rfl 0 rfl
      have y3 := HN.out.c 1 rfl 1 rfl
      go_upto_region 9 with (go_at_call 15; (with_reducible refine (C1.out _ HN.out.tab).mono ?_); rintro ee ww ⟨rfl, hB⟩; replace HN := Lib.hid ((HN.out.step hB).add2 (rz r01 r02 r11 r12 r21 r22 r31 r32) (ez e0 e1 e2 e3) 31 33); clear hB y0 y1 y2 y3)
      obtain ⟨g1_, hg1_⟩ : ∃ g, ww.heap.size = g := ⟨_, rfl⟩
      refine wp_world fun W hW => ?_
      rw [← hW] at HN
      rw [hg1_] at HN ⊢
      clear hW hg1_
      have y0 := HN.out.c 4 rfl 0 rfl
      have y1 := HN.out.c 4 rfl 1 rfl
      have y2 := HN.out.c 3 rfl 0 rfl
      have y3 := HN.out.c 3 rfl 1 rfl
      go_upto_region 10 with (go_at_call 15; (with_reducible refine (C2.out _ HN.out.tab).mono ?_); rintro ee ww ⟨rfl, hB⟩; replace HN := Lib.hid ((HN.out.step hB).add2 (rz r01 r02 s11 s12 r21 r22 s31 s32) (ez e0 f1 e2 f3) 31 33); clear hB y0 y1 y2 y3)
      obtain ⟨g2_, hg2_⟩ : ∃ g, ww.heap.size = g := ⟨_, rfl⟩
      refine wp_world fun W hW => ?_
      rw [← hW] at HN
      rw [hg2_] at HN ⊢
      clear hW hg2_
      have y0 := HN.out.c 3 rfl 0 rfl
      have y1 := HN.out.c 3 rfl 1 rfl
      have y2 := HN.out.c 3 rfl 4 rfl
      have y3 := HN.out.c 3 rfl 5 rfl
      have y4 := HN.out.c 1 rfl 0 rfl
      have y5 := HN.out.c 1 rfl 1 rfl
      have y6 := HN.out.c 1 rfl 4 rfl
      have y7 := HN.out.c 1 rfl 5 rfl
      have y8 := HN.out.c 2 rfl 0 rfl
      have y9 := HN.out.c 2 rfl 2 rfl
      have y10 := HN.out.c 0 rfl 0 rfl
      have y11 := HN.out.c 0 rfl 2 rfl
      go_cut [108] (fun v wx => v = .bool false ∧ Sg w wx [err4 (g1_ + 1) (ez e0 e1 e2 e3), rat4 g1_ (rz r01 r02 r11 r12 r21 r22 r31 r32), rat gc X1 X2, rat gb B1 B2, rat ga A1 A2])
      case first =>
        as_aux_lemma =>
          cases long with
          | true =>
            go_wp2_with fail
            go_meet
            exact ⟨rfl, HN.out.sub _ (by simp)⟩
          | false =>
            obtain ⟨rfl, rfl⟩ := P1.out rfl
            go_wp2_with fail
            go_meet
            exact ⟨rfl, HN.out.sub _ (by simp)⟩
      case rest =>
        as_aux_lemma =>
          obtain ⟨rfl, hsg⟩ := hcut
          clear HN
          have HN := Lib.hid hsg
          clear hsg
          clear P1 C1 C2 y0 y1 y2 y3 y4 y5 y6 y7 y8 y9 y10 y11
          have y0 := HN.out.c 3 rfl 0 rfl
          have y1 := HN.out.c 3 rfl 1 rfl
          have y2 := HN.out.c 2 rfl 0 rfl
          have y3 := HN.out.c 2 rfl 1 rfl
          go_upto_region 13 with (go_at_call 15; (with_reducible refine (C3.out _ HN.out.tab).mono ?_); rintro ee ww ⟨rfl, hB⟩; replace HN := Lib.hid ((HN.out.step hB).add2 (rz b01 b02 b11 b12 b21 b22 b31 b32) (ez g0 g1 g2 g3) 31 33); clear hB y0 y1 y2 y3)
          obtain ⟨g3_, hg3_⟩ : ∃ g, ww.heap.size = g := ⟨_, rfl⟩
          refine wp_world fun W hW => ?_
          rw [← hW] at HN
          rw [hg3_] at HN ⊢
          clear hW hg3_
          have y0 := HN.out.c 3 rfl 0 rfl
          have y1 := HN.out.c 3 rfl 1 rfl
          have y2 := HN.out.c 4 rfl 0 rfl
          have y3 := HN.out.c 4 rfl 1 rfl
          go_upto_region 14 with (go_at_call 15; (with_reducible refine (C4.out _ HN.out.tab).mono ?_); rintro ee ww ⟨rfl, hB⟩; replace HN := Lib.hid ((HN.out.step hB).add2 (rz a01 a02 a11 a12 a21 a22 a31 a32) (ez h0 h1 h2 h3) 31 33); clear hB y0 y1 y2 y3)
          obtain ⟨g4_, hg4_⟩ : ∃ g, ww.heap.size = g := ⟨_, rfl⟩
          refine wp_world fun W hW => ?_
          rw [← hW] at HN
          rw [hg4_] at HN ⊢
          clear hW hg4_
          have y0 := HN.out.c 8 rfl 0 rfl
          have y1 := HN.out.c 8 rfl 1 rfl
          have y2 := HN.out.c 3 rfl 0 rfl
          have y3 := HN.out.c 3 rfl 1 rfl
          go_upto_region 15 with (go_at_call 38; (with_reducible refine (C5.out _ HN.out.tab).mono ?_); rintro ee ww ⟨rfl, hB⟩; replace HN := Lib.hid ((HN.out.step hB).add #[.string o1, .string o2] 23); clear hB y0 y1 y2 y3)
          obtain ⟨g5_, hg5_⟩ : ∃ g, ww.heap.size = g := ⟨_, rfl⟩
          refine wp_world fun W hW => ?_
          rw [← hW] at HN
          rw [hg5_] at HN ⊢
          clear hW hg5_
          have y0 := HN.out.c 5 rfl 0 rfl
          have y1 := HN.out.c 3 rfl 0 rfl
          have y2 := HN.out.c 1 rfl 0 rfl
          have y3 := HN.out.c 2 rfl 0 rfl
          have y4 := HN.out.c 2 rfl 1 rfl
          have y5 := HN.out.c 0 rfl 0 rfl
          have y6 := HN.out.c 0 rfl 1 rfl
          go_cut [151] (fun v wx => v = .bool false ∧ Sg w wx [err4 (g3_ + 1) (ez g0 g1 g2 g3), rat4 g3_ (rz b01 b02 b11 b12 b21 b22 b31 b32), err4 (g1_ + 1) (ez e0 e1 e2 e3), rat4 g1_ (rz r01 r02 r11 r12 r21 r22 r31 r32), rat gc X1 X2, rat gb B1 B2, rat ga A1 A2])
          case first =>
            as_aux_lemma =>
              by_cases hall : e0 = 0 ∧ g0 = 0 ∧ h0 = 0 ∧ i0 = 0
              · obtain ⟨rfl, rfl⟩ := P2.out hall
                obtain ⟨rfl, rfl, rfl, rfl⟩ := hall
                go_wp2_with fail
                go_meet
                exact ⟨rfl, HN.out.sub _ (by simp)⟩
              · skip
                rcases bz e0 with ⟨d0, v0, z0⟩ | ⟨d0, v0, z0⟩
                rotate_left
                · go_wp2_with fail
                  go_meet
                  exact ⟨rfl, HN.out.sub _ (by simp)⟩
                rcases bz g0 with ⟨d1, v1, z1⟩ | ⟨d1, v1, z1⟩
                rotate_left
                · go_wp2_with fail
                  go_meet
                  exact ⟨rfl, HN.out.sub _ (by simp)⟩
                rcases bz h0 with ⟨d2, v2, z2⟩ | ⟨d2, v2, z2⟩
                rotate_left
                · go_wp2_with fail
                  go_meet
                  exact ⟨rfl, HN.out.sub _ (by simp)⟩
                rcases bz i0 with ⟨d3, v3, z3⟩ | ⟨d3, v3, z3⟩
                rotate_left
                · go_wp2_with fail
                  go_meet
                  exact ⟨rfl, HN.out.sub _ (by simp)⟩
                exact absurd ⟨z0.out, z1.out, z2.out, z3.out⟩ hall
          case rest =>
            as_aux_lemma =>
              obtain ⟨rfl, hsg⟩ := hcut
              clear HN
              have HN := Lib.hid hsg
              clear hsg
              clear P2 C3 C4 C5 y0 y1 y2 y3 y4 y5 y6
              have y0 := HN.out.c 6 rfl 0 rfl
              have y1 := HN.out.c 6 rfl 1 rfl
              have y2 := HN.out.c 1 rfl 4 rfl
              have y3 := HN.out.c 1 rfl 5 rfl
              go_upto_region 18 with (go_at_call 39; (with_reducible refine (C6.out _ HN.out.tab).mono ?_); rintro ee ww ⟨rfl, hB⟩; replace HN := Lib.hid ((HN.out.step hB).add #[.string t1, .string t2] 23); clear hB y0 y1 y2 y3)
              obtain ⟨g6_, hg6_⟩ : ∃ g, ww.heap.size = g := ⟨_, rfl⟩
              refine wp_world fun W hW => ?_
              rw [← hW] at HN
              rw [hg6_] at HN ⊢
              clear hW hg6_
              have y0 := HN.out.c 4 rfl 4 rfl
              have y1 := HN.out.c 4 rfl 5 rfl
              have y2 := HN.out.c 5 rfl 0 rfl
              have y3 := HN.out.c 5 rfl 1 rfl
              go_upto_region 19 with (go_at_call 39; (with_reducible refine (C7.out _ HN.out.tab).mono ?_); rintro ee ww ⟨rfl, hB⟩; replace HN := Lib.hid ((HN.out.step hB).add #[.string l1, .string l2] 23); clear hB y0 y1 y2 y3)
              obtain ⟨g7_, hg7_⟩ : ∃ g, ww.heap.size = g := ⟨_, rfl⟩
              refine wp_world fun W hW => ?_
              rw [← hW] at HN
              rw [hg7_] at HN ⊢
              clear hW hg7_
              have y0 := HN.out.c 4 rfl 2 rfl
              have y1 := HN.out.c 2 rfl 2 rfl
              have y2 := HN.out.c 1 rfl 0 rfl
              have y3 := HN.out.c 1 rfl 1 rfl
              have y4 := HN.out.c 0 rfl 0 rfl
              have y5 := HN.out.c 0 rfl 1 rfl
              go_cut [186] (fun v wx => v = .bool false ∧ Sg w wx [err4 (g3_ + 1) (ez g0 g1 g2 g3), rat4 g3_ (rz b01 b02 b11 b12 b21 b22 b31 b32), err4 (g1_ + 1) (ez e0 e1 e2 e3), rat4 g1_ (rz r01 r02 r11 r12 r21 r22 r31 r32), rat gc X1 X2, rat gb B1 B2, rat ga A1 A2])
              case first =>
                as_aux_lemma =>
                  by_cases hall : e2 = 0 ∧ g2 = 0 ∧ j0 = 0 ∧ k0 = 0
                  · obtain ⟨rfl, rfl⟩ := P3.out hall
                    obtain ⟨rfl, rfl, rfl, rfl⟩ := hall
                    go_wp2_with fail
                    go_meet
                    exact ⟨rfl, HN.out.sub _ (by simp)⟩
                  · skip
                    rcases bz e2 with ⟨d0, v0, z0⟩ | ⟨d0, v0, z0⟩
                    rotate_left
                    · go_wp2_with fail
                      go_meet
                      exact ⟨rfl, HN.out.sub _ (by simp)⟩
                    rcases bz g2 with ⟨d1, v1, z1⟩ | ⟨d1, v1, z1⟩
                    rotate_left
                    · go_wp2_with fail
                      go_meet
                      exact ⟨rfl, HN.out.sub _ (by simp)⟩
                    rcases bz j0 with ⟨d2, v2, z2⟩ | ⟨d2, v2, z2⟩
                    rotate_left
                    · go_wp2_with fail
                      go_meet
                      exact ⟨rfl, HN.out.sub _ (by simp)⟩
                    rcases bz k0 with ⟨d3, v3, z3⟩ | ⟨d3, v3, z3⟩
                    rotate_left
                    · go_wp2_with fail
                      go_meet
                      exact ⟨rfl, HN.out.sub _ (by simp)⟩
                    exact absurd ⟨z0.out, z1.out, z2.out, z3.out⟩ hall
              case rest =>
                as_aux_lemma =>
                  obtain ⟨rfl, hsg⟩ := hcut
                  clear HN
                  have HN := Lib.hid hsg
                  clear hsg
                  clear P3 C6 C7 y0 y1 y2 y3 y4 y5
                  have y0 := HN.out.c 6 rfl 0 rfl
                  have y1 := HN.out.c 6 rfl 1 rfl
                  have y2 := HN.out.c 4 rfl 0 rfl
                  have y3 := HN.out.c 4 rfl 1 rfl
                  go_upto_region 22 with (go_at_call 39; (with_reducible refine (C8.out _ HN.out.tab).mono ?_); rintro ee ww ⟨rfl, hB⟩; replace HN := Lib.hid ((HN.out.step hB).add #[.string c1, .string c2] 23); clear hB y0 y1 y2 y3)
                  obtain ⟨g8_, hg8_⟩ : ∃ g, ww.heap.size = g := ⟨_, rfl⟩
                  refine wp_world fun W hW => ?_
                  rw [← hW] at HN
                  rw [hg8_] at HN ⊢
                  clear hW hg8_
                  have y0 := HN.out.c 0 rfl 0 rfl
                  have y1 := HN.out.c 0 rfl 1 rfl
                  have y2 := HN.out.c 2 rfl 4 rfl
                  have y3 := HN.out.c 2 rfl 5 rfl
                  go_upto_region 23 with (go_at_call 38; (with_reducible refine (C9.out _ HN.out.tab).mono ?_); rintro ee ww ⟨rfl, hB⟩; replace HN := Lib.hid ((HN.out.step hB).add #[.string m1, .string m2] 23); clear hB y0 y1 y2 y3)
                  obtain ⟨g9_, hg9_⟩ : ∃ g, ww.heap.size = g := ⟨_, rfl⟩
                  refine wp_world fun W hW => ?_
                  rw [← hW] at HN
                  rw [hg9_] at HN ⊢
                  clear hW hg9_
                  have y0 := HN.out.c 5 rfl 0 rfl
                  have y1 := HN.out.c 5 rfl 1 rfl
                  have y2 := HN.out.c 6 rfl 0 rfl
                  have y3 := HN.out.c 6 rfl 1 rfl
                  go_upto_region 24 with (go_at_call 39; (with_reducible refine (C10.out _ HN.out.tab).mono ?_); rintro ee ww ⟨rfl, hB⟩; replace HN := Lib.hid ((HN.out.step hB).add #[.string a21, .string a22] 23); clear hB y0 y1 y2 y3)
                  obtain ⟨g10_, hg10_⟩ : ∃ g, ww.heap.size = g := ⟨_, rfl⟩
                  refine wp_world fun W hW => ?_
                  rw [← hW] at HN
                  rw [hg10_] at HN ⊢
                  clear hW hg10_
                  have y0 := HN.out.c 5 rfl 0 rfl
                  have y1 := HN.out.c 3 rfl 2 rfl
                  have y2 := HN.out.c 1 rfl 0 rfl
                  have y3 := HN.out.c 1 rfl 1 rfl
                  have y4 := HN.out.c 0 rfl 0 rfl
                  have y5 := HN.out.c 0 rfl 1 rfl
                  go_cut [231] (fun v wx => v = .bool false ∧ Sg w wx [err4 (g1_ + 1) (ez e0 e1 e2 e3), rat4 g1_ (rz r01 r02 r11 r12 r21 r22 r31 r32), rat gc X1 X2, rat gb B1 B2, rat ga A1 A2])
                  case first =>
                    as_aux_lemma =>
                      by_cases hall : e0 = 0 ∧ l0 = 0 ∧ g2 = 0 ∧ m0 = 0 ∧ h2 = 0
                      · obtain ⟨rfl, rfl⟩ := P4.out hall
                        obtain ⟨rfl, rfl, rfl, rfl, rfl⟩ := hall
                        go_wp2_with fail
                        go_meet
                        exact ⟨rfl, HN.out.sub _ (by simp)⟩
                      · skip
                        rcases bz e0 with ⟨d0, v0, z0⟩ | ⟨d0, v0, z0⟩
                        rotate_left
                        · go_wp2_with fail
                          go_meet
                          exact ⟨rfl, HN.out.sub _ (by simp)⟩
                        rcases bz l0 with ⟨d1, v1, z1⟩ | ⟨d1, v1, z1⟩
                        rotate_left
                        · go_wp2_with fail
                          go_meet
                          exact ⟨rfl, HN.out.sub _ (by simp)⟩
                        rcases bz g2 with ⟨d2, v2, z2⟩ | ⟨d2, v2, z2⟩
                        rotate_left
                        · go_wp2_with fail
                          go_meet
                          exact ⟨rfl, HN.out.sub _ (by simp)⟩
                        rcases bz m0 with ⟨d3, v3, z3⟩ | ⟨d3, v3, z3⟩
                        rotate_left
                        · go_wp2_with fail
                          go_meet
                          exact ⟨rfl, HN.out.sub _ (by simp)⟩
                        rcases bz h2 with ⟨d4, v4, z4⟩ | ⟨d4, v4, z4⟩
                        rotate_left
                        · go_wp2_with fail
                          go_meet
                          exact ⟨rfl, HN.out.sub _ (by simp)⟩
                        exact absurd ⟨z0.out, z1.out, z2.out, z3.out, z4.out⟩ hall
                  case rest =>
                    as_aux_lemma =>
                      obtain ⟨rfl, hsg⟩ := hcut
                      clear HN
                      have HN := Lib.hid hsg
                      clear hsg
                      clear P4 C8 C9 C10 y0 y1 y2 y3 y4 y5
                      have y0 := HN.out.c 1 rfl 0 rfl
                      have y1 := HN.out.c 1 rfl 1 rfl
                      have y2 := HN.out.c 3 rfl 0 rfl
                      have y3 := HN.out.c 3 rfl 1 rfl
                      go_upto_region 27 with (go_at_call 40; (with_reducible refine (C11.out _ HN.out.tab).mono ?_); rintro ee ww ⟨rfl, hB⟩; replace HN := Lib.hid ((HN.out.step hB).add #[.string n1, .string n2] 23); clear hB y0 y1 y2 y3)
                      obtain ⟨g11_, hg11_⟩ : ∃ g, ww.heap.size = g := ⟨_, rfl⟩
                      refine wp_world fun W hW => ?_
                      rw [← hW] at HN
                      rw [hg11_] at HN ⊢
                      clear hW hg11_
                      have y0 := HN.out.c 2 rfl 6 rfl
                      have y1 := HN.out.c 2 rfl 7 rfl
                      have y2 := HN.out.c 4 rfl 0 rfl
                      have y3 := HN.out.c 4 rfl 1 rfl
                      go_upto_region 28 with (go_at_call 39; (with_reducible refine (C12.out _ HN.out.tab).mono ?_); rintro ee ww ⟨rfl, hB⟩; replace HN := Lib.hid ((HN.out.step hB).add #[.string u1, .string u2] 23); clear hB y0 y1 y2 y3)
                      obtain ⟨g12_, hg12_⟩ : ∃ g, ww.heap.size = g := ⟨_, rfl⟩
                      refine wp_world fun W hW => ?_
                      rw [← hW] at HN
                      rw [hg12_] at HN ⊢
                      clear hW hg12_
                      have y0 := HN.out.c 2 rfl 0 rfl
                      have y1 := HN.out.c 2 rfl 3 rfl
                      have y2 := HN.out.c 1 rfl 0 rfl
                      have y3 := HN.out.c 1 rfl 1 rfl
                      have y4 := HN.out.c 0 rfl 0 rfl
                      have y5 := HN.out.c 0 rfl 1 rfl
                      have y6 := HN.out.c 6 rfl 0 rfl
                      have y7 := HN.out.c 6 rfl 1 rfl
                      have fin1 : e0 = 0 ∧ q0 = 0 ∨ ¬ (e0 = 0 ∧ q0 = 0) := Decidable.em _
                      have fin2 : e3 = 0 ∧ p0 = 0 ∨ ¬ (e3 = 0 ∧ p0 = 0) := Decidable.em _
                      rcases fin1 with hv | hv <;> rcases fin2 with hx | hx
                      · obtain ⟨rfl, rfl⟩ := P5.out hv
                        obtain ⟨rfl, rfl⟩ := P6.out hx
                        obtain ⟨rfl, rfl⟩ := hv
                        obtain ⟨rfl, rfl⟩ := hx
                        go_wp2_with fail
                        go_ret
                        exact ⟨rfl, HN.out.below⟩
                      · obtain ⟨rfl, rfl⟩ := P5.out hv
                        obtain ⟨rfl, rfl⟩ := hv
                        go_wp2_with fail
                        all_goals
                          go_ret
                          refine ⟨?_, HN.out.below⟩
                          first | rfl | (exfalso; omega) | (congr 1; congr 1; simp; omega)
                      · obtain ⟨rfl, rfl⟩ := P6.out hx
                        obtain ⟨rfl, rfl⟩ := hx
                        go_wp2_with fail
                        all_goals
                          go_ret
                          refine ⟨?_, HN.out.below⟩
                          first | rfl | (exfalso; omega) | (congr 1; congr 1; simp; omega)
                      · go_wp2_with fail
                        all_goals
                          go_ret
                          refine ⟨?_, HN.out.below⟩
                          first | rfl | (exfalso; omega) | (congr 1; congr 1; simp; omega)

end Go.Proofs.YtjkklgpbblkhaaaGreatDoor

/-
  RationalField: for every input the law returns true, and each argument reads afterwards as it read before.
  Conditions: the variables (the tables of the decimal powers and of the bit counts, and the errors of strconv) hold what the program's own text lays there, which the card ties to that text. The card's set-up speaks of the pruned copy of the project.
-/
namespace Go.Proofs.YtjkklgpbblkhaaaGreatDoor.rationalField
open Go.ChangeShapes Go.WideShapes Go.ChangeAt Go.RowKit
open Go.ChangeMaps (open_string shut_string)

theorem list2 {α : Type} (l : List α) (h : (⟨l⟩ : Array α).size = 2) : ∃ a b, l = [a, b] := by
  match l, h with
  | [a, b], _ => exact ⟨a, b, rfl⟩
theorem list4 {α : Type} (l : List α) (h : (⟨l⟩ : Array α).size = 4) : ∃ a b c d, l = [a, b, c, d] := by
  match l, h with
  | [a, b, c, d], _ => exact ⟨a, b, c, d, rfl⟩
theorem params_ok : ∀ t ∈ Tryz.f6.params.toList, Tryz.prog.readableRec t = true ∧ t < Tryz.prog.types.size := by
  rw [Tryz.params6]
  intro t ht
  simp only [List.mem_cons, List.not_mem_nil, or_false] at ht
  rcases ht with rfl | rfl | rfl | rfl <;> exact ⟨by kernel_rfl, of_decide_eq_true (by kernel_rfl)⟩

set_option maxRecDepth 100000 in
theorem walk_args {H : Type} {enc : TypeId × Value → H} {W : World} {base : Nat} {args : Array Value} {ds : List (DataW H)} {p : List MemPlace}
    (hval : ∀ (j : Nat) t v, Tryz.f6.params[j]? = some t → args[j]? = some v → Value.okWide Tryz.prog W .any base t v)
    (hA : DataW.TrodAll enc Tryz.prog W 0 (fun _ => true) true Tryz.f6.params.toList args.toList ds p) (ht : TabP W) :
    ds.length = 4 ∧ Calls Tryz.prog 6 args W fun e W' => e = .returned (.bool true) ∧ Below W.heap.size W W' := by
  rw [Tryz.params6] at hA hval
  obtain ⟨v0, vs0, d0, ds0, p0, q0, hargs, rfl, rfl, h0, r0⟩ := trodAll_cons hA
  obtain ⟨v1, vs1, d1, ds1, p1, q1, rfl, rfl, rfl, h1, r1⟩ := trodAll_cons r0
  obtain ⟨v2, vs2, d2, ds2, p2, q2, rfl, rfl, rfl, h2, r2⟩ := trodAll_cons r1
  obtain ⟨v3, vs3, d3, ds3, p3, q3, rfl, rfl, rfl, h3, r3⟩ := trodAll_cons r2
  obtain ⟨rfl, rfl, rfl⟩ := trodAll_nil r3
  obtain rfl : args = #[v0, v1, v2, v3] := by cases args; simp_all
  refine ⟨rfl, ?_⟩
  obtain ⟨cs0, rfl, hsz0, _⟩ : ∃ cs, v0 = .agg cs ∧ cs.size = Tryz.prog.cellsOf 24 ∧ Row.okWide Tryz.prog W .any base 24 cs := by
    have := hval 0 24 v0 rfl rfl
    simpa [Value.okWide, Tryz.underlying24] using this
  rw [show Tryz.prog.cellsOf 24 = 4 from by kernel_rfl] at hsz0
  obtain ⟨cl0⟩ := cs0
  obtain ⟨c00, c01, c02, c03, rfl⟩ := list4 cl0 hsz0
  obtain ⟨fuel0, hf0⟩ := h0
  obtain ⟨xs0, m0, rfl, -, -, hxl0, hxs0⟩ := DataW.trod_array Tryz.underlying24 hf0
  have e00 := hxs0 0 (by omega)
  have e01 := hxs0 1 (by omega)
  have e02 := hxs0 2 (by omega)
  have e03 := hxs0 3 (by omega)
  rw [List.getElem?_eq_getElem (by omega), show Tryz.prog.cellsOf 3 = 1 from by kernel_rfl] at e00 e01 e02 e03
  obtain ⟨b00, x00, -, z00⟩ := DataW.trod_int Tryz.underlying3 e00
  obtain ⟨b01, x01, -, z01⟩ := DataW.trod_int Tryz.underlying3 e01
  obtain ⟨b02, x02, -, z02⟩ := DataW.trod_int Tryz.underlying3 e02
  obtain ⟨b03, x03, -, z03⟩ := DataW.trod_int Tryz.underlying3 e03
  simp [Value.cells] at x00 x01 x02 x03
  subst x00 x01 x02 x03
  obtain ⟨l00, u00⟩ := bounds_i64 z00
  obtain ⟨l01, u01⟩ := bounds_i64 z01
  obtain ⟨l02, u02⟩ := bounds_i64 z02
  obtain ⟨l03, u03⟩ := bounds_i64 z03
  obtain ⟨cs1, rfl, hsz1, _⟩ : ∃ cs, v1 = .agg cs ∧ cs.size = Tryz.prog.cellsOf 24 ∧ Row.okWide Tryz.prog W .any base 24 cs := by
    have := hval 1 24 v1 rfl rfl
    simpa [Value.okWide, Tryz.underlying24] using this
  rw [show Tryz.prog.cellsOf 24 = 4 from by kernel_rfl] at hsz1
  obtain ⟨cl1⟩ := cs1
  obtain ⟨c10, c11, c12, c13, rfl⟩ := list4 cl1 hsz1
  obtain ⟨fuel1, hf1⟩ := h1
  obtain ⟨xs1, m1, rfl, -, -, hxl1, hxs1⟩ := DataW.trod_array Tryz.underlying24 hf1
  have e10 := hxs1 0 (by omega)
  have e11 := hxs1 1 (by omega)
  have e12 := hxs1 2 (by omega)
  have e13 := hxs1 3 (by omega)
  rw [List.getElem?_eq_getElem (by omega), show Tryz.prog.cellsOf 3 = 1 from by kernel_rfl] at e10 e11 e12 e13
  obtain ⟨b10, x10, -, z10⟩ := DataW.trod_int Tryz.underlying3 e10
  obtain ⟨b11, x11, -, z11⟩ := DataW.trod_int Tryz.underlying3 e11
  obtain ⟨b12, x12, -, z12⟩ := DataW.trod_int Tryz.underlying3 e12
  obtain ⟨b13, x13, -, z13⟩ := DataW.trod_int Tryz.underlying3 e13
  simp [Value.cells] at x10 x11 x12 x13
  subst x10 x11 x12 x13
  obtain ⟨l10, u10⟩ := bounds_i64 z10
  obtain ⟨l11, u11⟩ := bounds_i64 z11
  obtain ⟨l12, u12⟩ := bounds_i64 z12
  obtain ⟨l13, u13⟩ := bounds_i64 z13
  obtain ⟨cs2, rfl, hsz2, _⟩ : ∃ cs, v2 = .agg cs ∧ cs.size = Tryz.prog.cellsOf 25 ∧ Row.okWide Tryz.prog W .any base 25 cs := by
    have := hval 2 25 v2 rfl rfl
    simpa [Value.okWide, Tryz.underlying25] using this
  rw [show Tryz.prog.cellsOf 25 = 2 from by kernel_rfl] at hsz2
  obtain ⟨cl2⟩ := cs2
  obtain ⟨c20, c21, rfl⟩ := list2 cl2 hsz2
  obtain ⟨fuel2, hf2⟩ := h2
  obtain ⟨xs2, m2, rfl, -, -, hxl2, hxs2⟩ := DataW.trod_array Tryz.underlying25 hf2
  have e20 := hxs2 0 (by omega)
  have e21 := hxs2 1 (by omega)
  rw [List.getElem?_eq_getElem (by omega), show Tryz.prog.cellsOf 3 = 1 from by kernel_rfl] at e20 e21
  obtain ⟨b20, x20, -, z20⟩ := DataW.trod_int Tryz.underlying3 e20
  obtain ⟨b21, x21, -, z21⟩ := DataW.trod_int Tryz.underlying3 e21
  simp [Value.cells] at x20 x21
  subst x20 x21
  obtain ⟨l20, u20⟩ := bounds_i64 z20
  obtain ⟨l21, u21⟩ := bounds_i64 z21
  obtain ⟨a3, rfl, rfl, rfl⟩ := open_bool Tryz.underlying4 (hval 3 4 v3 rfl rfl) h3
  exact RationalField_any b00 b01 b02 b03 b10 b11 b12 b13 b20 b21 l00 u00 l01 u01 l02 u02 l03 u03 l10 u10 l11 u11 l12 u12 l13 u13 l20 u20 l21 u21 a3 W ht

def wargs : Array Value := #[.agg #[.int .i64 0, .int .i64 0, .int .i64 0, .int .i64 0], .agg #[.int .i64 0, .int .i64 0, .int .i64 0, .int .i64 0], .agg #[.int .i64 0, .int .i64 0], .bool false]
theorem laid_met (os : Os) : laidMet Tryz.prog Rows.rationalFieldRow.laid ((Tab.laidWorld os).forCall (fun _ _ => 0) ⟨#[], wargs, []⟩).memory :=
  Tab.laid_met os wargs
theorem reads (os : Os) {H : Type} (enc : TypeId × Value → H) : ∃ ds places, DataW.whole enc Tryz.prog ((Tab.laidWorld os).forCall (fun _ _ => 0) ⟨#[], wargs, []⟩).memory Tryz.f6.params.toList Rows.rationalFieldSpec.vars false wargs.toList 8 = some (ds, [], places) :=
  ⟨[.agg [.lit (.int .i64 0), .lit (.int .i64 0), .lit (.int .i64 0), .lit (.int .i64 0)], .agg [.lit (.int .i64 0), .lit (.int .i64 0), .lit (.int .i64 0), .lit (.int .i64 0)], .agg [.lit (.int .i64 0), .lit (.int .i64 0)], .lit (.bool false)], [], by kernel_rfl⟩

set_option maxRecDepth 100000 in
theorem lifted (os : Os) (started : os.Started) (H : Type) (enc : TypeId × Value → H) (F : Stop.Interp) :
    ReturnsInHanded {} Tryz.checked os 6 .any ((OpenSpec.ofChange Rows.rationalFieldSpec).preRow enc Tryz.prog Tryz.f6 Rows.rationalFieldRow.domain false Rows.rationalFieldRow.laid) (((OpenSpec.ofChange Rows.rationalFieldSpec).at F).post enc Tryz.prog Tryz.f6 false true false false) := by
  obtain ⟨wd, places, hx⟩ := reads os enc
  refine returnsInHanded_of_row (C := Tryz.checked) (s := OpenSpec.ofChange Rows.rationalFieldSpec) Tab.own started (by kernel_rfl) Tryz.func6
    (witness_row_at (enc := enc) (C := Tryz.checked) false (Tab.laidWorld os) wargs (Tab.laidWorld_os os) (by kernel_rfl) (by kernel_rfl) (by kernel_rfl)
      (OpenSpec.preRow_of_cond 8 hx (by kernel_rfl) (fun k hk => by cases hk) (by kernel_rfl) (laid_met os))) ?_
  intro W base args ds gs before hval hW _ _ _ hL _ _
  have hW' := hW
  obtain ⟨p, q, hA, -, -, -, -⟩ := hW'
  obtain ⟨h3, walk⟩ := walk_args hval hA (Tab.table hL)
  refine Fr.law_contract Tab.laidOut params_ok rfl (by kernel_rfl) Tryz.underlying4 hW ?_ walk
  match ds, h3 with
  | [_, _, _, _], _ => rfl

theorem said : Rows.RationalFieldSaid :=
  OpenClaim.holds_of_cond 6 Tryz.f6 rfl rfl rfl rfl rfl rfl rfl ⟨rfl, rfl, rfl, rfl, rfl⟩ rfl rfl rfl rfl rfl (by kernel_rfl) Tryz.func6 (by kernel_rfl)
    (of_decide_eq_true (by kernel_rfl)) (by unfold Func.isWrapper; first | (rw [if_pos (by decide +kernel)]; kernel_rfl) | (rw [if_neg (by decide +kernel)]; exact ⟨rfl, rfl⟩))
    (fun os started H enc _ F => by rw [OpenClaim.pre_eq_preRow]; exact lifted os started H enc F)

theorem plain (f : FuncId) (fn : Func) (hf : Tryz.pinned.checked.prog.funcNamed "longliner/longlinerlaw04.RationalField" = some f) (hfn : Tryz.pinned.checked.prog.funcs[f]? = some fn) :
    true = Tryz.pinned.checked.prog.looks [] ∧ ∀ (j : Nat) t, fn.params[j]? = some t → Tryz.pinned.checked.prog.wantsStandIn t = false := by
  obtain rfl : f = 6 := Option.some.inj ((show Tryz.prog.funcNamed "longliner/longlinerlaw04.RationalField" = some 6 by kernel_rfl).symm.trans hf) |>.symm
  obtain rfl : fn = Tryz.f6 := (Option.some.inj (Tryz.func6.symm.trans hfn)).symm
  refine ⟨by kernel_rfl, fun j t ht => ?_⟩
  rw [Tryz.params6] at ht
  have hm := Array.mem_of_getElem? ht
  simp only [List.mem_toArray, List.mem_cons, List.not_mem_nil, or_false] at hm
  rcases hm with rfl | rfl | rfl | rfl
  all_goals (show Tryz.prog.wantsStandIn _ = false; kernel_rfl)

theorem card : Rows.RationalFieldCardSaid :=
  Claim7.holds_tied_plain_at .later [] _ _ _ _ said (fun _ h => by cases h) (by kernel_rfl) (fun _ h => by cases h) rationalField_row_tie rfl ⟨rfl, rfl⟩ (by kernel_rfl) rfl plain (by kernel_rfl)
end Go.Proofs.YtjkklgpbblkhaaaGreatDoor.rationalField
