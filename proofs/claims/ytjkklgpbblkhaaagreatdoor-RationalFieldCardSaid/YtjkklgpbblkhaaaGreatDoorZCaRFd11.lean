/-
  Put together by program out of these texts, in this order: Qfo, Qco, Qrp, Qro, Qrm, Qcn.
-/
import Derived.Test.YtjkklgpbblkhaaaGreatDoorZCaRFd10
import Derived.WalkMore

/-
  Layer 4: the four operations, Make and Of.
-/
namespace Go.Proofs.YtjkklgpbblkhaaaGreatDoor
open Go.RowKit Bs Ig

/-- what a call that answers a fraction and an error answers -/
abbrev Answers (f : FuncId) (args : Array Value) (r : ByteArray × ByteArray × Int) (W : World) : Prop :=
  Calls Tryz.prog f args W fun e W' => e = .returned (.tuple #[.agg #[.string r.1, .string r.2.1], .int .i64 r.2.2]) ∧ Below W.heap.size W W'
theorem lies_1 (w : World) (a b : ByteArray) : Lies (w.alloc (.cells #[.string a, .string b] 23)) w.heap.size 0 [(a, b)] := by
  refine ⟨by simp, fun i hi => ?_⟩
  match i, hi with
  | 0, _ => exact ⟨by rw [cell_of_row _ _ _ _ _ _ (heap_alloc_new _ _)]; rfl, by rw [cell_of_row _ _ _ _ _ _ (heap_alloc_new _ _)]; rfl⟩
theorem lies_2 (w : World) (a b c d : ByteArray) : Lies (w.alloc (.cells #[.string a, .string b, .string c, .string d] 23)) w.heap.size 0 [(a, b), (c, d)] := by
  refine ⟨by simp, fun i hi => ?_⟩
  match i, hi with
  | 0, _ => exact ⟨by rw [cell_of_row _ _ _ _ _ _ (heap_alloc_new _ _)]; rfl, by rw [cell_of_row _ _ _ _ _ _ (heap_alloc_new _ _)]; rfl⟩
  | 1, _ => exact ⟨by rw [cell_of_row _ _ _ _ _ _ (heap_alloc_new _ _)]; rfl, by rw [cell_of_row _ _ _ _ _ _ (heap_alloc_new _ _)]; rfl⟩
/-- the boxes of a function of two fractions -/
theorem box2 (w : World) (a b c d : ByteArray) : ∃ W, W = (((w.alloc (.cells #[.string a, .string b] 23)).alloc (.cells #[.string c, .string d] 23)).alloc (.cells #[.string ⟨#[]⟩, .string ⟨#[]⟩] 23)) ∧
    Below w.heap.size w W ∧ IsB W w.heap.size a b ∧ IsB W (w.heap.size + 1) c d ∧ IsB W (w.heap.size + 1 + 1) ⟨#[]⟩ ⟨#[]⟩ :=
  ⟨_, rfl, (((Below.refl _ w).alloc (Nat.le_refl _) _).alloc (by simp) _).alloc (by simp; omega) _, ((IsB.new w a b).alloc _).alloc _, (IsB.new' _ _ _ _ (by simp)).alloc _, IsB.new' _ _ _ _ (by simp)⟩

noncomputable def mulQ (a b c d : ByteArray) : ByteArray × ByteArray × Int := buildS [validS [(a, b), (c, d)], numS mulS c, denS mulS d, reduceS] a b

set_option maxRecDepth 100000 in
set_option maxHeartbeats 8000000 in
theorem qMul_any (a b c d : ByteArray) (w : World) (ht : TabP w) : Answers 39 #[.agg #[.string a, .string b], .agg #[.string c, .string d]] (mulQ a b c d) w := by
  unfold Answers mulQ
  obtain ⟨W0, hW0, hB, r0, r1, r2⟩ := box2 w a b c d
  have HN := Lib.hid (fun (W : World) (hb : Below w.heap.size w W) => num_any mulS c _ W (does_mul W (ht.later hb)))
  have HD := Lib.hid (fun (W : World) (hb : Below w.heap.size w W) => den_any mulS d _ W (does_mul W (ht.later hb)))
  have HB := Lib.hid (fun (u1 u2 u3 : Value) (W : World) (hb : Below w.heap.size w W) (h1 : Does W u1 (validS [(a, b), (c, d)])) (h2 : Does W u2 (numS mulS c)) (h3 : Does W u3 (denS mulS d)) => build_4 h1 h2 h3 (does_reduce W (ht.later hb)) a b)
  unfold Builds at HB
  obtain ⟨R1, R2, R3, hR⟩ : ∃ x y z, buildS [validS [(a, b), (c, d)], numS mulS c, denS mulS d, reduceS] a b = (x, y, z) := ⟨_, _, _, rfl⟩
  rw [hR] at HB ⊢
  simp only at HB
  have hA := hB.alloc hB.size (.cells #[.string a, .string b, .string c, .string d] 23)
  have HV := Lib.hid (valid_any4 [(a, b), (c, d)] W0.heap.size 0 2 2 (W0.alloc (.cells #[.string a, .string b, .string c, .string d] 23)).drew (ht.later hA.drew) ⟨(lies_2 W0 a b c d).1, (lies_2 W0 a b c d).2⟩ rfl (by omega) (by omega))
  have s0 := r0.alloc (.cells #[.string a, .string b, .string c, .string d] 23)
  have s1 := r1.alloc (.cells #[.string a, .string b, .string c, .string d] 23)
  have s2 := r2.alloc (.cells #[.string a, .string b, .string c, .string d] 23)
  clear hR ht
  go_enter Tryz.func39, Tryz.ntmps39
  go_wp2_with fail
  refine wp_world fun W hW => ?_
  rw [hW0.symm] at hW
  subst hW
  clear hW0
  have c0 := r0.c0
  have c1 := r0.c1
  have c2 := r1.c0
  have c3 := r1.c1
  go_region_held3 (fun w' => w'.cell? ⟨w.heap.size, 0, none⟩ = some (.string a) ∧ w'.cell? ⟨w.heap.size, 1, none⟩ = some (.string b) ∧ w'.cell? ⟨w.heap.size + 1, 0, none⟩ = some (.string c) ∧ w'.cell? ⟨w.heap.size + 1, 1, none⟩ = some (.string d)) (first | exact ⟨s0.c0, s0.c1, s1.c0, s1.c1⟩ | exact ⟨x0.c0, x0.c1, x1.c0, x1.c1⟩ | exact ⟨y0.c0, y0.c1, y1.c0, y1.c1⟩ | exact ⟨z0.c0, z0.c1, z1.c0, z1.c1⟩ | exact ⟨v0.c0, v0.c1, v1.c0, v1.c1⟩ | exact ⟨u0.c0, u0.c1, u1.c0, u1.c1⟩ | exact ⟨far2 (ne0 _) u0.c0, far2 (ne0 _) u0.c1, far2 (ne1 _) u1.c0, far2 (ne1 _) u1.c1⟩ | go_keep)
    (first
      | (go_at_call 68; (with_reducible refine HV.out.mono ?_); rintro e w1 ⟨p1, rfl, d1, B1'⟩; have B1 := below_undrew B1'; have hw1 := below_on hA B1 hA.size; have x0 := s0.later B1 s0.lt; have x1 := s1.later B1 s1.lt; have x2 := s2.later B1 s2.lt)
      | (go_at_call 69; (with_reducible refine (HN.out _ hw1).mono ?_); rintro e w2 ⟨p2, rfl, d2, B2⟩; have hw2 := below_on hw1 B2 hw1.size; have d12 := d1.later B2; have y0 := x0.later B2 x0.lt; have y1 := x1.later B2 x1.lt; have y2 := x2.later B2 x2.lt)
      | (go_at_call 71; (with_reducible refine (HD.out _ hw2).mono ?_); rintro e w3 ⟨p3, rfl, d3, B3⟩; have hw3 := below_on hw2 B3 hw2.size; have d13 := d12.later B3; have d23 := d2.later B3; have z0 := y0.later B3 y0.lt; have z1 := y1.later B3 y1.lt; have z2 := y2.later B3 y2.lt; have v0 := z0.alloc (.cells #[.func (.func 99) #[] p1, .func (.func 100) #[] p2, .func (.func 102) #[] p3, .func (.func 60) #[] #[]] 79); have v1 := z1.alloc (.cells #[.func (.func 99) #[] p1, .func (.func 100) #[] p2, .func (.func 102) #[] p3, .func (.func 60) #[] #[]] 79))
      | (go_at_call 59; (with_reducible refine (HB.out _ _ _ _ hw3 d13 d23 d3).mono ?_); rintro e w4 ⟨rfl, B4⟩; have hw4 := below_on (hw3.alloc hw3.size _) B4 (hw3.alloc hw3.size _).size; have u0 := v0.later B4 v0.lt; have u1 := v1.later B4 v1.lt; have u2 := (z2.alloc _).later B4 (z2.alloc _).lt; have g1 := u2.f0; have g2 := u2.f1; have g3 := u2.c0; have g4 := u2.c1))
  go_wp2_with fail
  exact bodyPost_ret (results_row_tmp rfl _ _ (w.heap.size + 1 + 1) 23 #[.string R1, .string R2] _ _ rfl (two_strs u2 R1 R2) Tryz.underlying23 rfl (by kernel_rfl)) rfl ⟨rfl, fin1 u2 hw4 (by omega) _ _⟩

noncomputable def divQ (a b c d : ByteArray) : ByteArray × ByteArray × Int := buildS [validS [(a, b), (c, d)], numS mulS d, denS mulS c, reduceS] a b

set_option maxRecDepth 100000 in
set_option maxHeartbeats 8000000 in
theorem qDiv_any (a b c d : ByteArray) (w : World) (ht : TabP w) : Answers 45 #[.agg #[.string a, .string b], .agg #[.string c, .string d]] (divQ a b c d) w := by
  unfold Answers divQ
  obtain ⟨W0, hW0, hB, r0, r1, r2⟩ := box2 w a b c d
  have HN := Lib.hid (fun (W : World) (hb : Below w.heap.size w W) => num_any mulS d _ W (does_mul W (ht.later hb)))
  have HD := Lib.hid (fun (W : World) (hb : Below w.heap.size w W) => den_any mulS c _ W (does_mul W (ht.later hb)))
  have HB := Lib.hid (fun (u1 u2 u3 : Value) (W : World) (hb : Below w.heap.size w W) (h1 : Does W u1 (validS [(a, b), (c, d)])) (h2 : Does W u2 (numS mulS d)) (h3 : Does W u3 (denS mulS c)) => build_4 h1 h2 h3 (does_reduce W (ht.later hb)) a b)
  unfold Builds at HB
  obtain ⟨R1, R2, R3, hR⟩ : ∃ x y z, buildS [validS [(a, b), (c, d)], numS mulS d, denS mulS c, reduceS] a b = (x, y, z) := ⟨_, _, _, rfl⟩
  rw [hR] at HB ⊢
  simp only at HB
  have hA := hB.alloc hB.size (.cells #[.string a, .string b, .string c, .string d] 23)
  have HV := Lib.hid (valid_any4 [(a, b), (c, d)] W0.heap.size 0 2 2 (W0.alloc (.cells #[.string a, .string b, .string c, .string d] 23)).drew (ht.later hA.drew) ⟨(lies_2 W0 a b c d).1, (lies_2 W0 a b c d).2⟩ rfl (by omega) (by omega))
  have s0 := r0.alloc (.cells #[.string a, .string b, .string c, .string d] 23)
  have s1 := r1.alloc (.cells #[.string a, .string b, .string c, .string d] 23)
  have s2 := r2.alloc (.cells #[.string a, .string b, .string c, .string d] 23)
  clear hR ht
  go_enter Tryz.func45, Tryz.ntmps45
  go_wp2_with fail
  refine wp_world fun W hW => ?_
  rw [hW0.symm] at hW
  subst hW
  clear hW0
  have c0 := r0.c0
  have c1 := r0.c1
  have c2 := r1.c0
  have c3 := r1.c1
  go_region_held3 (fun w' => w'.cell? ⟨w.heap.size, 0, none⟩ = some (.string a) ∧ w'.cell? ⟨w.heap.size, 1, none⟩ = some (.string b) ∧ w'.cell? ⟨w.heap.size + 1, 0, none⟩ = some (.string c) ∧ w'.cell? ⟨w.heap.size + 1, 1, none⟩ = some (.string d)) (first | exact ⟨s0.c0, s0.c1, s1.c0, s1.c1⟩ | exact ⟨x0.c0, x0.c1, x1.c0, x1.c1⟩ | exact ⟨y0.c0, y0.c1, y1.c0, y1.c1⟩ | exact ⟨z0.c0, z0.c1, z1.c0, z1.c1⟩ | exact ⟨v0.c0, v0.c1, v1.c0, v1.c1⟩ | exact ⟨u0.c0, u0.c1, u1.c0, u1.c1⟩ | exact ⟨far2 (ne0 _) u0.c0, far2 (ne0 _) u0.c1, far2 (ne1 _) u1.c0, far2 (ne1 _) u1.c1⟩ | go_keep)
    (first
      | (go_at_call 68; (with_reducible refine HV.out.mono ?_); rintro e w1 ⟨p1, rfl, d1, B1'⟩; have B1 := below_undrew B1'; have hw1 := below_on hA B1 hA.size; have x0 := s0.later B1 s0.lt; have x1 := s1.later B1 s1.lt; have x2 := s2.later B1 s2.lt)
      | (go_at_call 69; (with_reducible refine (HN.out _ hw1).mono ?_); rintro e w2 ⟨p2, rfl, d2, B2⟩; have hw2 := below_on hw1 B2 hw1.size; have d12 := d1.later B2; have y0 := x0.later B2 x0.lt; have y1 := x1.later B2 x1.lt; have y2 := x2.later B2 x2.lt)
      | (go_at_call 71; (with_reducible refine (HD.out _ hw2).mono ?_); rintro e w3 ⟨p3, rfl, d3, B3⟩; have hw3 := below_on hw2 B3 hw2.size; have d13 := d12.later B3; have d23 := d2.later B3; have z0 := y0.later B3 y0.lt; have z1 := y1.later B3 y1.lt; have z2 := y2.later B3 y2.lt; have v0 := z0.alloc (.cells #[.func (.func 99) #[] p1, .func (.func 100) #[] p2, .func (.func 102) #[] p3, .func (.func 60) #[] #[]] 79); have v1 := z1.alloc (.cells #[.func (.func 99) #[] p1, .func (.func 100) #[] p2, .func (.func 102) #[] p3, .func (.func 60) #[] #[]] 79))
      | (go_at_call 59; (with_reducible refine (HB.out _ _ _ _ hw3 d13 d23 d3).mono ?_); rintro e w4 ⟨rfl, B4⟩; have hw4 := below_on (hw3.alloc hw3.size _) B4 (hw3.alloc hw3.size _).size; have u0 := v0.later B4 v0.lt; have u1 := v1.later B4 v1.lt; have u2 := (z2.alloc _).later B4 (z2.alloc _).lt; have g1 := u2.f0; have g2 := u2.f1; have g3 := u2.c0; have g4 := u2.c1))
  go_wp2_with fail
  exact bodyPost_ret (results_row_tmp rfl _ _ (w.heap.size + 1 + 1) 23 #[.string R1, .string R2] _ _ rfl (two_strs u2 R1 R2) Tryz.underlying23 rfl (by kernel_rfl)) rfl ⟨rfl, fin1 u2 hw4 (by omega) _ _⟩

end Go.Proofs.YtjkklgpbblkhaaaGreatDoor

/-
  Layer 4: sums and differences.
-/
namespace Go.Proofs.YtjkklgpbblkhaaaGreatDoor
open Go.RowKit Bs Ig

theorem box3 (w : World) (a b c d : ByteArray) (v : Value) : ∃ W, W = ((((w.alloc (.cells #[.string a, .string b] 23)).alloc (.cells #[.string c, .string d] 23)).alloc (.cells #[v] 101)).alloc (.cells #[.string ⟨#[]⟩, .string ⟨#[]⟩] 23)) ∧
    Below w.heap.size w W ∧ IsB W w.heap.size a b ∧ IsB W (w.heap.size + 1) c d ∧ W.cell? ⟨w.heap.size + 1 + 1, 0, none⟩ = some v ∧ w.heap.size + 1 + 1 < W.heap.size ∧ IsB W (w.heap.size + 1 + 1 + 1) ⟨#[]⟩ ⟨#[]⟩ := by
  refine ⟨_, rfl, ((((Below.refl _ w).alloc (Nat.le_refl _) _).alloc (by simp) _).alloc (by simp; omega) _).alloc (by simp; omega) _, (((IsB.new w a b).alloc _).alloc _).alloc _, ((IsB.new' _ _ _ _ (by simp)).alloc _).alloc _, ?_, by simp, IsB.new' _ _ _ _ (by simp)⟩
  have h := heap_alloc_new ((w.alloc (.cells #[.string a, .string b] 23)).alloc (.cells #[.string c, .string d] 23)) (.cells #[v] 101)
  rw [show ((w.alloc (.cells #[.string a, .string b] 23)).alloc (.cells #[.string c, .string d] 23)).heap.size = w.heap.size + 1 + 1 by simp] at h
  rw [cell_of_row _ _ 0 _ _ _ ((heap_alloc_old _ _ (by simp)).trans h)]; rfl
theorem ne03 (s : Nat) : s + 1 + 1 + 1 ≠ s := by omega
theorem ne13 (s : Nat) : s + 1 + 1 + 1 ≠ s + 1 := by omega

noncomputable def combineQ (op : ByteArray → ByteArray → ByteArray × Int) (a b c d : ByteArray) : ByteArray × ByteArray × Int := buildS [validS [(a, b), (c, d)], numS mulS d, numS (scaledS op b) c, denS mulS d, reduceS] a b

set_option maxRecDepth 100000 in
set_option maxHeartbeats 8000000 in
theorem combine_any (op : ByteArray → ByteArray → ByteArray × Int) (v : Value) (a b c d : ByteArray) (w : World) (ht : TabP w) (hop : DoesOp w v op) :
    Answers 66 #[.agg #[.string a, .string b], .agg #[.string c, .string d], v] (combineQ op a b c d) w := by
  unfold Answers combineQ
  obtain ⟨W0, hW0, hB, r0, r1, hv1, hv2, r2⟩ := box3 w a b c d v
  have HN := Lib.hid (fun (W : World) (hb : Below w.heap.size w W) => num_any mulS d _ W (does_mul W (ht.later hb)))
  have hSc : ∀ W : World, Below w.heap.size w W → IsB W w.heap.size a b → W.cell? ⟨w.heap.size + 1 + 1, 0, none⟩ = some v → w.heap.size + 1 + 1 < W.heap.size → DoesOp W (.func (.func 97) #[] #[.pointer (some ⟨w.heap.size, 0, none⟩), .pointer (some ⟨w.heap.size + 1 + 1, 0, none⟩)]) (scaledS op b) := fun W hb h0 h1 h2 =>
    ⟨_, _, rfl, fun args w => by kernel_rfl, fun x y W' hW' => combine1_any op v x y a b _ _ W' (ht.later (below_on hb hW' hb.size)) (h0.later hW' h0.lt) ((hW'.cell (p := ⟨w.heap.size + 1 + 1, 0, none⟩) h2).trans h1) (Nat.lt_of_lt_of_le h2 hW'.size) (hop.later (below_on hb hW' hb.size))⟩
  have HS := Lib.hid (fun (W : World) (hb : Below w.heap.size w W) h0 h1 h2 => num_any (scaledS op b) c _ W (hSc W hb h0 h1 h2))
  have HD := Lib.hid (fun (W : World) (hb : Below w.heap.size w W) => den_any mulS d _ W (does_mul W (ht.later hb)))
  have HB := Lib.hid (fun (u1 u2 u3 u4 : Value) (W : World) (hb : Below w.heap.size w W) (h1 : Does W u1 (validS [(a, b), (c, d)])) (h2 : Does W u2 (numS mulS d)) (h3 : Does W u3 (numS (scaledS op b) c)) (h4 : Does W u4 (denS mulS d)) => build_5 h1 h2 h3 h4 (does_reduce W (ht.later hb)) a b)
  unfold Builds at HB
  obtain ⟨R1, R2, R3, hR⟩ : ∃ x y z, buildS [validS [(a, b), (c, d)], numS mulS d, numS (scaledS op b) c, denS mulS d, reduceS] a b = (x, y, z) := ⟨_, _, _, rfl⟩
  rw [hR] at HB ⊢
  simp only at HB
  have hA := hB.alloc hB.size (.cells #[.string a, .string b, .string c, .string d] 23)
  have HV := Lib.hid (valid_any4 [(a, b), (c, d)] W0.heap.size 0 2 2 (W0.alloc (.cells #[.string a, .string b, .string c, .string d] 23)).drew (ht.later hA.drew) ⟨(lies_2 W0 a b c d).1, (lies_2 W0 a b c d).2⟩ rfl (by omega) (by omega))
  have s0 := r0.alloc (.cells #[.string a, .string b, .string c, .string d] 23)
  have s1 := r1.alloc (.cells #[.string a, .string b, .string c, .string d] 23)
  have s2 := r2.alloc (.cells #[.string a, .string b, .string c, .string d] 23)
  have Hv := Lib.hid (And.intro hv1 hv2)
  obtain ⟨f, cap, rfl, eg, hc⟩ := hop
  clear hR ht hSc hc hv1 hv2
  go_enter Tryz.func66, Tryz.ntmps66
  go_wp2_with fail
  refine wp_world fun W hW => ?_
  rw [hW0.symm] at hW
  subst hW
  clear hW0
  have c0 := r0.c0
  have c1 := r0.c1
  have c2 := r1.c0
  have c3 := r1.c1
  go_region_held3 (fun w' => w'.cell? ⟨w.heap.size, 0, none⟩ = some (.string a) ∧ w'.cell? ⟨w.heap.size, 1, none⟩ = some (.string b) ∧ w'.cell? ⟨w.heap.size + 1, 0, none⟩ = some (.string c) ∧ w'.cell? ⟨w.heap.size + 1, 1, none⟩ = some (.string d)) (first | exact ⟨s0.c0, s0.c1, s1.c0, s1.c1⟩ | exact ⟨x0.c0, x0.c1, x1.c0, x1.c1⟩ | exact ⟨y0.c0, y0.c1, y1.c0, y1.c1⟩ | exact ⟨t0.c0, t0.c1, t1.c0, t1.c1⟩ | exact ⟨z0.c0, z0.c1, z1.c0, z1.c1⟩ | exact ⟨v0.c0, v0.c1, v1.c0, v1.c1⟩ | exact ⟨u0.c0, u0.c1, u1.c0, u1.c1⟩ | exact ⟨far2 (ne03 _) u0.c0, far2 (ne03 _) u0.c1, far2 (ne13 _) u1.c0, far2 (ne13 _) u1.c1⟩ | go_keep)
    (first
      | (go_at_call 68; (with_reducible refine HV.out.mono ?_); rintro e w1 ⟨p1, rfl, d1, B1'⟩; have B1 := below_undrew B1'; have hw1 := below_on hA B1 hA.size; have x0 := s0.later B1 s0.lt; have x1 := s1.later B1 s1.lt; have x2 := s2.later B1 s2.lt; have hv1 : w1.cell? ⟨w.heap.size + 1 + 1, 0, none⟩ = some _ := (B1.cell (p := ⟨w.heap.size + 1 + 1, 0, none⟩) (by have := Hv.out.2; simp; omega)).trans (((Below.refl _ W).alloc (Nat.le_refl _) _).cell (p := ⟨w.heap.size + 1 + 1, 0, none⟩) Hv.out.2 |>.trans Hv.out.1); have hv2 : w.heap.size + 1 + 1 < w1.heap.size := Nat.lt_of_lt_of_le (by have := Hv.out.2; simp; omega) B1.size)
      | (go_at_call 69; (with_reducible refine (HN.out _ hw1).mono ?_); rintro e w2 ⟨p2, rfl, d2, B2⟩; have hw2 := below_on hw1 B2 hw1.size; have d12 := d1.later B2; have y0 := x0.later B2 x0.lt; have y1 := x1.later B2 x1.lt; have y2 := x2.later B2 x2.lt; have hv3 := (B2.cell (p := ⟨w.heap.size + 1 + 1, 0, none⟩) hv2).trans hv1; have hv4 := Nat.lt_of_lt_of_le hv2 B2.size)
      | (go_at_call 69; (with_reducible refine (HS.out _ hw2 y0 hv3 hv4).mono ?_); rintro e w5 ⟨p5, rfl, d5, B5⟩; have hw5 := below_on hw2 B5 hw2.size; have d15 := d12.later B5; have d25 := d2.later B5; have t0 := y0.later B5 y0.lt; have t1 := y1.later B5 y1.lt; have t2 := y2.later B5 y2.lt)
      | (go_at_call 71; (with_reducible refine (HD.out _ hw5).mono ?_); rintro e w3 ⟨p3, rfl, d3, B3⟩; have hw3 := below_on hw5 B3 hw5.size; have d13 := d15.later B3; have d23 := d25.later B3; have d53 := d5.later B3; have z0 := t0.later B3 t0.lt; have z1 := t1.later B3 t1.lt; have z2 := t2.later B3 t2.lt; have v0 := z0.alloc (.cells #[.func (.func 99) #[] p1, .func (.func 100) #[] p2, .func (.func 100) #[] p5, .func (.func 102) #[] p3, .func (.func 60) #[] #[]] 79); have v1 := z1.alloc (.cells #[.func (.func 99) #[] p1, .func (.func 100) #[] p2, .func (.func 100) #[] p5, .func (.func 102) #[] p3, .func (.func 60) #[] #[]] 79))
      | (go_at_call 59; (with_reducible refine (HB.out _ _ _ _ _ hw3 d13 d23 d53 d3).mono ?_); rintro e w4 ⟨rfl, B4⟩; have hw4 := below_on (hw3.alloc hw3.size _) B4 (hw3.alloc hw3.size _).size; have u0 := v0.later B4 v0.lt; have u1 := v1.later B4 v1.lt; have u2 := (z2.alloc _).later B4 (z2.alloc _).lt; have g1 := u2.f0; have g2 := u2.f1; have g3 := u2.c0; have g4 := u2.c1))
  go_wp2_with fail
  exact bodyPost_ret (results_row_tmp rfl _ _ (w.heap.size + 1 + 1 + 1) 23 #[.string R1, .string R2] _ _ rfl (two_strs u2 R1 R2) Tryz.underlying23 rfl (by kernel_rfl)) rfl ⟨rfl, fin1 u2 hw4 (by omega) _ _⟩

noncomputable def addQ := combineQ addS
noncomputable def subQ := combineQ subS
set_option maxRecDepth 100000 in
set_option maxHeartbeats 4000000 in
theorem qAdd_any (a b c d : ByteArray) (w : World) (ht : TabP w) : Answers 38 #[.agg #[.string a, .string b], .agg #[.string c, .string d]] (addQ a b c d) w := by
  unfold Answers
  obtain ⟨W0, hW0, hB, r0, r1, r2⟩ := box2 w a b c d
  have hc := combine_any addS _ a b c d W0 (ht.later hB) (does_add W0 (ht.later hB))
  unfold Answers at hc
  unfold addQ
  obtain ⟨R1, R2, R3, hR⟩ : ∃ x y z, combineQ addS a b c d = (x, y, z) := ⟨_, _, _, rfl⟩
  rw [hR] at hc ⊢
  simp only at hc
  have HC := Lib.hid hc
  rw [hW0] at HC
  have c0 := r0.c0
  have c1 := r0.c1
  have c2 := r1.c0
  have c3 := r1.c1
  rw [hW0] at c0 c1 c2 c3
  clear hR ht hc
  go_enter Tryz.func38, Tryz.ntmps38
  go_wp2_with (go_at_call 66; (with_reducible refine HC.out.mono ?_); rintro e w4 ⟨rfl, B4⟩; rw [← hW0] at B4; have hw4 := below_on hB B4 hB.size; have u2 := r2.later B4 r2.lt; have g1 := u2.f0; have g2 := u2.f1; have g3 := u2.c0; have g4 := u2.c1)
  exact bodyPost_ret (results_row_tmp rfl _ _ (w.heap.size + 1 + 1) 23 #[.string R1, .string R2] _ _ rfl (two_strs u2 R1 R2) Tryz.underlying23 rfl (by kernel_rfl)) rfl ⟨rfl, fin1 u2 hw4 (by omega) _ _⟩
set_option maxRecDepth 100000 in
set_option maxHeartbeats 4000000 in
theorem qSub_any (a b c d : ByteArray) (w : World) (ht : TabP w) : Answers 40 #[.agg #[.string a, .string b], .agg #[.string c, .string d]] (subQ a b c d) w := by
  unfold Answers
  obtain ⟨W0, hW0, hB, r0, r1, r2⟩ := box2 w a b c d
  have hc := combine_any subS _ a b c d W0 (ht.later hB) (does_sub W0 (ht.later hB))
  unfold Answers at hc
  unfold subQ
  obtain ⟨R1, R2, R3, hR⟩ : ∃ x y z, combineQ subS a b c d = (x, y, z) := ⟨_, _, _, rfl⟩
  rw [hR] at hc ⊢
  simp only at hc
  have HC := Lib.hid hc
  rw [hW0] at HC
  have c0 := r0.c0
  have c1 := r0.c1
  have c2 := r1.c0
  have c3 := r1.c1
  rw [hW0] at c0 c1 c2 c3
  clear hR ht hc
  go_enter Tryz.func40, Tryz.ntmps40
  go_wp2_with (go_at_call 66; (with_reducible refine HC.out.mono ?_); rintro e w4 ⟨rfl, B4⟩; rw [← hW0] at B4; have hw4 := below_on hB B4 hB.size; have u2 := r2.later B4 r2.lt; have g1 := u2.f0; have g2 := u2.f1; have g3 := u2.c0; have g4 := u2.c1)
  exact bodyPost_ret (results_row_tmp rfl _ _ (w.heap.size + 1 + 1) 23 #[.string R1, .string R2] _ _ rfl (two_strs u2 R1 R2) Tryz.underlying23 rfl (by kernel_rfl)) rfl ⟨rfl, fin1 u2 hw4 (by omega) _ _⟩

end Go.Proofs.YtjkklgpbblkhaaaGreatDoor

/-
  Layer 4: zeros, by strings.Repeat.
-/
namespace Go.Proofs.YtjkklgpbblkhaaaGreatDoor
open Go.RowKit Bs Ig

def zb (m : Nat) : ByteArray := bs (List.replicate m 48)
theorem zeros_cut (m : Nat) (hm : m ≤ 64) : (bs (List.replicate 64 48)).extract 0 m = zb m := by
  rw [bs_extract, List.drop_zero, Nat.sub_zero, List.take_replicate, Nat.min_eq_left hm]; rfl

set_option maxRecDepth 100000 in
set_option maxHeartbeats 4000000 in
theorem repeat_any (m : Nat) (hm : m ≤ 30) (w : World) :
    Calls Tryz.prog 88 #[.string ⟨#[48]⟩, .int .i64 (m : Int)] w fun e w' => e = .returned (.string (zb m)) ∧ w' = w := by
  rcases Nat.lt_or_ge m 2 with h | h
  · rcases (show m = 0 ∨ m = 1 by omega) with rfl | rfl
    · go_enter Tryz.func88, Tryz.ntmps88
      go_wp2_with fail
      go_ret
      exact ⟨rfl, rfl⟩
    · go_enter Tryz.func88, Tryz.ntmps88
      go_wp2_with fail
      go_ret
      exact ⟨rfl, rfl⟩
  · have HM := Lib.hid (fun (W : World) => (show Calls Tryz.prog 116 #[.int .u64 1, .int .u64 (m : Int)] W fun e w' => e = .returned (.tuple #[.int .u64 0, .int .u64 (m : Int)]) ∧ w' = W from by
      have h := Tryz.bits_Mul 1 m (by omega) (by omega) W
      rw [show 1 * m / 18446744073709551616 = 0 by omega, show 1 * m % 18446744073709551616 = m by omega] at h
      exact h))
    have hp : ∀ (T : ByteArray) (b : Bool) (W : World), Lib.hasPrefix T.data.toList [48] = b → Calls Tryz.prog 117 #[.string T, .string ⟨#[48]⟩] W fun e w' => e = .returned (.bool b) ∧ w' = W := fun T b W h => by
      subst h; exact Tryz.strings_HasPrefix T ⟨#[48]⟩ W
    have HP := Lib.hid hp
    have hz := zeros_cut m (by omega)
    have e0 : ((m : Int) == 0) = false := beq_false_of_ne (by omega)
    have e1 : ((m : Int) == 1) = false := beq_false_of_ne (by omega)
    have e2 : decide ((m : Int) < 0) = false := decide_eq_false (by omega)
    have e3 : IntKind.u64.wrap (m : Int) = (m : Int) := by rw [IntKind.wrap_u64]; omega
    have e4 : decide ((m : Int) ≤ 128) = true := decide_eq_true (by omega)
    have e5 : decide ((m : Int) ≤ 64) = true := decide_eq_true (by omega)
    have e6 : decide (9223372036854775807 < (m : Int)) = false := decide_eq_false (by omega)
    rw [show bs (List.replicate 64 48) = ⟨#[48, 48, 48, 48, 48, 48, 48, 48, 48, 48, 48, 48, 48, 48, 48, 48, 48, 48, 48, 48, 48, 48, 48, 48, 48, 48, 48, 48, 48, 48, 48, 48, 48, 48, 48, 48, 48, 48, 48, 48, 48, 48, 48, 48, 48, 48, 48, 48, 48, 48, 48, 48, 48, 48, 48, 48, 48, 48, 48, 48, 48, 48, 48, 48]⟩ from rfl] at hz
    obtain ⟨S, hS⟩ : ∃ S, (⟨#[48]⟩ : ByteArray) = S := ⟨_, rfl⟩
    have g1 : S.size = 1 := by rw [← hS]; rfl
    have g2 : 0 < S.size := by omega
    have g3 : (S[0]'g2).toNat = 48 := by subst hS; rfl
    rw [hS] at HP ⊢
    clear hS hp
    go_enter Tryz.func88, Tryz.ntmps88
    go_wp2_with (first
      | (go_at_call 116; (with_reducible refine (HM.out _).mono ?_); rintro e w1 ⟨rfl, rfl⟩)
      | (go_at_call 117; with_reducible refine (HP.out _ false _ ?hp).mono ?_; (case hp => decide +kernel); rintro e w1 ⟨rfl, rfl⟩)
      | (go_at_call 117; with_reducible refine (HP.out _ true _ ?hp).mono ?_; (case hp => decide +kernel); rintro e w1 ⟨rfl, rfl⟩))
    go_ret
    exact ⟨rfl, rfl⟩

end Go.Proofs.YtjkklgpbblkhaaaGreatDoor

/-
  Layer 4: rounding; Make and Of.
-/
namespace Go.Proofs.YtjkklgpbblkhaaaGreatDoor
open Go.RowKit Bs Ig

/-- 1 with zeros behind it -/
def tq (m : Nat) : ByteArray := ⟨#[49]⟩ ++ zb m
noncomputable def roundQ (op : ByteArray → ByteArray → ByteArray × Int) (a b : ByteArray) (m : Nat) : ByteArray × ByteArray × Int := buildS [validS [(a, b)], numS mulS (tq m), numS op b, overS (tq m), reduceS] a b
theorem ne12 (s : Nat) : s + 1 ≠ s + 1 + 1 := by omega
theorem does_over (t : ByteArray) (g : Nat) (W : World) (h : W.cell? ⟨g, 0, none⟩ = some (.string t)) (hg : g < W.heap.size) : Does W (.func (.func 89) #[] #[.pointer (some ⟨g, 0, none⟩)]) (overS t) :=
  ⟨_, _, rfl, fun args w => by kernel_rfl, fun N D W' hW' => round1_any t N D g W' ((hW'.cell (p := ⟨g, 0, none⟩) hg).trans h) (Nat.lt_of_lt_of_le hg hW'.size)⟩

set_option maxRecDepth 100000 in
set_option maxHeartbeats 4000000 in
theorem round_no (v : Value) (a b : ByteArray) (p : Int) (hp : p < 0 ∨ 30 < p) (w : World) :
    Answers 55 #[.agg #[.string a, .string b], .int .i64 p, v] (⟨#[]⟩, ⟨#[]⟩, 40) w := by
  obtain ⟨hB, r0, r1⟩ := box1 w a b
  unfold Answers
  have g1 := r1.f0
  have g2 := r1.f1
  have g3 := r1.c0
  have g4 := r1.c1
  rcases Int.lt_or_le p 0 with h | h
  · have e1 : decide (p < 0) = true := decide_eq_true h
    clear hp h
    go_enter Tryz.func55, Tryz.ntmps55
    go_wp2_with fail
    exact bodyPost_ret (results_row_tmp rfl _ _ (w.heap.size + 1) 23 #[.string ⟨#[]⟩, .string ⟨#[]⟩] _ _ rfl r1 Tryz.underlying23 rfl (by kernel_rfl)) rfl ⟨rfl, hB⟩
  · have e1 : decide (p < 0) = false := decide_eq_false (by omega)
    have e2 : decide (30 < p) = true := decide_eq_true (by omega)
    clear hp h
    go_enter Tryz.func55, Tryz.ntmps55
    go_wp2_with fail
    exact bodyPost_ret (results_row_tmp rfl _ _ (w.heap.size + 1) 23 #[.string ⟨#[]⟩, .string ⟨#[]⟩] _ _ rfl r1 Tryz.underlying23 rfl (by kernel_rfl)) rfl ⟨rfl, hB⟩

set_option maxRecDepth 100000 in
set_option maxHeartbeats 8000000 in
theorem round_any (op : ByteArray → ByteArray → ByteArray × Int) (v : Value) (a b : ByteArray) (m : Nat) (hm : m ≤ 30) (w : World) (ht : TabP w) (hop : DoesOp w v op) :
    Answers 55 #[.agg #[.string a, .string b], .int .i64 (m : Int), v] (roundQ op a b m) w := by
  obtain ⟨hB, r0, r1⟩ := box1 w a b
  unfold Answers roundQ
  have e1 : decide ((m : Int) < 0) = false := decide_eq_false (by omega)
  have e2 : decide (30 < (m : Int)) = false := decide_eq_false (by omega)
  have HR := Lib.hid (fun W => repeat_any m hm W)
  obtain ⟨Z, hZ⟩ : ∃ Z, zb m = Z := ⟨_, rfl⟩
  obtain ⟨t, hT⟩ : ∃ t, (⟨#[49]⟩ : ByteArray) ++ Z = t := ⟨_, rfl⟩
  have htq : tq m = t := by unfold tq; rw [hZ, hT]
  rw [hZ] at HR
  rw [htq]
  have hzs : Z.size ≤ 30 := by rw [← hZ]; unfold zb; rw [bs_size, List.length_replicate]; exact hm
  have hA := hB.alloc hB.size (.cells #[.string t] 9)
  have s0 := r0.alloc (.cells #[.string t] 9)
  have s1 := r1.alloc (.cells #[.string t] 9)
  have k8 : ((((w.alloc (.cells #[.string a, .string b] 23)).alloc (.cells #[.string ⟨#[]⟩, .string ⟨#[]⟩] 23)).alloc (.cells #[.string t] 9))).cell? ⟨w.heap.size + 1 + 1, 0, none⟩ = some (.string t) := by
    have h := heap_alloc_new ((w.alloc (.cells #[.string a, .string b] 23)).alloc (.cells #[.string ⟨#[]⟩, .string ⟨#[]⟩] 23)) (.cells #[.string t] 9)
    rw [show ((w.alloc (.cells #[.string a, .string b] 23)).alloc (.cells #[.string ⟨#[]⟩, .string ⟨#[]⟩] 23)).heap.size = w.heap.size + 1 + 1 by simp] at h
    rw [cell_of_row _ _ 0 _ _ _ h]; rfl
  have k9 : w.heap.size + 1 + 1 < (((w.alloc (.cells #[.string a, .string b] 23)).alloc (.cells #[.string ⟨#[]⟩, .string ⟨#[]⟩] 23)).alloc (.cells #[.string t] 9)).heap.size := by simp
  have hX : ∃ X, X = (((w.alloc (.cells #[.string a, .string b] 23)).alloc (.cells #[.string ⟨#[]⟩, .string ⟨#[]⟩] 23)).alloc (.cells #[.string t] 9)) := ⟨_, rfl⟩
  obtain ⟨W0, hW0⟩ := hX
  rw [← hW0] at hA s0 s1 k8 k9
  have HN := Lib.hid (fun (W : World) (hb : Below w.heap.size w W) => num_any mulS t _ W (does_mul W (ht.later hb)))
  have HS := Lib.hid (fun (W : World) (hb : Below w.heap.size w W) => num_any op b v W (hop.later hb))
  have HB := Lib.hid (fun (u1 u2 u3 : Value) (W : World) (hb : Below w.heap.size w W) (h1 : Does W u1 (validS [(a, b)])) (h2 : Does W u2 (numS mulS t)) (h3 : Does W u3 (numS op b)) (k : W.cell? ⟨w.heap.size + 1 + 1, 0, none⟩ = some (.string t)) (k' : w.heap.size + 1 + 1 < W.heap.size) => build_5 h1 h2 h3 (does_over t (w.heap.size + 1 + 1) W k k') (does_reduce W (ht.later hb)) a b)
  unfold Builds at HB
  obtain ⟨R1, R2, R3, hR⟩ : ∃ x y z, buildS [validS [(a, b)], numS mulS t, numS op b, overS t, reduceS] a b = (x, y, z) := ⟨_, _, _, rfl⟩
  rw [hR] at HB ⊢
  simp only at HB
  have hA2 := hA.alloc hA.size (.cells #[.string a, .string b] 23)
  have HV := Lib.hid (valid_any4 [(a, b)] W0.heap.size 0 1 1 (W0.alloc (.cells #[.string a, .string b] 23)).drew (ht.later hA2.drew) ⟨(lies_1 W0 a b).1, (lies_1 W0 a b).2⟩ rfl (by omega) (by omega))
  have q0 := s0.alloc (.cells #[.string a, .string b] 23)
  have q1 := s1.alloc (.cells #[.string a, .string b] 23)
  have q8 := (((Below.refl _ W0).alloc (Nat.le_refl _) (.cells #[.string a, .string b] 23)).cell (p := ⟨w.heap.size + 1 + 1, 0, none⟩) k9).trans k8
  have q9 : w.heap.size + 1 + 1 < (W0.alloc (.cells #[.string a, .string b] 23)).heap.size := by rw [World.size_alloc]; omega
  have K9 := Lib.hid q9
  obtain ⟨f, cap, rfl, eg, hc⟩ := id hop
  clear hop hc hR q9 htq hZ
  go_enter Tryz.func55, Tryz.ntmps55
  go_wp2_with (go_at_call 88; (with_reducible refine (HR.out _).mono ?_); rintro e w1 ⟨rfl, rfl⟩)
  refine wp_world fun W hW => ?_
  rw [hW0.symm] at hW
  subst hW
  clear hW0 r0 r1
  have c0 := s0.c0
  have c1 := s0.c1
  go_region_held3 (fun w' => w'.cell? ⟨w.heap.size, 0, none⟩ = some (.string a) ∧ w'.cell? ⟨w.heap.size, 1, none⟩ = some (.string b) ∧ w'.cell? ⟨w.heap.size + 1 + 1, 0, none⟩ = some (.string t)) (first | exact ⟨q0.c0, q0.c1, q8⟩ | exact ⟨x0.c0, x0.c1, x8⟩ | exact ⟨y0.c0, y0.c1, y8⟩ | exact ⟨t0.c0, t0.c1, t8⟩ | exact ⟨v0.c0, v0.c1, v8⟩ | exact ⟨u0.c0, u0.c1, u8⟩ | exact ⟨far2 (Nat.succ_ne_self _) u0.c0, far2 (Nat.succ_ne_self _) u0.c1, far2 (ne12 _) u8⟩ | go_keep)
    (first
      | (go_at_call 68; (with_reducible refine HV.out.mono ?_); rintro e w1 ⟨p1, rfl, d1, B1'⟩; have B1 := below_undrew B1'; have hw1 := below_on hA2 B1 hA2.size; have x0 := q0.later B1 q0.lt; have x1 := q1.later B1 q1.lt; have x8 := (B1.cell (p := ⟨w.heap.size + 1 + 1, 0, none⟩) K9.out).trans q8; have x9 := Lib.hid (Nat.lt_of_lt_of_le K9.out B1.size))
      | (go_at_call 69; (with_reducible refine (HN.out _ hw1).mono ?_); rintro e w2 ⟨p2, rfl, d2, B2⟩; have hw2 := below_on hw1 B2 hw1.size; have d12 := d1.later B2; have y0 := x0.later B2 x0.lt; have y1 := x1.later B2 x1.lt; have y8 := (B2.cell (p := ⟨w.heap.size + 1 + 1, 0, none⟩) x9.out).trans x8; have y9 := Lib.hid (Nat.lt_of_lt_of_le x9.out B2.size))
      | (go_at_call 69; (with_reducible refine (HS.out _ hw2).mono ?_); rintro e w5 ⟨p5, rfl, d5, B5⟩; have hw5 := below_on hw2 B5 hw2.size; have d15 := d12.later B5; have d25 := d2.later B5; have t0 := y0.later B5 y0.lt; have t1 := y1.later B5 y1.lt; have t8 := (B5.cell (p := ⟨w.heap.size + 1 + 1, 0, none⟩) y9.out).trans y8; have t9 := Lib.hid (Nat.lt_of_lt_of_le y9.out B5.size); have v0 := t0.alloc (.cells #[.func (.func 99) #[] p1, .func (.func 100) #[] p2, .func (.func 100) #[] p5, .func (.func 89) #[] #[.pointer (some ⟨w.heap.size + 1 + 1, 0, none⟩)], .func (.func 60) #[] #[]] 79); have v1 := t1.alloc (.cells #[.func (.func 99) #[] p1, .func (.func 100) #[] p2, .func (.func 100) #[] p5, .func (.func 89) #[] #[.pointer (some ⟨w.heap.size + 1 + 1, 0, none⟩)], .func (.func 60) #[] #[]] 79); have BA := (Below.refl _ w5).alloc (Nat.le_refl _) (.cells #[.func (.func 99) #[] p1, .func (.func 100) #[] p2, .func (.func 100) #[] p5, .func (.func 89) #[] #[.pointer (some ⟨w.heap.size + 1 + 1, 0, none⟩)], .func (.func 60) #[] #[]] 79); have v8 := (BA.cell (p := ⟨w.heap.size + 1 + 1, 0, none⟩) t9.out).trans t8; have v9 := Lib.hid (Nat.lt_of_lt_of_le t9.out BA.size))
      | (go_at_call 59; (with_reducible refine (HB.out _ _ _ _ hw5 d15 d25 d5 t8 t9.out).mono ?_); rintro e w4 ⟨rfl, B4⟩; have hw4 := below_on (hw5.alloc hw5.size _) B4 (hw5.alloc hw5.size _).size; have u0 := v0.later B4 v0.lt; have u1 := v1.later B4 v1.lt; have u8 := (B4.cell (p := ⟨w.heap.size + 1 + 1, 0, none⟩) v9.out).trans v8; have g1 := u1.f0; have g2 := u1.f1; have g3 := u1.c0; have g4 := u1.c1))
  go_wp2_with fail
  exact bodyPost_ret (results_row_tmp rfl _ _ (w.heap.size + 1) 23 #[.string R1, .string R2] _ _ rfl (two_strs u1 R1 R2) Tryz.underlying23 rfl (by kernel_rfl)) rfl ⟨rfl, fin1 u1 hw4 (by omega) _ _⟩

end Go.Proofs.YtjkklgpbblkhaaaGreatDoor

/-
  Layer 4: Down, Up, Make and Of.
-/
namespace Go.Proofs.YtjkklgpbblkhaaaGreatDoor
open Go.RowKit Bs Ig

set_option maxRecDepth 100000 in
set_option maxHeartbeats 4000000 in
theorem Down_any (a b : ByteArray) (p : Int) (w : World) (R1 R2 : ByteArray) (R3 : Int) (h : ∀ W, Below w.heap.size w W → Answers 55 #[.agg #[.string a, .string b], .int .i64 p, .func (.func 56) #[] #[]] (R1, R2, R3) W) :
    Answers 23 #[.agg #[.string a, .string b], .int .i64 p] (R1, R2, R3) w := by
  obtain ⟨hB, r0, r1⟩ := box1 w a b
  have hc := h _ hB
  unfold Answers at hc ⊢
  simp only at hc ⊢
  have HC := Lib.hid hc
  have c0 := r0.c0
  have c1 := r0.c1
  clear hc h
  go_enter Tryz.func23, Tryz.ntmps23
  go_wp2_with (go_at_call 55; (with_reducible refine HC.out.mono ?_); rintro e w4 ⟨rfl, B4⟩; have hw4 := below_on hB B4 hB.size; have u2 := r1.later B4 r1.lt; have g1 := u2.f0; have g2 := u2.f1; have g3 := u2.c0; have g4 := u2.c1)
  exact bodyPost_ret (results_row_tmp rfl _ _ (w.heap.size + 1) 23 #[.string R1, .string R2] _ _ rfl (two_strs u2 R1 R2) Tryz.underlying23 rfl (by kernel_rfl)) rfl ⟨rfl, fin1 u2 hw4 (by omega) _ _⟩

set_option maxRecDepth 100000 in
set_option maxHeartbeats 4000000 in
theorem Up_any (a b : ByteArray) (p : Int) (w : World) (R1 R2 : ByteArray) (R3 : Int) (h : ∀ W, Below w.heap.size w W → Answers 55 #[.agg #[.string a, .string b], .int .i64 p, .func (.func 58) #[] #[]] (R1, R2, R3) W) :
    Answers 25 #[.agg #[.string a, .string b], .int .i64 p] (R1, R2, R3) w := by
  obtain ⟨hB, r0, r1⟩ := box1 w a b
  have hc := h _ hB
  unfold Answers at hc ⊢
  simp only at hc ⊢
  have HC := Lib.hid hc
  have c0 := r0.c0
  have c1 := r0.c1
  clear hc h
  go_enter Tryz.func25, Tryz.ntmps25
  go_wp2_with (go_at_call 55; (with_reducible refine HC.out.mono ?_); rintro e w4 ⟨rfl, B4⟩; have hw4 := below_on hB B4 hB.size; have u2 := r1.later B4 r1.lt; have g1 := u2.f0; have g2 := u2.f1; have g3 := u2.c0; have g4 := u2.c1)
  exact bodyPost_ret (results_row_tmp rfl _ _ (w.heap.size + 1) 23 #[.string R1, .string R2] _ _ rfl (two_strs u2 R1 R2) Tryz.underlying23 rfl (by kernel_rfl)) rfl ⟨rfl, fin1 u2 hw4 (by omega) _ _⟩

noncomputable def downQ (a b : ByteArray) (p : Int) : ByteArray × ByteArray × Int := if 0 ≤ p ∧ p ≤ 30 then roundQ floorS a b p.toNat else (⟨#[]⟩, ⟨#[]⟩, 40)
noncomputable def upQ (a b : ByteArray) (p : Int) : ByteArray × ByteArray × Int := if 0 ≤ p ∧ p ≤ 30 then roundQ ceilS a b p.toNat else (⟨#[]⟩, ⟨#[]⟩, 40)
theorem qDown_any (a b : ByteArray) (p : Int) (w : World) (ht : TabP w) : Answers 23 #[.agg #[.string a, .string b], .int .i64 p] (downQ a b p) w := by
  unfold downQ
  split
  · rename_i h
    obtain ⟨m, rfl⟩ : ∃ m : Nat, p = m := ⟨p.toNat, by omega⟩
    exact Down_any a b m w _ _ _ fun W hW => round_any floorS _ a b m (by omega) W (ht.later hW) (does_floor W (ht.later hW))
  · exact Down_any a b p w _ _ _ fun W hW => round_no _ a b p (by omega) W
theorem qUp_any (a b : ByteArray) (p : Int) (w : World) (ht : TabP w) : Answers 25 #[.agg #[.string a, .string b], .int .i64 p] (upQ a b p) w := by
  unfold upQ
  split
  · rename_i h
    obtain ⟨m, rfl⟩ : ∃ m : Nat, p = m := ⟨p.toNat, by omega⟩
    exact Up_any a b m w _ _ _ fun W hW => round_any ceilS _ a b m (by omega) W (ht.later hW) (does_ceiling W (ht.later hW))
  · exact Up_any a b p w _ _ _ fun W hW => round_no _ a b p (by omega) W

noncomputable def makeQ (a b : ByteArray) : ByteArray × ByteArray × Int := buildS [reduceS] a b
theorem box0 (w : World) : Below w.heap.size w (w.alloc (.cells #[.string ⟨#[]⟩, .string ⟨#[]⟩] 23)) ∧ IsB (w.alloc (.cells #[.string ⟨#[]⟩, .string ⟨#[]⟩] 23)) w.heap.size ⟨#[]⟩ ⟨#[]⟩ :=
  ⟨(Below.refl _ w).alloc (Nat.le_refl _) _, IsB.new _ _ _⟩
set_option maxRecDepth 100000 in
set_option maxHeartbeats 4000000 in
theorem qMake_any (a b : ByteArray) (w : World) (ht : TabP w) : Answers 27 #[.string a, .string b] (makeQ a b) w := by
  obtain ⟨hB, r1⟩ := box0 w
  have hb := build_1 (does_reduce _ (ht.later hB)) a b
  unfold Builds at hb
  rw [show (w.alloc (.cells #[.string ⟨#[]⟩, .string ⟨#[]⟩] 23)).heap.size = w.heap.size + 1 by simp] at hb
  have HB := Lib.hid hb
  unfold Answers makeQ
  obtain ⟨R1, R2, R3, hR⟩ : ∃ x y z, buildS [reduceS] a b = (x, y, z) := ⟨_, _, _, rfl⟩
  rw [hR] at HB ⊢
  simp only at HB ⊢
  have hA := hB.alloc hB.size (.cells #[.func (.func 60) #[] #[]] 79)
  have r2 := r1.alloc (.cells #[.func (.func 60) #[] #[]] 79)
  clear hR hb ht
  go_enter Tryz.func27, Tryz.ntmps27
  go_wp2_with (go_at_call 59; (with_reducible refine HB.out.mono ?_); rintro e w4 ⟨rfl, B4⟩; have hw4 := below_on hA B4 hA.size; have u2 := r2.later B4 r2.lt; have g1 := u2.f0; have g2 := u2.f1; have g3 := u2.c0; have g4 := u2.c1)
  exact bodyPost_ret (results_row_tmp rfl _ _ w.heap.size 23 #[.string R1, .string R2] _ _ rfl (two_strs u2 R1 R2) Tryz.underlying23 rfl (by kernel_rfl)) rfl ⟨rfl, fin1 u2 hw4 (by omega) _ _⟩

set_option maxRecDepth 100000 in
set_option maxHeartbeats 4000000 in
theorem qOf_any (x y : Int) (hx0 : -9223372036854775808 ≤ x) (hx1 : x ≤ 9223372036854775807) (hy0 : -9223372036854775808 ≤ y) (hy1 : y ≤ 9223372036854775807) (w : World) (ht : TabP w) :
    Answers 31 #[.int .i64 x, .int .i64 y] (makeQ (bs (Lib.itoa x)) (bs (Lib.itoa y))) w := by
  obtain ⟨hB, r1⟩ := box0 w
  have HX := Lib.hid (fun (W : World) (hb : Below w.heap.size w W) => FromInt_any x hx0 hx1 W (ht.later hb))
  have HY := Lib.hid (fun (W : World) (hb : Below w.heap.size w W) => FromInt_any y hy0 hy1 W (ht.later hb))
  have HM := Lib.hid (fun (W : World) (hb : Below w.heap.size w W) => qMake_any (bs (Lib.itoa x)) (bs (Lib.itoa y)) W (ht.later hb))
  unfold Answers at HM ⊢
  obtain ⟨R1, R2, R3, hR⟩ : ∃ u v z, makeQ (bs (Lib.itoa x)) (bs (Lib.itoa y)) = (u, v, z) := ⟨_, _, _, rfl⟩
  rw [hR] at HM ⊢
  simp only at HM ⊢
  generalize bs (Lib.itoa x) = X at *
  generalize bs (Lib.itoa y) = Y at *
  clear hR ht
  go_enter Tryz.func31, Tryz.ntmps31
  go_wp2_with (first
    | (go_at_call 64; (with_reducible refine (HY.out _ hw1).mono ?_); rintro e w2 ⟨rfl, B2⟩; have hw2 := below_on hw1 B2 hw1.size; have v1 := u1.later B2 u1.lt)
    | (go_at_call 64; (with_reducible refine (HX.out _ hB).mono ?_); rintro e w1 ⟨rfl, B1⟩; have hw1 := below_on hB B1 hB.size; have u1 := r1.later B1 r1.lt)
    | (go_at_call 27; (with_reducible refine (HM.out _ hw2).mono ?_); rintro e w4 ⟨rfl, B4⟩; have hw4 := below_on hw2 B4 hw2.size; have u2 := v1.later B4 v1.lt; have g1 := u2.f0; have g2 := u2.f1; have g3 := u2.c0; have g4 := u2.c1))
  exact bodyPost_ret (results_row_tmp rfl _ _ w.heap.size 23 #[.string R1, .string R2] _ _ rfl (two_strs u2 R1 R2) Tryz.underlying23 rfl (by kernel_rfl)) rfl ⟨rfl, fin1 u2 hw4 (by omega) _ _⟩

end Go.Proofs.YtjkklgpbblkhaaaGreatDoor

/-
  Layer 4: the order of fractions, whatever strings they are; Print.
-/
namespace Go.Proofs.YtjkklgpbblkhaaaGreatDoor
open Go.RowKit Bs Ig

set_option maxRecDepth 100000 in
set_option maxHeartbeats 4000000 in
theorem compare_no (a b c d : ByteArray) (w : World) (ht : TabP w) (h : validB a b = false ∨ validB c d = false) :
    Calls Tryz.prog 20 #[.agg #[.string a, .string b], .agg #[.string c, .string d]] w fun e w' => e = .returned (.int .i64 0) ∧ Below w.heap.size w w' := by
  obtain ⟨W0, hW0, hB, r0, r1⟩ : ∃ W, W = ((w.alloc (.cells #[.string a, .string b] 23)).alloc (.cells #[.string c, .string d] 23)) ∧ Below w.heap.size w W ∧ IsB W w.heap.size a b ∧ IsB W (w.heap.size + 1) c d :=
    ⟨_, rfl, ((Below.refl _ w).alloc (Nat.le_refl _) _).alloc (by simp) _, (IsB.new w a b).alloc _, IsB.new' _ _ _ _ (by simp)⟩
  have HV1 := Lib.hid (fun (W : World) (hb : Below w.heap.size w W) => qValid_any a b W (ht.later hb))
  have HV2 := Lib.hid (fun (W : World) (hb : Below w.heap.size w W) => qValid_any c d W (ht.later hb))
  obtain ⟨v1, h1⟩ : ∃ v, validB a b = v := ⟨_, rfl⟩
  obtain ⟨v2, h2⟩ : ∃ v, validB c d = v := ⟨_, rfl⟩
  rw [h1] at HV1 h
  rw [h2] at HV2 h
  have k0 := r0.c0
  have k1 := r0.c1
  rw [hW0] at k0 k1
  clear ht h1 h2
  cases v1 with
  | false =>
    clear h
    go_enter Tryz.func20, Tryz.ntmps20
    go_wp2_with fail
    go_step3
    go_wp2_with (go_at_call 29; rw [← hW0]; (with_reducible refine (HV1.out _ hB).mono ?_); rintro e w1 ⟨rfl, B1⟩; have hw1 := below_on hB B1 hB.size)
    rw [Exit.noGoto_ret]
    go_ret
    exact ⟨rfl, hw1⟩
  | true =>
    obtain rfl : v2 = false := by rcases h with h | h; cases h; exact h
    go_enter Tryz.func20, Tryz.ntmps20
    go_wp2_with fail
    go_step3
    go_wp2_with (first
      | (go_at_call 29; rw [← hW0]; (with_reducible refine (HV1.out _ hB).mono ?_); rintro e w1 ⟨rfl, B1⟩; have hw1 := below_on hB B1 hB.size; have s1 := r1.later B1 r1.lt; have k2 := s1.c0; have k3 := s1.c1)
      | (go_at_call 29; (with_reducible refine (HV2.out _ hw1).mono ?_); rintro e w2 ⟨rfl, B2⟩; have hw2 := below_on hw1 B2 hw1.size))
    rw [Exit.noGoto_ret]
    go_ret
    exact ⟨rfl, hw2⟩

noncomputable def printQ (N D : ByteArray) : ByteArray := if validB N D = true then (if (D.toList == [49]) = true then N else N ++ ⟨#[47]⟩ ++ D) else ⟨#[]⟩
set_option maxRecDepth 100000 in
set_option maxHeartbeats 4000000 in
theorem qPrint_any (N D : ByteArray) (hN : N.size ≤ 1000) (hD : D.size ≤ 1000) (w : World) (ht : TabP w) :
    Calls Tryz.prog 33 #[.agg #[.string N, .string D]] w fun e w' => e = .returned (.string (printQ N D)) ∧ Below w.heap.size w w' := by
  have hB : Below w.heap.size w (w.alloc (.cells #[.string N, .string D] 23)) := (Below.refl _ w).alloc (Nat.le_refl _) _
  have r0 := IsB.new w N D
  have HV := Lib.hid (qValid_any N D _ (ht.later hB))
  unfold printQ
  obtain ⟨v, hv⟩ : ∃ v, validB N D = v := ⟨_, rfl⟩
  obtain ⟨x, hx⟩ : ∃ v, (D.toList == [49]) = v := ⟨_, rfl⟩
  rw [hv] at HV ⊢
  simp only [hx]
  have c0 := r0.c0
  have c1 := r0.c1
  have hs : N.size + 1 + D.size ≤ 9223372036854775807 := by omega
  clear ht hv
  cases v with
  | false =>
    clear hx
    go_enter Tryz.func33, Tryz.ntmps33
    go_wp2_with (go_at_call 29; (with_reducible refine HV.out.mono ?_); rintro e w1 ⟨rfl, B1⟩)
    go_ret
    exact ⟨rfl, below_on hB B1 hB.size⟩
  | true =>
    cases x with
    | true =>
      go_enter Tryz.func33, Tryz.ntmps33
      go_wp2_with (go_at_call 29; (with_reducible refine HV.out.mono ?_); rintro e w1 ⟨rfl, B1⟩; have s0 := r0.later B1 r0.lt; have k0 := s0.c0; have k1 := s0.c1)
      go_ret
      exact ⟨rfl, below_on hB B1 hB.size⟩
    | false =>
      have f1 : ¬ 9223372036854775807 < N.size + 1 := by omega
      have f2 : ¬ 9223372036854775807 < (N ++ ⟨#[47]⟩).size + D.size := by rw [ByteArray.size_append]; show ¬ 9223372036854775807 < N.size + 1 + D.size; omega
      go_enter Tryz.func33, Tryz.ntmps33
      go_wp2_with (go_at_call 29; (with_reducible refine HV.out.mono ?_); rintro e w1 ⟨rfl, B1⟩; have s0 := r0.later B1 r0.lt; have k0 := s0.c0; have k1 := s0.c1)
      go_ret
      exact ⟨rfl, below_on hB B1 hB.size⟩

end Go.Proofs.YtjkklgpbblkhaaaGreatDoor
