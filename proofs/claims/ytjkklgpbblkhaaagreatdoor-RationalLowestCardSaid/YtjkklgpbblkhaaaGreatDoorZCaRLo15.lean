/-
  Put together by program out of these texts, in this order: Qre, Qrf, Qfo, Qco, Qrp.
-/
import Derived.Test.YtjkklgpbblkhaaaGreatDoorZCaRLo14

/-
  Layer 4: lowest terms.
-/
namespace Go.Proofs.YtjkklgpbblkhaaaGreatDoor
open Go.RowKit Bs Ig

/-- what a call of build answers -/
abbrev Builds (r : ByteArray × ByteArray × Int) (v : Value) (N D : ByteArray) (W : World) : Prop :=
  Calls Tryz.prog 59 #[.agg #[.string N, .string D], v] W fun e W' => e = .returned (.tuple #[.agg #[.string r.1, .string r.2.1], .int .i64 r.2.2]) ∧ Below W.heap.size W W'
theorem build_at (fs : List Stp) (us : List Value) (w : World) (n : Nat) (N D : ByteArray) (hn : us.length = n) (hf : fs.length = n) (hn2 : n ≤ 100)
    (hdo : ∀ i (h : i < us.length) (h' : i < fs.length), Does w us[i] fs[i]) :
    Builds (buildS fs N D) (.slice (some ⟨w.heap.size, 0, none⟩) n n) N D (w.alloc (.cells us.toArray 79)) := by
  refine build_does fs us w.heap.size 0 n n N D _ hn hf hn2 (Nat.le_refl _) (by simp) (fun i hi => ?_) (fun i hi h' => (hdo i hi h').later ((Below.refl _ w).alloc (Nat.le_refl _) _))
  rw [Nat.zero_add, cell_of_row _ _ _ _ _ _ (heap_alloc_new _ _)]
  simp [hi]
theorem build_1 {F1 : Stp} {u1 : Value} {w : World} (h1 : Does w u1 F1) (N D : ByteArray) :
    Builds (buildS [F1] N D) (.slice (some ⟨w.heap.size, 0, none⟩) 1 1) N D (w.alloc (.cells #[u1] 79)) :=
  build_at [F1] [u1] w 1 N D rfl rfl (by omega) (fun i h _ => by match i, h with | 0, _ => exact h1)
theorem build_2 {F1 F2 : Stp} {u1 u2 : Value} {w : World} (h1 : Does w u1 F1) (h2 : Does w u2 F2) (N D : ByteArray) :
    Builds (buildS [F1, F2] N D) (.slice (some ⟨w.heap.size, 0, none⟩) 2 2) N D (w.alloc (.cells #[u1, u2] 79)) :=
  build_at [F1, F2] [u1, u2] w 2 N D rfl rfl (by omega) (fun i h _ => by match i, h with | 0, _ => exact h1 | 1, _ => exact h2)
theorem build_4 {F1 F2 F3 F4 : Stp} {u1 u2 u3 u4 : Value} {w : World} (h1 : Does w u1 F1) (h2 : Does w u2 F2) (h3 : Does w u3 F3) (h4 : Does w u4 F4) (N D : ByteArray) :
    Builds (buildS [F1, F2, F3, F4] N D) (.slice (some ⟨w.heap.size, 0, none⟩) 4 4) N D (w.alloc (.cells #[u1, u2, u3, u4] 79)) :=
  build_at [F1, F2, F3, F4] [u1, u2, u3, u4] w 4 N D rfl rfl (by omega) (fun i h _ => by match i, h with | 0, _ => exact h1 | 1, _ => exact h2 | 2, _ => exact h3 | 3, _ => exact h4)
theorem build_5 {F1 F2 F3 F4 F5 : Stp} {u1 u2 u3 u4 u5 : Value} {w : World} (h1 : Does w u1 F1) (h2 : Does w u2 F2) (h3 : Does w u3 F3) (h4 : Does w u4 F4) (h5 : Does w u5 F5) (N D : ByteArray) :
    Builds (buildS [F1, F2, F3, F4, F5] N D) (.slice (some ⟨w.heap.size, 0, none⟩) 5 5) N D (w.alloc (.cells #[u1, u2, u3, u4, u5] 79)) :=
  build_at [F1, F2, F3, F4, F5] [u1, u2, u3, u4, u5] w 5 N D rfl rfl (by omega) (fun i h _ => by match i, h with | 0, _ => exact h1 | 1, _ => exact h2 | 2, _ => exact h3 | 3, _ => exact h4 | 4, _ => exact h5)

noncomputable def lowestS : Stp := fun N D => if ((gcdS N D).2 != 0) = true then (⟨#[]⟩, ⟨#[]⟩, (gcdS N D).2) else buildS [numS floorS (gcdS N D).1, denS floorS (gcdS N D).1] N D

/-- the boxes of a function of one fraction -/
theorem box1 (w : World) (N D : ByteArray) : Below w.heap.size w ((w.alloc (.cells #[.string N, .string D] 23)).alloc (.cells #[.string ⟨#[]⟩, .string ⟨#[]⟩] 23)) ∧
    IsB ((w.alloc (.cells #[.string N, .string D] 23)).alloc (.cells #[.string ⟨#[]⟩, .string ⟨#[]⟩] 23)) w.heap.size N D ∧
    IsB ((w.alloc (.cells #[.string N, .string D] 23)).alloc (.cells #[.string ⟨#[]⟩, .string ⟨#[]⟩] 23)) (w.heap.size + 1) ⟨#[]⟩ ⟨#[]⟩ :=
  ⟨((Below.refl _ w).alloc (Nat.le_refl _) _).alloc (by simp) _, (IsB.new w N D).alloc _, IsB.new' _ _ _ _ (by simp)⟩
/-- the result is laid -/
theorem fin1 {w W : World} {g : Nat} {a b : ByteArray} (h : IsB W g a b) (hB : Below w.heap.size w W) (hg : w.heap.size ≤ g) (N D : ByteArray) :
    Below w.heap.size w ((W.setCell ⟨g, 0, none⟩ (.string N)).setCell ⟨g, 1, none⟩ (.string D)) := (hB.setCell (p := ⟨g, 0, none⟩) hg _).setCell (p := ⟨g, 1, none⟩) hg _

set_option maxRecDepth 100000 in
set_option maxHeartbeats 4000000 in
theorem lowest_any (N D : ByteArray) (w : World) (ht : TabP w) :
    Calls Tryz.prog 92 #[.agg #[.string N, .string D]] w fun e w' => e = .returned (.tuple #[.agg #[.string (lowestS N D).1, .string (lowestS N D).2.1], .int .i64 (lowestS N D).2.2]) ∧ Below w.heap.size w w' := by
  obtain ⟨hB, r0, r1⟩ := box1 w N D
  have HG := Lib.hid (Gcd_all N D _ (ht.later hB))
  unfold Gives at HG
  unfold lowestS
  obtain ⟨G, E, hGE⟩ : ∃ G E, gcdS N D = (G, E) := ⟨_, _, rfl⟩
  rw [hGE] at HG ⊢
  simp only at HG ⊢
  have HN := Lib.hid (fun (W : World) (hb : Below w.heap.size w W) => num_any floorS G _ W (does_floor W (ht.later hb)))
  have HD := Lib.hid (fun (W : World) (hb : Below w.heap.size w W) => den_any floorS G _ W (does_floor W (ht.later hb)))
  have HB := Lib.hid (fun (u1 u2 : Value) (W : World) (h1 : Does W u1 (numS floorS G)) (h2 : Does W u2 (denS floorS G)) => build_2 h1 h2 N D)
  unfold Builds at HB
  obtain ⟨R1, R2, R3, hR⟩ : ∃ a b c, buildS [numS floorS G, denS floorS G] N D = (a, b, c) := ⟨_, _, _, rfl⟩
  rw [hR] at HB ⊢
  simp only at HB
  obtain ⟨x, hx⟩ : ∃ x, (E != 0) = x := ⟨_, rfl⟩
  simp only [hx]
  have c0 := r0.c0
  have c1 := r0.c1
  clear hGE hR ht
  cases x with
  | true =>
    simp only [if_true]
    go_enter Tryz.func92, Tryz.ntmps92
    go_wp2_with (go_at_call 63; (with_reducible refine HG.out.mono ?_); rintro e w1 ⟨rfl, B1⟩; have q1 := r1.later B1 r1.lt; have g1 := q1.f0; have g2 := q1.f1; have g3 := q1.c0; have g4 := q1.c1)
    have hw1 := below_on hB B1 hB.size
    exact bodyPost_ret (results_row_tmp rfl _ _ (w.heap.size + 1) 23 #[.string ⟨#[]⟩, .string ⟨#[]⟩] _ _ rfl (two_strs q1 ⟨#[]⟩ ⟨#[]⟩) Tryz.underlying23 rfl (by kernel_rfl)) rfl ⟨rfl, fin1 q1 hw1 (by omega) _ _⟩
  | false =>
    simp only [if_false, Bool.false_eq_true]
    go_enter Tryz.func92, Tryz.ntmps92
    go_wp2_with (go_at_call 63; (with_reducible refine HG.out.mono ?_); rintro e w1 ⟨rfl, B1⟩; have b0 := r0.later B1 r0.lt; have b1 := r1.later B1 r1.lt; have hw1 := below_on hB B1 hB.size; clear c0 c1; have c0 := b0.c0; have c1 := b0.c1)
    have hd := off_drew (show Below w.heap.size w1.drew w1.drew from Below.refl _ _)
    go_region_held3 (fun w' => w'.cell? ⟨w.heap.size, 0, none⟩ = some (.string N) ∧ w'.cell? ⟨w.heap.size, 1, none⟩ = some (.string D)) (first | exact ⟨far2 (Nat.succ_ne_self _) k40, far2 (Nat.succ_ne_self _) k41⟩ | go_keep)
      (first
        | (go_at_call 69; (with_reducible refine (HN.out _ (hw1.drew)).mono ?_); rintro e w2 ⟨u2, rfl, d2, B2'⟩; have B2 := below_undrew B2'; have hw2 := below_on hw1 B2 hw1.size; have x0 := b0.later B2 b0.lt; have k20 := x0.c0; have k21 := x0.c1; have b12 := b1.later B2 b1.lt)
        | (go_at_call 71; (with_reducible refine (HD.out _ hw2).mono ?_); rintro e w3 ⟨u3, rfl, d3, B3⟩; have d23 := d2.later B3; have hw3 := below_on hw2 B3 hw2.size; have y0 := x0.later B3 x0.lt; have k30 := y0.c0; have k31 := y0.c1; have b13 := b12.later B3 b12.lt)
        | (go_at_call 59; (with_reducible refine (HB.out _ _ _ d23 d3).mono ?_); rintro e w4 ⟨rfl, B4⟩; have hw4 := below_on (hw3.alloc hw3.size _) B4 (hw3.alloc hw3.size _).size; have z0 := (y0.alloc _).later B4 (y0.alloc _).lt; have k40 := z0.c0; have k41 := z0.c1; have z1 := (b13.alloc _).later B4 (b13.alloc _).lt; have g1 := z1.f0; have g2 := z1.f1; have g3 := z1.c0; have g4 := z1.c1))
    go_wp2_with fail
    exact bodyPost_ret (results_row_tmp rfl _ _ (w.heap.size + 1) 23 #[.string R1, .string R2] _ _ rfl (two_strs z1 R1 R2) Tryz.underlying23 rfl (by kernel_rfl)) rfl ⟨rfl, fin1 z1 hw4 (by omega) _ _⟩

theorem does_lowest (w : World) (ht : TabP w) : Does w (.func (.func 92) #[] #[]) lowestS := ⟨_, _, rfl, fun args w => by kernel_rfl, fun N D W hW => lowest_any N D W (ht.later hW)⟩

noncomputable def positiveS : Stp := fun N D => if (cmpS D ⟨#[48]⟩ == 1) = true then (N, D, 0) else if (cmpS D ⟨#[48]⟩ == -1) = true then buildS [numS subS N, denS subS D] ⟨#[48]⟩ ⟨#[48]⟩ else (⟨#[]⟩, ⟨#[]⟩, 40)

set_option maxRecDepth 100000 in
set_option maxHeartbeats 4000000 in
theorem positive_any (N D : ByteArray) (w : World) (ht : TabP w) :
    Calls Tryz.prog 91 #[.agg #[.string N, .string D]] w fun e w' => e = .returned (.tuple #[.agg #[.string (positiveS N D).1, .string (positiveS N D).2.1], .int .i64 (positiveS N D).2.2]) ∧ Below w.heap.size w w' := by
  obtain ⟨hB, r0, r1⟩ := box1 w N D
  have HC := Lib.hid (fun W => Compare_all D ⟨#[48]⟩ W)
  unfold positiveS
  obtain ⟨c, hc⟩ : ∃ c, cmpS D ⟨#[48]⟩ = c := ⟨_, rfl⟩
  rw [hc] at HC ⊢
  have HN := Lib.hid (fun (W : World) (hb : Below w.heap.size w W) => num_any subS N _ W (does_sub W (ht.later hb)))
  have HD := Lib.hid (fun (W : World) (hb : Below w.heap.size w W) => den_any subS D _ W (does_sub W (ht.later hb)))
  have HB := Lib.hid (fun (u1 u2 : Value) (W : World) (h1 : Does W u1 (numS subS N)) (h2 : Does W u2 (denS subS D)) => build_2 h1 h2 ⟨#[48]⟩ ⟨#[48]⟩)
  unfold Builds at HB
  obtain ⟨R1, R2, R3, hR⟩ : ∃ a b c, buildS [numS subS N, denS subS D] ⟨#[48]⟩ ⟨#[48]⟩ = (a, b, c) := ⟨_, _, _, rfl⟩
  rw [hR] at HB ⊢
  simp only at HB
  obtain ⟨x, hx⟩ : ∃ x, (c == 1) = x := ⟨_, rfl⟩
  obtain ⟨y, hy⟩ : ∃ y, (c == -1) = y := ⟨_, rfl⟩
  simp only [hx, hy]
  have c0 := r0.c0
  have c1 := r0.c1
  clear hc hR ht
  cases x with
  | true =>
    simp only [if_true]
    clear hy
    go_enter Tryz.func91, Tryz.ntmps91
    go_wp2_with (go_at_call 51; (with_reducible refine (HC.out _).mono ?_); rintro e w1 ⟨rfl, B1⟩; have q0 := r0.later B1 r0.lt; have p0 := q0.c0; have p1 := q0.c1; have q1 := r1.later B1 r1.lt; have g1 := q1.f0; have g2 := q1.f1; have g3 := q1.c0; have g4 := q1.c1)
    have hw1 := below_on hB B1 hB.size
    exact bodyPost_ret (results_row_tmp rfl _ _ (w.heap.size + 1) 23 #[.string N, .string D] _ _ rfl (two_strs q1 N D) Tryz.underlying23 rfl (by kernel_rfl)) rfl ⟨rfl, fin1 q1 hw1 (by omega) _ _⟩
  | false =>
    cases y with
    | false =>
      simp only [if_false, Bool.false_eq_true]
      go_enter Tryz.func91, Tryz.ntmps91
      go_wp2_with (go_at_call 51; (with_reducible refine (HC.out _).mono ?_); rintro e w1 ⟨rfl, B1⟩; have q0 := r0.later B1 r0.lt; have p0 := q0.c0; have p1 := q0.c1; have q1 := r1.later B1 r1.lt; have g1 := q1.f0; have g2 := q1.f1; have g3 := q1.c0; have g4 := q1.c1)
      have hw1 := below_on hB B1 hB.size
      exact bodyPost_ret (results_row_tmp rfl _ _ (w.heap.size + 1) 23 #[.string ⟨#[]⟩, .string ⟨#[]⟩] _ _ rfl (two_strs q1 ⟨#[]⟩ ⟨#[]⟩) Tryz.underlying23 rfl (by kernel_rfl)) rfl ⟨rfl, fin1 q1 hw1 (by omega) _ _⟩
    | true =>
      simp only [if_false, Bool.false_eq_true, if_true]
      go_enter Tryz.func91, Tryz.ntmps91
      go_wp2_with (go_at_call 51; (with_reducible refine (HC.out _).mono ?_); rintro e w1 ⟨rfl, B1⟩; have b0 := r0.later B1 r0.lt; have b1 := r1.later B1 r1.lt; have hw1 := below_on hB B1 hB.size; clear c0 c1; have c0 := b0.c0; have c1 := b0.c1)
      go_region_held3 (fun w' => w'.cell? ⟨w.heap.size, 0, none⟩ = some (.string N) ∧ w'.cell? ⟨w.heap.size, 1, none⟩ = some (.string D)) (first | exact ⟨far2 (Nat.succ_ne_self _) k40, far2 (Nat.succ_ne_self _) k41⟩ | go_keep)
        (first
          | (go_at_call 69; (with_reducible refine (HN.out _ (hw1.drew)).mono ?_); rintro e w2 ⟨u2, rfl, d2, B2'⟩; have B2 := below_undrew B2'; have hw2 := below_on hw1 B2 hw1.size; have x0 := b0.later B2 b0.lt; have k20 := x0.c0; have k21 := x0.c1; have b12 := b1.later B2 b1.lt)
          | (go_at_call 71; (with_reducible refine (HD.out _ hw2).mono ?_); rintro e w3 ⟨u3, rfl, d3, B3⟩; have d23 := d2.later B3; have hw3 := below_on hw2 B3 hw2.size; have y0 := x0.later B3 x0.lt; have k30 := y0.c0; have k31 := y0.c1; have b13 := b12.later B3 b12.lt)
          | (go_at_call 59; (with_reducible refine (HB.out _ _ _ d23 d3).mono ?_); rintro e w4 ⟨rfl, B4⟩; have hw4 := below_on (hw3.alloc hw3.size _) B4 (hw3.alloc hw3.size _).size; have z0 := (y0.alloc _).later B4 (y0.alloc _).lt; have k40 := z0.c0; have k41 := z0.c1; have z1 := (b13.alloc _).later B4 (b13.alloc _).lt; have g1 := z1.f0; have g2 := z1.f1; have g3 := z1.c0; have g4 := z1.c1))
      go_wp2_with fail
      exact bodyPost_ret (results_row_tmp rfl _ _ (w.heap.size + 1) 23 #[.string R1, .string R2] _ _ rfl (two_strs z1 R1 R2) Tryz.underlying23 rfl (by kernel_rfl)) rfl ⟨rfl, fin1 z1 hw4 (by omega) _ _⟩
theorem does_positive (w : World) (ht : TabP w) : Does w (.func (.func 91) #[] #[]) positiveS := ⟨_, _, rfl, fun args w => by kernel_rfl, fun N D W hW => positive_any N D W (ht.later hW)⟩

end Go.Proofs.YtjkklgpbblkhaaaGreatDoor

/-
  Layer 4: fractions in lowest terms.
-/
namespace Go.Proofs.YtjkklgpbblkhaaaGreatDoor
open Go.RowKit Bs Ig

noncomputable def reduceS : Stp := fun N D => buildS [positiveS, lowestS] N D
set_option maxRecDepth 100000 in
set_option maxHeartbeats 4000000 in
theorem reduce_any (N D : ByteArray) (w : World) (ht : TabP w) :
    Calls Tryz.prog 60 #[.agg #[.string N, .string D]] w fun e w' => e = .returned (.tuple #[.agg #[.string (reduceS N D).1, .string (reduceS N D).2.1], .int .i64 (reduceS N D).2.2]) ∧ Below w.heap.size w w' := by
  obtain ⟨hB, r0, r1⟩ := box1 w N D
  have hb := build_2 (does_positive _ (ht.later hB)) (does_lowest _ (ht.later hB)) N D
  unfold Builds at hb
  rw [show ((w.alloc (.cells #[.string N, .string D] 23)).alloc (.cells #[.string ⟨#[]⟩, .string ⟨#[]⟩] 23)).heap.size = w.heap.size + 1 + 1 by simp] at hb
  have HB := Lib.hid hb
  unfold reduceS
  obtain ⟨R1, R2, R3, hR⟩ : ∃ a b c, buildS [positiveS, lowestS] N D = (a, b, c) := ⟨_, _, _, rfl⟩
  rw [hR] at HB ⊢
  simp only at HB
  have c0 := r0.c0
  have c1 := r0.c1
  have hA := hB.alloc hB.size (.cells #[.func (.func 91) #[] #[], .func (.func 92) #[] #[]] 79)
  have r2 := r1.alloc (.cells #[.func (.func 91) #[] #[], .func (.func 92) #[] #[]] 79)
  clear hR ht hb
  go_enter Tryz.func60, Tryz.ntmps60
  go_wp2_with (go_at_call 59; (with_reducible refine HB.out.mono ?_); rintro e w4 ⟨rfl, B4⟩; have hw4 := below_on hA B4 hA.size; have z1 := r2.later B4 r2.lt; have g1 := z1.f0; have g2 := z1.f1; have g3 := z1.c0; have g4 := z1.c1)
  exact bodyPost_ret (results_row_tmp rfl _ _ (w.heap.size + 1) 23 #[.string R1, .string R2] _ _ rfl (two_strs z1 R1 R2) Tryz.underlying23 rfl (by kernel_rfl)) rfl ⟨rfl, fin1 z1 hw4 (by omega) _ _⟩
theorem does_reduce (w : World) (ht : TabP w) : Does w (.func (.func 60) #[] #[]) reduceS := ⟨_, _, rfl, fun args w => by kernel_rfl, fun N D W hW => reduce_any N D W (ht.later hW)⟩

end Go.Proofs.YtjkklgpbblkhaaaGreatDoor

/-
  Layer 4: the four operations, Make and Of.
-/
namespace Go.Proofs.YtjkklgpbblkhaaaGreatDoor
open Go.RowKit Bs Ig

/-- what a call that answers a fraction and an error answers -/
abbrev Answers (f : FuncId) (args : Array Value) (r : ByteArray × ByteArray × Int) (W : World) : Prop :=
  Calls Tryz.prog f args W fun e W' => e = .returned (.tuple #[.agg #[.string r.1, .string r.2.1], .int .i64 r.2.2]) ∧ Below W.heap.size W W'
theorem lies_1 (w : World) (a b : ByteArray) : Lies (w.alloc (.cells #[.string a, .string b] 23)) w.heap.size 0 [(a, b)] := by
  refine ⟨by simp, fun i hi => ?_⟩
  match i, hi with
  | 0, _ => exact ⟨by rw [cell_of_row _ _ _ _ _ _ (heap_alloc_new _ _)]; rfl, by rw [cell_of_row _ _ _ _ _ _ (heap_alloc_new _ _)]; rfl⟩
theorem lies_2 (w : World) (a b c d : ByteArray) : Lies (w.alloc (.cells #[.string a, .string b, .string c, .string d] 23)) w.heap.size 0 [(a, b), (c, d)] := by
  refine ⟨by simp, fun i hi => ?_⟩
  match i, hi with
  | 0, _ => exact ⟨by rw [cell_of_row _ _ _ _ _ _ (heap_alloc_new _ _)]; rfl, by rw [cell_of_row _ _ _ _ _ _ (heap_alloc_new _ _)]; rfl⟩
  | 1, _ => exact ⟨by rw [cell_of_row _ _ _ _ _ _ (heap_alloc_new _ _)]; rfl, by rw [cell_of_row _ _ _ _ _ _ (heap_alloc_new _ _)]; rfl⟩
/-- the boxes of a function of two fractions -/
theorem box2 (w : World) (a b c d : ByteArray) : ∃ W, W = (((w.alloc (.cells #[.string a, .string b] 23)).alloc (.cells #[.string c, .string d] 23)).alloc (.cells #[.string ⟨#[]⟩, .string ⟨#[]⟩] 23)) ∧
    Below w.heap.size w W ∧ IsB W w.heap.size a b ∧ IsB W (w.heap.size + 1) c d ∧ IsB W (w.heap.size + 1 + 1) ⟨#[]⟩ ⟨#[]⟩ :=
  ⟨_, rfl, (((Below.refl _ w).alloc (Nat.le_refl _) _).alloc (by simp) _).alloc (by simp; omega) _, ((IsB.new w a b).alloc _).alloc _, (IsB.new' _ _ _ _ (by simp)).alloc _, IsB.new' _ _ _ _ (by simp)⟩

noncomputable def mulQ (a b c d : ByteArray) : ByteArray × ByteArray × Int := buildS [validS [(a, b), (c, d)], numS mulS c, denS mulS d, reduceS] a b

set_option maxRecDepth 100000 in
set_option maxHeartbeats 8000000 in
theorem qMul_any (a b c d : ByteArray) (w : World) (ht : TabP w) : Answers 39 #[.agg #[.string a, .string b], .agg #[.string c, .string d]] (mulQ a b c d) w := by
  unfold Answers mulQ
  obtain ⟨W0, hW0, hB, r0, r1, r2⟩ := box2 w a b c d
  have HN := Lib.hid (fun (W : World) (hb : Below w.heap.size w W) => num_any mulS c _ W (does_mul W (ht.later hb)))
  have HD := Lib.hid (fun (W : World) (hb : Below w.heap.size w W) => den_any mulS d _ W (does_mul W (ht.later hb)))
  have HB := Lib.hid (fun (u1 u2 u3 : Value) (W : World) (hb : Below w.heap.size w W) (h1 : Does W u1 (validS [(a, b), (c, d)])) (h2 : Does W u2 (numS mulS c)) (h3 : Does W u3 (denS mulS d)) => build_4 h1 h2 h3 (does_reduce W (ht.later hb)) a b)
  unfold Builds at HB
  obtain ⟨R1, R2, R3, hR⟩ : ∃ x y z, buildS [validS [(a, b), (c, d)], numS mulS c, denS mulS d, reduceS] a b = (x, y, z) := ⟨_, _, _, rfl⟩
  rw [hR] at HB ⊢
  simp only at HB
  have hA := hB.alloc hB.size (.cells #[.string a, .string b, .string c, .string d] 23)
  have HV := Lib.hid (valid_any4 [(a, b), (c, d)] W0.heap.size 0 2 2 (W0.alloc (.cells #[.string a, .string b, .string c, .string d] 23)).drew (ht.later hA.drew) ⟨(lies_2 W0 a b c d).1, (lies_2 W0 a b c d).2⟩ rfl (by omega) (by omega))
  have s0 := r0.alloc (.cells #[.string a, .string b, .string c, .string d] 23)
  have s1 := r1.alloc (.cells #[.string a, .string b, .string c, .string d] 23)
  have s2 := r2.alloc (.cells #[.string a, .string b, .string c, .string d] 23)
  clear hR ht
  go_enter Tryz.func39, Tryz.ntmps39
  go_wp2_with fail
  refine wp_world fun W hW => ?_
  rw [hW0.symm] at hW
  subst hW
  clear hW0
  have c0 := r0.c0
  have c1 := r0.c1
  have c2 := r1.c0
  have c3 := r1.c1
  go_region_held3 (fun w' => w'.cell? ⟨w.heap.size, 0, none⟩ = some (.string a) ∧ w'.cell? ⟨w.heap.size, 1, none⟩ = some (.string b) ∧ w'.cell? ⟨w.heap.size + 1, 0, none⟩ = some (.string c) ∧ w'.cell? ⟨w.heap.size + 1, 1, none⟩ = some (.string d)) (first | exact ⟨s0.c0, s0.c1, s1.c0, s1.c1⟩ | exact ⟨x0.c0, x0.c1, x1.c0, x1.c1⟩ | exact ⟨y0.c0, y0.c1, y1.c0, y1.c1⟩ | exact ⟨z0.c0, z0.c1, z1.c0, z1.c1⟩ | exact ⟨v0.c0, v0.c1, v1.c0, v1.c1⟩ | exact ⟨u0.c0, u0.c1, u1.c0, u1.c1⟩ | exact ⟨far2 (ne0 _) u0.c0, far2 (ne0 _) u0.c1, far2 (ne1 _) u1.c0, far2 (ne1 _) u1.c1⟩ | go_keep)
    (first
      | (go_at_call 68; (with_reducible refine HV.out.mono ?_); rintro e w1 ⟨p1, rfl, d1, B1'⟩; have B1 := below_undrew B1'; have hw1 := below_on hA B1 hA.size; have x0 := s0.later B1 s0.lt; have x1 := s1.later B1 s1.lt; have x2 := s2.later B1 s2.lt)
      | (go_at_call 69; (with_reducible refine (HN.out _ hw1).mono ?_); rintro e w2 ⟨p2, rfl, d2, B2⟩; have hw2 := below_on hw1 B2 hw1.size; have d12 := d1.later B2; have y0 := x0.later B2 x0.lt; have y1 := x1.later B2 x1.lt; have y2 := x2.later B2 x2.lt)
      | (go_at_call 71; (with_reducible refine (HD.out _ hw2).mono ?_); rintro e w3 ⟨p3, rfl, d3, B3⟩; have hw3 := below_on hw2 B3 hw2.size; have d13 := d12.later B3; have d23 := d2.later B3; have z0 := y0.later B3 y0.lt; have z1 := y1.later B3 y1.lt; have z2 := y2.later B3 y2.lt; have v0 := z0.alloc (.cells #[.func (.func 99) #[] p1, .func (.func 100) #[] p2, .func (.func 102) #[] p3, .func (.func 60) #[] #[]] 79); have v1 := z1.alloc (.cells #[.func (.func 99) #[] p1, .func (.func 100) #[] p2, .func (.func 102) #[] p3, .func (.func 60) #[] #[]] 79))
      | (go_at_call 59; (with_reducible refine (HB.out _ _ _ _ hw3 d13 d23 d3).mono ?_); rintro e w4 ⟨rfl, B4⟩; have hw4 := below_on (hw3.alloc hw3.size _) B4 (hw3.alloc hw3.size _).size; have u0 := v0.later B4 v0.lt; have u1 := v1.later B4 v1.lt; have u2 := (z2.alloc _).later B4 (z2.alloc _).lt; have g1 := u2.f0; have g2 := u2.f1; have g3 := u2.c0; have g4 := u2.c1))
  go_wp2_with fail
  exact bodyPost_ret (results_row_tmp rfl _ _ (w.heap.size + 1 + 1) 23 #[.string R1, .string R2] _ _ rfl (two_strs u2 R1 R2) Tryz.underlying23 rfl (by kernel_rfl)) rfl ⟨rfl, fin1 u2 hw4 (by omega) _ _⟩

noncomputable def divQ (a b c d : ByteArray) : ByteArray × ByteArray × Int := buildS [validS [(a, b), (c, d)], numS mulS d, denS mulS c, reduceS] a b

set_option maxRecDepth 100000 in
set_option maxHeartbeats 8000000 in
theorem qDiv_any (a b c d : ByteArray) (w : World) (ht : TabP w) : Answers 45 #[.agg #[.string a, .string b], .agg #[.string c, .string d]] (divQ a b c d) w := by
  unfold Answers divQ
  obtain ⟨W0, hW0, hB, r0, r1, r2⟩ := box2 w a b c d
  have HN := Lib.hid (fun (W : World) (hb : Below w.heap.size w W) => num_any mulS d _ W (does_mul W (ht.later hb)))
  have HD := Lib.hid (fun (W : World) (hb : Below w.heap.size w W) => den_any mulS c _ W (does_mul W (ht.later hb)))
  have HB := Lib.hid (fun (u1 u2 u3 : Value) (W : World) (hb : Below w.heap.size w W) (h1 : Does W u1 (validS [(a, b), (c, d)])) (h2 : Does W u2 (numS mulS d)) (h3 : Does W u3 (denS mulS c)) => build_4 h1 h2 h3 (does_reduce W (ht.later hb)) a b)
  unfold Builds at HB
  obtain ⟨R1, R2, R3, hR⟩ : ∃ x y z, buildS [validS [(a, b), (c, d)], numS mulS d, denS mulS c, reduceS] a b = (x, y, z) := ⟨_, _, _, rfl⟩
  rw [hR] at HB ⊢
  simp only at HB
  have hA := hB.alloc hB.size (.cells #[.string a, .string b, .string c, .string d] 23)
  have HV := Lib.hid (valid_any4 [(a, b), (c, d)] W0.heap.size 0 2 2 (W0.alloc (.cells #[.string a, .string b, .string c, .string d] 23)).drew (ht.later hA.drew) ⟨(lies_2 W0 a b c d).1, (lies_2 W0 a b c d).2⟩ rfl (by omega) (by omega))
  have s0 := r0.alloc (.cells #[.string a, .string b, .string c, .string d] 23)
  have s1 := r1.alloc (.cells #[.string a, .string b, .string c, .string d] 23)
  have s2 := r2.alloc (.cells #[.string a, .string b, .string c, .string d] 23)
  clear hR ht
  go_enter Tryz.func45, Tryz.ntmps45
  go_wp2_with fail
  refine wp_world fun W hW => ?_
  rw [hW0.symm] at hW
  subst hW
  clear hW0
  have c0 := r0.c0
  have c1 := r0.c1
  have c2 := r1.c0
  have c3 := r1.c1
  go_region_held3 (fun w' => w'.cell? ⟨w.heap.size, 0, none⟩ = some (.string a) ∧ w'.cell? ⟨w.heap.size, 1, none⟩ = some (.string b) ∧ w'.cell? ⟨w.heap.size + 1, 0, none⟩ = some (.string c) ∧ w'.cell? ⟨w.heap.size + 1, 1, none⟩ = some (.string d)) (first | exact ⟨s0.c0, s0.c1, s1.c0, s1.c1⟩ | exact ⟨x0.c0, x0.c1, x1.c0, x1.c1⟩ | exact ⟨y0.c0, y0.c1, y1.c0, y1.c1⟩ | exact ⟨z0.c0, z0.c1, z1.c0, z1.c1⟩ | exact ⟨v0.c0, v0.c1, v1.c0, v1.c1⟩ | exact ⟨u0.c0, u0.c1, u1.c0, u1.c1⟩ | exact ⟨far2 (ne0 _) u0.c0, far2 (ne0 _) u0.c1, far2 (ne1 _) u1.c0, far2 (ne1 _) u1.c1⟩ | go_keep)
    (first
      | (go_at_call 68; (with_reducible refine HV.out.mono ?_); rintro e w1 ⟨p1, rfl, d1, B1'⟩; have B1 := below_undrew B1'; have hw1 := below_on hA B1 hA.size; have x0 := s0.later B1 s0.lt; have x1 := s1.later B1 s1.lt; have x2 := s2.later B1 s2.lt)
      | (go_at_call 69; (with_reducible refine (HN.out _ hw1).mono ?_); rintro e w2 ⟨p2, rfl, d2, B2⟩; have hw2 := below_on hw1 B2 hw1.size; have d12 := d1.later B2; have y0 := x0.later B2 x0.lt; have y1 := x1.later B2 x1.lt; have y2 := x2.later B2 x2.lt)
      | (go_at_call 71; (with_reducible refine (HD.out _ hw2).mono ?_); rintro e w3 ⟨p3, rfl, d3, B3⟩; have hw3 := below_on hw2 B3 hw2.size; have d13 := d12.later B3; have d23 := d2.later B3; have z0 := y0.later B3 y0.lt; have z1 := y1.later B3 y1.lt; have z2 := y2.later B3 y2.lt; have v0 := z0.alloc (.cells #[.func (.func 99) #[] p1, .func (.func 100) #[] p2, .func (.func 102) #[] p3, .func (.func 60) #[] #[]] 79); have v1 := z1.alloc (.cells #[.func (.func 99) #[] p1, .func (.func 100) #[] p2, .func (.func 102) #[] p3, .func (.func 60) #[] #[]] 79))
      | (go_at_call 59; (with_reducible refine (HB.out _ _ _ _ hw3 d13 d23 d3).mono ?_); rintro e w4 ⟨rfl, B4⟩; have hw4 := below_on (hw3.alloc hw3.size _) B4 (hw3.alloc hw3.size _).size; have u0 := v0.later B4 v0.lt; have u1 := v1.later B4 v1.lt; have u2 := (z2.alloc _).later B4 (z2.alloc _).lt; have g1 := u2.f0; have g2 := u2.f1; have g3 := u2.c0; have g4 := u2.c1))
  go_wp2_with fail
  exact bodyPost_ret (results_row_tmp rfl _ _ (w.heap.size + 1 + 1) 23 #[.string R1, .string R2] _ _ rfl (two_strs u2 R1 R2) Tryz.underlying23 rfl (by kernel_rfl)) rfl ⟨rfl, fin1 u2 hw4 (by omega) _ _⟩

end Go.Proofs.YtjkklgpbblkhaaaGreatDoor

/-
  Layer 4: sums and differences.
-/
namespace Go.Proofs.YtjkklgpbblkhaaaGreatDoor
open Go.RowKit Bs Ig

theorem box3 (w : World) (a b c d : ByteArray) (v : Value) : ∃ W, W = ((((w.alloc (.cells #[.string a, .string b] 23)).alloc (.cells #[.string c, .string d] 23)).alloc (.cells #[v] 101)).alloc (.cells #[.string ⟨#[]⟩, .string ⟨#[]⟩] 23)) ∧
    Below w.heap.size w W ∧ IsB W w.heap.size a b ∧ IsB W (w.heap.size + 1) c d ∧ W.cell? ⟨w.heap.size + 1 + 1, 0, none⟩ = some v ∧ w.heap.size + 1 + 1 < W.heap.size ∧ IsB W (w.heap.size + 1 + 1 + 1) ⟨#[]⟩ ⟨#[]⟩ := by
  refine ⟨_, rfl, ((((Below.refl _ w).alloc (Nat.le_refl _) _).alloc (by simp) _).alloc (by simp; omega) _).alloc (by simp; omega) _, (((IsB.new w a b).alloc _).alloc _).alloc _, ((IsB.new' _ _ _ _ (by simp)).alloc _).alloc _, ?_, by simp, IsB.new' _ _ _ _ (by simp)⟩
  have h := heap_alloc_new ((w.alloc (.cells #[.string a, .string b] 23)).alloc (.cells #[.string c, .string d] 23)) (.cells #[v] 101)
  rw [show ((w.alloc (.cells #[.string a, .string b] 23)).alloc (.cells #[.string c, .string d] 23)).heap.size = w.heap.size + 1 + 1 by simp] at h
  rw [cell_of_row _ _ 0 _ _ _ ((heap_alloc_old _ _ (by simp)).trans h)]; rfl
theorem ne03 (s : Nat) : s + 1 + 1 + 1 ≠ s := by omega
theorem ne13 (s : Nat) : s + 1 + 1 + 1 ≠ s + 1 := by omega

noncomputable def combineQ (op : ByteArray → ByteArray → ByteArray × Int) (a b c d : ByteArray) : ByteArray × ByteArray × Int := buildS [validS [(a, b), (c, d)], numS mulS d, numS (scaledS op b) c, denS mulS d, reduceS] a b

set_option maxRecDepth 100000 in
set_option maxHeartbeats 8000000 in
theorem combine_any (op : ByteArray → ByteArray → ByteArray × Int) (v : Value) (a b c d : ByteArray) (w : World) (ht : TabP w) (hop : DoesOp w v op) :
    Answers 66 #[.agg #[.string a, .string b], .agg #[.string c, .string d], v] (combineQ op a b c d) w := by
  unfold Answers combineQ
  obtain ⟨W0, hW0, hB, r0, r1, hv1, hv2, r2⟩ := box3 w a b c d v
  have HN := Lib.hid (fun (W : World) (hb : Below w.heap.size w W) => num_any mulS d _ W (does_mul W (ht.later hb)))
  have hSc : ∀ W : World, Below w.heap.size w W → IsB W w.heap.size a b → W.cell? ⟨w.heap.size + 1 + 1, 0, none⟩ = some v → w.heap.size + 1 + 1 < W.heap.size → DoesOp W (.func (.func 97) #[] #[.pointer (some ⟨w.heap.size, 0, none⟩), .pointer (some ⟨w.heap.size + 1 + 1, 0, none⟩)]) (scaledS op b) := fun W hb h0 h1 h2 =>
    ⟨_, _, rfl, fun args w => by kernel_rfl, fun x y W' hW' => combine1_any op v x y a b _ _ W' (ht.later (below_on hb hW' hb.size)) (h0.later hW' h0.lt) ((hW'.cell (p := ⟨w.heap.size + 1 + 1, 0, none⟩) h2).trans h1) (Nat.lt_of_lt_of_le h2 hW'.size) (hop.later (below_on hb hW' hb.size))⟩
  have HS := Lib.hid (fun (W : World) (hb : Below w.heap.size w W) h0 h1 h2 => num_any (scaledS op b) c _ W (hSc W hb h0 h1 h2))
  have HD := Lib.hid (fun (W : World) (hb : Below w.heap.size w W) => den_any mulS d _ W (does_mul W (ht.later hb)))
  have HB := Lib.hid (fun (u1 u2 u3 u4 : Value) (W : World) (hb : Below w.heap.size w W) (h1 : Does W u1 (validS [(a, b), (c, d)])) (h2 : Does W u2 (numS mulS d)) (h3 : Does W u3 (numS (scaledS op b) c)) (h4 : Does W u4 (denS mulS d)) => build_5 h1 h2 h3 h4 (does_reduce W (ht.later hb)) a b)
  unfold Builds at HB
  obtain ⟨R1, R2, R3, hR⟩ : ∃ x y z, buildS [validS [(a, b), (c, d)], numS mulS d, numS (scaledS op b) c, denS mulS d, reduceS] a b = (x, y, z) := ⟨_, _, _, rfl⟩
  rw [hR] at HB ⊢
  simp only at HB
  have hA := hB.alloc hB.size (.cells #[.string a, .string b, .string c, .string d] 23)
  have HV := Lib.hid (valid_any4 [(a, b), (c, d)] W0.heap.size 0 2 2 (W0.alloc (.cells #[.string a, .string b, .string c, .string d] 23)).drew (ht.later hA.drew) ⟨(lies_2 W0 a b c d).1, (lies_2 W0 a b c d).2⟩ rfl (by omega) (by omega))
  have s0 := r0.alloc (.cells #[.string a, .string b, .string c, .string d] 23)
  have s1 := r1.alloc (.cells #[.string a, .string b, .string c, .string d] 23)
  have s2 := r2.alloc (.cells #[.string a, .string b, .string c, .string d] 23)
  have Hv := Lib.hid (And.intro hv1 hv2)
  obtain ⟨f, cap, rfl, eg, hc⟩ := hop
  clear hR ht hSc hc hv1 hv2
  go_enter Tryz.func66, Tryz.ntmps66
  go_wp2_with fail
  refine wp_world fun W hW => ?_
  rw [hW0.symm] at hW
  subst hW
  clear hW0
  have c0 := r0.c0
  have c1 := r0.c1
  have c2 := r1.c0
  have c3 := r1.c1
  go_region_held3 (fun w' => w'.cell? ⟨w.heap.size, 0, none⟩ = some (.string a) ∧ w'.cell? ⟨w.heap.size, 1, none⟩ = some (.string b) ∧ w'.cell? ⟨w.heap.size + 1, 0, none⟩ = some (.string c) ∧ w'.cell? ⟨w.heap.size + 1, 1, none⟩ = some (.string d)) (first | exact ⟨s0.c0, s0.c1, s1.c0, s1.c1⟩ | exact ⟨x0.c0, x0.c1, x1.c0, x1.c1⟩ | exact ⟨y0.c0, y0.c1, y1.c0, y1.c1⟩ | exact ⟨t0.c0, t0.c1, t1.c0, t1.c1⟩ | exact ⟨z0.c0, z0.c1, z1.c0, z1.c1⟩ | exact ⟨v0.c0, v0.c1, v1.c0, v1.c1⟩ | exact ⟨u0.c0, u0.c1, u1.c0, u1.c1⟩ | exact ⟨far2 (ne03 _) u0.c0, far2 (ne03 _) u0.c1, far2 (ne13 _) u1.c0, far2 (ne13 _) u1.c1⟩ | go_keep)
    (first
      | (go_at_call 68; (with_reducible refine HV.out.mono ?_); rintro e w1 ⟨p1, rfl, d1, B1'⟩; have B1 := below_undrew B1'; have hw1 := below_on hA B1 hA.size; have x0 := s0.later B1 s0.lt; have x1 := s1.later B1 s1.lt; have x2 := s2.later B1 s2.lt; have hv1 : w1.cell? ⟨w.heap.size + 1 + 1, 0, none⟩ = some _ := (B1.cell (p := ⟨w.heap.size + 1 + 1, 0, none⟩) (by have := Hv.out.2; simp; omega)).trans (((Below.refl _ W).alloc (Nat.le_refl _) _).cell (p := ⟨w.heap.size + 1 + 1, 0, none⟩) Hv.out.2 |>.trans Hv.out.1); have hv2 : w.heap.size + 1 + 1 < w1.heap.size := Nat.lt_of_lt_of_le (by have := Hv.out.2; simp; omega) B1.size)
      | (go_at_call 69; (with_reducible refine (HN.out _ hw1).mono ?_); rintro e w2 ⟨p2, rfl, d2, B2⟩; have hw2 := below_on hw1 B2 hw1.size; have d12 := d1.later B2; have y0 := x0.later B2 x0.lt; have y1 := x1.later B2 x1.lt; have y2 := x2.later B2 x2.lt; have hv3 := (B2.cell (p := ⟨w.heap.size + 1 + 1, 0, none⟩) hv2).trans hv1; have hv4 := Nat.lt_of_lt_of_le hv2 B2.size)
      | (go_at_call 69; (with_reducible refine (HS.out _ hw2 y0 hv3 hv4).mono ?_); rintro e w5 ⟨p5, rfl, d5, B5⟩; have hw5 := below_on hw2 B5 hw2.size; have d15 := d12.later B5; have d25 := d2.later B5; have t0 := y0.later B5 y0.lt; have t1 := y1.later B5 y1.lt; have t2 := y2.later B5 y2.lt)
      | (go_at_call 71; (with_reducible refine (HD.out _ hw5).mono ?_); rintro e w3 ⟨p3, rfl, d3, B3⟩; have hw3 := below_on hw5 B3 hw5.size; have d13 := d15.later B3; have d23 := d25.later B3; have d53 := d5.later B3; have z0 := t0.later B3 t0.lt; have z1 := t1.later B3 t1.lt; have z2 := t2.later B3 t2.lt; have v0 := z0.alloc (.cells #[.func (.func 99) #[] p1, .func (.func 100) #[] p2, .func (.func 100) #[] p5, .func (.func 102) #[] p3, .func (.func 60) #[] #[]] 79); have v1 := z1.alloc (.cells #[.func (.func 99) #[] p1, .func (.func 100) #[] p2, .func (.func 100) #[] p5, .func (.func 102) #[] p3, .func (.func 60) #[] #[]] 79))
      | (go_at_call 59; (with_reducible refine (HB.out _ _ _ _ _ hw3 d13 d23 d53 d3).mono ?_); rintro e w4 ⟨rfl, B4⟩; have hw4 := below_on (hw3.alloc hw3.size _) B4 (hw3.alloc hw3.size _).size; have u0 := v0.later B4 v0.lt; have u1 := v1.later B4 v1.lt; have u2 := (z2.alloc _).later B4 (z2.alloc _).lt; have g1 := u2.f0; have g2 := u2.f1; have g3 := u2.c0; have g4 := u2.c1))
  go_wp2_with fail
  exact bodyPost_ret (results_row_tmp rfl _ _ (w.heap.size + 1 + 1 + 1) 23 #[.string R1, .string R2] _ _ rfl (two_strs u2 R1 R2) Tryz.underlying23 rfl (by kernel_rfl)) rfl ⟨rfl, fin1 u2 hw4 (by omega) _ _⟩

noncomputable def addQ := combineQ addS
noncomputable def subQ := combineQ subS
set_option maxRecDepth 100000 in
set_option maxHeartbeats 4000000 in
theorem qAdd_any (a b c d : ByteArray) (w : World) (ht : TabP w) : Answers 38 #[.agg #[.string a, .string b], .agg #[.string c, .string d]] (addQ a b c d) w := by
  unfold Answers
  obtain ⟨W0, hW0, hB, r0, r1, r2⟩ := box2 w a b c d
  have hc := combine_any addS _ a b c d W0 (ht.later hB) (does_add W0 (ht.later hB))
  unfold Answers at hc
  unfold addQ
  obtain ⟨R1, R2, R3, hR⟩ : ∃ x y z, combineQ addS a b c d = (x, y, z) := ⟨_, _, _, rfl⟩
  rw [hR] at hc ⊢
  simp only at hc
  have HC := Lib.hid hc
  rw [hW0] at HC
  have c0 := r0.c0
  have c1 := r0.c1
  have c2 := r1.c0
  have c3 := r1.c1
  rw [hW0] at c0 c1 c2 c3
  clear hR ht hc
  go_enter Tryz.func38, Tryz.ntmps38
  go_wp2_with (go_at_call 66; (with_reducible refine HC.out.mono ?_); rintro e w4 ⟨rfl, B4⟩; rw [← hW0] at B4; have hw4 := below_on hB B4 hB.size; have u2 := r2.later B4 r2.lt; have g1 := u2.f0; have g2 := u2.f1; have g3 := u2.c0; have g4 := u2.c1)
  exact bodyPost_ret (results_row_tmp rfl _ _ (w.heap.size + 1 + 1) 23 #[.string R1, .string R2] _ _ rfl (two_strs u2 R1 R2) Tryz.underlying23 rfl (by kernel_rfl)) rfl ⟨rfl, fin1 u2 hw4 (by omega) _ _⟩
set_option maxRecDepth 100000 in
set_option maxHeartbeats 4000000 in
theorem qSub_any (a b c d : ByteArray) (w : World) (ht : TabP w) : Answers 40 #[.agg #[.string a, .string b], .agg #[.string c, .string d]] (subQ a b c d) w := by
  unfold Answers
  obtain ⟨W0, hW0, hB, r0, r1, r2⟩ := box2 w a b c d
  have hc := combine_any subS _ a b c d W0 (ht.later hB) (does_sub W0 (ht.later hB))
  unfold Answers at hc
  unfold subQ
  obtain ⟨R1, R2, R3, hR⟩ : ∃ x y z, combineQ subS a b c d = (x, y, z) := ⟨_, _, _, rfl⟩
  rw [hR] at hc ⊢
  simp only at hc
  have HC := Lib.hid hc
  rw [hW0] at HC
  have c0 := r0.c0
  have c1 := r0.c1
  have c2 := r1.c0
  have c3 := r1.c1
  rw [hW0] at c0 c1 c2 c3
  clear hR ht hc
  go_enter Tryz.func40, Tryz.ntmps40
  go_wp2_with (go_at_call 66; (with_reducible refine HC.out.mono ?_); rintro e w4 ⟨rfl, B4⟩; rw [← hW0] at B4; have hw4 := below_on hB B4 hB.size; have u2 := r2.later B4 r2.lt; have g1 := u2.f0; have g2 := u2.f1; have g3 := u2.c0; have g4 := u2.c1)
  exact bodyPost_ret (results_row_tmp rfl _ _ (w.heap.size + 1 + 1) 23 #[.string R1, .string R2] _ _ rfl (two_strs u2 R1 R2) Tryz.underlying23 rfl (by kernel_rfl)) rfl ⟨rfl, fin1 u2 hw4 (by omega) _ _⟩

end Go.Proofs.YtjkklgpbblkhaaaGreatDoor

/-
  Layer 4: zeros, by strings.Repeat.
-/
namespace Go.Proofs.YtjkklgpbblkhaaaGreatDoor
open Go.RowKit Bs Ig

def zb (m : Nat) : ByteArray := bs (List.replicate m 48)
theorem zeros_cut (m : Nat) (hm : m ≤ 64) : (bs (List.replicate 64 48)).extract 0 m = zb m := by
  rw [bs_extract, List.drop_zero, Nat.sub_zero, List.take_replicate, Nat.min_eq_left hm]; rfl

set_option maxRecDepth 100000 in
set_option maxHeartbeats 4000000 in
theorem repeat_any (m : Nat) (hm : m ≤ 30) (w : World) :
    Calls Tryz.prog 88 #[.string ⟨#[48]⟩, .int .i64 (m : Int)] w fun e w' => e = .returned (.string (zb m)) ∧ w' = w := by
  rcases Nat.lt_or_ge m 2 with h | h
  · rcases (show m = 0 ∨ m = 1 by omega) with rfl | rfl
    · go_enter Tryz.func88, Tryz.ntmps88
      go_wp2_with fail
      go_ret
      exact ⟨rfl, rfl⟩
    · go_enter Tryz.func88, Tryz.ntmps88
      go_wp2_with fail
      go_ret
      exact ⟨rfl, rfl⟩
  · have HM := Lib.hid (fun (W : World) => (show Calls Tryz.prog 116 #[.int .u64 1, .int .u64 (m : Int)] W fun e w' => e = .returned (.tuple #[.int .u64 0, .int .u64 (m : Int)]) ∧ w' = W from by
      have h := Tryz.bits_Mul 1 m (by omega) (by omega) W
      rw [show 1 * m / 18446744073709551616 = 0 by omega, show 1 * m % 18446744073709551616 = m by omega] at h
      exact h))
    have hp : ∀ (T : ByteArray) (b : Bool) (W : World), Lib.hasPrefix T.data.toList [48] = b → Calls Tryz.prog 117 #[.string T, .string ⟨#[48]⟩] W fun e w' => e = .returned (.bool b) ∧ w' = W := fun T b W h => by
      subst h; exact Tryz.strings_HasPrefix T ⟨#[48]⟩ W
    have HP := Lib.hid hp
    have hz := zeros_cut m (by omega)
    have e0 : ((m : Int) == 0) = false := beq_false_of_ne (by omega)
    have e1 : ((m : Int) == 1) = false := beq_false_of_ne (by omega)
    have e2 : decide ((m : Int) < 0) = false := decide_eq_false (by omega)
    have e3 : IntKind.u64.wrap (m : Int) = (m : Int) := by rw [IntKind.wrap_u64]; omega
    have e4 : decide ((m : Int) ≤ 128) = true := decide_eq_true (by omega)
    have e5 : decide ((m : Int) ≤ 64) = true := decide_eq_true (by omega)
    have e6 : decide (9223372036854775807 < (m : Int)) = false := decide_eq_false (by omega)
    rw [show bs (List.replicate 64 48) = ⟨#[48, 48, 48, 48, 48, 48, 48, 48, 48, 48, 48, 48, 48, 48, 48, 48, 48, 48, 48, 48, 48, 48, 48, 48, 48, 48, 48, 48, 48, 48, 48, 48, 48, 48, 48, 48, 48, 48, 48, 48, 48, 48, 48, 48, 48, 48, 48, 48, 48, 48, 48, 48, 48, 48, 48, 48, 48, 48, 48, 48, 48, 48, 48, 48]⟩ from rfl] at hz
    obtain ⟨S, hS⟩ : ∃ S, (⟨#[48]⟩ : ByteArray) = S := ⟨_, rfl⟩
    have g1 : S.size = 1 := by rw [← hS]; rfl
    have g2 : 0 < S.size := by omega
    have g3 : (S[0]'g2).toNat = 48 := by subst hS; rfl
    rw [hS] at HP ⊢
    clear hS hp
    go_enter Tryz.func88, Tryz.ntmps88
    go_wp2_with (first
      | (go_at_call 116; (with_reducible refine (HM.out _).mono ?_); rintro e w1 ⟨rfl, rfl⟩)
      | (go_at_call 117; with_reducible refine (HP.out _ false _ ?hp).mono ?_; (case hp => decide +kernel); rintro e w1 ⟨rfl, rfl⟩)
      | (go_at_call 117; with_reducible refine (HP.out _ true _ ?hp).mono ?_; (case hp => decide +kernel); rintro e w1 ⟨rfl, rfl⟩))
    go_ret
    exact ⟨rfl, rfl⟩

end Go.Proofs.YtjkklgpbblkhaaaGreatDoor
