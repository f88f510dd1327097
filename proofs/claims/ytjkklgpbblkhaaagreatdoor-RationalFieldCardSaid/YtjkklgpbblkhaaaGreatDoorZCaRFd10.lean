/-
  Put together by program out of these texts, in this order: Qst, Qva, Qop, Qre, Qrf.
-/
import Derived.Test.YtjkklgpbblkhaaaGreatDoorZCaRFd06
import Derived.Test.YtjkklgpbblkhaaaGreatDoorZCaRFd09

/-
  Layer 4: the steps of a chain, as they are made.
-/
namespace Go.Proofs.YtjkklgpbblkhaaaGreatDoor
open Go.RowKit Bs Ig

def numS (op : ByteArray → ByteArray → ByteArray × Int) (y : ByteArray) : Stp := fun N D => ((op N y).1, D, (op N y).2)
def denS (op : ByteArray → ByteArray → ByteArray × Int) (y : ByteArray) : Stp := fun N D => (N, (op D y).1, (op D y).2)
/-- a box with a function value -/
theorem box_cell (W : World) (v : Value) (t : TypeId) : (W.alloc (.cells #[v] t)).cell? ⟨W.heap.size, 0, none⟩ = some v := by
  rw [cell_of_row _ _ 0 _ _ _ (heap_alloc_new _ _)]; rfl

set_option maxRecDepth 100000 in
set_option maxHeartbeats 2000000 in
theorem num1_any (op : ByteArray → ByteArray → ByteArray × Int) (y N D : ByteArray) (b1 b2 : Nat) (v : Value) (w : World) (h1 : w.cell? ⟨b1, 0, none⟩ = some v) (h2 : w.cell? ⟨b2, 0, none⟩ = some (.string y)) (hb1 : b1 < w.heap.size) (hb2 : b2 < w.heap.size) (hop : DoesOp w v op) :
    Calls Tryz.prog 100 #[.agg #[.string N, .string D], .pointer (some ⟨b1, 0, none⟩), .pointer (some ⟨b2, 0, none⟩)] w fun e w' => e = .returned (.tuple #[.agg #[.string (numS op y N D).1, .string (numS op y N D).2.1], .int .i64 (numS op y N D).2.2]) ∧ Below w.heap.size w w' := by
  have hB : Below w.heap.size w ((w.alloc (.cells #[.string N, .string D] 23)).alloc (.cells #[.string ⟨#[]⟩, .string ⟨#[]⟩] 23)) := ((Below.refl _ w).alloc (Nat.le_refl _) _).alloc (by simp) _
  obtain ⟨f, cap, rfl, eg, hc⟩ := hop
  have r0 := (IsB.new w N D).alloc (.cells #[.string ⟨#[]⟩, .string ⟨#[]⟩] 23)
  have r1 := IsB.new' (w.alloc (.cells #[.string N, .string D] 23)) ⟨#[]⟩ ⟨#[]⟩ (w.heap.size + 1) (by simp)
  have k1 := (hB.cell (p := ⟨b1, 0, none⟩) hb1).trans h1
  have k2 := (hB.cell (p := ⟨b2, 0, none⟩) hb2).trans h2
  have HC := Lib.hid (hc N y _ hB)
  unfold numS
  obtain ⟨S, E, hSE⟩ : ∃ S E, op N y = (S, E) := ⟨_, _, rfl⟩
  rw [hSE] at HC ⊢
  clear hc h1 h2 hSE
  go_enter Tryz.func100, Tryz.ntmps100
  go_wp2_with (refine (HC.out).mono ?_; rintro e1 w1 ⟨rfl, B1⟩; have q0 := r0.later B1 r0.lt; have q1 := r1.later B1 r1.lt; have g0 := q0.c1; have g1 := q1.f0; have g2 := q1.f1; have g3 := q1.c0; have g4 := q1.c1)
  have hw1 := below_on hB B1 hB.size
  exact bodyPost_ret (results_row_tmp rfl _ _ (w.heap.size + 1) 23 #[.string S, .string D] _ _ rfl (two_strs q1 S D) Tryz.underlying23 rfl (by kernel_rfl)) rfl ⟨rfl, (hw1.setCell (p := ⟨w.heap.size + 1, 0, none⟩) (by show w.heap.size ≤ w.heap.size + 1; omega) _).setCell (p := ⟨w.heap.size + 1, 1, none⟩) (by show w.heap.size ≤ w.heap.size + 1; omega) _⟩

set_option maxRecDepth 100000 in
set_option maxHeartbeats 2000000 in
theorem den1_any (op : ByteArray → ByteArray → ByteArray × Int) (y N D : ByteArray) (b1 b2 : Nat) (v : Value) (w : World) (h1 : w.cell? ⟨b1, 0, none⟩ = some v) (h2 : w.cell? ⟨b2, 0, none⟩ = some (.string y)) (hb1 : b1 < w.heap.size) (hb2 : b2 < w.heap.size) (hop : DoesOp w v op) :
    Calls Tryz.prog 102 #[.agg #[.string N, .string D], .pointer (some ⟨b1, 0, none⟩), .pointer (some ⟨b2, 0, none⟩)] w fun e w' => e = .returned (.tuple #[.agg #[.string (denS op y N D).1, .string (denS op y N D).2.1], .int .i64 (denS op y N D).2.2]) ∧ Below w.heap.size w w' := by
  have hB : Below w.heap.size w ((w.alloc (.cells #[.string N, .string D] 23)).alloc (.cells #[.string ⟨#[]⟩, .string ⟨#[]⟩] 23)) := ((Below.refl _ w).alloc (Nat.le_refl _) _).alloc (by simp) _
  obtain ⟨f, cap, rfl, eg, hc⟩ := hop
  have r0 := (IsB.new w N D).alloc (.cells #[.string ⟨#[]⟩, .string ⟨#[]⟩] 23)
  have r1 := IsB.new' (w.alloc (.cells #[.string N, .string D] 23)) ⟨#[]⟩ ⟨#[]⟩ (w.heap.size + 1) (by simp)
  have k1 := (hB.cell (p := ⟨b1, 0, none⟩) hb1).trans h1
  have k2 := (hB.cell (p := ⟨b2, 0, none⟩) hb2).trans h2
  have HC := Lib.hid (hc D y _ hB)
  unfold denS
  obtain ⟨S, E, hSE⟩ : ∃ S E, op D y = (S, E) := ⟨_, _, rfl⟩
  rw [hSE] at HC ⊢
  clear hc h1 h2 hSE
  go_enter Tryz.func102, Tryz.ntmps102
  go_wp2_with (refine (HC.out).mono ?_; rintro e1 w1 ⟨rfl, B1⟩; have q0 := r0.later B1 r0.lt; have q1 := r1.later B1 r1.lt; have g0 := q0.c0; have g1 := q1.f0; have g2 := q1.f1; have g3 := q1.c0; have g4 := q1.c1)
  have hw1 := below_on hB B1 hB.size
  exact bodyPost_ret (results_row_tmp rfl _ _ (w.heap.size + 1) 23 #[.string N, .string S] _ _ rfl (two_strs q1 N S) Tryz.underlying23 rfl (by kernel_rfl)) rfl ⟨rfl, (hw1.setCell (p := ⟨w.heap.size + 1, 0, none⟩) (by show w.heap.size ≤ w.heap.size + 1; omega) _).setCell (p := ⟨w.heap.size + 1, 1, none⟩) (by show w.heap.size ≤ w.heap.size + 1; omega) _⟩

set_option maxRecDepth 100000 in
set_option maxHeartbeats 2000000 in
theorem num_any (op : ByteArray → ByteArray → ByteArray × Int) (y : ByteArray) (v : Value) (w : World) (hop : DoesOp w v op) :
    Calls Tryz.prog 69 #[v, .string y] w fun e w' => ∃ cap, e = .returned (.func (.func 100) #[] cap) ∧ Does w' (.func (.func 100) #[] cap) (numS op y) ∧ Below w.heap.size w w' := by
  have hB : Below w.heap.size w ((w.alloc (.cells #[v] 101)).alloc (.cells #[.string y] 9)) := ((Below.refl _ w).alloc (Nat.le_refl _) _).alloc (by simp) _
  have hD : Does ((w.alloc (.cells #[v] 101)).alloc (.cells #[.string y] 9)) (.func (.func 100) #[] #[.pointer (some ⟨w.heap.size, 0, none⟩), .pointer (some ⟨w.heap.size + 1, 0, none⟩)]) (numS op y) := by
    refine ⟨_, _, rfl, fun args w => by kernel_rfl, fun N D W hW => ?_⟩
    have h1 : W.cell? ⟨w.heap.size, 0, none⟩ = some v := by
      refine (hW.cell (p := ⟨w.heap.size, 0, none⟩) (by simp; omega)).trans ?_
      rw [cell_of_row _ _ 0 _ _ _ ((heap_alloc_old _ _ (by simp)).trans (heap_alloc_new _ _))]; rfl
    have h2 : W.cell? ⟨w.heap.size + 1, 0, none⟩ = some (.string y) := by
      refine (hW.cell (p := ⟨w.heap.size + 1, 0, none⟩) (by simp)).trans ?_
      have := heap_alloc_new (w.alloc (.cells #[v] 101)) (.cells #[.string y] 9)
      simp only [World.size_alloc] at this
      rw [cell_of_row _ _ 0 _ _ _ this]; rfl
    have hs := hW.size
    simp only [World.size_alloc] at hs
    exact num1_any op y N D _ _ v W h1 h2 (by omega) (by omega) ((hop.later hB).later hW)
  have HD := Lib.hid hD
  obtain ⟨f, cap, rfl, eg, hc⟩ := hop
  clear hc hD
  go_enter Tryz.func69, Tryz.ntmps69
  go_wp2_with fail
  go_ret
  exact ⟨_, rfl, HD.out, hB⟩

set_option maxRecDepth 100000 in
set_option maxHeartbeats 2000000 in
theorem den_any (op : ByteArray → ByteArray → ByteArray × Int) (y : ByteArray) (v : Value) (w : World) (hop : DoesOp w v op) :
    Calls Tryz.prog 71 #[v, .string y] w fun e w' => ∃ cap, e = .returned (.func (.func 102) #[] cap) ∧ Does w' (.func (.func 102) #[] cap) (denS op y) ∧ Below w.heap.size w w' := by
  have hB : Below w.heap.size w ((w.alloc (.cells #[v] 101)).alloc (.cells #[.string y] 9)) := ((Below.refl _ w).alloc (Nat.le_refl _) _).alloc (by simp) _
  have hD : Does ((w.alloc (.cells #[v] 101)).alloc (.cells #[.string y] 9)) (.func (.func 102) #[] #[.pointer (some ⟨w.heap.size, 0, none⟩), .pointer (some ⟨w.heap.size + 1, 0, none⟩)]) (denS op y) := by
    refine ⟨_, _, rfl, fun args w => by kernel_rfl, fun N D W hW => ?_⟩
    have h1 : W.cell? ⟨w.heap.size, 0, none⟩ = some v := by
      refine (hW.cell (p := ⟨w.heap.size, 0, none⟩) (by simp; omega)).trans ?_
      rw [cell_of_row _ _ 0 _ _ _ ((heap_alloc_old _ _ (by simp)).trans (heap_alloc_new _ _))]; rfl
    have h2 : W.cell? ⟨w.heap.size + 1, 0, none⟩ = some (.string y) := by
      refine (hW.cell (p := ⟨w.heap.size + 1, 0, none⟩) (by simp)).trans ?_
      have := heap_alloc_new (w.alloc (.cells #[v] 101)) (.cells #[.string y] 9)
      simp only [World.size_alloc] at this
      rw [cell_of_row _ _ 0 _ _ _ this]; rfl
    have hs := hW.size
    simp only [World.size_alloc] at hs
    exact den1_any op y N D _ _ v W h1 h2 (by omega) (by omega) ((hop.later hB).later hW)
  have HD := Lib.hid hD
  obtain ⟨f, cap, rfl, eg, hc⟩ := hop
  clear hc hD
  go_enter Tryz.func71, Tryz.ntmps71
  go_wp2_with fail
  go_ret
  exact ⟨_, rfl, HD.out, hB⟩

end Go.Proofs.YtjkklgpbblkhaaaGreatDoor

/-
  Layer 4: Valid, and the step that checks it.
-/
namespace Go.Proofs.YtjkklgpbblkhaaaGreatDoor
open Go.RowKit Bs Ig

noncomputable def validB (N D : ByteArray) : Bool := (gcdS N D).2 == 0 && ((gcdS N D).1.toList == [49] && decide (0 < cmpS D ⟨#[48]⟩))

set_option maxRecDepth 100000 in
set_option maxHeartbeats 2000000 in
theorem qValid_any (N D : ByteArray) (w : World) (ht : TabP w) :
    Calls Tryz.prog 29 #[.agg #[.string N, .string D]] w fun e w' => e = .returned (.bool (validB N D)) ∧ Below w.heap.size w w' := by
  have hB : Below w.heap.size w (w.alloc (.cells #[.string N, .string D] 23)) := (Below.refl _ w).alloc (Nat.le_refl _) _
  have r0 := IsB.new w N D
  have HG := Lib.hid (Gcd_all N D _ (ht.later hB))
  have HC := Lib.hid (fun W => Compare_all D ⟨#[48]⟩ W)
  unfold validB
  unfold Gives at HG
  obtain ⟨G, E, hGE⟩ : ∃ G E, gcdS N D = (G, E) := ⟨_, _, rfl⟩
  obtain ⟨c, hc⟩ : ∃ c, cmpS D ⟨#[48]⟩ = c := ⟨_, rfl⟩
  rw [hGE] at HG ⊢
  rw [hc] at HC ⊢
  obtain ⟨x1, h1⟩ : ∃ x, (E == 0) = x := ⟨_, rfl⟩
  obtain ⟨x2, h2⟩ : ∃ x, (G.toList == [49]) = x := ⟨_, rfl⟩
  obtain ⟨x3, h3⟩ : ∃ x, decide (0 < c) = x := ⟨_, rfl⟩
  have hres : ((E == 0) && ((G.toList == [49]) && decide (0 < c))) = (x1 && (x2 && x3)) := by rw [h1, h2, h3]
  simp only [hres]
  have c0 := r0.c0
  have c1 := r0.c1
  clear hGE hc hres ht
  cases x1 with
  | false =>
    clear h2 h3
    go_enter Tryz.func29, Tryz.ntmps29
    go_wp2_with (go_at_call 63; (with_reducible refine HG.out.mono ?_); rintro e w1 ⟨rfl, B1⟩; have q0 := r0.later B1 r0.lt; have d1 := q0.c1)
    go_ret
    exact ⟨rfl, below_on hB B1 hB.size⟩
  | true =>
    cases x2 with
    | false =>
      clear h3
      go_enter Tryz.func29, Tryz.ntmps29
      go_wp2_with (go_at_call 63; (with_reducible refine HG.out.mono ?_); rintro e w1 ⟨rfl, B1⟩; have q0 := r0.later B1 r0.lt; have d1 := q0.c1)
      go_ret
      exact ⟨rfl, below_on hB B1 hB.size⟩
    | true =>
      go_enter Tryz.func29, Tryz.ntmps29
      go_wp2_with (first
        | (go_at_call 63; (with_reducible refine HG.out.mono ?_); rintro e w1 ⟨rfl, B1⟩; have q0 := r0.later B1 r0.lt; have d1 := q0.c1)
        | (go_at_call 51; (with_reducible refine (HC.out _).mono ?_); rintro e w2 ⟨rfl, B2⟩))
      go_ret
      exact ⟨rfl, below_on (below_on hB B1 hB.size) B2 (below_on hB B1 hB.size).size⟩

noncomputable def validS (l : List (ByteArray × ByteArray)) : Stp := fun N D => if l.all (fun p => validB p.1 p.2) then (N, D, 0) else (⟨#[]⟩, ⟨#[]⟩, 40)

/-- fractions lie one after the other -/
def Lies (W : World) (g off : Nat) (l : List (ByteArray × ByteArray)) : Prop :=
  g < W.heap.size ∧ ∀ i (h : i < l.length), W.cell? ⟨g, off + i * 2, none⟩ = some (.string l[i].1) ∧ W.cell? ⟨g, off + i * 2 + 1, none⟩ = some (.string l[i].2)
theorem Lies.later {W W' : World} {g off n : Nat} {l : List (ByteArray × ByteArray)} (h : Lies W g off l) (hb : Below n W W') (hg : g < n) : Lies W' g off l :=
  ⟨Nat.lt_of_lt_of_le h.1 hb.size, fun i hi => ⟨(hb.cell (p := ⟨g, off + i * 2, none⟩) hg).trans (h.2 i hi).1, (hb.cell (p := ⟨g, off + i * 2 + 1, none⟩) hg).trans (h.2 i hi).2⟩⟩

set_option maxRecDepth 100000 in
set_option maxHeartbeats 4000000 in
theorem valid1_any (l : List (ByteArray × ByteArray)) (N D : ByteArray) (b g off n c : Nat) (w : World) (ht : TabP w) (h1 : w.cell? ⟨b, 0, none⟩ = some (.slice (some ⟨g, off, none⟩) n c)) (hb : b < w.heap.size) (hl : Lies w g off l) (hn : l.length = n) (hn2 : n ≤ 100) (hnc : n ≤ c) :
    Calls Tryz.prog 99 #[.agg #[.string N, .string D], .pointer (some ⟨b, 0, none⟩)] w fun e w' => e = .returned (.tuple #[.agg #[.string (validS l N D).1, .string (validS l N D).2.1], .int .i64 (validS l N D).2.2]) ∧ Below w.heap.size w w' := by
  have hB : Below w.heap.size w ((w.alloc (.cells #[.string N, .string D] 23)).alloc (.cells #[.string ⟨#[]⟩, .string ⟨#[]⟩] 23)) := ((Below.refl _ w).alloc (Nat.le_refl _) _).alloc (by simp) _
  have k1 := (hB.cell (p := ⟨b, 0, none⟩) hb).trans h1
  have r0 := (IsB.new w N D).alloc (.cells #[.string ⟨#[]⟩, .string ⟨#[]⟩] 23)
  have r1 := IsB.new' (w.alloc (.cells #[.string N, .string D] 23)) ⟨#[]⟩ ⟨#[]⟩ (w.heap.size + 1) (by simp)
  have HB := Lib.hid (And.intro hB (And.intro r0 r1))
  clear hB r0 r1
  have HY := Lib.hid (show l.all (fun p => validB p.1 p.2) = true → validS l N D = (N, D, 0) from fun h => if_pos h)
  have HZ := Lib.hid (show l.all (fun p => validB p.1 p.2) = false → validS l N D = (⟨#[]⟩, ⟨#[]⟩, 40) from fun h => if_neg (by rw [h]; decide))
  generalize validS l N D = R at *
  go_enter Tryz.func99, Tryz.ntmps99
  go_wp2_with fail
  go_loopw [9] (fun p wr => ∃ i : Nat, p = .int .i64 (i : Int) ∧ i ≤ n ∧ (l.take i).all (fun p => validB p.1 p.2) = true ∧ IsB wr w.heap.size N D ∧ IsB wr (w.heap.size + 1) ⟨#[]⟩ ⟨#[]⟩ ∧ Below w.heap.size w wr) (fun p _ => (n - intOf p).toNat)
  case atStart => exact ⟨0, rfl, Nat.zero_le _, by simp, HB.out.2.1, HB.out.2.2, HB.out.1⟩
  case round =>
    obtain ⟨i, rfl, hi, hall, b0, b1, hw⟩ := hrel
    rcases Nat.lt_or_ge i n with h2 | h2
    · have f1 : decide (i < n) = true := decide_eq_true h2
      obtain ⟨x, hx⟩ : ∃ x, l[i]'(by omega) = x := ⟨_, rfl⟩
      obtain ⟨k2, k3⟩ := (hl.later hw hl.1).2 i (by omega)
      rw [hx] at k2 k3
      have hst : (l.take (i + 1)).all (fun p => validB p.1 p.2) = validB x.1 x.2 := by
        rw [List.take_succ_eq_append_getElem (by omega), List.all_append, hall, hx]; simp
      obtain ⟨X, Y⟩ := x
      simp only at k2 k3 hst
      have HV := Lib.hid (fun (W : World) (hb : Below w.heap.size w W) => qValid_any X Y W (ht.later hb))
      have hno : validB X Y = false → l.all (fun p => validB p.1 p.2) = false := fun h => by
        rw [List.all_eq_false]
        exact ⟨l[i]'(by omega), List.getElem_mem _, by rw [hx]; simpa using h⟩
      have Hst := Lib.hid hst
      have Hno := Lib.hid hno
      obtain ⟨v, hv⟩ : ∃ v, validB X Y = v := ⟨_, rfl⟩
      rw [hv] at HV Hst Hno
      have hwa : Below w.heap.size w (wr.alloc (.cells #[.string X, .string Y] 23)) := hw.alloc hw.size _
      have b2 := b0.alloc (.cells #[.string X, .string Y] 23)
      have b3 := b1.alloc (.cells #[.string X, .string Y] 23)
      clear hst hall hl hx hno hv
      cases v with
      | true =>
        go_wp2_with (go_at_call 29; (with_reducible refine (HV.out _ hwa).mono ?_); rintro e1 w1 ⟨rfl, B1⟩)
        go_roundw
        case rel => exact ⟨i + 1, by go_num, h2, Hst.out, b2.later B1 b2.lt, b3.later B1 b3.lt, below_on hwa B1 hwa.size⟩
        case measure => simp [intOf]; omega
      | false =>
        have Hres := Lib.hid (HZ.out (Hno.out rfl))
        go_wp2_with (go_at_call 29; (with_reducible refine (HV.out _ hwa).mono ?_); rintro e1 w1 ⟨rfl, B1⟩; have b5 := b3.later B1 b3.lt; have c2 := b5.c0; have c3 := b5.c1; have c4 := b5.f0; have c5 := b5.f1)
        have hw1 := below_on hwa B1 hwa.size
        exact bodyPost_ret (results_row_tmp rfl _ _ (w.heap.size + 1) 23 #[.string ⟨#[]⟩, .string ⟨#[]⟩] _ _ rfl (two_strs b5 ⟨#[]⟩ ⟨#[]⟩) Tryz.underlying23 rfl (by kernel_rfl)) rfl ⟨by rw [Hres.out]; rfl, (hw1.setCell (p := ⟨w.heap.size + 1, 0, none⟩) (by show w.heap.size ≤ w.heap.size + 1; omega) _).setCell (p := ⟨w.heap.size + 1, 1, none⟩) (by show w.heap.size ≤ w.heap.size + 1; omega) _⟩
    · obtain rfl : i = n := by omega
      have f1 : decide (i < i) = false := decide_eq_false (by omega)
      rw [List.take_of_length_le (by omega)] at hall
      have Hres := Lib.hid (HY.out hall)
      have c0 := b0.c0
      have c1 := b0.c1
      have c2 := b1.c0
      have c3 := b1.c1
      have c4 := b1.f0
      have c5 := b1.f1
      clear hl hall
      go_wp2_with fail
      exact bodyPost_ret (results_row_tmp rfl _ _ (w.heap.size + 1) 23 #[.string N, .string D] _ _ rfl (two_strs b1 N D) Tryz.underlying23 rfl (by kernel_rfl)) rfl ⟨by rw [Hres.out]; rfl, (hw.setCell (p := ⟨w.heap.size + 1, 0, none⟩) (by show w.heap.size ≤ w.heap.size + 1; omega) _).setCell (p := ⟨w.heap.size + 1, 1, none⟩) (by show w.heap.size ≤ w.heap.size + 1; omega) _⟩

set_option maxRecDepth 100000 in
set_option maxHeartbeats 2000000 in
theorem valid_any4 (l : List (ByteArray × ByteArray)) (g off n c : Nat) (w : World) (ht : TabP w) (hl : Lies w g off l) (hn : l.length = n) (hn2 : n ≤ 100) (hnc : n ≤ c) :
    Calls Tryz.prog 68 #[.slice (some ⟨g, off, none⟩) n c] w fun e w' => ∃ cap, e = .returned (.func (.func 99) #[] cap) ∧ Does w' (.func (.func 99) #[] cap) (validS l) ∧ Below w.heap.size w w' := by
  have hB : Below w.heap.size w (w.alloc (.cells #[.slice (some ⟨g, off, none⟩) n c] 30)) := (Below.refl _ w).alloc (Nat.le_refl _) _
  have hD : Does (w.alloc (.cells #[.slice (some ⟨g, off, none⟩) n c] 30)) (.func (.func 99) #[] #[.pointer (some ⟨w.heap.size, 0, none⟩)]) (validS l) := by
    refine ⟨_, _, rfl, fun args w => by kernel_rfl, fun N D W hW => ?_⟩
    have h1 : W.cell? ⟨w.heap.size, 0, none⟩ = some (.slice (some ⟨g, off, none⟩) n c) := by
      refine (hW.cell (p := ⟨w.heap.size, 0, none⟩) (by simp)).trans ?_
      rw [cell_of_row _ _ 0 _ _ _ (heap_alloc_new _ _)]; rfl
    have hs := hW.size
    simp only [World.size_alloc] at hs
    have hBW := below_on hB hW hB.size
    exact valid1_any l N D _ g off n c W (ht.later hBW) h1 (by omega) (hl.later hBW hl.1) hn hn2 hnc
  have HD := Lib.hid hD
  clear hD hl
  go_enter Tryz.func68, Tryz.ntmps68
  go_wp2_with fail
  go_ret
  exact ⟨_, rfl, HD.out, hB⟩

end Go.Proofs.YtjkklgpbblkhaaaGreatDoor

/-
  Layer 4: operations that are handed over as functions; rounding to integers.
-/
namespace Go.Proofs.YtjkklgpbblkhaaaGreatDoor
open Go.RowKit Bs Ig

theorem does_add (w : World) (ht : TabP w) : DoesOp w (.func (.func 67) #[] #[]) addS := ⟨_, _, rfl, fun args w => by kernel_rfl, fun x y W hW => Add_all x y W (ht.later hW)⟩
theorem does_sub (w : World) (ht : TabP w) : DoesOp w (.func (.func 72) #[] #[]) subS := ⟨_, _, rfl, fun args w => by kernel_rfl, fun x y W hW => Sub_all x y W (ht.later hW)⟩
theorem does_mul (w : World) (ht : TabP w) : DoesOp w (.func (.func 70) #[] #[]) mulS := ⟨_, _, rfl, fun args w => by kernel_rfl, fun x y W hW => Mul_all x y W (ht.later hW)⟩

noncomputable def floorS (x y : ByteArray) : ByteArray × Int := ((divS x y).1, (divS x y).2.2)
noncomputable def ceilS (x y : ByteArray) : ByteArray × Int := if ((divS x y).2.2 != 0) = true then floorS x y else if ((divS x y).2.1.toList == [48]) = true then floorS x y else addS (divS x y).1 ⟨#[49]⟩

set_option maxRecDepth 100000 in
set_option maxHeartbeats 2000000 in
theorem floor_any (x y : ByteArray) (w : World) (ht : TabP w) : Gives 56 x y (floorS x y) w := by
  have HD := Lib.hid (Div_all x y w ht)
  unfold Gives floorS
  obtain ⟨q, r, e, hq⟩ : ∃ q r e, divS x y = (q, r, e) := ⟨_, _, _, rfl⟩
  rw [hq] at HD ⊢
  clear hq ht
  go_enter Tryz.func56, Tryz.ntmps56
  go_wp2_with (go_at_call 50; (with_reducible refine HD.out.mono ?_); rintro e w1 ⟨rfl, B1⟩)
  go_ret2
  exact ⟨rfl, B1⟩
theorem does_floor (w : World) (ht : TabP w) : DoesOp w (.func (.func 56) #[] #[]) floorS := ⟨_, _, rfl, fun args w => by kernel_rfl, fun x y W hW => floor_any x y W (ht.later hW)⟩

set_option maxRecDepth 100000 in
set_option maxHeartbeats 2000000 in
theorem ceiling_any (x y : ByteArray) (w : World) (ht : TabP w) : Gives 58 x y (ceilS x y) w := by
  have HD := Lib.hid (Div_all x y w ht)
  unfold Gives ceilS floorS
  obtain ⟨q, r, e, hq⟩ : ∃ q r e, divS x y = (q, r, e) := ⟨_, _, _, rfl⟩
  rw [hq] at HD ⊢
  simp only at HD ⊢
  have HA := Lib.hid (fun (W : World) (hb : Below w.heap.size w W) => Add_all q ⟨#[49]⟩ W (ht.later hb))
  unfold Gives at HA
  obtain ⟨s, f, hs⟩ : ∃ s f, addS q ⟨#[49]⟩ = (s, f) := ⟨_, _, rfl⟩
  rw [hs] at HA ⊢
  clear hq ht hs
  obtain ⟨x1, h1⟩ : ∃ x, (e != 0) = x := ⟨_, rfl⟩
  obtain ⟨x2, h2⟩ : ∃ x, (r.toList == [48]) = x := ⟨_, rfl⟩
  simp only [h1, h2]
  cases x1 with
  | true =>
    simp only [if_true]
    clear h2
    go_enter Tryz.func58, Tryz.ntmps58
    go_wp2_with (go_at_call 50; (with_reducible refine HD.out.mono ?_); rintro e w1 ⟨rfl, B1⟩)
    go_ret2
    exact ⟨rfl, B1⟩
  | false =>
    cases x2 with
    | true =>
      simp only [if_true, if_false, Bool.false_eq_true]
      go_enter Tryz.func58, Tryz.ntmps58
      go_wp2_with (go_at_call 50; (with_reducible refine HD.out.mono ?_); rintro e w1 ⟨rfl, B1⟩)
      go_ret2
      exact ⟨rfl, B1⟩
    | false =>
      simp only [if_false, Bool.false_eq_true]
      go_enter Tryz.func58, Tryz.ntmps58
      go_wp2_with (first
        | (go_at_call 50; (with_reducible refine HD.out.mono ?_); rintro e w1 ⟨rfl, B1⟩)
        | (go_at_call 67; (with_reducible refine (HA.out _ B1).mono ?_); rintro e w2 ⟨rfl, B2⟩))
      go_ret2
      exact ⟨rfl, below_on B1 B2 B1.size⟩
theorem does_ceiling (w : World) (ht : TabP w) : DoesOp w (.func (.func 58) #[] #[]) ceilS := ⟨_, _, rfl, fun args w => by kernel_rfl, fun x y W hW => ceiling_any x y W (ht.later hW)⟩

/-- x, and y times d, calculated with -/
noncomputable def scaledS (op : ByteArray → ByteArray → ByteArray × Int) (d : ByteArray) (x y : ByteArray) : ByteArray × Int := if ((mulS y d).2 != 0) = true then (⟨#[]⟩, (mulS y d).2) else op x (mulS y d).1

set_option maxRecDepth 100000 in
set_option maxHeartbeats 2000000 in
theorem combine1_any (op : ByteArray → ByteArray → ByteArray × Int) (v : Value) (x y n d : ByteArray) (b1 b2 : Nat) (w : World) (ht : TabP w) (h1 : IsB w b1 n d) (h2 : w.cell? ⟨b2, 0, none⟩ = some v) (hb2 : b2 < w.heap.size) (hop : DoesOp w v op) :
    Calls Tryz.prog 97 #[.string x, .string y, .pointer (some ⟨b1, 0, none⟩), .pointer (some ⟨b2, 0, none⟩)] w fun e w' => e = .returned (.tuple #[.string (scaledS op d x y).1, .int .i64 (scaledS op d x y).2]) ∧ Below w.heap.size w w' := by
  have HM := Lib.hid (Mul_all y d w ht)
  unfold Gives at HM
  unfold scaledS
  obtain ⟨p, e, hp⟩ : ∃ p e, mulS y d = (p, e) := ⟨_, _, rfl⟩
  rw [hp] at HM ⊢
  simp only at HM ⊢
  obtain ⟨f, cap, rfl, eg, hc⟩ := hop
  have HC := Lib.hid (hc x p)
  obtain ⟨s, k, hs⟩ : ∃ s k, op x p = (s, k) := ⟨_, _, rfl⟩
  rw [hs] at HC ⊢
  have c1 := h1.c1
  have H2 := Lib.hid (And.intro h2 hb2)
  obtain ⟨x1, hx⟩ : ∃ x, (e != 0) = x := ⟨_, rfl⟩
  simp only [hx]
  clear hp hs hc ht h1 h2
  cases x1 with
  | true =>
    simp only [if_true]
    go_enter Tryz.func97, Tryz.ntmps97
    go_wp2_with (go_at_call 70; (with_reducible refine HM.out.mono ?_); rintro e w1 ⟨rfl, B1⟩)
    go_ret2
    exact ⟨rfl, B1⟩
  | false =>
    simp only [if_false, Bool.false_eq_true]
    go_enter Tryz.func97, Tryz.ntmps97
    go_wp2_with (first
      | (go_at_call 70; (with_reducible refine HM.out.mono ?_); rintro e w1 ⟨rfl, B1⟩; have k2 := (B1.cell (p := ⟨b2, 0, none⟩) H2.out.2).trans H2.out.1)
      | (refine (HC.out _ B1).mono ?_; rintro e w2 ⟨rfl, B2⟩))
    go_ret2
    exact ⟨rfl, below_on B1 B2 B1.size⟩

def overS (t : ByteArray) : Stp := fun N _ => (N, t, 0)
set_option maxRecDepth 100000 in
set_option maxHeartbeats 2000000 in
theorem round1_any (t N D : ByteArray) (b : Nat) (w : World) (h1 : w.cell? ⟨b, 0, none⟩ = some (.string t)) (hb : b < w.heap.size) :
    Calls Tryz.prog 89 #[.agg #[.string N, .string D], .pointer (some ⟨b, 0, none⟩)] w fun e w' => e = .returned (.tuple #[.agg #[.string (overS t N D).1, .string (overS t N D).2.1], .int .i64 (overS t N D).2.2]) ∧ Below w.heap.size w w' := by
  have hB : Below w.heap.size w ((w.alloc (.cells #[.string N, .string D] 23)).alloc (.cells #[.string ⟨#[]⟩, .string ⟨#[]⟩] 23)) := ((Below.refl _ w).alloc (Nat.le_refl _) _).alloc (by simp) _
  have r0 := (IsB.new w N D).alloc (.cells #[.string ⟨#[]⟩, .string ⟨#[]⟩] 23)
  have r1 := IsB.new' (w.alloc (.cells #[.string N, .string D] 23)) ⟨#[]⟩ ⟨#[]⟩ (w.heap.size + 1) (by simp)
  have k1 := (hB.cell (p := ⟨b, 0, none⟩) hb).trans h1
  have c0 := r0.c0
  have c1 := r0.c1
  have g1 := r1.f0
  have g2 := r1.f1
  have g3 := r1.c0
  have g4 := r1.c1
  go_enter Tryz.func89, Tryz.ntmps89
  go_wp2_with fail
  exact bodyPost_ret (results_row_tmp rfl _ _ (w.heap.size + 1) 23 #[.string N, .string t] _ _ rfl (IsB.new' (w.alloc (.cells #[.string N, .string D] 23)) N t (w.heap.size + 1) (by simp)) Tryz.underlying23 rfl (by kernel_rfl)) rfl ⟨rfl, ((Below.refl _ w).alloc (Nat.le_refl _) _).alloc (by simp) _⟩

end Go.Proofs.YtjkklgpbblkhaaaGreatDoor

/-
  Layer 4: lowest terms.
-/
namespace Go.Proofs.YtjkklgpbblkhaaaGreatDoor
open Go.RowKit Bs Ig

/-- what a call of build answers -/
abbrev Builds (r : ByteArray × ByteArray × Int) (v : Value) (N D : ByteArray) (W : World) : Prop :=
  Calls Tryz.prog 59 #[.agg #[.string N, .string D], v] W fun e W' => e = .returned (.tuple #[.agg #[.string r.1, .string r.2.1], .int .i64 r.2.2]) ∧ Below W.heap.size W W'
theorem build_at (fs : List Stp) (us : List Value) (w : World) (n : Nat) (N D : ByteArray) (hn : us.length = n) (hf : fs.length = n) (hn2 : n ≤ 100)
    (hdo : ∀ i (h : i < us.length) (h' : i < fs.length), Does w us[i] fs[i]) :
    Builds (buildS fs N D) (.slice (some ⟨w.heap.size, 0, none⟩) n n) N D (w.alloc (.cells us.toArray 79)) := by
  refine build_does fs us w.heap.size 0 n n N D _ hn hf hn2 (Nat.le_refl _) (by simp) (fun i hi => ?_) (fun i hi h' => (hdo i hi h').later ((Below.refl _ w).alloc (Nat.le_refl _) _))
  rw [Nat.zero_add, cell_of_row _ _ _ _ _ _ (heap_alloc_new _ _)]
  simp [hi]
theorem build_1 {F1 : Stp} {u1 : Value} {w : World} (h1 : Does w u1 F1) (N D : ByteArray) :
    Builds (buildS [F1] N D) (.slice (some ⟨w.heap.size, 0, none⟩) 1 1) N D (w.alloc (.cells #[u1] 79)) :=
  build_at [F1] [u1] w 1 N D rfl rfl (by omega) (fun i h _ => by match i, h with | 0, _ => exact h1)
theorem build_2 {F1 F2 : Stp} {u1 u2 : Value} {w : World} (h1 : Does w u1 F1) (h2 : Does w u2 F2) (N D : ByteArray) :
    Builds (buildS [F1, F2] N D) (.slice (some ⟨w.heap.size, 0, none⟩) 2 2) N D (w.alloc (.cells #[u1, u2] 79)) :=
  build_at [F1, F2] [u1, u2] w 2 N D rfl rfl (by omega) (fun i h _ => by match i, h with | 0, _ => exact h1 | 1, _ => exact h2)
theorem build_4 {F1 F2 F3 F4 : Stp} {u1 u2 u3 u4 : Value} {w : World} (h1 : Does w u1 F1) (h2 : Does w u2 F2) (h3 : Does w u3 F3) (h4 : Does w u4 F4) (N D : ByteArray) :
    Builds (buildS [F1, F2, F3, F4] N D) (.slice (some ⟨w.heap.size, 0, none⟩) 4 4) N D (w.alloc (.cells #[u1, u2, u3, u4] 79)) :=
  build_at [F1, F2, F3, F4] [u1, u2, u3, u4] w 4 N D rfl rfl (by omega) (fun i h _ => by match i, h with | 0, _ => exact h1 | 1, _ => exact h2 | 2, _ => exact h3 | 3, _ => exact h4)
theorem build_5 {F1 F2 F3 F4 F5 : Stp} {u1 u2 u3 u4 u5 : Value} {w : World} (h1 : Does w u1 F1) (h2 : Does w u2 F2) (h3 : Does w u3 F3) (h4 : Does w u4 F4) (h5 : Does w u5 F5) (N D : ByteArray) :
    Builds (buildS [F1, F2, F3, F4, F5] N D) (.slice (some ⟨w.heap.size, 0, none⟩) 5 5) N D (w.alloc (.cells #[u1, u2, u3, u4, u5] 79)) :=
  build_at [F1, F2, F3, F4, F5] [u1, u2, u3, u4, u5] w 5 N D rfl rfl (by omega) (fun i h _ => by match i, h with | 0, _ => exact h1 | 1, _ => exact h2 | 2, _ => exact h3 | 3, _ => exact h4 | 4, _ => exact h5)

noncomputable def lowestS : Stp := fun N D => if ((gcdS N D).2 != 0) = true then (⟨#[]⟩, ⟨#[]⟩, (gcdS N D).2) else buildS [numS floorS (gcdS N D).1, denS floorS (gcdS N D).1] N D

/-- the boxes of a function of one fraction -/
theorem box1 (w : World) (N D : ByteArray) : Below w.heap.size w ((w.alloc (.cells #[.string N, .string D] 23)).alloc (.cells #[.string ⟨#[]⟩, .string ⟨#[]⟩] 23)) ∧
    IsB ((w.alloc (.cells #[.string N, .string D] 23)).alloc (.cells #[.string ⟨#[]⟩, .string ⟨#[]⟩] 23)) w.heap.size N D ∧
    IsB ((w.alloc (.cells #[.string N, .string D] 23)).alloc (.cells #[.string ⟨#[]⟩, .string ⟨#[]⟩] 23)) (w.heap.size + 1) ⟨#[]⟩ ⟨#[]⟩ :=
  ⟨((Below.refl _ w).alloc (Nat.le_refl _) _).alloc (by simp) _, (IsB.new w N D).alloc _, IsB.new' _ _ _ _ (by simp)⟩
/-- the result is laid -/
theorem fin1 {w W : World} {g : Nat} {a b : ByteArray} (h : IsB W g a b) (hB : Below w.heap.size w W) (hg : w.heap.size ≤ g) (N D : ByteArray) :
    Below w.heap.size w ((W.setCell ⟨g, 0, none⟩ (.string N)).setCell ⟨g, 1, none⟩ (.string D)) := (hB.setCell (p := ⟨g, 0, none⟩) hg _).setCell (p := ⟨g, 1, none⟩) hg _

set_option maxRecDepth 100000 in
set_option maxHeartbeats 4000000 in
theorem lowest_any (N D : ByteArray) (w : World) (ht : TabP w) :
    Calls Tryz.prog 92 #[.agg #[.string N, .string D]] w fun e w' => e = .returned (.tuple #[.agg #[.string (lowestS N D).1, .string (lowestS N D).2.1], .int .i64 (lowestS N D).2.2]) ∧ Below w.heap.size w w' := by
  obtain ⟨hB, r0, r1⟩ := box1 w N D
  have HG := Lib.hid (Gcd_all N D _ (ht.later hB))
  unfold Gives at HG
  unfold lowestS
  obtain ⟨G, E, hGE⟩ : ∃ G E, gcdS N D = (G, E) := ⟨_, _, rfl⟩
  rw [hGE] at HG ⊢
  simp only at HG ⊢
  have HN := Lib.hid (fun (W : World) (hb : Below w.heap.size w W) => num_any floorS G _ W (does_floor W (ht.later hb)))
  have HD := Lib.hid (fun (W : World) (hb : Below w.heap.size w W) => den_any floorS G _ W (does_floor W (ht.later hb)))
  have HB := Lib.hid (fun (u1 u2 : Value) (W : World) (h1 : Does W u1 (numS floorS G)) (h2 : Does W u2 (denS floorS G)) => build_2 h1 h2 N D)
  unfold Builds at HB
  obtain ⟨R1, R2, R3, hR⟩ : ∃ a b c, buildS [numS floorS G, denS floorS G] N D = (a, b, c) := ⟨_, _, _, rfl⟩
  rw [hR] at HB ⊢
  simp only at HB
  obtain ⟨x, hx⟩ : ∃ x, (E != 0) = x := ⟨_, rfl⟩
  simp only [hx]
  have c0 := r0.c0
  have c1 := r0.c1
  clear hGE hR ht
  cases x with
  | true =>
    simp only [if_true]
    go_enter Tryz.func92, Tryz.ntmps92
    go_wp2_with (go_at_call 63; (with_reducible refine HG.out.mono ?_); rintro e w1 ⟨rfl, B1⟩; have q1 := r1.later B1 r1.lt; have g1 := q1.f0; have g2 := q1.f1; have g3 := q1.c0; have g4 := q1.c1)
    have hw1 := below_on hB B1 hB.size
    exact bodyPost_ret (results_row_tmp rfl _ _ (w.heap.size + 1) 23 #[.string ⟨#[]⟩, .string ⟨#[]⟩] _ _ rfl (two_strs q1 ⟨#[]⟩ ⟨#[]⟩) Tryz.underlying23 rfl (by kernel_rfl)) rfl ⟨rfl, fin1 q1 hw1 (by omega) _ _⟩
  | false =>
    simp only [if_false, Bool.false_eq_true]
    go_enter Tryz.func92, Tryz.ntmps92
    go_wp2_with (go_at_call 63; (with_reducible refine HG.out.mono ?_); rintro e w1 ⟨rfl, B1⟩; have b0 := r0.later B1 r0.lt; have b1 := r1.later B1 r1.lt; have hw1 := below_on hB B1 hB.size; clear c0 c1; have c0 := b0.c0; have c1 := b0.c1)
    have hd := off_drew (show Below w.heap.size w1.drew w1.drew from Below.refl _ _)
    go_region_held3 (fun w' => w'.cell? ⟨w.heap.size, 0, none⟩ = some (.string N) ∧ w'.cell? ⟨w.heap.size, 1, none⟩ = some (.string D)) (first | exact ⟨far2 (Nat.succ_ne_self _) k40, far2 (Nat.succ_ne_self _) k41⟩ | go_keep)
      (first
        | (go_at_call 69; (with_reducible refine (HN.out _ (hw1.drew)).mono ?_); rintro e w2 ⟨u2, rfl, d2, B2'⟩; have B2 := below_undrew B2'; have hw2 := below_on hw1 B2 hw1.size; have x0 := b0.later B2 b0.lt; have k20 := x0.c0; have k21 := x0.c1; have b12 := b1.later B2 b1.lt)
        | (go_at_call 71; (with_reducible refine (HD.out _ hw2).mono ?_); rintro e w3 ⟨u3, rfl, d3, B3⟩; have d23 := d2.later B3; have hw3 := below_on hw2 B3 hw2.size; have y0 := x0.later B3 x0.lt; have k30 := y0.c0; have k31 := y0.c1; have b13 := b12.later B3 b12.lt)
        | (go_at_call 59; (with_reducible refine (HB.out _ _ _ d23 d3).mono ?_); rintro e w4 ⟨rfl, B4⟩; have hw4 := below_on (hw3.alloc hw3.size _) B4 (hw3.alloc hw3.size _).size; have z0 := (y0.alloc _).later B4 (y0.alloc _).lt; have k40 := z0.c0; have k41 := z0.c1; have z1 := (b13.alloc _).later B4 (b13.alloc _).lt; have g1 := z1.f0; have g2 := z1.f1; have g3 := z1.c0; have g4 := z1.c1))
    go_wp2_with fail
    exact bodyPost_ret (results_row_tmp rfl _ _ (w.heap.size + 1) 23 #[.string R1, .string R2] _ _ rfl (two_strs z1 R1 R2) Tryz.underlying23 rfl (by kernel_rfl)) rfl ⟨rfl, fin1 z1 hw4 (by omega) _ _⟩

theorem does_lowest (w : World) (ht : TabP w) : Does w (.func (.func 92) #[] #[]) lowestS := ⟨_, _, rfl, fun args w => by kernel_rfl, fun N D W hW => lowest_any N D W (ht.later hW)⟩

noncomputable def positiveS : Stp := fun N D => if (cmpS D ⟨#[48]⟩ == 1) = true then (N, D, 0) else if (cmpS D ⟨#[48]⟩ == -1) = true then buildS [numS subS N, denS subS D] ⟨#[48]⟩ ⟨#[48]⟩ else (⟨#[]⟩, ⟨#[]⟩, 40)

set_option maxRecDepth 100000 in
set_option maxHeartbeats 4000000 in
theorem positive_any (N D : ByteArray) (w : World) (ht : TabP w) :
    Calls Tryz.prog 91 #[.agg #[.string N, .string D]] w fun e w' => e = .returned (.tuple #[.agg #[.string (positiveS N D).1, .string (positiveS N D).2.1], .int .i64 (positiveS N D).2.2]) ∧ Below w.heap.size w w' := by
  obtain ⟨hB, r0, r1⟩ := box1 w N D
  have HC := Lib.hid (fun W => Compare_all D ⟨#[48]⟩ W)
  unfold positiveS
  obtain ⟨c, hc⟩ : ∃ c, cmpS D ⟨#[48]⟩ = c := ⟨_, rfl⟩
  rw [hc] at HC ⊢
  have HN := Lib.hid (fun (W : World) (hb : Below w.heap.size w W) => num_any subS N _ W (does_sub W (ht.later hb)))
  have HD := Lib.hid (fun (W : World) (hb : Below w.heap.size w W) => den_any subS D _ W (does_sub W (ht.later hb)))
  have HB := Lib.hid (fun (u1 u2 : Value) (W : World) (h1 : Does W u1 (numS subS N)) (h2 : Does W u2 (denS subS D)) => build_2 h1 h2 ⟨#[48]⟩ ⟨#[48]⟩)
  unfold Builds at HB
  obtain ⟨R1, R2, R3, hR⟩ : ∃ a b c, buildS [numS subS N, denS subS D] ⟨#[48]⟩ ⟨#[48]⟩ = (a, b, c) := ⟨_, _, _, rfl⟩
  rw [hR] at HB ⊢
  simp only at HB
  obtain ⟨x, hx⟩ : ∃ x, (c == 1) = x := ⟨_, rfl⟩
  obtain ⟨y, hy⟩ : ∃ y, (c == -1) = y := ⟨_, rfl⟩
  simp only [hx, hy]
  have c0 := r0.c0
  have c1 := r0.c1
  clear hc hR ht
  cases x with
  | true =>
    simp only [if_true]
    clear hy
    go_enter Tryz.func91, Tryz.ntmps91
    go_wp2_with (go_at_call 51; (with_reducible refine (HC.out _).mono ?_); rintro e w1 ⟨rfl, B1⟩; have q0 := r0.later B1 r0.lt; have p0 := q0.c0; have p1 := q0.c1; have q1 := r1.later B1 r1.lt; have g1 := q1.f0; have g2 := q1.f1; have g3 := q1.c0; have g4 := q1.c1)
    have hw1 := below_on hB B1 hB.size
    exact bodyPost_ret (results_row_tmp rfl _ _ (w.heap.size + 1) 23 #[.string N, .string D] _ _ rfl (two_strs q1 N D) Tryz.underlying23 rfl (by kernel_rfl)) rfl ⟨rfl, fin1 q1 hw1 (by omega) _ _⟩
  | false =>
    cases y with
    | false =>
      simp only [if_false, Bool.false_eq_true]
      go_enter Tryz.func91, Tryz.ntmps91
      go_wp2_with (go_at_call 51; (with_reducible refine (HC.out _).mono ?_); rintro e w1 ⟨rfl, B1⟩; have q0 := r0.later B1 r0.lt; have p0 := q0.c0; have p1 := q0.c1; have q1 := r1.later B1 r1.lt; have g1 := q1.f0; have g2 := q1.f1; have g3 := q1.c0; have g4 := q1.c1)
      have hw1 := below_on hB B1 hB.size
      exact bodyPost_ret (results_row_tmp rfl _ _ (w.heap.size + 1) 23 #[.string ⟨#[]⟩, .string ⟨#[]⟩] _ _ rfl (two_strs q1 ⟨#[]⟩ ⟨#[]⟩) Tryz.underlying23 rfl (by kernel_rfl)) rfl ⟨rfl, fin1 q1 hw1 (by omega) _ _⟩
    | true =>
      simp only [if_false, Bool.false_eq_true, if_true]
      go_enter Tryz.func91, Tryz.ntmps91
      go_wp2_with (go_at_call 51; (with_reducible refine (HC.out _).mono ?_); rintro e w1 ⟨rfl, B1⟩; have b0 := r0.later B1 r0.lt; have b1 := r1.later B1 r1.lt; have hw1 := below_on hB B1 hB.size; clear c0 c1; have c0 := b0.c0; have c1 := b0.c1)
      go_region_held3 (fun w' => w'.cell? ⟨w.heap.size, 0, none⟩ = some (.string N) ∧ w'.cell? ⟨w.heap.size, 1, none⟩ = some (.string D)) (first | exact ⟨far2 (Nat.succ_ne_self _) k40, far2 (Nat.succ_ne_self _) k41⟩ | go_keep)
        (first
          | (go_at_call 69; (with_reducible refine (HN.out _ (hw1.drew)).mono ?_); rintro e w2 ⟨u2, rfl, d2, B2'⟩; have B2 := below_undrew B2'; have hw2 := below_on hw1 B2 hw1.size; have x0 := b0.later B2 b0.lt; have k20 := x0.c0; have k21 := x0.c1; have b12 := b1.later B2 b1.lt)
          | (go_at_call 71; (with_reducible refine (HD.out _ hw2).mono ?_); rintro e w3 ⟨u3, rfl, d3, B3⟩; have d23 := d2.later B3; have hw3 := below_on hw2 B3 hw2.size; have y0 := x0.later B3 x0.lt; have k30 := y0.c0; have k31 := y0.c1; have b13 := b12.later B3 b12.lt)
          | (go_at_call 59; (with_reducible refine (HB.out _ _ _ d23 d3).mono ?_); rintro e w4 ⟨rfl, B4⟩; have hw4 := below_on (hw3.alloc hw3.size _) B4 (hw3.alloc hw3.size _).size; have z0 := (y0.alloc _).later B4 (y0.alloc _).lt; have k40 := z0.c0; have k41 := z0.c1; have z1 := (b13.alloc _).later B4 (b13.alloc _).lt; have g1 := z1.f0; have g2 := z1.f1; have g3 := z1.c0; have g4 := z1.c1))
      go_wp2_with fail
      exact bodyPost_ret (results_row_tmp rfl _ _ (w.heap.size + 1) 23 #[.string R1, .string R2] _ _ rfl (two_strs z1 R1 R2) Tryz.underlying23 rfl (by kernel_rfl)) rfl ⟨rfl, fin1 z1 hw4 (by omega) _ _⟩
theorem does_positive (w : World) (ht : TabP w) : Does w (.func (.func 91) #[] #[]) positiveS := ⟨_, _, rfl, fun args w => by kernel_rfl, fun N D W hW => positive_any N D W (ht.later hW)⟩

end Go.Proofs.YtjkklgpbblkhaaaGreatDoor

/-
  Layer 4: fractions in lowest terms.
-/
namespace Go.Proofs.YtjkklgpbblkhaaaGreatDoor
open Go.RowKit Bs Ig

noncomputable def reduceS : Stp := fun N D => buildS [positiveS, lowestS] N D
set_option maxRecDepth 100000 in
set_option maxHeartbeats 4000000 in
theorem reduce_any (N D : ByteArray) (w : World) (ht : TabP w) :
    Calls Tryz.prog 60 #[.agg #[.string N, .string D]] w fun e w' => e = .returned (.tuple #[.agg #[.string (reduceS N D).1, .string (reduceS N D).2.1], .int .i64 (reduceS N D).2.2]) ∧ Below w.heap.size w w' := by
  obtain ⟨hB, r0, r1⟩ := box1 w N D
  have hb := build_2 (does_positive _ (ht.later hB)) (does_lowest _ (ht.later hB)) N D
  unfold Builds at hb
  rw [show ((w.alloc (.cells #[.string N, .string D] 23)).alloc (.cells #[.string ⟨#[]⟩, .string ⟨#[]⟩] 23)).heap.size = w.heap.size + 1 + 1 by simp] at hb
  have HB := Lib.hid hb
  unfold reduceS
  obtain ⟨R1, R2, R3, hR⟩ : ∃ a b c, buildS [positiveS, lowestS] N D = (a, b, c) := ⟨_, _, _, rfl⟩
  rw [hR] at HB ⊢
  simp only at HB
  have c0 := r0.c0
  have c1 := r0.c1
  have hA := hB.alloc hB.size (.cells #[.func (.func 91) #[] #[], .func (.func 92) #[] #[]] 79)
  have r2 := r1.alloc (.cells #[.func (.func 91) #[] #[], .func (.func 92) #[] #[]] 79)
  clear hR ht hb
  go_enter Tryz.func60, Tryz.ntmps60
  go_wp2_with (go_at_call 59; (with_reducible refine HB.out.mono ?_); rintro e w4 ⟨rfl, B4⟩; have hw4 := below_on hA B4 hA.size; have z1 := r2.later B4 r2.lt; have g1 := z1.f0; have g2 := z1.f1; have g3 := z1.c0; have g4 := z1.c1)
  exact bodyPost_ret (results_row_tmp rfl _ _ (w.heap.size + 1) 23 #[.string R1, .string R2] _ _ rfl (two_strs z1 R1 R2) Tryz.underlying23 rfl (by kernel_rfl)) rfl ⟨rfl, fin1 z1 hw4 (by omega) _ _⟩
theorem does_reduce (w : World) (ht : TabP w) : Does w (.func (.func 60) #[] #[]) reduceS := ⟨_, _, rfl, fun args w => by kernel_rfl, fun N D W hW => reduce_any N D W (ht.later hW)⟩

end Go.Proofs.YtjkklgpbblkhaaaGreatDoor
