/-
  Layer 6: the field that newField makes: two tables that two closures share; products and quotients.
-/
import Derived.Test.YtajfmhiejipaoaaDoorEma
import Derived.Test.YtajfmhiejipaoaaDoorArr
import Derived.Laws.ResultCell
import Derived.Laws.ByValue
import Derived.Laws.EntriesVeiled
import Derived.Deep.DeepCutAuto
namespace Go.Proofs.YtajfmhiejipaoaaDoor
open Go.RowKit Bs Ef

theorem set_range (f : Nat → Nat) (n i v : Nat) : ((List.range n).map f).set i v = (List.range n).map (fun j => if j = i then v else f j) := by
  apply List.ext_getElem
  · simp
  · intro k h1 h2
    simp only [List.getElem_set, List.getElem_map, List.getElem_range]
    by_cases h : i = k
    · rw [if_pos h, if_pos h.symm]
    · rw [if_neg h, if_neg (fun h3 => h h3.symm)]
theorem range_at (f : Nat → Nat) (n i : Nat) (h : i < n) : ((List.range n).map f).getD i 0 = f i := by
  rw [List.getD_eq_getElem?_getD, List.getElem?_map, List.getElem?_range h]
  rfl
theorem range_ext {f g : Nat → Nat} {n : Nat} (h : ∀ i, i < n → f i = g i) : (List.range n).map f = (List.range n).map g :=
  List.map_congr_left (fun i hi => h i (List.mem_range.1 hi))
abbrev tabP : List Nat := (List.range 255).map ex
abbrev tabL : List Nat := (List.range 256).map lg
/-- the tables of a field lie in two blocks -/
structure FldAt (W : World) (g : Nat) : Prop where
  p : Arr W g 81 .u8 tabP
  l : Arr W (g + 1) 82 .u8 tabL
theorem FldAt.later {W W' : World} {g : Nat} (h : FldAt W g) (hb : Below W.heap.size W W') : FldAt W' g := ⟨h.p.later hb, h.l.later hb⟩
theorem FldAt.pow {W : World} {g : Nat} (h : FldAt W g) (i : Nat) (hi : i < 255) : W.cell? ⟨g, i, none⟩ = some (.int .u8 (ex i : Nat)) := by
  have := h.p.get i (by rw [List.length_map, List.length_range]; exact hi)
  rwa [range_at _ _ _ hi] at this
theorem FldAt.log {W : World} {g : Nat} (h : FldAt W g) (i : Nat) (hi : i < 256) : W.cell? ⟨g + 1, i, none⟩ = some (.int .u8 (lg i : Nat)) := by
  have := h.l.get i (by rw [List.length_map, List.length_range]; exact hi)
  rwa [range_at _ _ _ hi] at this
/-- the field's functions, as values -/
abbrev fprod (g : Nat) : Value := .func (.func 61) #[] #[.pointer (some ⟨g, 0, none⟩), .pointer (some ⟨g + 1, 0, none⟩)]
abbrev fquot (g : Nat) : Value := .func (.func 62) #[] #[.pointer (some ⟨g, 0, none⟩), .pointer (some ⟨g + 1, 0, none⟩)]

theorem w64_op (a : Nat) (ha : a < 65536) : (BitVec.ofInt 64 (a : Int)).toNat = a := by
  rw [BitVec.ofInt_natCast, BitVec.toNat_ofNat]; exact Nat.mod_eq_of_lt (by omega)
theorem w8_op (a : Nat) (ha : a < 256) : (BitVec.ofInt 8 (a : Int)).toNat = a := by
  rw [BitVec.ofInt_natCast, BitVec.toNat_ofNat]; exact Nat.mod_eq_of_lt (by omega)
theorem xor_i (a b : Nat) (ha : a < 65536) (hb : b < 65536) : bits .xor .i64 (a : Int) (b : Int) = ((a ^^^ b : Nat) : Int) := by
  have h := Nat.xor_lt_two_pow (n := 16) ha hb
  show IntKind.i64.wrap ((BitVec.ofInt 64 (a : Int) ^^^ BitVec.ofInt 64 (b : Int)).toNat : Int) = _
  rw [BitVec.toNat_xor, w64_op a ha, w64_op b hb, IntKind.wrap_i64]
  omega
theorem xor_b (a b : Nat) (ha : a < 256) (hb : b < 256) : bits .xor .u8 (a : Int) (b : Int) = ((a ^^^ b : Nat) : Int) := by
  have h := Nat.xor_lt_two_pow (n := 8) ha hb
  show IntKind.u8.wrap ((BitVec.ofInt 8 (a : Int) ^^^ BitVec.ofInt 8 (b : Int)).toNat : Int) = _
  rw [BitVec.toNat_xor, w8_op a ha, w8_op b hb, IntKind.wrap_u8]
  omega

set_option maxRecDepth 100000 in
set_option maxHeartbeats 2000000 in
theorem product_q (g a b : Nat) (ha : a < 256) (hb : b < 256) (w : World) (hF : FldAt w g) :
    Calls Tryd.prog 61 #[.int .u8 (a : Int), .int .u8 (b : Int), .pointer (some ⟨g, 0, none⟩), .pointer (some ⟨g + 1, 0, none⟩)] w fun e w' => e = .returned (.int .u8 (gm a b : Nat)) ∧ ∃ m, w' = w.drewN m := by
  have l1 := hF.log a ha
  have l2 := hF.log b hb
  have h1 := lg_lt a
  have h2 := lg_lt b
  obtain ⟨x, hx⟩ : ∃ x, lg a = x := ⟨_, rfl⟩
  obtain ⟨y, hy⟩ : ∃ y, lg b = y := ⟨_, rfl⟩
  obtain ⟨k, hk⟩ : ∃ k, (x + y) % 255 = k := ⟨_, rfl⟩
  have hk2 : k < 255 := by omega
  have l3 := hF.pow k hk2
  have hgm : gm a b = if a = 0 ∨ b = 0 then 0 else ex k := by unfold gm; rw [hx, hy, hk]
  rw [hgm]
  rw [hx] at l1 h1
  rw [hy] at l2 h2
  have hm : ((x : Int) + (y : Int)).tmod 255 = (k : Int) := by rw [Int.tmod_eq_emod_of_nonneg (by omega), ← hk]; omega
  obtain ⟨z, hz⟩ : ∃ z, ex k = z := ⟨_, rfl⟩
  rw [hz] at l3 ⊢
  clear hgm hx hy hz hk hF
  by_cases h0 : a = 0
  · subst h0
    rw [if_pos (.inl rfl)]
    go_enter Tryd.func61, Tryd.ntmps61
    go_wp2_with fail
    go_ret
    exact ⟨rfl, 0, rfl⟩
  · by_cases h3 : b = 0
    · subst h3
      rw [if_pos (.inr rfl)]
      have e0 : ((a : Int) == 0) = false := beq_false_of_ne (by omega)
      go_enter Tryd.func61, Tryd.ntmps61
      go_wp2_with fail
      go_ret
      exact ⟨rfl, 0, rfl⟩
    · rw [if_neg (by omega)]
      have e0 : ((a : Int) == 0) = false := beq_false_of_ne (by omega)
      have e1 : ((b : Int) == 0) = false := beq_false_of_ne (by omega)
      go_enter Tryd.func61, Tryd.ntmps61
      go_wp2_with fail
      go_quiet (fail)
      go_wp2_with fail
      go_ret
      exact ⟨rfl, _, rfl⟩

set_option maxRecDepth 100000 in
set_option maxHeartbeats 2000000 in
theorem quotient_q (g a b : Nat) (ha : a < 256) (hb : b < 256) (w : World) (hF : FldAt w g) :
    Calls Tryd.prog 62 #[.int .u8 (a : Int), .int .u8 (b : Int), .pointer (some ⟨g, 0, none⟩), .pointer (some ⟨g + 1, 0, none⟩)] w fun e w' => e = .returned (.int .u8 (gq a b : Nat)) ∧ ∃ m, w' = w.drewN m := by
  have l1 := hF.log a ha
  have l2 := hF.log b hb
  have h1 := lg_lt a
  have h2 := lg_lt b
  obtain ⟨x, hx⟩ : ∃ x, lg a = x := ⟨_, rfl⟩
  obtain ⟨y, hy⟩ : ∃ y, lg b = y := ⟨_, rfl⟩
  obtain ⟨k, hk⟩ : ∃ k, (x + 255 - y) % 255 = k := ⟨_, rfl⟩
  have hk2 : k < 255 := by omega
  have l3 := hF.pow k hk2
  have hgm : gq a b = if a = 0 then 0 else ex k := by unfold gq; rw [hx, hy, hk]
  rw [hgm]
  rw [hx] at l1 h1
  rw [hy] at l2 h2
  have hm : ((x : Int) + 255 - (y : Int)).tmod 255 = (k : Int) := by rw [Int.tmod_eq_emod_of_nonneg (by omega), ← hk]; omega
  obtain ⟨z, hz⟩ : ∃ z, ex k = z := ⟨_, rfl⟩
  rw [hz] at l3 ⊢
  clear hgm hx hy hz hk hF
  by_cases h0 : a = 0
  · subst h0
    rw [if_pos rfl]
    go_enter Tryd.func62, Tryd.ntmps62
    go_wp2_with fail
    go_ret
    exact ⟨rfl, 0, rfl⟩
  · rw [if_neg h0]
    have e0 : ((a : Int) == 0) = false := beq_false_of_ne (by omega)
    go_enter Tryd.func62, Tryd.ntmps62
    go_wp2_with fail
    go_quiet (fail)
    go_wp2_with fail
    go_ret
    exact ⟨rfl, _, rfl⟩

theorem product_any (g a b : Nat) (ha : a < 256) (hb : b < 256) (w : World) (hF : FldAt w g) :
    Calls Tryd.prog 61 #[.int .u8 (a : Int), .int .u8 (b : Int), .pointer (some ⟨g, 0, none⟩), .pointer (some ⟨g + 1, 0, none⟩)] w fun e w' => e = .returned (.int .u8 (gm a b : Nat)) ∧ Below w.heap.size w w' := by
  refine (product_q g a b ha hb w hF).mono ?_
  rintro e w' ⟨rfl, m, rfl⟩
  exact ⟨rfl, below_drewN (Below.refl _ _) m⟩
theorem quotient_any (g a b : Nat) (ha : a < 256) (hb : b < 256) (w : World) (hF : FldAt w g) :
    Calls Tryd.prog 62 #[.int .u8 (a : Int), .int .u8 (b : Int), .pointer (some ⟨g, 0, none⟩), .pointer (some ⟨g + 1, 0, none⟩)] w fun e w' => e = .returned (.int .u8 (gq a b : Nat)) ∧ Below w.heap.size w w' := by
  refine (quotient_q g a b ha hb w hF).mono ?_
  rintro e w' ⟨rfl, m, rfl⟩
  exact ⟨rfl, below_drewN (Below.refl _ _) m⟩
theorem build_fld (g : Nat) (w : World) : (Instr.build 62 #[(0, fprod g), (1, fquot g)]).run Tryd.prog w = .ok (.agg #[fprod g, fquot g]) w := by kernel_rfl
/-- the box of a field -/
def FBox (W : World) (g : Nat) (a b : Value) : Prop := W.heap[g]? = some (.cells #[a, b] 62 (0, 0))
set_option maxRecDepth 100000 in
theorem zero_p : (iv .u8 ((List.range 255).map fun _ => 0)).toArray = Tryd.zeroCells81 := by rfl
set_option maxRecDepth 100000 in
theorem zero_l : (iv .u8 ((List.range 256).map fun _ => 0)).toArray = Tryd.zeroCells82 := by rfl

set_option maxRecDepth 100000 in
set_option maxHeartbeats 4000000 in
theorem newField_any (w : World) :
    Calls Tryd.prog 36 #[] w fun e w' => ∃ g, w.heap.size ≤ g ∧ g + 1 < w'.heap.size ∧ e = .returned (.agg #[fprod g, fquot g]) ∧ FldAt w' g ∧ Below w.heap.size w w' := by
  go_enter Tryd.func36, Tryd.ntmps36
  go_wp2_with fail
  go_loopw [3, 7] (fun v i wr => ∃ j : Nat, j ≤ 255 ∧ v = .int .i64 (ex j : Nat) ∧ i = .int .i64 j ∧ Arr wr (w.heap.size + 1) 81 .u8 ((List.range 255).map (fun k => if k < j then ex k else 0)) ∧ Arr wr (w.heap.size + 1 + 1) 82 .u8 ((List.range 256).map (lgT j)) ∧ Below w.heap.size w wr ∧ FBox wr w.heap.size .nilFunc .nilFunc) (fun _ i _ => 255 - (intOf i).toNat)
  case atStart =>
    refine ⟨0, Nat.zero_le _, rfl, rfl, ⟨?_⟩, ⟨?_⟩, ((Below.refl _ w).alloc (Nat.le_refl _) _).alloc (by simp) _ |>.alloc (by simp; omega) _, ?_⟩
    · have h := heap_alloc_new (w.alloc (.cells #[.nilFunc, .nilFunc] 62)) (.cells Tryd.zeroCells81 81)
      have h2 := (heap_alloc_old _ (.cells Tryd.zeroCells82 82) _ (Array.getElem?_eq_some_iff.1 h).1).trans h
      rw [World.size_alloc] at h2
      rw [h2, ← zero_p]
      exact congrArg (fun l => some (Obj.cells (iv .u8 l).toArray 81 (0, 0))) (range_ext (fun i _ => rfl))
    · have h := heap_alloc_new ((w.alloc (.cells #[.nilFunc, .nilFunc] 62)).alloc (.cells Tryd.zeroCells81 81)) (.cells Tryd.zeroCells82 82)
      rw [World.size_alloc, World.size_alloc] at h
      rw [h, ← zero_l]
      exact congrArg (fun l => some (Obj.cells (iv .u8 l).toArray 82 (0, 0))) (range_ext (fun i _ => rfl))
    · have h := heap_alloc_new w (.cells #[.nilFunc, .nilFunc] 62)
      have h2 := (heap_alloc_old _ (.cells Tryd.zeroCells81 81) _ (Array.getElem?_eq_some_iff.1 h).1).trans h
      exact (heap_alloc_old _ (.cells Tryd.zeroCells82 82) _ (Array.getElem?_eq_some_iff.1 h2).1).trans h2
  case round =>
    obtain ⟨j, hj, rfl, rfl, hp, hl, hw, hbx⟩ := hrel
    have HB := Lib.hid hbx
    clear hbx
    rcases Nat.lt_or_ge j 255 with h | h
    · have hy := ex_lt j
      have hx : ex (j + 1) = if 2 * ex j < 256 then 2 * ex j else (2 * ex j) ^^^ 285 := rfl
      obtain ⟨q1, hp2⟩ : ∃ q : Int, wr.cell? ⟨w.heap.size + 1, j, none⟩ = some (.int .u8 q) := ⟨_, hp.get j (by rw [List.length_map, List.length_range]; exact h)⟩
      obtain ⟨q2, hl2⟩ : ∃ q : Int, wr.cell? ⟨w.heap.size + 1 + 1, ex j, none⟩ = some (.int .u8 q) := ⟨_, hl.get (ex j) (by rw [List.length_map, List.length_range]; exact hy)⟩
      have f1 := hp.free j
      have f2 := hl.free (ex j)
      have hp3 := (hp.set j (ex j : Nat) (ex j) rfl).other (g' := w.heap.size + 1 + 1) (i := ex j) (by omega) (.int .u8 (j : Nat))
      have hl3 := (hl.other (g' := w.heap.size + 1) (i := j) (by omega) (.int .u8 (ex j : Nat))).set (ex j) (j : Nat) j rfl
      have hw3 := (hw.setCell (p := ⟨w.heap.size + 1, j, none⟩) (by show w.heap.size ≤ w.heap.size + 1; omega) (.int .u8 (ex j : Nat))).setCell (p := ⟨w.heap.size + 1 + 1, ex j, none⟩) (by show w.heap.size ≤ w.heap.size + 1 + 1; omega) (.int .u8 (j : Nat))
      rw [set_range] at hp3 hl3
      rw [range_ext (g := fun k => if k < j + 1 then ex k else 0) (fun k _ => by
        by_cases h1 : k = j
        · rw [if_pos h1, if_pos (by omega), h1]
        · rw [if_neg h1]
          by_cases h2 : k < j
          · rw [if_pos h2, if_pos (by omega)]
          · rw [if_neg h2, if_neg (by omega)])] at hp3
      have hl4 : (List.range 256).map (fun k => if k = ex j then j else lgT j k) = (List.range 256).map (lgT (j + 1)) := rfl
      rw [hl4] at hl3
      have HP := Lib.hid hp3
      have HL := Lib.hid hl3
      have HW := Lib.hid hw3
      have HX := Lib.hid hx
      replace HB := Lib.hid (show FBox ((wr.setCell ⟨w.heap.size + 1, j, none⟩ (.int .u8 (ex j : Nat))).setCell ⟨w.heap.size + 1 + 1, ex j, none⟩ (.int .u8 (j : Nat))) w.heap.size .nilFunc .nilFunc from (heap_setCell_other _ _ _ _ (by dsimp only; omega)).trans ((heap_setCell_other _ _ _ _ (by dsimp only; omega)).trans HB.out))
      obtain ⟨y, hyy⟩ : ∃ y, ex j = y := ⟨_, rfl⟩
      rw [hyy] at HB HP HL HW HX hy hl2 f2 ⊢
      clear hp hl hw hp3 hl3 hw3 hl4 hx hyy
      have w1 : IntKind.u8.wrap (y : Int) = (y : Int) := by rw [IntKind.wrap_u8]; omega
      have w2 : IntKind.u8.wrap (j : Int) = (j : Int) := by rw [IntKind.wrap_u8]; omega
      have w3 : IntKind.i64.wrap ((y : Int) * 2) = ((2 * y : Nat) : Int) := by rw [IntKind.wrap_i64]; omega
      rcases Nat.lt_or_ge (2 * y) 256 with h2 | h2
      · obtain ⟨z, hz⟩ : ∃ z, 2 * y = z := ⟨_, rfl⟩
        rw [hz] at w3 h2
        have c2 : decide (256 ≤ z) = false := decide_eq_false (by omega)
        have HZ := Lib.hid (show ex (j + 1) = z by rw [HX.out, hz, if_pos h2])
        clear HX hz
        go_wp2_with fail
        go_roundw
        case rel => exact ⟨j + 1, h, by rw [HZ.out], by go_num, HP.out, HL.out, HW.out, HB.out⟩
        case measure => simp [intOf]; omega
      · have hxx := xor_i (2 * y) 285 (by omega) (by omega)
        obtain ⟨z, hz⟩ : ∃ z, 2 * y = z := ⟨_, rfl⟩
        rw [hz] at w3 h2 hxx
        have c2 : decide (256 ≤ z) = true := decide_eq_true h2
        obtain ⟨v, hv⟩ : ∃ v, z ^^^ 285 = v := ⟨_, rfl⟩
        have HZ := Lib.hid (show ex (j + 1) = v by rw [HX.out, hz, if_neg (by omega), hv])
        rw [hv] at hxx
        replace hxx : bits .xor .i64 (z : Int) 285 = (v : Int) := hxx
        clear HX hz hv
        go_wp2_with fail
        go_roundw
        case rel => exact ⟨j + 1, h, by rw [HZ.out], by go_num, HP.out, HL.out, HW.out, HB.out⟩
        case measure => simp [intOf]; omega
    · obtain rfl : j = 255 := by omega
      have HP := Lib.hid hp
      have HL := Lib.hid hl
      have HW := Lib.hid hw
      clear hp hl hw
      have hb := build_fld (w.heap.size + 1) wr
      unfold fprod fquot at hb
      have hB := HB.out
      have b0 : wr.cell? ⟨w.heap.size, 0, none⟩ = some .nilFunc := by rw [cell_of_row _ _ 0 _ _ _ hB]; rfl
      have b1 : wr.cell? ⟨w.heap.size, 1, none⟩ = some .nilFunc := by rw [cell_of_row _ _ 1 _ _ _ hB]; rfl
      have b2 : wr.frozen? ⟨w.heap.size, 0, none⟩ = false := frozen_of_row _ _ 0 _ _ hB
      have b3 : wr.frozen? ⟨w.heap.size, 1, none⟩ = false := frozen_of_row _ _ 1 _ _ hB
      have hs := HP.out.lt
      have hs2 := HL.out.lt
      clear hB
      go_wp2_with fail
      have HBX : FBox ((wr.setCell ⟨w.heap.size, 0, none⟩ (fprod (w.heap.size + 1))).setCell ⟨w.heap.size, 1, none⟩ (fquot (w.heap.size + 1))) w.heap.size (fprod (w.heap.size + 1)) (fquot (w.heap.size + 1)) :=
        heap_setCell_same _ _ 1 _ _ _ (heap_setCell_same _ _ 0 _ _ _ HB.out)
      refine bodyPost_ret (results_cell_row rfl _ _ w.heap.size 62 #[fprod (w.heap.size + 1), fquot (w.heap.size + 1)] _ _ rfl HBX Tryd.underlying62 rfl (by kernel_rfl)) rfl
        ⟨w.heap.size + 1, by omega, by simp; omega, rfl, ⟨?_, ?_⟩, (HW.out.setCell (p := ⟨w.heap.size, 0, none⟩) (Nat.le_refl _) _).setCell (p := ⟨w.heap.size, 1, none⟩) (Nat.le_refl _) _⟩
      · have h2 := (HP.out.other (g' := w.heap.size) (i := 0) (by omega) (fprod (w.heap.size + 1))).other (g' := w.heap.size) (i := 1) (by omega) (fquot (w.heap.size + 1))
        rw [range_ext (g := ex) (fun k hk => if_pos hk)] at h2
        exact h2
      · exact (HL.out.other (g' := w.heap.size) (i := 0) (by omega) (fprod (w.heap.size + 1))).other (g' := w.heap.size) (i := 1) (by omega) (fquot (w.heap.size + 1))

end Go.Proofs.YtajfmhiejipaoaaDoor
