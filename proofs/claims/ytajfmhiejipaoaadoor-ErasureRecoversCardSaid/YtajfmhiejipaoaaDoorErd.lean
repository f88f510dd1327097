/-
  Layer 6: the weights of all points.
-/
import Derived.Test.YtajfmhiejipaoaaDoorErc
import Derived.Laws.MakeOwn
namespace Go.Proofs.YtajfmhiejipaoaaDoor
open Go.RowKit Bs Ef

theorem range_getD (l : List Nat) : (List.range l.length).map (fun k => l.getD k 0) = l := by
  apply List.ext_getElem
  · simp
  · intro i h1 h2
    simp only [List.getElem_map, List.getElem_range]
    rw [List.getD_eq_getElem?_getD, List.getElem?_eq_getElem h2]
    rfl
/-- what is written of a list so far -/
abbrev upto (l : List Nat) (j : Nat) : List Nat := (List.range l.length).map (fun k => if k < j then l.getD k 0 else 0)
theorem upto_zero (l : List Nat) : upto l 0 = List.replicate l.length 0 := by
  unfold upto
  rw [range_ext (g := fun _ => 0) (fun k _ => if_neg (by omega))]
  apply List.ext_getElem
  · simp
  · intro i h1 h2; simp
theorem upto_all (l : List Nat) {j : Nat} (h : l.length ≤ j) : upto l j = l := by
  unfold upto
  rw [range_ext (g := fun k => l.getD k 0) (fun k hk => if_pos (by omega)), range_getD]
theorem upto_set (l : List Nat) (j : Nat) : (upto l j).set j (l.getD j 0) = upto l (j + 1) := by
  unfold upto
  rw [set_range]
  refine range_ext (fun k _ => ?_)
  by_cases h1 : k = j
  · rw [if_pos h1, if_pos (by omega), h1]
  · rw [if_neg h1]
    by_cases h2 : k < j
    · rw [if_pos h2, if_pos (by omega)]
    · rw [if_neg h2, if_neg (by omega)]
theorem upto_len (l : List Nat) (j : Nat) : (upto l j).length = l.length := by simp
theorem infoB : (Tryd.prog.info? 5).map (fun i => (i.zero, i.size, i.bytes)) = some (some (.int .u8 0), 1, 1) := by kernel_rfl
theorem mkB (w : World) (n : Nat) (h : n ≤ 1000000) : (Instr.makeSlice 48 (.int .i64 (n : Int)) (.int .i64 (n : Int))).run Tryd.prog w = .ok (.slice (some ⟨w.heap.size, 0, none⟩) n n) (w.alloc (.cells (iv .u8 (List.replicate n 0)).toArray 5)) := by
  obtain ⟨i0, hi, hz0, hz1, hz2⟩ := info_parts infoB
  have h := run_makeSlice (P := Tryd.prog) w 48 5 i0 (.int .u8 0) Tryd.underlying48 hi hz0 .i64 .i64 n n (by omega) (by omega) (by rw [hz1]; omega) (by rw [hz2]; omega) (by omega)
  rw [h, hz1]
  have e : madeCells (Value.int .u8 0).cells (Int.toNat n * 1) = (iv .u8 (List.replicate n 0)).toArray := by
    rw [Nat.mul_one, Int.toNat_natCast]
    apply Array.ext
    · rw [size_madeCells]; simp [iv]
    · intro i h1 h2
      simp [madeCells, iv, Value.cells, Nat.mod_one]
  rw [e]
  simp

set_option maxRecDepth 100000 in
set_option maxHeartbeats 2000000 in
theorem mapW_any (x : G) (pts : List G) (g gp off n c b1 b2 b3 : Nat) (w : World) (hF : FldAt w g) (hn : pts.length = n) (hn2 : n ≤ 100) (hP : Nums w gp off n .u8 (gl pts)) (hc : n ≤ c)
    (h1 : w.cell? ⟨b1, 0, none⟩ = some (.slice (some ⟨gp, off, none⟩) n c)) (h2 : w.cell? ⟨b2, 0, none⟩ = some (fprod g)) (h3 : w.cell? ⟨b2, 1, none⟩ = some (fquot g)) (h4 : w.cell? ⟨b3, 0, none⟩ = some (.int .u8 (x.val : Nat))) :
    Calls Tryd.prog 80 #[.slice (some ⟨gp, off, none⟩) n c, .func (.func 79) #[] #[.pointer (some ⟨b1, 0, none⟩), .pointer (some ⟨b2, 0, none⟩), .pointer (some ⟨b3, 0, none⟩)]] w fun e w' =>
      ∃ gv, w.heap.size ≤ gv ∧ e = .returned (.slice (some ⟨gv, 0, none⟩) n n) ∧ Arr w' gv 5 .u8 (gl (pts.map (fun p => lw p x o1 pts))) ∧ Below w.heap.size w w' := by
  have hmk := mkB w n (by omega)
  obtain ⟨L, hL⟩ : ∃ L, gl (pts.map (fun p => lw p x o1 pts)) = L := ⟨_, rfl⟩
  have hLn : L.length = n := by rw [← hL]; simp [hn]
  have hLat : ∀ j (h : j < n), L.getD j 0 = (lw (pts[j]'(by omega)) x o1 pts).val := fun j h => by
    subst hL
    rw [gl_at _ _ (by simp; omega)]; simp
  rw [hL]
  have HL := Lib.hid hLat
  have HK := Lib.hid (fun (W : World) (p : G) (hb : Below w.heap.size w W) => weight1_any p x pts g gp off n c b1 b2 b3 W (hF.later hb) hn hn2 (hP.later hb) hc
    ((hb.cell (p := ⟨b1, 0, none⟩) (block_lt_of_cell h1)).trans h1) ((hb.cell (p := ⟨b2, 0, none⟩) (block_lt_of_cell h2)).trans h2) ((hb.cell (p := ⟨b2, 1, none⟩) (block_lt_of_cell h3)).trans h3) ((hb.cell (p := ⟨b3, 0, none⟩) (block_lt_of_cell h4)).trans h4))
  have hA0 := Arr.new w 5 .u8 (List.replicate n 0)
  have hB0 : Below w.heap.size w (w.alloc (.cells (iv .u8 (List.replicate n 0)).toArray 5)) := (Below.refl _ w).alloc (Nat.le_refl _) _
  obtain ⟨W0, hW0⟩ : ∃ W, w.alloc (.cells (iv .u8 (List.replicate n 0)).toArray 5) = W := ⟨_, rfl⟩
  rw [hW0] at hmk hA0 hB0
  clear hLat hL hW0 h1 h2 h3 h4 hF
  go_enter Tryd.func80, Tryd.ntmps80
  go_wp2_with fail
  go_loopw [13] (fun i wr => ∃ j : Nat, j ≤ n ∧ i = .int .i64 j ∧ Arr wr w.heap.size 5 .u8 (upto L j) ∧ Below w.heap.size w wr) (fun i _ => n - (intOf i).toNat)
  case atStart => exact ⟨0, Nat.zero_le _, rfl, by rw [upto_zero, hLn]; exact hA0, hB0⟩
  case round =>
    obtain ⟨j, hj, rfl, hA, hw⟩ := hrel
    rcases Nat.lt_or_ge j n with h | h
    · have hq := (hP.below hw (fun _ => hP.lt (by omega))).cell j h
      rw [gl_at _ _ (by omega)] at hq
      have hv := HL.out j h
      obtain ⟨q, hqq⟩ : ∃ q : G, pts[j]'(by omega) = q := ⟨_, rfl⟩
      rw [hqq] at hq hv
      clear hqq
      have HA := Lib.hid hA
      have HV := Lib.hid hv
      have HW := Lib.hid hw
      clear hA hv hw
      go_wp2_with (go_at_call 79; (with_reducible refine (HK.out _ _ HW.out).mono ?_); rintro e w2 ⟨rfl, m, rfl⟩; have hA2 := HA.out.drewN m; have a1 := hA2.free j; obtain ⟨u, a2⟩ : ∃ u : Int, (wr.drewN m).cell? ⟨w.heap.size, j, none⟩ = some (.int .u8 u) := ⟨_, hA2.get j (by rw [upto_len]; omega)⟩)
      go_roundw
      case rel => exact ⟨j + 1, h, by go_num, by rw [← upto_set]; exact hA2.set j _ _ (by rw [HV.out]), (below_drewN HW.out m).setCell (p := ⟨w.heap.size, j, none⟩) (Nat.le_refl _) _⟩
      case measure => simp [intOf]; omega
    · obtain rfl : j = n := by omega
      rw [upto_all _ (by omega)] at hA
      go_wp2_with fail
      go_ret
      exact ⟨_, Nat.le_refl _, rfl, hA, hw⟩

end Go.Proofs.YtajfmhiejipaoaaDoor
