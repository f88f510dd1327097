/-
  Layer 6: columns.
-/
import Derived.Test.YtajfmhiejipaoaaDoorErg
namespace Go.Proofs.YtajfmhiejipaoaaDoor
open Go.RowKit Bs Ef

theorem mkOwnB (w : World) (m : Nat) (hm : m ≤ 2000000) :
    ∃ w', (Instr.makeSlice 48 (.int .i64 0) (.int .i64 (m : Int))).run Tryd.prog w = .ok (.slice (some ⟨w.heap.size, 0, none⟩) 0 m) w' ∧ Own w' w.heap.size 5 .u8 (.slice (some ⟨w.heap.size, 0, none⟩) 0 m) [] ∧ Below w.heap.size w w' ∧ w'.heap.size = w.heap.size + 1 := by
  obtain ⟨i0, hi, hz0, hz1, hz2⟩ := info_parts infoB
  have hmx : m ≤ maxLen := by unfold maxLen; omega
  refine ⟨_, run_make w 48 5 i0 (.int .u8 0) Tryd.underlying48 hi hz0 .i64 .i64 0 m (by omega) (by omega) (by rw [hz2]; omega) (by omega), ?_, (Below.refl _ w).alloc (Nat.le_refl _) _, by simp⟩
  refine ⟨rfl, .inr ⟨w.heap.size, m, _, rfl, Nat.le_refl _, heap_alloc_new _ _, Nat.zero_le _, hmx, by rw [size_madeCells, hz1]; simp, by simp [iv]⟩⟩
theorem own_strE {W : World} {base g cap n : Nat} {l : List G} (h : Own W base 5 .u8 (.slice (some ⟨g, 0, none⟩) n cap) (gl l)) (hn : l.length = n) :
    (convert 48 9 (.slice (some ⟨g, 0, none⟩) n cap)).run Tryd.prog W = .ok (.string (gs l)) W := by
  have hl := gl_lt l
  have hn' : (gl l).length = n := by rw [List.length_map]; exact hn
  unfold gs
  generalize gl l = l at *
  have e : l.map (fun (b : Nat) => (b : Int)) = (ub l).map (fun b => (b.toNat : Int)) := by
    unfold ub
    rw [List.map_map]
    apply List.map_congr_left
    intro b hb
    have := hl b hb
    simp; omega
  rw [run_convert_bytes_arg W 48 5 Tryd.underlying48 Tryd.underlying5 g 0 n cap (l.map (fun (b : Nat) => (b : Int))) (by simpa using hn') (fun i hi => by
    rw [Nat.zero_add, h.get i (by omega)]
    congr 2
    rw [List.getD_eq_getElem?_getD, List.getD_eq_getElem?_getD, List.getElem?_map, List.getElem?_eq_getElem (show i < l.length by omega)]; rfl) 9 Tryd.underlying9, e, strOfNums_E]
  rfl
/-- what is written of a row of chunks so far -/
abbrev uptoF (F : Nat → ByteArray) (count i : Nat) : List (Int × ByteArray) := (List.range count).map (fun (k : Nat) => if k < i then ((k : Int), F k) else (0, ⟨#[]⟩))
theorem uptoF_zero (F : Nat → ByteArray) (count : Nat) : uptoF F count 0 = List.replicate count (0, ⟨#[]⟩) := by
  apply List.ext_getElem
  · simp
  · intro i h1 h2
    simp
theorem uptoF_set (F : Nat → ByteArray) (count i : Nat) : (uptoF F count i).set i ((i : Int), F i) = uptoF F count (i + 1) := by
  apply List.ext_getElem
  · simp
  · intro k h1 h2
    simp only [List.getElem_set, List.getElem_map, List.getElem_range]
    by_cases h : i = k
    · rw [if_pos h, if_pos (by omega), h]
    · rw [if_neg h]
      by_cases h3 : k < i
      · rw [if_pos h3, if_pos (by omega)]
      · rw [if_neg h3, if_neg (by omega)]
/-- a column's element, the columns as chunks -/
abbrev colAt (f : List G) (need m i : Nat) : List G := (List.range m).map (fun j => f.getD (j * need + i) z0)
abbrev colsOf (f : List G) (need m : Nat) : List (G × List G) := (List.range need).map (fun i => (Fin.ofNat 256 i, colAt f need m i))
theorem colsOf_ck (f : List G) (need m : Nat) (h : need ≤ 256) : ckOf (colsOf f need m) = uptoF (fun i => gs (colAt f need m i)) need need := by
  show ((List.range need).map (fun i => (Fin.ofNat 256 i, colAt f need m i))).map (fun k => ((k.1.val : Int), gs k.2)) = _
  rw [List.map_map]
  refine List.map_congr_left (fun i hi => ?_)
  have hi2 := List.mem_range.1 hi
  rw [if_pos hi2]
  show (((Fin.ofNat 256 i : G).val : Int), _) = _
  rw [show ((Fin.ofNat 256 i : G).val : Int) = (i : Int) from by show ((i % 256 : Nat) : Int) = _; omega]

set_option maxRecDepth 100000 in
set_option maxHeartbeats 4000000 in
theorem columns_any (f : List G) (need m : Nat) (w : World) (h1 : 1 ≤ need) (h16 : need ≤ 16) (hf : f.length = m * need) (hm0 : 0 < m) (hm : m ≤ 100000) :
    Calls Tryd.prog 40 #[.string (gs f), .int .i64 (need : Int)] w fun e w' =>
      ∃ gv, w.heap.size ≤ gv ∧ e = .returned (.slice (some ⟨gv, 0, none⟩) need need) ∧ CkRow w' gv (ckOf (colsOf f need m)) ∧ Below w.heap.size w w' := by
  rw [colsOf_ck f need m (by omega)]
  obtain ⟨i0, hi, hz0, hz1, hz2⟩ := info_parts infoB
  have hmk := mkC w need (by omega)
  have hR0 : CkRow (w.alloc (.cells (ckc (List.replicate need (0, ⟨#[]⟩))).toArray 40)) w.heap.size (uptoF (fun i => gs (colAt f need m i)) need 0) := by rw [uptoF_zero]; exact heap_alloc_new _ _
  have hA2 : Below w.heap.size w (w.alloc (.cells (ckc (List.replicate need (0, ⟨#[]⟩))).toArray 40)) := (Below.refl _ w).alloc (Nat.le_refl _) _
  obtain ⟨W0, hW0⟩ : ∃ W, w.alloc (.cells (ckc (List.replicate need (0, ⟨#[]⟩))).toArray 40) = W := ⟨_, rfl⟩
  rw [hW0] at hmk hR0 hA2
  obtain ⟨L, hL⟩ : ∃ L, m * need = L := ⟨_, rfl⟩
  have hLb : L ≤ 1600000 := by rw [← hL]; exact Nat.mul_le_mul hm h16
  have g1 : (gs f).size = L := by rw [gs_size, hf, hL]
  have g3 : ∀ p (hp : p < L) h2, ((gs f)[p]'h2).toNat = (f.getD p z0).val := fun p hp h2 => by
    rw [gs_at _ _ (by omega), List.getD_eq_getElem?_getD, List.getElem?_eq_getElem (by omega)]; rfl
  have hdiv : Int.tdiv (L : Int) (need : Int) = (m : Int) := by
    rw [← hL, Int.tdiv_eq_ediv_of_nonneg (by omega), Int.natCast_mul, Int.mul_ediv_cancel _ (by omega)]
  have hd0 : ((need : Int) == 0) = false := beq_false_of_ne (by omega)
  have hd1 : decide ((need : Int) = 0) = false := decide_eq_false (by omega)
  obtain ⟨S, hS⟩ : ∃ S, gs f = S := ⟨_, rfl⟩
  rw [hS] at g1 ⊢
  have G3 := Lib.hid (show ∀ p (hp : p < L) (h2 : p < S.size), (S[p]'h2).toNat = (f.getD p z0).val from fun p hp h2 => by subst hS; exact g3 p hp h2)
  have HL := Lib.hid hL
  clear hW0 g3 hS hL hf
  go_enter Tryd.func40, Tryd.ntmps40
  go_wp2_with fail
  go_loopw [13] (fun v wr => ∃ i : Nat, i ≤ need ∧ v = .int .i64 i ∧ CkRow wr w.heap.size (uptoF (fun i => gs (colAt f need m i)) need i) ∧ Below w.heap.size w wr) (fun v _ => need - (intOf v).toNat)
  case atStart => exact ⟨0, Nat.zero_le _, rfl, hR0, hA2⟩
  case round =>
    obtain ⟨i, hi2, rfl, hR, hw⟩ := hrel
    obtain ⟨wR, rfl⟩ : ∃ V, V = wr := ⟨_, rfl⟩
    rcases Nat.lt_or_ge i need with h | h
    · obtain ⟨w1, hmk1, hown1, hb1, -⟩ := mkOwnB wR m (by omega)
      have hsr := hR.lt
      have HR := Lib.hid hR
      have HW := Lib.hid hw
      have HO := Lib.hid hown1
      have HB := Lib.hid hb1
      clear hR hw hown1 hb1
      go_wp2_with fail
      go_loopw [7, 8] (fun v p wr => ∃ t q : Nat, t ≤ m ∧ q = t * need + i ∧ p = .int .i64 q ∧ Own wr wR.heap.size 5 .u8 v (gl ((List.range t).map (fun j => f.getD (j * need + i) z0))) ∧ Below wR.heap.size wR wr) (fun _ p _ => L - (intOf p).toNat)
      case atStart => exact ⟨0, i, Nat.zero_le _, by omega, rfl, HO.out, HB.out⟩
      case round =>
        obtain ⟨t, q, ht, hq, rfl, hown, hw⟩ := hrel
        have hs := hw.size
        rcases Nat.lt_or_ge t m with htm | htm
        · have hqL : q < L := by
            have h2 : (t + 1) * need ≤ m * need := Nat.mul_le_mul_right _ htm
            rw [Nat.succ_mul] at h2
            have := HL.out
            omega
          have c1 : decide (q < L) = true := decide_eq_true hqL
          have g2 : q < S.size := by omega
          have g4 : (S[q]'g2).toNat = (f.getD (t * need + i) z0).val := by rw [G3.out q hqL g2, hq]
          obtain ⟨x, hx⟩ : ∃ x : G, f.getD (t * need + i) z0 = x := ⟨_, rfl⟩
          rw [hx] at g4
          have hst : gl ((List.range t).map (fun j => f.getD (j * need + i) z0)) ++ [x.val] = gl ((List.range (t + 1)).map (fun j => f.getD (j * need + i) z0)) := by
            show ((List.range t).map (fun j => f.getD (j * need + i) z0)).map Fin.val ++ [x.val] = ((List.range (t + 1)).map (fun j => f.getD (j * need + i) z0)).map Fin.val
            rw [List.range_succ, List.map_append, List.map_append, List.map_cons, List.map_cons, hx]; rfl
          have hle : (gl ((List.range t).map (fun j => f.getD (j * need + i) z0))).length ≤ 2000000 := by rw [List.length_map, List.length_map, List.length_range]; omega
          obtain ⟨LT, hLT⟩ : ∃ l, gl ((List.range t).map (fun j => f.getD (j * need + i) z0)) = l := ⟨_, rfl⟩
          rw [hLT] at hst hle hown
          have Hst := Lib.hid hst
          have Hlen := Lib.hid hle
          have Hq := Lib.hid (show q + need = (t + 1) * need + i by rw [Nat.succ_mul]; omega)
          clear hle hLT
          clear hst hx hq
          go_wp2_with (at_builtin; refine wpList_push rfl _ _ 48 rfl wR.heap.size 5 i0 (.int .u8 0) 1 Tryd.underlying48 hi hz0 hz1 hz2 rfl (by omega) .u8 _ LT rfl (hown.alloc _) ⟨wr.heap.size, 0, none⟩ 1 (x.val) rfl ?c1 ?c2 ?c3 ?_)
          case c1 => simp [Addr.add]
          case c2 => exact Hlen.out
          case c3 => simp; omega
          intro v' w2 hown' hb
          rw [Hst.out] at hown'
          have Hown := Lib.hid hown'
          have Hw := Lib.hid ((hw.alloc hs _).trans hb)
          clear hown hown' hb hw
          go_wp2_with fail
          go_roundw
          case rel => exact ⟨t + 1, q + need, htm, Hq.out, by go_num, Hown.out, Hw.out⟩
          case measure => simp [intOf]; omega
        · obtain rfl : t = m := by omega
          have hqL : ¬ q < L := by have := HL.out; omega
          have c1 : decide (q < L) = false := decide_eq_false hqL
          have hlen : (gl (colAt f need t i)).length = t := by simp
          obtain ⟨gd, cap, rfl⟩ := hown.shape hlen hm0
          have hcv := own_strE hown (by simp)
          have hR2 := HR.out.below hw hsr
          have hul : i < (uptoF (fun i => gs (colAt f need t i)) need i).length := by simp; exact h
          obtain ⟨r1, r2⟩ := hR2.cell i hul
          have r3 := hR2.free (i * 2)
          have r4 := hR2.free (i * 2 + 1)
          obtain ⟨R, hRR⟩ : ∃ R, gs (colAt f need t i) = R := ⟨_, rfl⟩
          rw [hRR] at hcv
          have HS := Lib.hid (show CkRow ((wr.setCell ⟨w.heap.size, i * 2, none⟩ (.int .i64 (i : Int))).setCell ⟨w.heap.size, i * 2 + 1, none⟩ (.string R)) w.heap.size (uptoF (fun i => gs (colAt f need t i)) need (i + 1)) from by
            rw [← uptoF_set, ← hRR]; exact hR2.set i hul _ _)
          have HB2 := Lib.hid (below_on HW.out hw HW.out.size)
          have hbk := build_ck (i : Int) R wr
          obtain ⟨ri, r1'⟩ : ∃ z : Int, wr.cell? ⟨w.heap.size, i * 2, none⟩ = some (.int .i64 z) := ⟨_, r1⟩
          obtain ⟨rs, r2'⟩ : ∃ z, wr.cell? ⟨w.heap.size, i * 2 + 1, none⟩ = some (.string z) := ⟨_, r2⟩
          clear r1 r2 hR2 hul hRR hown hw HR
          go_wp2_with fail
          go_roundw
          case rel => exact ⟨i + 1, h, by go_num, HS.out, (HB2.out.setCell (p := ⟨w.heap.size, i * 2, none⟩) (Nat.le_refl _) _).setCell (p := ⟨w.heap.size, i * 2 + 1, none⟩) (Nat.le_refl _) _⟩
          case measure => simp [intOf]; omega
    · obtain rfl : i = need := by omega
      go_wp2_with fail
      go_ret
      exact ⟨w.heap.size, Nat.le_refl _, rfl, hR, hw⟩

end Go.Proofs.YtajfmhiejipaoaaDoor
