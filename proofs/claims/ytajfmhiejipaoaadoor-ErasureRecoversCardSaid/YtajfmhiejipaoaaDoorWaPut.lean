import Derived.Test.YtajfmhiejipaoaaDoorWaInt
import Derived.RangeFuncNested
import Derived.RangeFuncBound
import Derived.RangeFuncCalls
import Derived.RangeFuncLeaves
import Derived.RangeFuncFrom
import Derived.Shelf.Abstract
import Derived.Shelf.RegionOpen
import Derived.OwnWalkIn
import Derived.TacticsInMore
import Derived.LoopNIn
import Derived.LoopIn
namespace Go.Proofs.YtajfmhiejipaoaaDoor
open Go.RowKit Go.Shelf
attribute [local go_sem] Oper.semAt_some

theorem groups_any (z : Int) (w : World) :
    Calls Tryd.prog 73 #[.int .u64 z] w fun e w' => e = .returned (.func (.func 90) #[] #[.pointer (some ⟨w.heap.size, 0, none⟩)]) ∧ w' = w.alloc (.cells #[.int .u64 z] 93) := by
  go_enter Tryd.func73, Tryd.ntmps73
  go_wp2
  go_ret
  exact ⟨rfl, rfl⟩

/-- the encoding of the number z -/
def lebU (z : Nat) : List UInt8 := (M1.leb 9 z).map UInt8.ofNat
theorem lebU_length (z : Nat) : 1 ≤ (lebU z).length ∧ (lebU z).length ≤ 9 := by
  simp only [lebU, List.length_map]; exact ⟨M1.leb_length_pos 9 z (by omega), M1.leb_length_le 9 z⟩
/-- what is still to come when pre has come: the groups of r -/
def Left (z : Nat) (pre : List UInt8) (r : Nat) : Prop := ∃ f, pre.length + (f + 1) = 9 ∧ lebU z = pre ++ (M1.leb (f + 1) r).map UInt8.ofNat ∧ r < 128 ^ (f + 1)
theorem left_start (z : Nat) (hz : z < 9223372036854775808) : Left z [] z := ⟨8, rfl, rfl, by
  have : (128 : Nat) ^ (8 + 1) = 9223372036854775808 := by decide
  omega⟩
theorem left_last {z r : Nat} {pre : List UInt8} (h : Left z pre r) (hr : r < 128) : lebU z = pre ++ [UInt8.ofNat r] := by
  obtain ⟨f, _, h2, _⟩ := h
  rw [h2]; unfold M1.leb; rw [if_pos hr]; rfl
theorem left_next {z r : Nat} {pre : List UInt8} (h : Left z pre r) (hr : 128 ≤ r) : Left z (pre ++ [UInt8.ofNat (r % 128 + 128)]) (r / 128) := by
  obtain ⟨f, h1, h2, h3⟩ := h
  cases f with
  | zero => simp at h3; omega
  | succ f =>
    refine ⟨f, by simp; omega, ?_, by rw [Nat.div_lt_iff_lt_mul (by omega)]; rw [Nat.pow_succ] at h3; omega⟩
    rw [h2]; conv => lhs; unfold M1.leb
    rw [if_neg (by omega)]; simp
theorem left_len {z r : Nat} {pre : List UInt8} (h : Left z pre r) : pre.length < 9 := by obtain ⟨f, h1, _⟩ := h; omega
theorem left_bd {z r : Nat} {pre : List UInt8} (h : Left z pre r) : r < 9223372036854775808 := by
  obtain ⟨f, h1, _, h3⟩ := h
  have h2 : 128 ^ (f + 1) ≤ 128 ^ 9 := Nat.pow_le_pow_right (by omega) (by omega)
  have h4 : (128 : Nat) ^ 9 = 9223372036854775808 := by decide
  omega
structure LeftAt (z : Nat) (pre : List UInt8) (r : Nat) : Prop where
  out : Left z pre r

set_option maxRecDepth 100000 in
set_option maxHeartbeats 1000000 in
theorem groups1_in (l b : Nat) (z : Nat) (hz : z < 9223372036854775808) (J Jx : List UInt8 → World → Prop)
    (hY : ∀ pre x W, J pre W → pre.length < 9 → YieldAt Fence.wide (3 - 1 - 1) Tryd.prog l #[.int .u8 (x.toNat : Int)] W fun e W' =>
      (e = .returned (.bool true) ∧ J (pre ++ [x]) W' ∧ True) ∨ (e = .returned (.bool false) ∧ Jx (pre ++ [x]) W'))
    (W : World) (hb : W.cell? ⟨b, 0, none⟩ = some (.int .u64 z)) (h0 : J [] W) :
    CallsIn Fence.wide (3 - 1) Tryd.prog 90 #[.func (.yield l) #[] #[], .pointer (some ⟨b, 0, none⟩)] W fun e W' => (∃ v, e = .returned v) ∧
      ((∃ ys, ys = lebU z ∧ J ys W') ∨ (∃ pre, True ∧ Jx pre W')) := by
  refine callsIn_of_wp Tryd.func90 rfl trivial ?_ rfl
  simp only [Tryd.ntmps90, List.size_toArray, List.length_cons, List.length_nil, Nat.reduceAdd, Nat.reduceSub, Array.replicate_succ, Array.replicate_zero, List.push_toArray, List.append_toArray, List.nil_append, List.cons_append]
  gi_wp2
  gi_loopw [3] (fun p wr => ∃ (pre : List UInt8) (r : Nat), p = .int .u64 r ∧ LeftAt z pre r ∧ J pre wr) (fun p _ => (intOf p).toNat)
  case atStart => exact ⟨[], z, rfl, ⟨left_start z hz⟩, h0⟩
  case round =>
    obtain ⟨pre, r, rfl, hL, hJ⟩ := hrel
    have hbd := left_bd hL.out
    by_cases hr : 128 ≤ r
    · obtain ⟨fn, tmps, assign, body, hy, hR⟩ := hY pre (UInt8.ofNat (r % 128 + 128)) wr hJ (left_len hL.out)
      have hx : ((UInt8.ofNat (r % 128 + 128)).toNat : Int) = (r : Int) % 128 + 128 := by simp; omega
      rw [hx] at hy
      clear hx
      gi_wp2
      refine hR.mono ?_
      rintro e W' (⟨rfl, hJ', _⟩ | ⟨rfl, hJx'⟩)
      · gi_wp2
        go_roundw
        case rel => exact ⟨_, r / 128, by go_num, ⟨left_next hL.out hr⟩, hJ'⟩
        case measure => simp [intOf]; omega
      · gi_wp2
        refine bodyPost_ret (results_none rfl _ _ _) rfl ?_
        exact ⟨⟨_, rfl⟩, .inr ⟨_, trivial, hJx'⟩⟩
    · obtain ⟨fn, tmps, assign, body, hy, hR⟩ := hY pre (UInt8.ofNat r) wr hJ (left_len hL.out)
      have hx : ((UInt8.ofNat r).toNat : Int) = (r : Int) := by simp; omega
      rw [hx] at hy
      clear hx
      gi_wp2
      refine hR.mono ?_
      rintro e W' (⟨rfl, hJ', _⟩ | ⟨rfl, hJx'⟩)
      · gi_wp2
        go_end0
        exact ⟨⟨_, rfl⟩, .inl ⟨_, (left_last hL.out (by omega)).symm, hJ'⟩⟩
      · gi_wp2
        go_end0
        exact ⟨⟨_, rfl⟩, .inr ⟨_, trivial, hJx'⟩⟩

theorem groups_stops (b : Nat) (z : Nat) (hz : z < 9223372036854775808) (w : World) (hlt : b < w.heap.size) (hb : w.cell? ⟨b, 0, none⟩ = some (.int .u64 z)) :
    SeqStopsK Fence.wide (3 - 1) Tryd.prog 90 #[.pointer (some ⟨b, 0, none⟩)] (fun x : UInt8 => #[.int .u8 (x.toNat : Int)]) (fun _ _ => True) (fun ys => ys = lebU z) (fun _ => True) 9 w :=
  fun l J Jx W hW _ _ hY h0 => groups1_in l b z hz J Jx hY W ((hW.cell (p := ⟨b, 0, none⟩) hlt).trans hb) h0

theorem cell_new_l (W : World) (v : Value) (t : TypeId) : (W.alloc (.cells #[v] t)).cell? ⟨W.heap.size, 0, none⟩ = some v ∧ (W.alloc (.cells #[v] t)).frozen? ⟨W.heap.size, 0, none⟩ = false :=
  ⟨by rw [cell_of_row _ _ 0 _ _ _ (heap_alloc_new _ _)]; rfl, frozen_of_row _ _ 0 _ _ (heap_alloc_new _ _)⟩
/-- the nine cells of the buffer, pre being in it -/
def bufRow (pre : List UInt8) : Array Value := (pre.map (fun b => Value.int .u8 (b.toNat : Int)) ++ List.replicate (9 - pre.length) (Value.int .u8 0)).toArray
theorem bufRow_set (pre : List UInt8) (x : UInt8) (h : pre.length < 9) : (bufRow pre).setIfInBounds pre.length (.int .u8 (x.toNat : Int)) = bufRow (pre ++ [x]) := by
  unfold bufRow
  simp only [List.setIfInBounds_toArray, List.map_append, List.length_append, List.map_cons, List.map_nil, List.length_cons, List.length_nil]
  congr 1
  rw [show 9 - pre.length = (9 - (pre.length + (0 + 1))) + 1 from by omega, List.replicate_succ, List.set_append_right _ _ (by simp)]
  simp
theorem bufRow_get (pre : List UInt8) (h : pre.length ≤ 9) (i : Nat) (hi : i < pre.length) : (bufRow pre)[i]? = some (.int .u8 ((pre.map (fun b => (b.toNat : Int))).getD i 0)) := by
  unfold bufRow
  simp [List.getElem?_append_left, hi]
theorem bufRow_any (pre : List UInt8) (h : pre.length < 9) : (bufRow pre)[pre.length]? = some (.int .u8 0) := by
  unfold bufRow
  rw [List.getElem?_toArray, List.getElem?_append_right (by simp)]
  simp only [List.length_map, Nat.sub_self]
  rw [List.getElem?_replicate, if_pos (by omega)]
/-- the buffer in memory -/
structure BufW (B : Nat) (pre : List UInt8) (W : World) : Prop where
  row : W.heap[B]? = some (.cells (bufRow pre) 89 (0, 0))
  size : W.heap[B + 1]? = some (.cells #[.int .i64 pre.length] 3 (0, 0))
theorem BufW.own (B : Nat) : Own (fun pre W => BufW B pre W) := fun s W W' row hs hg hr =>
  ⟨(grownBy_keeps_cells hg hr hs.row rfl).trans hs.row, (grownBy_keeps_cells hg hr hs.size rfl).trans hs.size⟩
theorem BufW.cellSize {B : Nat} {pre : List UInt8} {W : World} (h : BufW B pre W) : W.cell? ⟨B + 1, 0, none⟩ = some (.int .i64 pre.length) := by
  rw [cell_of_row W (B + 1) 0 _ _ _ h.size]; rfl
theorem BufW.cellNext {B : Nat} {pre : List UInt8} {W : World} (h : BufW B pre W) (hl : pre.length < 9) : W.cell? ⟨B, pre.length, none⟩ = some (.int .u8 0) := by
  rw [cell_of_row W B _ _ _ _ h.row]; exact bufRow_any pre hl
theorem BufW.frozenSize {B : Nat} {pre : List UInt8} {W : World} (h : BufW B pre W) : W.frozen? ⟨B + 1, 0, none⟩ = false := frozen_of_row W (B + 1) 0 _ _ h.size
theorem BufW.frozenNext {B : Nat} {pre : List UInt8} {W : World} (h : BufW B pre W) (j : Nat) : W.frozen? ⟨B, j, none⟩ = false := frozen_of_row W B j _ _ h.row
theorem BufW.next {B : Nat} {pre : List UInt8} {W : World} (h : BufW B pre W) (hl : pre.length < 9) (x : UInt8) :
    BufW B (pre ++ [x]) ((W.setCell ⟨B, pre.length, none⟩ (.int .u8 (x.toNat : Int))).setCell ⟨B + 1, 0, none⟩ (.int .i64 ((pre.length : Int) + 1))) := by
  refine ⟨?_, ?_⟩
  · rw [heap_setCell_other _ _ _ _ (by simp), heap_setCell_same W B pre.length _ _ _ h.row, bufRow_set pre x hl]
  · have h1 : (W.setCell ⟨B, pre.length, none⟩ (.int .u8 (x.toNat : Int))).heap[B + 1]? = some (.cells #[.int .i64 pre.length] 3 (0, 0)) := by
      rw [heap_setCell_other _ _ _ _ (by simp)]; exact h.size
    rw [heap_setCell_same _ (B + 1) 0 _ _ _ h1]
    simp
theorem BufW.start (w : World) (o : Obj) : BufW w.heap.size [] (((w.alloc (.cells #[.int .u8 0, .int .u8 0, .int .u8 0, .int .u8 0, .int .u8 0, .int .u8 0, .int .u8 0, .int .u8 0, .int .u8 0] 89)).alloc (.cells #[.int .i64 0] 3)).alloc o) := by
  refine ⟨?_, ?_⟩
  · rw [heap_alloc_old _ _ (by simp; omega), heap_alloc_old _ _ (by simp), heap_alloc_new]; rfl
  · rw [heap_alloc_old _ _ (by simp), heap_alloc2_new]; rfl
theorem arrayLen9 : Tryd.prog.arrayLen 89 = 9 := by kernel_rfl
theorem slice9 (W : World) (b : Nat) (k : Nat) (hk : k ≤ 9) : (Instr.sliceAt 89 (.pointer (some ⟨b, 0, none⟩)) none (some (.int .i64 (k : Int))) none).run Tryd.prog W = .ok (.slice (some ⟨b, 0, none⟩) k 9) W := by
  rw [run_sliceAt_array_h W 89 ⟨b, 0, none⟩ (by kernel_rfl) .i64 (k : Int) (by omega) (by rw [arrayLen9]; omega), arrayLen9]
  have hs : (sizeOf (Tryd.prog.elem 89)).run Tryd.prog W = .ok 1 W := by kernel_rfl
  rw [hs]
  go_simp
theorem strOfNums_bytesW (l : List UInt8) : strOfNums (l.map (fun b => (b.toNat : Int))) = ⟨l.toArray⟩ := by
  show ByteArray.mk ((l.map (fun b => (b.toNat : Int))).map fun n => UInt8.ofNat n.toNat).toArray = _
  rw [List.map_map, show ((fun n : Int => UInt8.ofNat n.toNat) ∘ fun b : UInt8 => (b.toNat : Int)) = id from by funext b; simp, List.map_id]
/-- the encoding of the integer n -/
def encI (n : Int) : List UInt8 := lebU (fo n).toNat

set_option maxRecDepth 100000 in
set_option maxHeartbeats 1000000 in
theorem PutInt_ok (n : Int) (w : World) (h1 : -4611686018427387903 ≤ n) (h2 : n ≤ 4611686018427387903) :
    Calls Tryd.prog 54 #[.int .i64 n] w fun e w' => e = .returned (.tuple #[.string ⟨(encI n).toArray⟩, .int .i64 0]) ∧ Below w.heap.size w w' := by
  obtain ⟨z, hz⟩ : ∃ z : Nat, fo n = z := ⟨(fo n).toNat, by have := fo_bd h1 h2; omega⟩
  have hzb : z < 9223372036854775808 := by have := fo_bd h1 h2; omega
  have hen : encI n = lebU z := by unfold encI; rw [hz]; rfl
  have Hen := Lib.hid hen
  clear hen
  refine (callsIn_wide (n := 3)).1 ?_
  refine callsIn_of_wp_marks Tryd.func54 rfl trivial ?_ rfl
  simp only [Tryd.ntmps54, List.size_toArray, List.length_cons, List.length_nil, Nat.reduceAdd, Nat.reduceSub, Array.replicate_succ, Array.replicate_zero, List.push_toArray, List.append_toArray, List.nil_append, List.cons_append]
  gi_wp2_with (first | (refine ⟨trivial, ?_⟩; gi_at_call 74; refine (callsIn_wide.2 (fold_any _ _ (by omega) (by omega))).mono ?_; rintro e w' ⟨rfl, rfl⟩) | (refine ⟨trivial, ?_⟩; gi_at_call 73; refine (callsIn_wide.2 (groups_any _ _)).mono ?_; rintro e w' ⟨rfl, rfl⟩))
  clear hz
  have hb := cell_new_l ((w.alloc (.cells #[.int .u8 0, .int .u8 0, .int .u8 0, .int .u8 0, .int .u8 0, .int .u8 0, .int .u8 0, .int .u8 0, .int .u8 0] 89)).alloc (.cells #[.int .i64 0] 3)) (.int .u64 z) 93
  simp only [World.size_alloc] at hb
  refine wpIn_rangeFunc_ownF rfl (by omega) (gf := 90) (lb := #[.pointer (some ⟨w.heap.size + 1 + 1, 0, none⟩)]) rfl trivial (enters_of Tryd.func90 (by kernel_rfl) rfl)
    (groups_stops (w.heap.size + 1 + 1) z hzb _ (by simp) hb.1) (fun _ _ => trivial) (fun _ _ _ _ _ _ _ _ => trivial) (Below.refl _ _) (fun _ => rfl)
    (fun pre W => BufW w.heap.size pre W ∧ Below w.heap.size w W)
    (fun _ _ _ => False)
    (OwnFrom.and (Own.from (BufW.own _) _) (ownFrom_below (Nat.le_refl _) (by simp; omega)))
    (fun _ _ _ _ _ hs _ _ => hs)
    ⟨BufW.start w _, (((Below.refl _ w).alloc (Nat.le_refl _) _).alloc (by simp) _).alloc (by simp; omega) _⟩
    (fun x => { tmps := #[.int .i64 n, undef, .string { data := #[] }, .int .i64 0, .pointer (some ⟨w.heap.size, 0, none⟩), .pointer (some ⟨w.heap.size + 1, 0, none⟩), .int .u8 (x.toNat : Int), .int .i64 n,
          .bool (decide (n < -4611686018427387903)), .bool (decide (n < -4611686018427387903)), .int .i64 n, .bool (decide (4611686018427387903 < n)),
          .bool (decide (n < -4611686018427387903) || decide (4611686018427387903 < n)), .int .i64 n, .int .u64 z, .func (.func 90) #[] #[.pointer (some ⟨w.heap.size + 1 + 1, 0, none⟩)],
          .int .u8 (x.toNat : Int), undef, undef, undef, undef, undef, undef, undef, undef], defers := [] }) ?assign ?body ?done ?stop
  case assign =>
    intro l x W K hK
    gi_wp2
    exact hK
  case body =>
    rintro l pre x W ⟨hB, hw⟩ hlen
    have c1 := hB.cellSize
    have c2 := hB.cellNext hlen
    have f1 := hB.frozenSize
    have f2 := hB.frozenNext pre.length
    gi_wp2
    exact ⟨(KeepsOthers.setCell _ _ _).trans (KeepsOthers.setCell _ _ _), trivial, hB.next hlen x, (hw.setCell (p := ⟨w.heap.size, pre.length, none⟩) (Nat.le_refl _) _).setCell (p := ⟨w.heap.size + 1, 0, none⟩) (by simp) _⟩
  case done =>
    rintro D ys W hD rfl ⟨hB, hw⟩ hK
    obtain ⟨l1, l2⟩ := lebU_length z
    have c1 := hB.cellSize
    have hsl := slice9 W w.heap.size (lebU z).length l2
    have hcv := run_convert_bytes_arg W 48 5 Tryd.underlying48 Tryd.underlying5 w.heap.size 0 (lebU z).length 9 ((lebU z).map (fun b => (b.toNat : Int))) (by simp) (fun i hi => by
      rw [Nat.zero_add, cell_of_row W _ _ _ _ _ hB.row]; exact bufRow_get _ l2 i hi) 9 Tryd.underlying9
    gi_wp2
    refine ⟨by simp, .inl ⟨_, _, rfl, run_takeDeferred hK, ?_⟩⟩
    exact ⟨_, results_tmp2 rfl _ _ _, by rw [Hen.out, ← strOfNums_bytesW]; rfl, hw.trans (belowK_b (w := w) (Nat.le_refl _) W D _ _ (by simp at hD; omega) hK rfl rfl)⟩
  case stop =>
    rintro D c pre W _ _ h _
    exact h.elim

end Go.Proofs.YtajfmhiejipaoaaDoor
