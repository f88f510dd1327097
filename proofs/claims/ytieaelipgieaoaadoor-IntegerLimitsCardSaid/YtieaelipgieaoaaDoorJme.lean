/-
  Layer 3: the integers that strings determine, whole.
-/
import Derived.Test.YtieaelipgieaoaaDoorJmd
namespace Go.Proofs.YtieaelipgieaoaaDoor
open Go.RowKit Bs Ig

theorem infoU8 : (Tryd.prog.info? 5).map (fun i => (i.zero, i.size, i.bytes)) = some (some (.int .u8 0), 1, 1) := by kernel_rfl
theorem strOfNums_bytes (l : List UInt8) : strOfNums (l.map (fun b => (b.toNat : Int))) = ⟨l.toArray⟩ := by
  show ByteArray.mk ((l.map (fun b => (b.toNat : Int))).map fun n => UInt8.ofNat n.toNat).toArray = _
  rw [List.map_map, show ((fun n : Int => UInt8.ofNat n.toNat) ∘ fun b : UInt8 => (b.toNat : Int)) = id from by funext b; simp, List.map_id]
/-- a slice of bytes as a string -/
theorem own_str {W : World} {base g cap n : Nat} {l : List Nat} (h : Bs.Own W base 5 .u8 (.slice (some ⟨g, 0, none⟩) n cap) l) (hn : l.length = n) (hl : ∀ b ∈ l, b < 256) :
    (convert 72 9 (.slice (some ⟨g, 0, none⟩) n cap)).run Tryd.prog W = .ok (.string (bs (ub l))) W := by
  have e : l.map (fun (b : Nat) => (b : Int)) = (ub l).map (fun b => (b.toNat : Int)) := by
    unfold ub
    rw [List.map_map]
    apply List.map_congr_left
    intro b hb
    have := hl b hb
    simp; omega
  rw [run_convert_bytes_arg W 72 5 Tryd.underlying72 Tryd.underlying5 g 0 n cap (l.map (fun (b : Nat) => (b : Int))) (by simpa using hn) (fun i hi => by
    rw [Nat.zero_add, h.get i (by omega)]
    congr 2
    rw [List.getD_eq_getElem?_getD, List.getD_eq_getElem?_getD, List.getElem?_map, List.getElem?_eq_getElem (show i < l.length by omega)]; rfl) 9 Tryd.underlying9, e, strOfNums_bytes]
  rfl
theorem dl_step (l : List Nat) (i : Nat) (hi : i < l.length) : dl (l.drop (i + 1)) ++ [48 + l.getD i 0] = dl (l.drop i) := by
  unfold dl
  rw [List.drop_eq_getElem_cons hi, List.map_cons, List.reverse_cons, List.getD_eq_getElem?_getD, List.getElem?_eq_getElem hi]
  rfl

set_option maxRecDepth 100000 in
set_option maxHeartbeats 2000000 in
theorem text0_any (neg : Bool) (a : Option Addr) (c : Nat) (w : World) :
    Calls Tryd.prog 37 #[.bool neg, .slice a 0 c] w fun e w' => e = .returned (.tuple #[.string ⟨#[48]⟩, .bool true]) ∧ Below w.heap.size w w' := by
  go_enter Tryd.func37, Tryd.ntmps37
  go_wp2_with fail
  go_ret2
  exact ⟨rfl, Below.refl _ _⟩

set_option maxRecDepth 100000 in
set_option maxHeartbeats 2000000 in
theorem text_any (neg : Bool) (a : Option Addr) (n c : Nat) (l : List Nat) (w : World) (hl : IsZ w a n c (zs l)) (h : ∀ x ∈ l, x < 10) (h0 : 0 < n) (hn : n ≤ 200) :
    Calls Tryd.prog 37 #[.bool neg, .slice a n c] w fun e w' => e = .returned (.tuple #[.string (bs (ub ((if neg = true then [45] else []) ++ dl l))), .bool true]) ∧ Below w.heap.size w w' := by
  have hll : l.length = n := by rw [← zs_length]; exact hl.len
  have hcap := hl.cap
  have hmx := hl.max
  have hd0 : ((n : Int) == 0) = false := beq_false_of_ne (by omega)
  have hd2 : decide ((n : Int) ≤ 200) = true := decide_eq_true (by omega)
  obtain ⟨i0, hi, hz0, hz1, hz2⟩ := info_parts infoU8
  have hloop : ∀ (pre : List Nat), (∀ x ∈ pre, x < 256) → pre.length ≤ 1 → ∀ b ∈ pre ++ dl l, b < 256 := by
    intro pre hp _ b hb
    rcases List.mem_append.1 hb with hb | hb
    · exact hp b hb
    · have := dl_lt l h b hb; omega
  have hdg : ∀ i, i < n → l.getD i 0 < 10 := fun i hi => by
    rw [List.getD_eq_getElem?_getD, List.getElem?_eq_getElem (show i < l.length by omega)]
    exact h _ (List.getElem_mem _)
  have Hl := Lib.hid hl
  have Hdg := Lib.hid hdg
  have Hlp := Lib.hid hloop
  have Hll := Lib.hid hll
  clear hl h hloop hdg hll
  cases neg with
  | false =>
    go_enter Tryd.func37, Tryd.ntmps37
    go_wp2_with fail
    go_loopw [6, 7] (fun v i wr => ∃ j : Nat, j ≤ n ∧ i = .int .i64 ((j : Int) - 1) ∧ Bs.Own wr w.heap.size 5 .u8 v ([] ++ dl (l.drop j)) ∧ Below w.heap.size w wr) (fun _ i _ => (intOf i + 1).toNat)
    case atStart => exact ⟨n, Nat.le_refl _, rfl, by rw [List.drop_of_length_le (by rw [Hll.out]; omega)]; exact Bs.Own.nil _ _ _ _, Below.refl _ _⟩
    case round =>
      obtain ⟨j, hj, rfl, hown, hw⟩ := hrel
      have hs := hw.size
      rcases Nat.eq_zero_or_pos j with hj0 | hj0
      · subst hj0
        rw [List.drop_zero] at hown
        have hlen : ([] ++ dl l).length = n := by rw [List.nil_append]; simp [dl]; exact Hll.out
        obtain ⟨g, cap, rfl⟩ := hown.shape hlen h0
        have hcv := own_str hown hlen (Hlp.out [] (by simp) (by simp))
        have Hw := Lib.hid hw
        clear hown hlen hw
        go_wp2_with fail
        go_ret2
        exact ⟨rfl, Hw.out⟩
      · obtain ⟨i, rfl⟩ : ∃ i, j = i + 1 := ⟨j - 1, by omega⟩
        obtain ⟨g, off, rfl, hI⟩ := (Hl.out.later hw).at (by omega)
        have hcell := hI i (by rw [zs_length, Hll.out]; omega)
        rw [zs_getD] at hcell
        have hdi := Hdg.out i (by omega)
        have hst := dl_step l i (by rw [Hll.out]; omega)
        obtain ⟨x, hx⟩ : ∃ x, l.getD i 0 = x := ⟨_, rfl⟩
        rw [hx] at hcell hdi hst
        have e1 : ((i + 1 : Nat) : Int) - 1 = (i : Int) := by omega
        rw [e1]
        have Hst := Lib.hid hst
        have Hlen := Lib.hid (show ([] ++ dl (l.drop (i + 1))).length ≤ 2000000 by rw [List.nil_append]; simp [dl]; have := Hll.out; omega)
        clear hI hx hst
        go_wp2_with (at_builtin; refine wpList_push rfl _ _ 72 rfl w.heap.size 5 i0 (.int .u8 0) 1 Tryd.underlying72 hi hz0 hz1 hz2 rfl (by omega) .u8 _ ([] ++ dl (l.drop (i + 1))) rfl (hown.alloc _) ⟨wr.heap.size, 0, none⟩ 1 (48 + x) rfl ?c1 ?c2 ?c3 ?_)
        case c1 => simp [Addr.add]
        case c2 => exact Hlen.out
        case c3 => simp; omega
        intro v' w1 hown' hb
        rw [Hst.out] at hown'
        have Hown := Lib.hid hown'
        have Hw := Lib.hid ((hw.alloc hs _).trans hb)
        clear hown hown' hb hw
        go_wp2_with fail
        go_roundw
        case rel => exact ⟨i, by omega, by go_num, Hown.out, Hw.out⟩
        case measure => simp [intOf]
  | true =>
    go_enter Tryd.func37, Tryd.ntmps37
    go_wp2_with (at_builtin; refine wpList_push rfl _ _ 72 rfl w.heap.size 5 i0 (.int .u8 0) 1 Tryd.underlying72 hi hz0 hz1 hz2 rfl (by omega) .u8 _ [] rfl (Bs.Own.nil _ _ _ _) ⟨w.heap.size, 0, none⟩ 1 45 rfl ?b1 ?b2 ?b3 ?_)
    case b1 => simp [Addr.add]
    case b2 => simp
    case b3 => simp
    intro v1 w1 hown1 hb1
    have hw1 : Below w.heap.size w w1 := ((Below.refl _ w).alloc (Nat.le_refl _) _).trans hb1
    have Hown1 := Lib.hid hown1
    have Hw1 := Lib.hid hw1
    clear hown1 hb1 hw1
    go_wp2_with fail
    go_loopw [6, 7] (fun v i wr => ∃ j : Nat, j ≤ n ∧ i = .int .i64 ((j : Int) - 1) ∧ Bs.Own wr w.heap.size 5 .u8 v ([45] ++ dl (l.drop j)) ∧ Below w.heap.size w wr) (fun _ i _ => (intOf i + 1).toNat)
    case atStart => exact ⟨n, Nat.le_refl _, rfl, by rw [List.drop_of_length_le (by rw [Hll.out]; omega)]; exact Hown1.out, Hw1.out⟩
    case round =>
      obtain ⟨j, hj, rfl, hown, hw⟩ := hrel
      have hs := hw.size
      rcases Nat.eq_zero_or_pos j with hj0 | hj0
      · subst hj0
        rw [List.drop_zero] at hown
        have hlen : ([45] ++ dl l).length = n + 1 := by simp [dl]; exact Hll.out
        obtain ⟨g, cap, rfl⟩ := hown.shape hlen (by omega)
        have hcv := own_str hown hlen (Hlp.out [45] (by simp) (by simp))
        have Hw := Lib.hid hw
        clear hown hlen hw
        go_wp2_with fail
        go_ret2
        exact ⟨rfl, Hw.out⟩
      · obtain ⟨i, rfl⟩ : ∃ i, j = i + 1 := ⟨j - 1, by omega⟩
        obtain ⟨g, off, rfl, hI⟩ := (Hl.out.later hw).at (by omega)
        have hcell := hI i (by rw [zs_length, Hll.out]; omega)
        rw [zs_getD] at hcell
        have hdi := Hdg.out i (by omega)
        have hst := dl_step l i (by rw [Hll.out]; omega)
        obtain ⟨x, hx⟩ : ∃ x, l.getD i 0 = x := ⟨_, rfl⟩
        rw [hx] at hcell hdi hst
        have e1 : ((i + 1 : Nat) : Int) - 1 = (i : Int) := by omega
        rw [e1]
        have Hst := Lib.hid hst
        have Hlen := Lib.hid (show ([45] ++ dl (l.drop (i + 1))).length ≤ 2000000 by simp [dl]; have := Hll.out; omega)
        clear hI hx hst
        go_wp2_with (at_builtin; refine wpList_push rfl _ _ 72 rfl w.heap.size 5 i0 (.int .u8 0) 1 Tryd.underlying72 hi hz0 hz1 hz2 rfl (by omega) .u8 _ ([45] ++ dl (l.drop (i + 1))) rfl (hown.alloc _) ⟨wr.heap.size, 0, none⟩ 1 (48 + x) rfl ?c1 ?c2 ?c3 ?_)
        case c1 => simp [Addr.add]
        case c2 => exact Hlen.out
        case c3 => simp; omega
        intro v' w2 hown' hb
        rw [Hst.out] at hown'
        have Hown := Lib.hid hown'
        have Hw := Lib.hid ((hw.alloc hs _).trans hb)
        clear hown hown' hb hw
        go_wp2_with fail
        go_roundw
        case rel => exact ⟨i, by omega, by go_num, Hown.out, Hw.out⟩
        case measure => simp [intOf]

end Go.Proofs.YtieaelipgieaoaaDoor
