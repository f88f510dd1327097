/-
  Put together by program out of these texts, in this order: Jme, Rdg, Rdv, Rck.
-/
import Derived.Test.YtjkklgpbblkhaaaGreatDoorZCaRFd16
import Derived.Laws.OwnMore
import Derived.BigQuiet
import Derived.Test.YtjkklgpbblkhaaaGreatDoorZCaRFd09

/-
  Layer 3: the integers that strings determine, whole.
-/
namespace Go.Proofs.YtjkklgpbblkhaaaGreatDoor
open Go.RowKit Bs Ig

theorem infoU8 : (Tryz.prog.info? 5).map (fun i => (i.zero, i.size, i.bytes)) = some (some (.int .u8 0), 1, 1) := by kernel_rfl
theorem strOfNums_bytes (l : List UInt8) : strOfNums (l.map (fun b => (b.toNat : Int))) = ⟨l.toArray⟩ := by
  show ByteArray.mk ((l.map (fun b => (b.toNat : Int))).map fun n => UInt8.ofNat n.toNat).toArray = _
  rw [List.map_map, show ((fun n : Int => UInt8.ofNat n.toNat) ∘ fun b : UInt8 => (b.toNat : Int)) = id from by funext b; simp, List.map_id]
/-- a slice of bytes as a string -/
theorem own_str {W : World} {base g cap n : Nat} {l : List Nat} (h : Bs.Own W base 5 .u8 (.slice (some ⟨g, 0, none⟩) n cap) l) (hn : l.length = n) (hl : ∀ b ∈ l, b < 256) :
    (convert 48 9 (.slice (some ⟨g, 0, none⟩) n cap)).run Tryz.prog W = .ok (.string (bs (ub l))) W := by
  have e : l.map (fun (b : Nat) => (b : Int)) = (ub l).map (fun b => (b.toNat : Int)) := by
    unfold ub
    rw [List.map_map]
    apply List.map_congr_left
    intro b hb
    have := hl b hb
    simp; omega
  rw [run_convert_bytes_arg W 48 5 Tryz.underlying48 Tryz.underlying5 g 0 n cap (l.map (fun (b : Nat) => (b : Int))) (by simpa using hn) (fun i hi => by
    rw [Nat.zero_add, h.get i (by omega)]
    congr 2
    rw [List.getD_eq_getElem?_getD, List.getD_eq_getElem?_getD, List.getElem?_map, List.getElem?_eq_getElem (show i < l.length by omega)]; rfl) 9 Tryz.underlying9, e, strOfNums_bytes]
  rfl
theorem dl_step (l : List Nat) (i : Nat) (hi : i < l.length) : dl (l.drop (i + 1)) ++ [48 + l.getD i 0] = dl (l.drop i) := by
  unfold dl
  rw [List.drop_eq_getElem_cons hi, List.map_cons, List.reverse_cons, List.getD_eq_getElem?_getD, List.getElem?_eq_getElem hi]
  rfl

set_option maxRecDepth 100000 in
set_option maxHeartbeats 2000000 in
theorem text0_any (neg : Bool) (a : Option Addr) (c : Nat) (w : World) :
    Calls Tryz.prog 73 #[.bool neg, .slice a 0 c] w fun e w' => e = .returned (.tuple #[.string ⟨#[48]⟩, .bool true]) ∧ Below w.heap.size w w' := by
  go_enter Tryz.func73, Tryz.ntmps73
  go_wp2_with fail
  go_ret2
  exact ⟨rfl, Below.refl _ _⟩

set_option maxRecDepth 100000 in
set_option maxHeartbeats 2000000 in
theorem textG_any (neg : Bool) (a : Option Addr) (n c : Nat) (l : List Nat) (w : World) (hl : IsZ w a n c (zs l)) (h : ∀ x ∈ l, x < 10) (h0 : 0 < n) (hn : n ≤ 1000000) (fit : Bool) (hd2 : decide ((n : Int) ≤ 200) = fit) :
    Calls Tryz.prog 73 #[.bool neg, .slice a n c] w fun e w' => e = .returned (.tuple #[.string (bs (ub ((if neg = true then [45] else []) ++ dl l))), .bool fit]) ∧ Below w.heap.size w w' := by
  have hll : l.length = n := by rw [← zs_length]; exact hl.len
  have hcap := hl.cap
  have hmx := hl.max
  have hd0 : ((n : Int) == 0) = false := beq_false_of_ne (by omega)
  obtain ⟨i0, hi, hz0, hz1, hz2⟩ := info_parts infoU8
  have hloop : ∀ (pre : List Nat), (∀ x ∈ pre, x < 256) → pre.length ≤ 1 → ∀ b ∈ pre ++ dl l, b < 256 := by
    intro pre hp _ b hb
    rcases List.mem_append.1 hb with hb | hb
    · exact hp b hb
    · have := dl_lt l h b hb; omega
  have hdg : ∀ i, i < n → l.getD i 0 < 10 := fun i hi => by
    rw [List.getD_eq_getElem?_getD, List.getElem?_eq_getElem (show i < l.length by omega)]
    exact h _ (List.getElem_mem _)
  have Hl := Lib.hid hl
  have Hdg := Lib.hid hdg
  have Hlp := Lib.hid hloop
  have Hll := Lib.hid hll
  clear hl h hloop hdg hll
  cases neg with
  | false =>
    go_enter Tryz.func73, Tryz.ntmps73
    go_wp2_with fail
    go_loopw [6, 7] (fun v i wr => ∃ j : Nat, j ≤ n ∧ i = .int .i64 ((j : Int) - 1) ∧ Bs.Own wr w.heap.size 5 .u8 v ([] ++ dl (l.drop j)) ∧ Below w.heap.size w wr) (fun _ i _ => (intOf i + 1).toNat)
    case atStart => exact ⟨n, Nat.le_refl _, rfl, by rw [List.drop_of_length_le (by rw [Hll.out]; omega)]; exact Bs.Own.nil _ _ _ _, Below.refl _ _⟩
    case round =>
      obtain ⟨j, hj, rfl, hown, hw⟩ := hrel
      have hs := hw.size
      rcases Nat.eq_zero_or_pos j with hj0 | hj0
      · subst hj0
        rw [List.drop_zero] at hown
        have hlen : ([] ++ dl l).length = n := by rw [List.nil_append]; simp [dl]; exact Hll.out
        obtain ⟨g, cap, rfl⟩ := hown.shape hlen h0
        have hcv := own_str hown hlen (Hlp.out [] (by simp) (by simp))
        have Hw := Lib.hid hw
        clear hown hlen hw
        go_wp2_with fail
        go_ret2
        exact ⟨rfl, Hw.out⟩
      · obtain ⟨i, rfl⟩ : ∃ i, j = i + 1 := ⟨j - 1, by omega⟩
        obtain ⟨g, off, rfl, hI⟩ := (Hl.out.later hw).at (by omega)
        have hcell := hI i (by rw [zs_length, Hll.out]; omega)
        rw [zs_getD] at hcell
        have hdi := Hdg.out i (by omega)
        have hst := dl_step l i (by rw [Hll.out]; omega)
        obtain ⟨x, hx⟩ : ∃ x, l.getD i 0 = x := ⟨_, rfl⟩
        rw [hx] at hcell hdi hst
        have e1 : ((i + 1 : Nat) : Int) - 1 = (i : Int) := by omega
        rw [e1]
        have Hst := Lib.hid hst
        have Hlen := Lib.hid (show ([] ++ dl (l.drop (i + 1))).length ≤ 2000000 by rw [List.nil_append]; simp [dl]; have := Hll.out; omega)
        clear hI hx hst
        go_wp2_with (at_builtin; refine wpList_push rfl _ _ 48 rfl w.heap.size 5 i0 (.int .u8 0) 1 Tryz.underlying48 hi hz0 hz1 hz2 rfl (by omega) .u8 _ ([] ++ dl (l.drop (i + 1))) rfl (hown.alloc _) ⟨wr.heap.size, 0, none⟩ 1 (48 + x) rfl ?c1 ?c2 ?c3 ?_)
        case c1 => simp [Addr.add]
        case c2 => exact Hlen.out
        case c3 => simp; omega
        intro v' w1 hown' hb
        rw [Hst.out] at hown'
        have Hown := Lib.hid hown'
        have Hw := Lib.hid ((hw.alloc hs _).trans hb)
        clear hown hown' hb hw
        go_wp2_with fail
        go_roundw
        case rel => exact ⟨i, by omega, by go_num, Hown.out, Hw.out⟩
        case measure => simp [intOf]
  | true =>
    go_enter Tryz.func73, Tryz.ntmps73
    go_wp2_with (at_builtin; refine wpList_push rfl _ _ 48 rfl w.heap.size 5 i0 (.int .u8 0) 1 Tryz.underlying48 hi hz0 hz1 hz2 rfl (by omega) .u8 _ [] rfl (Bs.Own.nil _ _ _ _) ⟨w.heap.size, 0, none⟩ 1 45 rfl ?b1 ?b2 ?b3 ?_)
    case b1 => simp [Addr.add]
    case b2 => simp
    case b3 => simp
    intro v1 w1 hown1 hb1
    have hw1 : Below w.heap.size w w1 := ((Below.refl _ w).alloc (Nat.le_refl _) _).trans hb1
    have Hown1 := Lib.hid hown1
    have Hw1 := Lib.hid hw1
    clear hown1 hb1 hw1
    go_wp2_with fail
    go_loopw [6, 7] (fun v i wr => ∃ j : Nat, j ≤ n ∧ i = .int .i64 ((j : Int) - 1) ∧ Bs.Own wr w.heap.size 5 .u8 v ([45] ++ dl (l.drop j)) ∧ Below w.heap.size w wr) (fun _ i _ => (intOf i + 1).toNat)
    case atStart => exact ⟨n, Nat.le_refl _, rfl, by rw [List.drop_of_length_le (by rw [Hll.out]; omega)]; exact Hown1.out, Hw1.out⟩
    case round =>
      obtain ⟨j, hj, rfl, hown, hw⟩ := hrel
      have hs := hw.size
      rcases Nat.eq_zero_or_pos j with hj0 | hj0
      · subst hj0
        rw [List.drop_zero] at hown
        have hlen : ([45] ++ dl l).length = n + 1 := by simp [dl]; exact Hll.out
        obtain ⟨g, cap, rfl⟩ := hown.shape hlen (by omega)
        have hcv := own_str hown hlen (Hlp.out [45] (by simp) (by simp))
        have Hw := Lib.hid hw
        clear hown hlen hw
        go_wp2_with fail
        go_ret2
        exact ⟨rfl, Hw.out⟩
      · obtain ⟨i, rfl⟩ : ∃ i, j = i + 1 := ⟨j - 1, by omega⟩
        obtain ⟨g, off, rfl, hI⟩ := (Hl.out.later hw).at (by omega)
        have hcell := hI i (by rw [zs_length, Hll.out]; omega)
        rw [zs_getD] at hcell
        have hdi := Hdg.out i (by omega)
        have hst := dl_step l i (by rw [Hll.out]; omega)
        obtain ⟨x, hx⟩ : ∃ x, l.getD i 0 = x := ⟨_, rfl⟩
        rw [hx] at hcell hdi hst
        have e1 : ((i + 1 : Nat) : Int) - 1 = (i : Int) := by omega
        rw [e1]
        have Hst := Lib.hid hst
        have Hlen := Lib.hid (show ([45] ++ dl (l.drop (i + 1))).length ≤ 2000000 by simp [dl]; have := Hll.out; omega)
        clear hI hx hst
        go_wp2_with (at_builtin; refine wpList_push rfl _ _ 48 rfl w.heap.size 5 i0 (.int .u8 0) 1 Tryz.underlying48 hi hz0 hz1 hz2 rfl (by omega) .u8 _ ([45] ++ dl (l.drop (i + 1))) rfl (hown.alloc _) ⟨wr.heap.size, 0, none⟩ 1 (48 + x) rfl ?c1 ?c2 ?c3 ?_)
        case c1 => simp [Addr.add]
        case c2 => exact Hlen.out
        case c3 => simp; omega
        intro v' w2 hown' hb
        rw [Hst.out] at hown'
        have Hown := Lib.hid hown'
        have Hw := Lib.hid ((hw.alloc hs _).trans hb)
        clear hown hown' hb hw
        go_wp2_with fail
        go_roundw
        case rel => exact ⟨i, by omega, by go_num, Hown.out, Hw.out⟩
        case measure => simp [intOf]

theorem text_any (neg : Bool) (a : Option Addr) (n c : Nat) (l : List Nat) (w : World) (hl : IsZ w a n c (zs l)) (h : ∀ x ∈ l, x < 10) (h0 : 0 < n) (hn : n ≤ 200) :
    Calls Tryz.prog 73 #[.bool neg, .slice a n c] w fun e w' => e = .returned (.tuple #[.string (bs (ub ((if neg = true then [45] else []) ++ dl l))), .bool true]) ∧ Below w.heap.size w w' :=
  textG_any neg a n c l w hl h h0 (by omega) true (decide_eq_true (by omega))

end Go.Proofs.YtjkklgpbblkhaaaGreatDoor

/-
  Layer 3, the reference: the digits of an integer.
-/
namespace Go.Proofs.YtjkklgpbblkhaaaGreatDoor
open Go.RowKit Bs Ig

theorem D_pos {n : Nat} (h : 0 < n) : D n = n % 10 :: D (n / 10) := dgs_pos 8 h
theorem D_zero : D 0 = [] := dgs_zero 8
theorem ub_append (l m : List Nat) : ub (l ++ m) = ub l ++ ub m := by simp [ub]
theorem dl_cons (x : Nat) (l : List Nat) : dl (x :: l) = dl l ++ [48 + x] := by simp [dl]
theorem dec_dl {n : Nat} (h : 0 < n) : Lib.decDigits n = ub (dl (D n)) := by
  induction n using Nat.strongRecOn with
  | _ n ih =>
    rw [D_pos h, dl_cons, ub_append]
    rcases Nat.lt_or_ge n 10 with h1 | h1
    · rw [dec_small h1, Nat.div_eq_of_lt h1, D_zero, Nat.mod_eq_of_lt h1]; rfl
    · rw [dec_big h1, ih (n / 10) (by omega) (by omega)]; rfl
/-- the bytes of a numeral, from behind -/
theorem byte_dl {B : ByteArray} {n : Nat} (h : 0 < n) (hB : B.data.toList = Lib.decDigits n) : B.size = (D n).length ∧ ∀ j (hj : j < B.size), (B[B.size - 1 - j]'(by omega)).toNat = 48 + (D n).getD j 0 := by
  have hlen : B.size = (D n).length := by
    have : B.data.toList.length = B.size := rfl
    rw [← this, hB, dec_dl h, ub_length]; simp [dl]
  refine ⟨hlen, fun j hj => ?_⟩
  have h1 := getD_str B (B.size - 1 - j) (by omega)
  rw [hB, dec_dl h] at h1
  rw [← h1]
  have h2 : (dl (D n))[B.size - 1 - j]? = some (48 + (D n).getD j 0) := by
    unfold dl
    rw [List.getElem?_reverse (by rw [List.length_map]; omega), List.length_map, ← hlen, show B.size - 1 - (B.size - 1 - j) = j by omega, List.getElem?_map, List.getElem?_eq_getElem (by omega), List.getD_eq_getElem?_getD, List.getElem?_eq_getElem (by omega)]
    rfl
  rw [List.getD_eq_getElem?_getD]
  unfold ub
  rw [List.getElem?_map, h2]
  have h3 : (D n).getD j 0 < 10 := by
    rw [List.getD_eq_getElem?_getD, List.getElem?_eq_getElem (by omega)]
    exact D_lt n _ (List.getElem_mem _)
  show (UInt8.ofNat (48 + (D n).getD j 0)).toNat = _
  exact dig_toNat h3
theorem D_len200 {n : Nat} (h : n < big) : (D n).length ≤ 200 := dgs_length_le 8 200 n h
theorem take_D (n j : Nat) (hj : j < (D n).length) : (D n).take j ++ [(D n).getD j 0] = (D n).take (j + 1) := by
  rw [List.take_succ_eq_append_getElem hj, List.getD_eq_getElem?_getD, List.getElem?_eq_getElem hj]; rfl
theorem u8_sub (d : Nat) (h : d < 10) : IntKind.u8.wrap (((48 + d : Nat) : Int) - 48) = (d : Int) := by rw [IntKind.wrap_u8]; omega

set_option maxRecDepth 100000 in
set_option maxHeartbeats 4000000 in
theorem digits0 (w : World) : Calls Tryz.prog 74 #[.string ⟨#[48]⟩] w fun e w' => e = .returned (.tuple #[.bool false, .slice none 0 0]) ∧ w' = w := by
  obtain ⟨S, hS⟩ : ∃ S, (⟨#[48]⟩ : ByteArray) = S := ⟨_, rfl⟩
  have g1 : S.size = 1 := by rw [← hS]; rfl
  have g2 : 0 < S.size := by omega
  have g3 : (S[0]'g2).toNat = 48 := by subst hS; rfl
  have g4 : (S.toList == [48]) = true := by rw [← hS, toList_eq]; rfl
  have g5 : decide (0 < (S.size : Int)) = true := decide_eq_true (by omega)
  rw [hS]
  clear hS
  go_enter Tryz.func74, Tryz.ntmps74
  go_wp2_with fail
  go_loopw [5, 6] (fun v p wr => v = .slice none 0 0 ∧ p = .int .i64 0 ∧ wr = w) (fun _ _ _ => 0)
  case atStart => exact ⟨rfl, by go_num, rfl⟩
  case round =>
    obtain ⟨rfl, rfl, rfl⟩ := hrel
    go_wp2_with fail
    go_ret2
    exact ⟨rfl, rfl⟩

set_option maxRecDepth 100000 in
set_option maxHeartbeats 4000000 in
theorem digitsP (B : ByteArray) (n : Nat) (h0 : 0 < n) (hn : n < big) (hB : B.data.toList = Lib.decDigits n) (w : World) :
    Calls Tryz.prog 74 #[.string B] w fun e w' => ∃ a m c, e = .returned (.tuple #[.bool false, .slice a m c]) ∧ IsZ w' a m c (zs (D n)) ∧ Below w.heap.size w w' := by
  obtain ⟨hlen, hbyte⟩ := byte_dl h0 hB
  have hl200 := D_len200 hn
  have hpos : 0 < (D n).length := by rw [D_pos h0]; simp
  have g1 : 0 < B.size := by omega
  have hfirst := hbyte (B.size - 1) (by omega)
  have g0 : ∃ q, (B[0]'g1).toNat = q ∧ 48 ≤ q := by
    refine ⟨_, rfl, ?_⟩
    have e : (B[B.size - 1 - (B.size - 1)]'(by omega)) = B[0]'g1 := by congr 1; omega
    rw [e] at hfirst
    omega
  obtain ⟨q, hq, hq48⟩ := g0
  have g2 : ((q : Int) == 45) = false := beq_false_of_ne (by omega)
  have g3 : (q == 45) = false := beq_false_of_ne (by omega)
  have g4 : decide (0 < (B.size : Int)) = true := decide_eq_true (by omega)
  have g5 : (B.toList == [48]) = false := by
    rw [toList_eq, hB]
    refine beq_false_of_ne (fun e => ?_)
    have := num_dec n
    rw [e] at this
    have h' : num [48] = 0 := rfl
    omega
  have g6 : (B.toList != [48]) = true := by rw [bne, g5]; rfl
  obtain ⟨i0, hi, hz0, hz1, hz2⟩ := info_parts infoInt
  have HB := Lib.hid hbyte
  have HL := Lib.hid hlen
  clear hbyte hfirst hB h0
  go_enter Tryz.func74, Tryz.ntmps74
  go_wp2_with fail
  go_loopw [5, 6] (fun v p wr => ∃ j : Nat, j ≤ B.size ∧ p = .int .i64 ((B.size : Int) - 1 - (j : Int)) ∧ Bs.Own wr w.heap.size 3 .i64 v ((D n).take j) ∧ Below w.heap.size w wr) (fun _ p _ => (intOf p + 1).toNat)
  case atStart => exact ⟨0, Nat.zero_le _, by go_num, Bs.Own.nil _ _ _ _, Below.refl _ _⟩
  case round =>
    obtain ⟨j, hj, rfl, hown, hw⟩ := hrel
    have hsz := hw.size
    rcases Nat.lt_or_ge j B.size with h1 | h1
    · have hb := HB.out j h1
      have ht := take_D n j (by have := HL.out; omega)
      obtain ⟨d, hd⟩ : ∃ d, (D n).getD j 0 = d := ⟨_, rfl⟩
      have hd9 : d < 10 := by
        rw [← hd, List.getD_eq_getElem?_getD, List.getElem?_eq_getElem (by have := HL.out; omega)]
        exact D_lt n _ (List.getElem_mem _)
      rw [hd] at hb ht
      obtain ⟨i, hi2, hii⟩ : ∃ i, B.size - 1 - j = i ∧ (B.size : Int) - 1 - (j : Int) = (i : Int) := ⟨_, rfl, by omega⟩
      have hilt : i < B.size := by omega
      have hb2 : (B[i]'hilt).toNat = 48 + d := by rw [← hb]; congr 2; exact hi2.symm
      rw [hii]
      have e1 : decide (0 ≤ (i : Int)) = true := decide_eq_true (by omega)
      have e2 : decide ((i : Int) < (B.size : Int)) = true := decide_eq_true (by omega)
      have e3 := u8_sub d hd9
      have hjl : ((D n).take j).length ≤ 2000000 := by rw [List.length_take]; omega
      have Ht := Lib.hid ht
      have Hjl := Lib.hid hjl
      have Hii := Lib.hid hii
      obtain ⟨k, hk⟩ : ∃ k, 48 + d = k := ⟨_, rfl⟩
      rw [hk] at hb2 e3
      clear hb ht hd hjl hi2 hii
      go_wp2_with (at_builtin; refine wpList_push rfl _ _ 40 rfl w.heap.size 3 i0 (.int .i64 0) 8 Tryz.underlying40 hi hz0 hz1 hz2 rfl (by omega) .i64 _ ((D n).take j) rfl (hown.alloc _) ⟨wr.heap.size, 0, none⟩ 1 d rfl ?c1 ?c2 ?c3 ?_)
      case c1 => simp [Addr.add]
      case c2 => exact Hjl.out
      case c3 => simp; omega
      intro v' w1 hown' hb
      rw [Ht.out] at hown'
      have Hown := Lib.hid hown'
      have Hw := Lib.hid ((hw.alloc hsz _).trans hb)
      clear hown hown' hb hw
      go_wp2_with fail
      go_roundw
      case rel => exact ⟨j + 1, h1, by have := Hii.out; go_num, Hown.out, Hw.out⟩
      case measure => simp [intOf]
    · obtain rfl : j = B.size := by omega
      have e1 : decide (0 ≤ (B.size : Int) - 1 - (B.size : Int)) = false := decide_eq_false (by omega)
      obtain ⟨a, m, c, rfl⟩ := own_sl hown
      have hzz := hown.isZ
      rw [List.take_of_length_le (by have := HL.out; omega)] at hzz
      have Hz := Lib.hid hzz
      clear hown hzz
      go_wp2_with fail
      go_ret2
      exact ⟨a, m, c, rfl, Hz.out, hw⟩

set_option maxRecDepth 100000 in
set_option maxHeartbeats 4000000 in
theorem digitsN (s : ByteArray) (n : Nat) (h0 : 0 < n) (hn : n < big) (hs : s.data.toList = 45 :: Lib.decDigits n) (w : World) :
    Calls Tryz.prog 74 #[.string s] w fun e w' => ∃ a m c, e = .returned (.tuple #[.bool true, .slice a m c]) ∧ IsZ w' a m c (zs (D n)) ∧ Below w.heap.size w w' := by
  have hss : s.size = (Lib.decDigits n).length + 1 := by have : s.data.toList.length = s.size := rfl; rw [hs] at this; simp at this; omega
  obtain ⟨B, hBx⟩ : ∃ B, s.extract 1 s.size = B := ⟨_, rfl⟩
  have hB : B.data.toList = Lib.decDigits n := by
    have hx := bs_extract s.data.toList 1 s.size
    rw [bs_bytes, hs] at hx
    rw [← hBx, hx]
    show (bs _).data.toList = _
    simp only [bs, List.drop_succ_cons, List.drop_zero]
    exact List.take_of_length_le (by omega)
  have y0 : 0 < s.size := by omega
  have y1 : (s[0]'y0).toNat = 45 := by have := getD_str s 0 y0; rw [hs] at this; rw [← this]; rfl
  have y2 : decide (1 ≤ s.size) = true := decide_eq_true (by omega)
  have y3 : decide (1 ≤ (s.size : Int)) = true := decide_eq_true (by omega)
  have y4 : decide (0 < (s.size : Int)) = true := decide_eq_true (by omega)
  clear hs hss
  obtain ⟨hlen, hbyte⟩ := byte_dl h0 hB
  have hl200 := D_len200 hn
  have hpos : 0 < (D n).length := by rw [D_pos h0]; simp
  have g1 : 0 < B.size := by omega
  have g4 : decide (0 < (B.size : Int)) = true := decide_eq_true (by omega)
  have g5 : (B.toList == [48]) = false := by
    rw [toList_eq, hB]
    refine beq_false_of_ne (fun e => ?_)
    have := num_dec n
    rw [e] at this
    have h' : num [48] = 0 := rfl
    omega
  have g6 : (B.toList != [48]) = true := by rw [bne, g5]; rfl
  obtain ⟨i0, hi, hz0, hz1, hz2⟩ := info_parts infoInt
  have HB := Lib.hid hbyte
  have HL := Lib.hid hlen
  clear hbyte hB h0
  go_enter Tryz.func74, Tryz.ntmps74
  go_wp2_with fail
  go_loopw [5, 6] (fun v p wr => ∃ j : Nat, j ≤ B.size ∧ p = .int .i64 ((B.size : Int) - 1 - (j : Int)) ∧ Bs.Own wr w.heap.size 3 .i64 v ((D n).take j) ∧ Below w.heap.size w wr) (fun _ p _ => (intOf p + 1).toNat)
  case atStart => exact ⟨0, Nat.zero_le _, by go_num, Bs.Own.nil _ _ _ _, Below.refl _ _⟩
  case round =>
    obtain ⟨j, hj, rfl, hown, hw⟩ := hrel
    have hsz := hw.size
    rcases Nat.lt_or_ge j B.size with h1 | h1
    · have hb := HB.out j h1
      have ht := take_D n j (by have := HL.out; omega)
      obtain ⟨d, hd⟩ : ∃ d, (D n).getD j 0 = d := ⟨_, rfl⟩
      have hd9 : d < 10 := by
        rw [← hd, List.getD_eq_getElem?_getD, List.getElem?_eq_getElem (by have := HL.out; omega)]
        exact D_lt n _ (List.getElem_mem _)
      rw [hd] at hb ht
      obtain ⟨i, hi2, hii⟩ : ∃ i, B.size - 1 - j = i ∧ (B.size : Int) - 1 - (j : Int) = (i : Int) := ⟨_, rfl, by omega⟩
      have hilt : i < B.size := by omega
      have hb2 : (B[i]'hilt).toNat = 48 + d := by rw [← hb]; congr 2; exact hi2.symm
      rw [hii]
      have e1 : decide (0 ≤ (i : Int)) = true := decide_eq_true (by omega)
      have e2 : decide ((i : Int) < (B.size : Int)) = true := decide_eq_true (by omega)
      have e3 := u8_sub d hd9
      have hjl : ((D n).take j).length ≤ 2000000 := by rw [List.length_take]; omega
      have Ht := Lib.hid ht
      have Hjl := Lib.hid hjl
      have Hii := Lib.hid hii
      obtain ⟨k, hk⟩ : ∃ k, 48 + d = k := ⟨_, rfl⟩
      rw [hk] at hb2 e3
      clear hb ht hd hjl hi2 hii
      go_wp2_with (at_builtin; refine wpList_push rfl _ _ 40 rfl w.heap.size 3 i0 (.int .i64 0) 8 Tryz.underlying40 hi hz0 hz1 hz2 rfl (by omega) .i64 _ ((D n).take j) rfl (hown.alloc _) ⟨wr.heap.size, 0, none⟩ 1 d rfl ?c1 ?c2 ?c3 ?_)
      case c1 => simp [Addr.add]
      case c2 => exact Hjl.out
      case c3 => simp; omega
      intro v' w1 hown' hb
      rw [Ht.out] at hown'
      have Hown := Lib.hid hown'
      have Hw := Lib.hid ((hw.alloc hsz _).trans hb)
      clear hown hown' hb hw
      go_wp2_with fail
      go_roundw
      case rel => exact ⟨j + 1, h1, by have := Hii.out; go_num, Hown.out, Hw.out⟩
      case measure => simp [intOf]
    · obtain rfl : j = B.size := by omega
      have e1 : decide (0 ≤ (B.size : Int) - 1 - (B.size : Int)) = false := decide_eq_false (by omega)
      obtain ⟨a, m, c, rfl⟩ := own_sl hown
      have hzz := hown.isZ
      rw [List.take_of_length_le (by have := HL.out; omega)] at hzz
      have Hz := Lib.hid hzz
      clear hown hzz
      go_wp2_with fail
      go_ret2
      exact ⟨a, m, c, rfl, Hz.out, hw⟩

end Go.Proofs.YtjkklgpbblkhaaaGreatDoor

/-
  Layer 3, the reference: quotients and remainders of lists of digits.
-/
namespace Go.Proofs.YtjkklgpbblkhaaaGreatDoor
open Go.RowKit Bs Ig

theorem append_none0 {P : Program} (w : World) (base : Nat) (t ty e : TypeId) (i : TypeInfo) (size : Nat) (ht : P.underlying t = some (.slice e)) (hi : P.info? e = some i)
    (v : Value) (n : Nat) (xs : List Value) (hown : w.ownsRow base e size v n xs) (c : Nat) :
    (Builtin.append_ #[t, t] ty #[v, .slice none 0 c]).run P w = .ok v w := by
  rcases hown.2 with ⟨rfl, rfl⟩ | ⟨g, cap, cur, rfl, _, _, hnc, _⟩
  · simp [Builtin.append_, run_underlying ht, sizeOf, typeInfo, hi, Builtin.lenOf, Builtin.firstCells]
  · simp [Builtin.append_, run_underlying ht, sizeOf, typeInfo, hi, Builtin.lenOf, Builtin.firstCells, hnc, storeCells]

/-- a whole slice of numbers more, an empty one too -/
theorem wpList_pushZ {w : World} {ops : Array Oper} {rest : List Oper} {o : Oper} {a : Act} {Q : Exit → Act → World → Prop} (hgd : o.guard = none) (s x : Operand)
    (ho : o.op = .call { callee := .builtin .append, args := #[s, x], argTypes := #[40, 40] })
    (base : Nat) (v : Value) (l : List Nat) (hs : a.eval s = v) (hown : Bs.Own w base 3 .i64 v l) (b : Option Addr) (m c : Nat) (l2 : List Nat) (hx : a.eval x = .slice b m c)
    (hz : IsZ w b m c (zs l2)) (hlen : l.length + m ≤ 2000000) (hbase : base ≤ w.heap.size)
    (h : ∀ v' w', Bs.Own w' base 3 .i64 v' (l ++ l2) → Below base w w' → wpList Tryz.prog ops Q rest (a.put o.dst v') w') : wpList Tryz.prog ops Q (o :: rest) a w := by
  obtain ⟨i0, hi, hz0, hz1, hz2⟩ := info_parts infoInt
  have hl2 : l2.length = m := by rw [← zs_length]; exact hz.len
  rcases Nat.eq_zero_or_pos m with h0 | h0
  · subst h0
    have e : l2 = [] := List.length_eq_zero_iff.1 hl2
    subst e
    cases b with
    | none =>
      have hrun := append_none0 (P := Tryz.prog) w base 40 o.type 3 i0 1 Tryz.underlying40 hi v l.length (iv .i64 l) hown.row c
      refine wpList_plain hgd fun K hK => ?_
      unfold Oper.wp
      simp [execOp, ho, resolve, invoke, builtin, hs, hx, hrun, Result.andThen]
      exact hK _ _ (h v w (by rw [List.append_nil]; exact hown) (Below.refl _ _))
    | some ad =>
      refine wpList_append_own w hgd s x 40 ho base 3 i0 (.int .i64 0) 1 8 Tryz.underlying40 hi hz0 hz1 hz2 rfl (by omega) v l.length (iv .i64 l) hs hown.row ad 0 c [] hx rfl (fun j u hj => by simp at hj) (fun u hu => by cases hu) ?_ ?_ hbase ?_
      · unfold maxLen; omega
      · omega
      · intro v' w' hown' hgrow _
        refine h v' w' ⟨?_⟩ ((Below.refl base w).grown hgrow hbase hown.block)
        rw [List.append_nil]
        rw [List.append_nil] at hown'
        exact hown'
  · obtain ⟨g, off, rfl, hI⟩ := hz.at h0
    have hN : Nums w g off m .i64 l2 := ⟨fun i hi => by have := hI i (by rw [zs_length]; omega); rw [zs_getD] at this; exact this, fun _ => hI.lt (by rw [zs_length]; omega)⟩
    exact wpList_pushN hgd s x 40 ho base 3 i0 (.int .i64 0) 8 Tryz.underlying40 hi hz0 hz1 hz2 rfl (by omega) .i64 v l hs hown g off m c l2 hx hN hl2 hlen hbase h
theorem own_lit1 (W : World) (base : Nat) (d : Nat) (hb : base ≤ W.heap.size) : Bs.Own (W.alloc (.cells #[.int .i64 (d : Int)] 3)) base 3 .i64 (.slice (some ⟨W.heap.size, 0, none⟩) 1 1) [d] :=
  ⟨World.ownsRow_lit W #[.int .i64 (d : Int)] 1 hb (by unfold maxLen; omega) rfl⟩

theorem zs_set' (l : List Nat) (i v : Nat) : (zs l).set i (v : Int) = zs (l.set i v) := by unfold zs; rw [List.map_set]
theorem IsZ.apart {W : World} {a : Option Addr} {n c : Nat} {l : List Int} (h : IsZ W a n c l) (g i : Nat) (v : Value) (hne : ∀ j, (Value.slice a n c).ownBlock = some j → g < j) : IsZ (W.setCell ⟨g, i, none⟩ v) a n c l := by
  refine ⟨h.len, h.cap, h.max, h.row.imp id (fun ⟨g', off, e, hI⟩ => ⟨g', off, e, fun k hk => ?_⟩)⟩
  subst e
  have := hne g' rfl
  rw [World.cell?_setCell_far _ _ _ _ (show g ≠ g' by omega)]
  exact hI k hk
theorem D_inj {x y : Nat} (h : D x = D y) : x = y := dgs_inj h
/-- the number that a slice of digits holds -/
theorem numD : ∃ M : Value → World → Nat, ∀ (a : Option Addr) (n c x : Nat) (W : World), IsZ W a n c (zs (D x)) → M (.slice a n c) W = x := by
  refine ⟨fun v W => Classical.epsilon (fun x => ∃ a n c, v = .slice a n c ∧ IsZ W a n c (zs (D x))), fun a n c x W h => ?_⟩
  obtain ⟨a', n', c', e, h'⟩ := Classical.epsilon_spec (p := fun y => ∃ a' n' c', Value.slice a n c = .slice a' n' c' ∧ IsZ W a' n' c' (zs (D y))) ⟨x, a, n, c, rfl, h⟩
  cases e
  exact D_inj (zs_inj (h'.unique h))
theorem cmp_ge {x y : Nat} : decide (0 ≤ cmp x y) = decide (y ≤ x) := by
  unfold cmp
  rcases Nat.lt_trichotomy x y with h | h | h
  · rw [if_pos h]; simp; omega
  · rw [if_neg (by omega), if_neg (by omega)]; simp; omega
  · rw [if_neg (by omega), if_pos h]; simp; omega

set_option maxRecDepth 100000 in
set_option maxHeartbeats 8000000 in
theorem divided_any (a : Option Addr) (n c : Nat) (b : Option Addr) (k d : Nat) (x y : Nat) (w : World) (hl : IsZ w a n c (zs (D x))) (hm : IsZ w b k d (zs (D y))) (hy : 0 < y) (hn : n ≤ 1000) (hk : k ≤ 1000) :
    Calls Tryz.prog 84 #[.slice a n c, .slice b k d] w fun e w' => ∃ qa qn qc ra rn rc, e = .returned (.tuple #[.slice qa qn qc, .slice ra rn rc]) ∧ IsZ w' qa qn qc (zs (D (x / y))) ∧ IsZ w' ra rn rc (zs (D (x % y))) ∧ Below w.heap.size w w' := by
  have hxl := D_len hl
  have hnc := hl.cap
  obtain ⟨i0, hi, hz0, hz1, hz2⟩ := info_parts infoInt
  obtain ⟨w1, hmk, hco1, hb1, hs1⟩ := mkCols w 40 Tryz.underlying40 n (by omega)
  have Hco1 := Lib.hid hco1
  have Hb1 := Lib.hid hb1
  clear hco1 hb1 hs1
  go_enter Tryz.func84, Tryz.ntmps84
  go_wp2_with fail
  go_loopw [7, 8] (fun v p wr => ∃ (O : List Nat) (j R : Nat) (ra : Option Addr) (rn rc : Nat), v = .slice ra rn rc ∧ p = .int .i64 ((j : Int) - 1) ∧ j ≤ n ∧ Do x y n O j R ∧ Cols wr w.heap.size (some ⟨w.heap.size, 0, none⟩) n n (zs O) ∧ IsZ wr ra rn rc (zs (D R)) ∧ Below w.heap.size w wr) (fun _ p _ => (intOf p + 1).toNat)
  case atStart =>
    refine ⟨List.replicate n 0, n, 0, none, 0, 0, rfl, by go_num, Nat.le_refl _, Do.start hxl, ?_, ?_, Hb1.out⟩
    · have h := Hco1.out
      rw [show List.replicate n (0 : Int) = zs (List.replicate n 0) by simp [zs]] at h
      exact h
    · rw [D_zero]; exact IsZ.nil _ _ _ (Nat.zero_le _)
  case round =>
    obtain ⟨O, j, R, ra, rn, rc, rfl, rfl, hj, hdo, hco, hr, hw⟩ := hrel
    rcases Nat.eq_zero_or_pos j with h0 | h0
    · subst h0
      obtain ⟨hv, hR⟩ := hdo.done
      have ht := fun (W : World) (hb : Below wr.heap.size wr W) => rtrim_any (some ⟨w.heap.size, 0, none⟩) n n O W (hco.isZ.later hb) hdo.lt (by omega)
      rw [hv] at ht
      have HT := Lib.hid ht
      have HR := Lib.hid hr
      have Hw := Lib.hid hw
      subst hR
      clear hdo hco hr hw ht hl hm hmk hxl hv
      go_wp2_with (go_at_call 104; (with_reducible refine (HT.out _ (Below.refl _ _)).mono ?_); rintro e w5 ⟨m, rfl, z5, B5⟩)
      go_ret2
      exact ⟨_, m, _, _, _, _, rfl, z5, HR.out.later B5, below_on Hw.out B5 Hw.out.size⟩
    · obtain ⟨i, rfl⟩ : ∃ i, j = i + 1 := ⟨j - 1, by omega⟩
      have hdi := hdo.inner
      have hRy : R < y := by rw [hdo.rem]; exact Nat.mod_lt _ hy
      have hdx := dgs_getD 8 x i
      have hu9 : x / 10 ^ i % 10 < 10 := Nat.mod_lt _ (by omega)
      obtain ⟨u, hu⟩ : ∃ u, x / 10 ^ i % 10 = u := ⟨_, rfl⟩
      rw [show (8 + 2 : Nat) = 10 from rfl, hu] at hdx
      rw [hu] at hu9 hdi
      obtain ⟨g, off, rfl, hI⟩ := (hl.later hw).at (by omega)
      have hcell := hI i (by rw [zs_length]; omega)
      rw [zs_getD, show (D x).getD i 0 = u from hdx] at hcell
      have hyl := D_len hm
      have hrl := D_len hr
      have hrn : rn ≤ k := by
        have h1 := dgs_length_mono (k := 8) (Nat.le_of_lt hRy)
        rw [show (dgs 8 R).length = rn from hrl, show (dgs 8 y).length = k from hyl] at h1
        exact h1
      have e1 : ((i + 1 : Nat) : Int) - 1 = (i : Int) := by omega
      rw [e1]
      have f1 : decide (0 ≤ (i : Int)) = true := decide_eq_true (by omega)
      have f2 : decide ((i : Int) < (n : Int)) = true := decide_eq_true (by omega)
      have f3 : decide (i < n) = true := decide_eq_true (by omega)
      have hsz := hw.size
      have hBa := (Below.refl _ wr).alloc (Nat.le_refl _) (.cells #[.int .i64 (u : Int)] 3)
      have hT := fun (W : World) (v : Value) (h : Bs.Own W wr.heap.size 3 .i64 v ([u] ++ D R)) => (show ∃ ta tn tc, v = .slice ta tn tc ∧ Calls Tryz.prog 104 #[v] W fun e w' => ∃ m, e = .returned (.slice ta m tc) ∧ IsZ w' ta m tc (zs (D (10 * R + u))) ∧ Below W.heap.size W w' from by
        obtain ⟨ta, tn, tc, rfl⟩ := own_sl h
        have h1 := rtrim_any ta tn tc ([u] ++ D R) W h.isZ (fun z hz => by
          rcases List.mem_append.1 hz with hz | hz
          · rw [List.mem_singleton.1 hz]; exact hu9
          · exact D_lt R z hz) (by have : tn = ([u] ++ D R).length := h.len; rw [this]; simp; omega)
        have e : Ig.val 10 ([u] ++ D R) = 10 * R + u := by
          rw [val_append, D_val]; simp [Ig.val]; omega
        rw [e] at h1
        exact ⟨ta, tn, tc, rfl, h1⟩)
      have HT := Lib.hid hT
      have Hdi := Lib.hid hdi
      have Hco := Lib.hid hco
      have HR := Lib.hid (hr.later hBa)
      have Hw := Lib.hid hw
      have HI2 := Lib.hid (show i < n by omega)
      have HK := Lib.hid (show 1 + rn ≤ 2000000 by omega)
      clear hT hdi hdo hco hr hw hI hu hdx hmk hrn hrl hyl hxl hl
      go_wp2_with (at_builtin; refine wpList_pushZ rfl _ _ rfl wr.heap.size _ [u] rfl (own_lit1 wr wr.heap.size u (Nat.le_refl _)) _ _ _ (D R) rfl HR.out ?b1 ?b2 ?_)
      case b1 => exact HK.out
      case b2 => simp
      intro v' w2 hown2 hb2
      obtain ⟨ta, tn, tc, rfl, hc2⟩ := HT.out w2 v' hown2
      have HC2 := Lib.hid hc2
      have Hb2 := Lib.hid (below_on Hw.out (hBa.trans hb2) Hw.out.size)
      have Hco2 := Lib.hid (Hco.out.later (hBa.trans hb2))
      clear hown2 hb2 hc2 hBa HT
      go_wp2_with (go_at_call 104; (with_reducible refine HC2.out.mono ?_); rintro e w3 ⟨m, rfl, z3, B3⟩)
      have Hw3 := Lib.hid (below_on Hb2.out B3 Hb2.out.size)
      have Hco3 := Lib.hid (Hco2.out.later B3)
      have Hz3 := Lib.hid z3
      have Hm := Lib.hid hm
      obtain ⟨M, hM⟩ := numD
      have HM := Lib.hid hM
      have HRy := Lib.hid (show 10 * R + u < 10 * y by omega)
      clear z3 B3 hM hRy
      go_loopw [7] (fun v wq => ∃ (O : List Nat) (c R : Nat) (ra : Option Addr) (rn rc : Nat), v = .slice ra rn rc ∧ Di x y n O i c R ∧ Cols wq w.heap.size (some ⟨w.heap.size, 0, none⟩) n n (zs O) ∧ IsZ wq ra rn rc (zs (D R)) ∧ R < 10 * y ∧ Below w.heap.size w wq) (fun v wq => M v wq)
      case atStart => exact ⟨O, 0, 10 * R + u, _, _, _, rfl, Hdi.out, Hco3.out, Hz3.out, HRy.out, Hw3.out⟩
      case round =>
        obtain ⟨O, cc, R, ra, rn, rc, rfl, hdi, hco, hr, hR, hwq⟩ := hrel
        have hMr := HM.out ra rn rc R wr hr
        have hmw := Hm.out.later hwq
        have hrn : rn ≤ k + 1 := by
          have h1 := dgs_length_mono (k := 8) (Nat.le_of_lt hR)
          have h2 : (dgs 8 (10 * y)).length ≤ k + 1 := dgs_length_le 8 (k + 1) _ (by
            have := D_lt_pow (D_len Hm.out)
            show 10 * y < (8 + 2) ^ (k + 1)
            rw [Nat.pow_succ]; show 10 * y < 10 ^ k * 10; omega)
          have h3 : (dgs 8 R).length = rn := D_len hr
          omega
        have ho := fun (W : World) (hb : Below wr.heap.size wr W) => order_any ra rn rc b k d R y W (hr.later hb) (hmw.later hb) (by omega) (by omega)
        have hge := cmp_ge (x := R) (y := y)
        obtain ⟨cv, hcv⟩ : ∃ cv, cmp R y = cv := ⟨_, rfl⟩
        rw [hcv] at ho hge
        have HO := Lib.hid ho
        rcases Nat.lt_or_ge R y with h1 | h1
        · have f4 : decide (0 ≤ cv) = false := by rw [hge]; exact decide_eq_false (by omega)
          have hdo := Lib.hid (hdi.outer h1)
          have Hco5 := Lib.hid hco
          have Hr5 := Lib.hid hr
          have Hw5 := Lib.hid hwq
          clear hge hcv ho hdi hco hr hwq hmw hMr
          go_wp2_with (go_at_call 87; (with_reducible refine (HO.out _ (Below.refl _ _)).mono ?_); rintro e w5 ⟨rfl, B5⟩)
          have Hfin := Lib.hid (And.intro (Hco5.out.later B5) (And.intro (Hr5.out.later B5) (below_on Hw5.out B5 Hw5.out.size)))
          clear B5
          go_wp2_with fail
          case roundEnd => exact ⟨⟨O, i, R, _, _, _, rfl, rfl, by have := HI2.out; omega, hdo.out, Hfin.out.1, Hfin.out.2.1, Hfin.out.2.2⟩, by simp [intOf]⟩
        · have f4 : decide (0 ≤ cv) = true := by rw [hge]; exact decide_eq_true h1
          have hnx := Lib.hid (hdi.next hy h1 HI2.out)
          have hmi := fun (W : World) (hb : Below wr.heap.size wr W) => rminus_new ra rn rc b k d R y W (hr.later hb) (hmw.later hb) h1 (by omega)
          have HMI := Lib.hid hmi
          have Hco5 := Lib.hid hco
          have Hw5 := Lib.hid hwq
          have hci := hdi.digit
          have Hlt := Lib.hid (show w.heap.size < wr.heap.size from by obtain ⟨g7, hg7, _, hcc7⟩ := hco.at (by have := HI2.out; omega); cases hg7; exact block_lt_of_cell (hcc7 i HI2.out).1)
          have hc9 := hdi.small hy h1
          clear hge hcv ho hdi hco hr hwq hmw hmi
          go_wp2_with (first
            | (go_at_call 87; (with_reducible refine (HO.out _ (Below.refl _ _)).mono ?_); rintro e w5 ⟨rfl, B5⟩)
            | (go_at_call 86; (with_reducible refine (HMI.out _ B5).mono ?_); rintro e w6 ⟨sa, sn, sc, rfl, z6, B6, J6⟩; have B56 := below_on B5 B6 B5.size; have hco6 := Hco5.out.later B56; obtain ⟨g6, hg6, hB6, hcc6⟩ := hco6.at (by have := HI2.out; omega); cases hg6; obtain ⟨hc6, hf6⟩ := hcc6 i HI2.out; rw [zs_getD, hci] at hc6; have Hco6 := Lib.hid (hco6.set i HI2.out (((cc + 1 : Nat) : Int))); have Hz6 := Lib.hid (z6.apart w.heap.size i (.int .i64 ((cc + 1 : Nat) : Int)) (fun j hj => Nat.lt_of_lt_of_le (Nat.lt_of_lt_of_le Hlt.out B5.size) (J6 j hj))); have Hw6 := Lib.hid (below_on Hw5.out B56 Hw5.out.size); clear hco6 hcc6 z6 J6))
          go_roundw
          case rel => exact ⟨O.set i (cc + 1), cc + 1, R - y, _, _, _, rfl, hnx.out, by have h := Hco6.out; rw [zs_set'] at h; exact h, Hz6.out, by omega, Hw6.out.setCell (p := ⟨w.heap.size, i, none⟩) (Nat.le_refl _) _⟩
          case measure =>
            have h := HM.out _ _ _ (R - y) _ Hz6.out
            rw [show ((cc + 1 : Nat) : Int) = (cc : Int) + 1 by omega] at h
            rw [h, hMr]; omega

end Go.Proofs.YtjkklgpbblkhaaaGreatDoor

/-
  Layer 3, the reference: integers as strings, and what is too long.
-/
namespace Go.Proofs.YtjkklgpbblkhaaaGreatDoor
open Go.RowKit Bs Ig

/-- a number with a sign -/
def sg (neg : Bool) (n : Nat) : Int := if neg = true then -(n : Int) else (n : Int)
theorem sg_abs (neg : Bool) (n : Nat) : (sg neg n).natAbs = n := by unfold sg; split <;> simp
theorem itoa_sg (neg : Bool) (n : Nat) (h : 0 < n) : Lib.itoa (sg neg n) = ub ((if neg = true then [45] else []) ++ dl (D n)) := by
  unfold sg
  rw [ub_append, ← dec_dl h]
  cases neg with
  | false => rw [if_neg (by decide), if_neg (by decide)]; exact itoa_nat n
  | true => rw [if_pos rfl, if_pos rfl]; exact itoa_neg n h
theorem D_big {n : Nat} : (D n).length ≤ 200 ↔ n < big := by
  constructor
  · intro h
    exact Nat.lt_of_lt_of_le (D_lt_pow rfl) (Nat.pow_le_pow_right (by omega) h)
  · exact D_len200
theorem text_T (neg : Bool) (n : Nat) (a : Option Addr) (m c : Nat) (w : World) (hz : IsZ w a m c (zs (D n))) (hm : m ≤ 100000) :
    Calls Tryz.prog 73 #[.bool neg, .slice a m c] w fun e w' => e = .returned (.tuple #[.string (bs (Lib.itoa (sg neg n))), .bool (decide (n < big))]) ∧ Below w.heap.size w w' := by
  have hlen := D_len hz
  rcases Nat.eq_zero_or_pos n with h0 | h0
  · subst h0
    rw [D_zero] at hlen
    obtain rfl : m = 0 := hlen.symm
    refine (text0_any neg a c w).mono ?_
    rintro e w' ⟨rfl, hb⟩
    refine ⟨?_, hb⟩
    have e1 : sg neg 0 = 0 := by unfold sg; split <;> rfl
    rw [e1, decide_eq_true (show 0 < big from Nat.pow_pos (by omega)), show Lib.itoa 0 = [48] from by rw [show (0 : Int) = ((0 : Nat) : Int) from rfl, itoa_nat, dec_small (by omega)]; rfl]
    rfl
  · have h1 : 0 < m := by rw [← hlen, D_pos h0]; simp
    rw [itoa_sg neg n h0]
    exact textG_any neg a m c (D n) w hz (D_lt n) h1 (by omega) (decide (n < big)) (decide_eq_decide.2 (by rw [← D_big, hlen]; omega))

set_option maxRecDepth 100000 in
set_option maxHeartbeats 2000000 in
theorem checked_any (neg : Bool) (n : Nat) (a : Option Addr) (m c : Nat) (w : World) (hz : IsZ w a m c (zs (D n))) (hm : m ≤ 100000) :
    Calls Tryz.prog 75 #[.bool neg, .slice a m c] w fun e w' => e = .returned (.tuple #[.string (wrS (sg neg n)).1, .int .i64 (wrS (sg neg n)).2]) ∧ Below w.heap.size w w' := by
  have HT := Lib.hid (text_T neg n a m c w hz hm)
  have hab := sg_abs neg n
  unfold wrS txt err
  rw [hab]
  rcases Nat.lt_or_ge n big with h | h
  · rw [decide_eq_true h] at HT
    simp only [if_pos h]
    generalize bs (Lib.itoa (sg neg n)) = S at *
    clear hz hab h
    go_enter Tryz.func75, Tryz.ntmps75
    go_wp2_with (go_at_call 73; (with_reducible refine HT.out.mono ?_); rintro e w1 ⟨rfl, B1⟩)
    go_ret2
    exact ⟨rfl, B1⟩
  · rw [decide_eq_false (by omega)] at HT
    simp only [if_neg (show ¬ n < big by omega)]
    generalize bs (Lib.itoa (sg neg n)) = S at *
    clear hz hab h
    go_enter Tryz.func75, Tryz.ntmps75
    go_wp2_with (go_at_call 73; (with_reducible refine HT.out.mono ?_); rintro e w1 ⟨rfl, B1⟩)
    go_ret2
    exact ⟨rfl, B1⟩

/-- the digits of an integer -/
theorem digits_T (z : Int) (hz : z.natAbs < big) (w : World) :
    Calls Tryz.prog 74 #[.string (bs (Lib.itoa z))] w fun e w' => ∃ a m c, e = .returned (.tuple #[.bool (decide (z < 0)), .slice a m c]) ∧ IsZ w' a m c (zs (D z.natAbs)) ∧ Below w.heap.size w w' := by
  rcases int_cases z with ⟨n, rfl⟩ | ⟨n, hn, rfl⟩
  · rw [itoa_nat, decide_eq_false (show ¬ ((n : Int) < 0) by omega)]
    rw [Int.natAbs_natCast] at hz ⊢
    rcases Nat.eq_zero_or_pos n with h0 | h0
    · subst h0
      rw [show Lib.decDigits 0 = [48] from dec_small (by omega)]
      refine (show Calls Tryz.prog 74 #[.string (bs [48])] w _ from digits0 w).mono ?_
      rintro e w' ⟨rfl, rfl⟩
      exact ⟨none, 0, 0, rfl, by rw [D_zero]; exact IsZ.nil _ _ _ (Nat.zero_le _), Below.refl _ _⟩
    · exact digitsP (bs (Lib.decDigits n)) n h0 hz (by rw [← toList_eq, bs_toList]) w
  · rw [itoa_neg n hn, decide_eq_true (show -(n : Int) < 0 by omega)]
    rw [Int.natAbs_neg, Int.natAbs_natCast] at hz ⊢
    exact digitsN (bs (45 :: Lib.decDigits n)) n hn hz (by rw [← toList_eq, bs_toList]) w
/-- which strings are integers -/
theorem rvalid_rd (s : ByteArray) (hs : s.size ≤ 9223372036854775807) (w : World) :
    Calls Tryz.prog 61 #[.string s] w fun e w' => e = .returned (.bool (rd s).isSome) ∧ w' = w := by
  refine (rvalid_any s hs w).mono ?_
  rintro e w' ⟨r, rfl, hr, rfl⟩
  refine ⟨?_, rfl⟩
  congr 2
  cases h : rd s with
  | none =>
    obtain ⟨l, rfl, hl⟩ := rd_none h
    cases r with
    | false => rfl
    | true => exact (hl (by have := hr.1 rfl; rwa [← toList_eq, bs_toList] at this)).elim
  | some z =>
    obtain ⟨hz, rfl⟩ := rd_eq h
    exact hr.2 (by rw [← toList_eq, bs_toList]; exact ⟨z, hz, rfl⟩)

end Go.Proofs.YtjkklgpbblkhaaaGreatDoor
