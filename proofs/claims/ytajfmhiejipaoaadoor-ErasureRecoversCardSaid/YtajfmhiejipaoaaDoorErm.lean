/-
  Layer 6: roots of chunks; Consistent.
-/
import Derived.Test.YtajfmhiejipaoaaDoorErl
import Derived.Test.YtajfmhiejipaoaaDoorDrt
namespace Go.Proofs.YtajfmhiejipaoaaDoor
open Go.RowKit Bs Ef

/-- a row of strings -/
def SRow (W : World) (g : Nat) (l : List ByteArray) : Prop := W.heap[g]? = some (.cells (l.map Value.string).toArray 9 (0, 0))
section
variable {W W' : World} {g : Nat} {l : List ByteArray}
theorem SRow.lt (h : SRow W g l) : g < W.heap.size := (Array.getElem?_eq_some_iff.1 h).1
theorem SRow.get (h : SRow W g l) (i : Nat) (hi : i < l.length) : W.cell? ⟨g, i, none⟩ = some (.string l[i]) := by
  rw [cell_of_row W g i _ _ _ h]; simp [hi]
theorem SRow.free (h : SRow W g l) (i : Nat) : W.frozen? ⟨g, i, none⟩ = false := frozen_of_row W g i _ _ h
theorem SRow.later (h : SRow W g l) (hb : Below W.heap.size W W') : SRow W' g l := (hb.block g h.lt).trans h
theorem SRow.set (h : SRow W g l) (i : Nat) (b : ByteArray) : SRow (W.setCell ⟨g, i, none⟩ (.string b)) g (l.set i b) := by
  unfold SRow
  rw [heap_setCell_same W g i _ _ _ h]
  simp [List.map_set]
end
theorem infoS : (Tryd.prog.info? 9).map (fun i => (i.zero, i.size, i.bytes)) = some (some (.string ⟨#[]⟩), 1, 16) := by kernel_rfl
theorem mkS (w : World) (n : Nat) (h : n ≤ 100000) : (Instr.makeSlice 49 (.int .i64 (n : Int)) (.int .i64 (n : Int))).run Tryd.prog w = .ok (.slice (some ⟨w.heap.size, 0, none⟩) n n) (w.alloc (.cells ((List.replicate n (⟨#[]⟩ : ByteArray)).map Value.string).toArray 9)) := by
  obtain ⟨i0, hi, hz0, hz1, hz2⟩ := info_parts infoS
  have h := run_makeSlice (P := Tryd.prog) w 49 9 i0 (.string ⟨#[]⟩) Tryd.underlying49 hi hz0 .i64 .i64 n n (by omega) (by omega) (by rw [hz1]; omega) (by rw [hz2]; omega) (by omega)
  rw [h, hz1]
  have e : madeCells (Value.string ⟨#[]⟩).cells (Int.toNat n * 1) = ((List.replicate n (⟨#[]⟩ : ByteArray)).map Value.string).toArray := by
    rw [Nat.mul_one, Int.toNat_natCast]
    apply Array.ext
    · rw [size_madeCells]; simp
    · intro i h1 h2
      simp [madeCells, Value.cells, Nat.mod_one]
  rw [e]
  simp
abbrev uptoS (C : List (Int × ByteArray)) (n i : Nat) : List ByteArray := (List.range n).map (fun k => if k < i then (ckI C k).2 else ⟨#[]⟩)
theorem uptoS_zero (C : List (Int × ByteArray)) (n : Nat) : uptoS C n 0 = List.replicate n ⟨#[]⟩ := by
  apply List.ext_getElem
  · simp
  · intro k h1 h2
    rw [List.getElem_map, List.getElem_range, List.getElem_replicate, if_neg (by omega)]
theorem uptoS_set (C : List (Int × ByteArray)) (n i : Nat) : (uptoS C n i).set i (ckI C i).2 = uptoS C n (i + 1) := by
  apply List.ext_getElem
  · simp
  · intro k h1 h2
    simp only [List.getElem_set, List.getElem_map, List.getElem_range]
    by_cases h : i = k
    · rw [if_pos h, if_pos (by omega), h]
    · rw [if_neg h]
      by_cases h3 : k < i
      · rw [if_pos h3, if_pos (by omega)]
      · rw [if_neg h3, if_neg (by omega)]
/-- the data of chunks -/
abbrev dataOf (C : List (Int × ByteArray)) : Strs := C.map (fun c => c.2.data.toList)
theorem uptoS_parts {W : World} {g : Nat} (C : List (Int × ByteArray)) (n : Nat) (hn : C.length = n) (h : SRow W g (uptoS C n n)) : PartsAt W g 0 (dataOf C) := fun i hi => by
  rw [List.length_map] at hi
  rw [Nat.zero_add, h.get i (by rw [List.length_map, List.length_range]; omega)]
  congr 2
  rw [List.getElem_map, List.getElem_range, if_pos (by omega), ckI_eq C i hi, List.getD_eq_getElem?_getD, List.getElem?_map, List.getElem?_eq_getElem hi]
  exact (bs_bytes _).symm

set_option maxRecDepth 100000 in
set_option maxHeartbeats 1000000 in
theorem data1_any (a : Int) (s : ByteArray) (w : World) :
    Calls Tryd.prog 47 #[.agg #[.int .i64 a, .string s]] w fun e w' => e = .returned (.string s) ∧ Below w.heap.size w w' := by
  go_enter Tryd.func47, Tryd.ntmps47
  go_wp2_with fail
  go_ret
  exact ⟨rfl, (Below.refl _ _).alloc (Nat.le_refl _) _⟩

set_option maxRecDepth 100000 in
set_option maxHeartbeats 2000000 in
theorem mapS_any (C : List (Int × ByteArray)) (gk off n c : Nat) (w : World) (hn : C.length = n) (hn2 : n ≤ 100000) (hK : CkAt w gk off C) (hc : n ≤ c) :
    Calls Tryd.prog 46 #[.slice (some ⟨gk, off, none⟩) n c, .func (.func 47) #[] #[]] w fun e w' =>
      ∃ gv, w.heap.size ≤ gv ∧ e = .returned (.slice (some ⟨gv, 0, none⟩) n n) ∧ PartsAt w' gv 0 (dataOf C) ∧ Below w.heap.size w w' := by
  have hmk := mkS w n hn2
  have hA0 : SRow (w.alloc (.cells ((List.replicate n (⟨#[]⟩ : ByteArray)).map Value.string).toArray 9)) w.heap.size (uptoS C n 0) := by rw [uptoS_zero]; exact heap_alloc_new _ _
  have hB0 : Below w.heap.size w (w.alloc (.cells ((List.replicate n (⟨#[]⟩ : ByteArray)).map Value.string).toArray 9)) := (Below.refl _ w).alloc (Nat.le_refl _) _
  obtain ⟨W0, hW0⟩ : ∃ W, w.alloc (.cells ((List.replicate n (⟨#[]⟩ : ByteArray)).map Value.string).toArray 9) = W := ⟨_, rfl⟩
  rw [hW0] at hmk hA0 hB0
  clear hW0
  go_enter Tryd.func46, Tryd.ntmps46
  go_wp2_with fail
  go_loopw [13] (fun i wr => ∃ j : Nat, j ≤ n ∧ i = .int .i64 j ∧ SRow wr w.heap.size (uptoS C n j) ∧ Below w.heap.size w wr) (fun i _ => n - (intOf i).toNat)
  case atStart => exact ⟨0, Nat.zero_le _, rfl, hA0, hB0⟩
  case round =>
    obtain ⟨j, hj, rfl, hA, hw⟩ := hrel
    rcases Nat.lt_or_ge j n with h | h
    · obtain ⟨q1, q2⟩ := (hK.below hw hK.lt).cell j (by omega)
      have hck := ckI_eq C j (by omega)
      rw [← hck] at q1 q2
      have hst := uptoS_set C n j
      obtain ⟨ix, hix⟩ : ∃ a, (ckI C j).1 = a := ⟨_, rfl⟩
      obtain ⟨da, hda⟩ : ∃ a, (ckI C j).2 = a := ⟨_, rfl⟩
      rw [hix] at q1
      rw [hda] at q2 hst
      have HST := Lib.hid hst
      have HA := Lib.hid hA
      have HW := Lib.hid hw
      clear hA hw hck hix hda hst
      go_wp2_with (go_at_call 47; (with_reducible refine (data1_any _ _ _).mono ?_); rintro e w2 ⟨rfl, hB2⟩; have hwa := HW.out.size; have hA2 := (HA.out.later ((Below.refl wr.heap.size wr).alloc (Nat.le_refl _) (.cells #[.int .i64 ix, .string da] 40))).later hB2; have hw2 := below_on (HW.out.alloc hwa (.cells #[.int .i64 ix, .string da] 40)) hB2 (by rw [World.size_alloc]; omega); have a1 := hA2.free j; obtain ⟨u, a2⟩ : ∃ u, w2.cell? ⟨w.heap.size, j, none⟩ = some (.string u) := ⟨_, hA2.get j (by rw [List.length_map, List.length_range]; omega)⟩)
      go_roundw
      case rel => exact ⟨j + 1, h, by go_num, by rw [← HST.out]; exact hA2.set j da, hw2.setCell (p := ⟨w.heap.size, j, none⟩) (Nat.le_refl _) _⟩
      case measure => simp [intOf]; omega
    · obtain rfl : j = n := by omega
      go_wp2_with fail
      go_ret
      exact ⟨_, Nat.le_refl _, rfl, uptoS_parts C j hn hA, hw⟩

set_option maxRecDepth 100000 in
set_option maxHeartbeats 1000000 in
theorem Root_ck (C : List (Int × ByteArray)) (gk off n c : Nat) (w : World) (hn : C.length = n) (hn0 : 1 ≤ n) (hn2 : n ≤ 100000) (hK : CkAt w gk off C) (hc : n ≤ c) (hsz : ∀ i, (ckI C i).2.size ≤ 100000) (hT : KAt w) :
    Calls Tryd.prog 23 #[.slice (some ⟨gk, off, none⟩) n c] w fun e w' => e = .returned (.string (bs (Tr.root dig (dataOf C)))) ∧ Below w.heap.size w w' := by
  have hM := mapS_any C gk off n c w hn hn2 hK hc
  have hR := fun (W : World) (g : Nat) (hP : PartsAt W g 0 (dataOf C)) (hk : KAt W) => Root_at n (dataOf C) g 0 n n W (Nat.le_refl _) (by rw [List.length_map]; exact hn) hn0 (Nat.le_refl _) (by unfold maxLen; omega) (by omega) (fun s hs => by
    obtain ⟨x, hx, rfl⟩ := List.mem_map.1 hs
    obtain ⟨i, hi, rfl⟩ := List.mem_iff_getElem.1 hx
    have := hsz i
    rw [ckI_eq C i hi] at this
    exact this) hP hk
  obtain ⟨R, hRR⟩ : ∃ R, Tr.root dig (dataOf C) = R := ⟨_, rfl⟩
  rw [hRR] at hR ⊢
  have HM := Lib.hid hM
  have HR := Lib.hid hR
  clear hM hR hRR
  go_enter Tryd.func23, Tryd.ntmps23
  go_wp2_with (first
    | (go_at_call 46; (with_reducible refine HM.out.mono ?_); rintro e w1 ⟨gv, hgv, rfl, hP, hB1⟩)
    | (go_at_call 35; (with_reducible refine (HR.out _ _ hP (hT.below hB1)).mono ?_); rintro e w2 ⟨rfl, hB2⟩))
  go_ret
  exact ⟨rfl, below_on hB1 hB2 hB1.size⟩

/-- chunks in order -/
def ordP (C : List (Int × ByteArray)) (count : Nat) : Prop := C.length = count ∧ ∀ i, i < C.length → (ckI C i).1 = (i : Int)
instance ordP_dec (C : List (Int × ByteArray)) (count : Nat) : Decidable (ordP C count) := by unfold ordP; infer_instance

set_option maxRecDepth 100000 in
set_option maxHeartbeats 2000000 in
theorem Consistent_any (C : List (Int × ByteArray)) (a : Option Addr) (n c need count : Nat) (w : World) (hC : CkS w a n c C) (h1 : 1 ≤ need) (h2 : need ≤ count) (h3 : count ≤ 16) (hn : n ≤ 100000) (hsz : ∀ i, (ckI C i).2.size ≤ 1000000) :
    Calls Tryd.prog 29 #[.slice a n c, .int .i64 (need : Int), .int .i64 (count : Int)] w fun e w' => e = .returned (.bool (decide (ordP C count ∧ (decS C need count).2 = 0))) ∧ Below w.heap.size w w' := by
  have hcl := hC.len
  by_cases hln : n = count
  · have l1 : ((n : Int) == (count : Int)) = true := by rw [hln]; exact beq_self_eq_true _
    have l2 : ((n : Int) != (count : Int)) = false := by rw [bne, l1]; rfl
    obtain ⟨gk, off, rfl, hK⟩ := hC.mem.resolve_left (by omega)
    have hD := fun (W : World) (hb : Below w.heap.size w W) => Decode_any C (some ⟨gk, off, none⟩) n c need count W (hC.later hb) h1 h2 h3 hn hsz
    obtain ⟨d1, d2, hd⟩ : ∃ d1 d2, decS C need count = (d1, d2) := ⟨_, _, rfl⟩
    rw [hd] at hD ⊢
    have HD := Lib.hid hD
    have HK := Lib.hid hK
    have HL := Lib.hid hln
    clear hD hd hK hln hC
    go_enter Tryd.func29, Tryd.ntmps29
    go_wp2_with fail
    go_loopw [17] (fun v wr => ∃ i : Nat, i ≤ n ∧ v = .int .i64 i ∧ (∀ j, j < i → (ckI C j).1 = (j : Int)) ∧ Below w.heap.size w wr) (fun v _ => n - (intOf v).toNat)
    case atStart => exact ⟨0, Nat.zero_le _, rfl, fun j hj => absurd hj (by omega), Below.refl _ _⟩
    case round =>
      obtain ⟨i, hi, rfl, hmt, hw⟩ := hrel
      have HM := Lib.hid hmt
      have hs := hw.size
      rcases Nat.lt_or_ge i n with hin | hin
      · obtain ⟨q1, q3⟩ := (HK.out.later hw).cell i (by omega)
        have hck := ckI_eq C i (by omega)
        rw [← hck] at q1 q3
        have HAL := Lib.hid (fun (z : Int) (S : ByteArray) => hw.alloc hs (.cells #[.int .i64 z, .string S] 40))
        obtain ⟨z, hz⟩ : ∃ z, (ckI C i).1 = z := ⟨_, rfl⟩
        obtain ⟨S, hS⟩ : ∃ S, (ckI C i).2 = S := ⟨_, rfl⟩
        rw [hz] at q1
        rw [hS] at q3
        have HZ := Lib.hid hz
        clear hck hz hS hmt hw
        by_cases hzi : z = (i : Int)
        · subst hzi
          have HMM := Lib.hid (show ∀ j, j < i + 1 → (ckI C j).1 = (j : Int) from fun j hj => by
            rcases Nat.lt_or_ge j i with h | h
            · exact HM.out j h
            · obtain rfl : j = i := by omega
              exact HZ.out)
          go_wp2_with fail
          go_roundw
          case rel => exact ⟨i + 1, hin, by go_num, HMM.out, HAL.out _ _⟩
          case measure => simp [intOf]; omega
        · have z1 : (z == (i : Int)) = false := beq_false_of_ne hzi
          have z2 : (z != (i : Int)) = true := by rw [bne, z1]; rfl
          have HN := Lib.hid (show decide (ordP C count ∧ d2 = 0) = false from decide_eq_false (fun h => hzi (by rw [← HZ.out]; exact h.1.2 i (by omega))))
          clear hzi
          go_wp2_with fail
          go_ret
          exact ⟨by rw [HN.out]; rfl, HAL.out _ _⟩
      · obtain rfl : i = n := by omega
        have HW := Lib.hid hw
        clear hw hmt
        by_cases hd2 : d2 = 0
        · have HN := Lib.hid (show decide (ordP C count ∧ d2 = 0) = true from decide_eq_true ⟨⟨hcl.trans HL.out, fun j hj => HM.out j (by omega)⟩, hd2⟩)
          have z1 : (d2 == 0) = true := by rw [hd2]; rfl
          have z2 : decide (d2 = 0) = true := decide_eq_true hd2
          clear hd2
          go_wp2_with (go_at_call 27; (with_reducible refine (HD.out _ HW.out).mono ?_); rintro e w2 ⟨rfl, hB2⟩)
          go_ret
          exact ⟨by rw [HN.out]; first | rfl | (rw [← z1]; rfl) | (rw [← z2]; rfl), below_on HW.out hB2 HW.out.size⟩
        · have HN := Lib.hid (show decide (ordP C count ∧ d2 = 0) = false from decide_eq_false (fun h => hd2 h.2))
          have z1 : (d2 == 0) = false := beq_false_of_ne hd2
          have z2 : decide (d2 = 0) = false := decide_eq_false hd2
          clear hd2
          go_wp2_with (go_at_call 27; (with_reducible refine (HD.out _ HW.out).mono ?_); rintro e w2 ⟨rfl, hB2⟩)
          go_ret
          exact ⟨by rw [HN.out]; first | rfl | (rw [← z1]; rfl) | (rw [← z2]; rfl), below_on HW.out hB2 HW.out.size⟩
  · have l1 : ((n : Int) == (count : Int)) = false := beq_false_of_ne (by omega)
    have l2 : ((n : Int) != (count : Int)) = true := by rw [bne, l1]; rfl
    rw [decide_eq_false (show ¬ (ordP C count ∧ (decS C need count).2 = 0) from fun h => hln (hcl.symm.trans h.1.1))]
    clear hln
    go_enter Tryd.func29, Tryd.ntmps29
    go_wp2_with fail
    go_ret
    exact ⟨rfl, Below.refl _ _⟩

end Go.Proofs.YtajfmhiejipaoaaDoor
