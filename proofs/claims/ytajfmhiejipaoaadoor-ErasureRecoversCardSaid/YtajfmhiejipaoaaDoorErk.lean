/-
  Layer 6: whether chunks fit.
-/
import Derived.Test.YtajfmhiejipaoaaDoorErj
namespace Go.Proofs.YtajfmhiejipaoaaDoor
open Go.RowKit Bs Ef

/-- the slice is these chunks -/
structure CkS (W : World) (a : Option Addr) (n c : Nat) (l : List (Int × ByteArray)) : Prop where
  len : l.length = n
  cap : n ≤ c
  mem : n = 0 ∨ ∃ g off, a = some ⟨g, off, none⟩ ∧ CkAt W g off l
theorem CkS.later {W W' : World} {a : Option Addr} {n c : Nat} {l : List (Int × ByteArray)} (h : CkS W a n c l) (hb : Below W.heap.size W W') : CkS W' a n c l :=
  ⟨h.len, h.cap, h.mem.imp id (fun ⟨g, off, e, k⟩ => ⟨g, off, e, k.later hb⟩)⟩
theorem CkRow.s {W : World} {g n : Nat} {l : List (Int × ByteArray)} (h : CkRow W g l) (hn : l.length = n) : CkS W (some ⟨g, 0, none⟩) n n l := ⟨hn, Nat.le_refl _, .inr ⟨g, 0, rfl, h.at⟩⟩
abbrev ckI (C : List (Int × ByteArray)) (i : Nat) : Int × ByteArray := C.getD i (0, ⟨#[]⟩)
theorem ckI_eq (C : List (Int × ByteArray)) (i : Nat) (h : i < C.length) : ckI C i = C[i] := by
  unfold ckI; rw [List.getD_eq_getElem?_getD, List.getElem?_eq_getElem h]; rfl
def goodI (C : List (Int × ByteArray)) (count len i : Nat) : Prop := 0 ≤ (ckI C i).1 ∧ (ckI C i).1 < count ∧ (∀ k, k < i → (ckI C k).1 ≠ (ckI C i).1) ∧ (ckI C i).2.size = len
instance goodI_dec (C : List (Int × ByteArray)) (count len i : Nat) : Decidable (goodI C count len i) := by unfold goodI; infer_instance
def fitP (C : List (Int × ByteArray)) (need count : Nat) : Prop := need ≤ C.length ∧ C.length ≤ count ∧ (ckI C 0).2.size * need ≤ 4098 + missN 4098 need ∧ ∀ i, i < C.length → goodI C count (ckI C 0).2.size i
instance fitP_dec (C : List (Int × ByteArray)) (need count : Nat) : Decidable (fitP C need count) := by unfold fitP; infer_instance
/-- a row of truth values -/
def BArr (W : World) (g : Nat) (l : List Bool) : Prop := W.heap[g]? = some (.cells (l.map Value.bool).toArray 86 (0, 0))
section
variable {W W' : World} {g : Nat} {l : List Bool}
theorem BArr.lt (h : BArr W g l) : g < W.heap.size := (Array.getElem?_eq_some_iff.1 h).1
theorem BArr.get (h : BArr W g l) (i : Nat) (hi : i < l.length) : W.cell? ⟨g, i, none⟩ = some (.bool l[i]) := by
  rw [cell_of_row W g i _ _ _ h]; simp [hi]
theorem BArr.free (h : BArr W g l) (i : Nat) : W.frozen? ⟨g, i, none⟩ = false := frozen_of_row W g i _ _ h
theorem BArr.later (h : BArr W g l) (hb : Below W.heap.size W W') : BArr W' g l := (hb.block g h.lt).trans h
theorem BArr.set (h : BArr W g l) (i : Nat) (b : Bool) : BArr (W.setCell ⟨g, i, none⟩ (.bool b)) g (l.set i b) := by
  unfold BArr
  rw [heap_setCell_same W g i _ _ _ h]
  simp [List.map_set]
end
abbrev seenB (C : List (Int × ByteArray)) (i : Nat) : List Bool := (List.range 16).map (fun (k : Nat) => decide (∃ j, j < i ∧ (ckI C j).1 = (k : Int)))
theorem seen_set (C : List (Int × ByteArray)) (i z : Nat) (h : (ckI C i).1 = (z : Int)) : (seenB C i).set z true = seenB C (i + 1) := by
  apply List.ext_getElem
  · simp
  · intro k h1 h2
    simp only [List.getElem_set, List.getElem_map, List.getElem_range]
    by_cases hk : z = k
    · rw [if_pos hk]
      exact (decide_eq_true ⟨i, by omega, by rw [h, hk]⟩).symm
    · rw [if_neg hk]
      congr 1
      refine propext ⟨fun ⟨j, hj, e⟩ => ⟨j, by omega, e⟩, fun ⟨j, hj, e⟩ => ⟨j, ?_, e⟩⟩
      rcases Nat.lt_or_ge j i with h3 | h3
      · exact h3
      · exfalso
        obtain rfl : j = i := by omega
        rw [h] at e
        exact hk (by omega)
theorem seen_zero (C : List (Int × ByteArray)) : seenB C 0 = List.replicate 16 false := by
  apply List.ext_getElem
  · simp
  · intro k h1 h2
    rw [List.getElem_map, List.getElem_range, List.getElem_replicate]
    exact decide_eq_false (fun ⟨j, hj, _⟩ => by omega)

set_option maxRecDepth 100000 in
set_option maxHeartbeats 4000000 in
theorem fit_any (C : List (Int × ByteArray)) (a : Option Addr) (n c need count : Nat) (w : World) (hC : CkS w a n c C) (h1 : 1 ≤ need) (h2 : need ≤ count) (h3 : count ≤ 16) (hn : n ≤ 100000) (hsz : ∀ i, (ckI C i).2.size ≤ 1000000) :
    Calls Tryd.prog 50 #[.slice a n c, .int .i64 (need : Int), .int .i64 (count : Int)] w fun e w' => e = .returned (.bool (decide (fitP C need count))) ∧ Below w.heap.size w w' := by
  have hcl := hC.len
  have hcap := hC.cap
  by_cases ha : n < need
  · have a1 : decide (n < need) = true := decide_eq_true ha
    rw [decide_eq_false (show ¬ fitP C need count from fun h => by have := h.1; omega)]
    go_enter Tryd.func50, Tryd.ntmps50
    go_wp2_with fail
    go_ret
    exact ⟨rfl, Below.refl _ _⟩
  have a1 : decide (n < need) = false := decide_eq_false ha
  by_cases hb : count < n
  · have b1 : decide (count < n) = true := decide_eq_true hb
    rw [decide_eq_false (show ¬ fitP C need count from fun h => by have := h.2.1; omega)]
    go_enter Tryd.func50, Tryd.ntmps50
    go_wp2_with fail
    go_ret
    exact ⟨rfl, Below.refl _ _⟩
  have b1 : decide (count < n) = false := decide_eq_false hb
  obtain ⟨gk, off, rfl, hK⟩ := hC.mem.resolve_left (by omega)
  obtain ⟨q1, q2⟩ := hK.cell 0 (by omega)
  rw [← ckI_eq C 0 (by omega)] at q2
  rw [show off + 0 * 2 + 1 = off + 1 from by omega] at q2
  have hs0 := hsz 0
  obtain ⟨S0, hS0⟩ : ∃ S, (ckI C 0).2 = S := ⟨_, rfl⟩
  obtain ⟨len, hlen⟩ : ∃ l, S0.size = l := ⟨_, rfl⟩
  rw [hS0] at q2 hs0
  rw [hlen] at hs0
  have hfit : fitP C need count ↔ (len * need ≤ 4098 + missN 4098 need ∧ ∀ i, i < n → goodI C count len i) := by
    unfold fitP
    rw [hS0, hlen, hcl]
    exact ⟨fun h => ⟨h.2.2.1, h.2.2.2⟩, fun h => ⟨by omega, by omega, h.1, h.2⟩⟩
  have hM := fun (W : World) => (show Calls Tryd.prog 67 #[.int .i64 4098, .int .i64 (need : Int)] W fun e w' => e = .returned (.int .i64 (missN 4098 need : Nat)) ∧ w' = W from missing_any 4098 need h1 (by omega) (by omega) W)
  have hml := missN_lt 4098 need h1
  obtain ⟨k, hk⟩ : ∃ k, missN 4098 need = k := ⟨_, rfl⟩
  rw [hk] at hM hml hfit
  have hpm : len * need ≤ 1000000 * 16 := Nat.mul_le_mul hs0 (by omega)
  obtain ⟨P, hP⟩ : ∃ P, len * need = P := ⟨_, rfl⟩
  rw [hP] at hfit hpm
  have hw1 : IntKind.i64.wrap ((len : Int) * (need : Int)) = (P : Int) := by
    rw [show (len : Int) * (need : Int) = (P : Int) from by rw [← hP, Int.natCast_mul], IntKind.wrap_i64]
    omega
  obtain ⟨Q, hQ⟩ : ∃ Q, 4098 + k = Q := ⟨_, rfl⟩
  rw [hQ] at hfit
  have hw2 : IntKind.i64.wrap (4098 + (k : Int)) = (Q : Int) := by rw [IntKind.wrap_i64]; omega
  have hw3 : (4098 : Int) + (k : Int) = (Q : Int) := by omega
  have HM := Lib.hid hM
  have HK := Lib.hid hK
  have HF := Lib.hid hfit
  clear hM hK hfit hk hP q1 hC
  by_cases hp : Q < P
  · have p1 : decide (Q < P) = true := decide_eq_true hp
    rw [decide_eq_false (show ¬ fitP C need count from fun h => by have := (HF.out.1 h).1; omega)]
    go_enter Tryd.func50, Tryd.ntmps50
    go_wp2_with (go_at_call 67; (with_reducible refine (HM.out _).mono ?_); rintro e w2 ⟨rfl, hw2⟩; rw [hw2]; clear hw2 w2)
    go_ret
    exact ⟨rfl, Below.refl _ _⟩
  have p1 : decide (Q < P) = false := decide_eq_false hp
  go_enter Tryd.func50, Tryd.ntmps50
  go_wp2_with (go_at_call 67; (with_reducible refine (HM.out _).mono ?_); rintro e w2 ⟨rfl, hw2⟩; rw [hw2]; clear hw2 w2)
  go_loopw [35] (fun v wr => ∃ i : Nat, i ≤ n ∧ v = .int .i64 i ∧ (∀ j, j < i → goodI C count len j) ∧ BArr wr w.heap.size (seenB C i) ∧ Below w.heap.size w wr) (fun v _ => n - (intOf v).toNat)
  case atStart =>
    refine ⟨0, Nat.zero_le _, rfl, fun j hj => absurd hj (by omega), ?_, (Below.refl _ w).alloc (Nat.le_refl _) _⟩
    rw [seen_zero]
    exact heap_alloc_new _ _
  case round =>
    obtain ⟨i, hi, rfl, hgd, hB, hw⟩ := hrel
    have HG := Lib.hid hgd
    have HB := Lib.hid hB
    have HW := Lib.hid hw
    have hs := hw.size
    clear hgd hB hw
    rcases Nat.lt_or_ge i n with hin | hin
    · obtain ⟨q1, q3⟩ := (HK.out.later HW.out).cell i (by omega)
      have hck := ckI_eq C i (by omega)
      rw [← hck] at q1 q3
      have HI := Lib.hid (fun (hbad : ¬ goodI C count len i) => (show decide (fitP C need count) = false from decide_eq_false (fun h => hbad ((HF.out.1 h).2 i hin))))
      have HGI := Lib.hid (fun (g : goodI C count len i) => (show ∀ j, j < i + 1 → goodI C count len j from fun j hj => by
        rcases Nat.lt_or_ge j i with h | h
        · exact HG.out j h
        · obtain rfl : j = i := by omega
          exact g))
      have hgi : goodI C count len i ↔ (0 ≤ (ckI C i).1 ∧ (ckI C i).1 < count ∧ (∀ k, k < i → (ckI C k).1 ≠ (ckI C i).1) ∧ (ckI C i).2.size = len) := Iff.rfl
      have hss := seen_set C i
      obtain ⟨z, hz⟩ : ∃ z, (ckI C i).1 = z := ⟨_, rfl⟩
      obtain ⟨S, hS⟩ : ∃ S, (ckI C i).2 = S := ⟨_, rfl⟩
      rw [hz] at q1 hgi hss
      rw [hS] at q3 hgi
      have HGI2 := Lib.hid hgi
      have HSS := Lib.hid hss
      have HA := Lib.hid (HB.out.later ((Below.refl wr.heap.size wr).alloc (Nat.le_refl _) (.cells #[.int .i64 z, .string S] 40)))
      have HWA := Lib.hid (HW.out.alloc hs (.cells #[.int .i64 z, .string S] 40))
      clear hgi hss hck hz hS
      rcases Int.lt_or_le z 0 with hz0 | hz0
      · have z1 : decide (z < 0) = true := decide_eq_true hz0
        have HFF := Lib.hid (HI.out (fun g => by have := (HGI2.out.1 g).1; omega))
        go_wp2_with fail
        go_ret
        exact ⟨by rw [HFF.out]; rfl, HWA.out⟩
      · obtain ⟨zn, rfl⟩ : ∃ m : Nat, z = (m : Int) := ⟨z.toNat, by omega⟩
        have z1 : decide ((zn : Int) < 0) = false := decide_eq_false (by omega)
        rcases Nat.lt_or_ge zn count with hzc | hzc
        · have z2 : decide (count ≤ zn) = false := decide_eq_false (by omega)
          have z3 : ¬ (count ≤ zn) := by omega
          have hgc := HA.out.get zn (by simp; omega)
          have hgv : (seenB C i)[zn]'(by simp; omega) = decide (∃ j, j < i ∧ (ckI C j).1 = (zn : Int)) := by simp
          rw [hgv] at hgc
          have hgf := HA.out.free zn
          clear hgv
          by_cases hseen : ∃ j, j < i ∧ (ckI C j).1 = (zn : Int)
          · rw [decide_eq_true hseen] at hgc
            have HFF := Lib.hid (HI.out (fun g => by obtain ⟨j, hj, e⟩ := hseen; exact (HGI2.out.1 g).2.2.1 j hj e))
            clear hseen
            go_wp2_with fail
            go_ret
            exact ⟨by rw [HFF.out]; rfl, HWA.out⟩
          · rw [decide_eq_false hseen] at hgc
            rcases Decidable.em (S.size = len) with hl | hl
            · have l1 : ((S.size : Int) == (len : Int)) = true := by rw [hl]; exact beq_self_eq_true _
              have l2 : ((S.size : Int) != (len : Int)) = false := by rw [bne, l1]; rfl
              have HGG := Lib.hid (HGI.out (HGI2.out.2 ⟨by omega, by omega, fun k hk e => hseen ⟨k, hk, e⟩, hl⟩))
              clear hseen hl
              go_wp2_with fail
              go_roundw
              case rel => exact ⟨i + 1, hin, by go_num, HGG.out, by rw [← HSS.out zn rfl]; exact HA.out.set zn true, HWA.out.setCell (p := ⟨w.heap.size, zn, none⟩) (Nat.le_refl _) _⟩
              case measure => simp [intOf]; omega
            · have l1 : ((S.size : Int) == (len : Int)) = false := beq_false_of_ne (by omega)
              have l2 : ((S.size : Int) != (len : Int)) = true := by rw [bne, l1]; rfl
              have HFF := Lib.hid (HI.out (fun g => hl (HGI2.out.1 g).2.2.2))
              clear hseen
              go_wp2_with fail
              go_ret
              exact ⟨by rw [HFF.out]; rfl, HWA.out⟩
        · have z2 : decide (count ≤ zn) = true := decide_eq_true (by omega)
          have HFF := Lib.hid (HI.out (fun g => by have := (HGI2.out.1 g).2.1; omega))
          go_wp2_with fail
          go_ret
          exact ⟨by rw [HFF.out]; rfl, HWA.out⟩
    · obtain rfl : i = n := by omega
      have HFF := Lib.hid (decide_eq_true (HF.out.2 ⟨by omega, HG.out⟩))
      go_wp2_with fail
      go_ret
      exact ⟨by rw [HFF.out]; rfl, HW.out⟩

end Go.Proofs.YtajfmhiejipaoaaDoor
