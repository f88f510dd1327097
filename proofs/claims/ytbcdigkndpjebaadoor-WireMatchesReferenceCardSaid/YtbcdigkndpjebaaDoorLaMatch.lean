/-
  The law WireMatchesReference: what the program and the reference return is the same, and the walk.
-/
import Derived.Test.YtbcdigkndpjebaaDoorLaUniq
import Derived.Test.YtbcdigkndpjebaaDoorWaRefI
namespace Go.Proofs.YtbcdigkndpjebaaDoor
open Go.RowKit

theorem PutInt_two (n : Int) (v : List UInt8) (e : Int) (h : putB n = (v, e)) (w : World) (h1 : -9223372036854775808 ≤ n) (h2 : n ≤ 9223372036854775807) :
    Calls Tryd.prog 12 #[.int .i64 n] w fun x w' => x = .returned (.tuple #[.string (bs v), .int .i64 e]) ∧ Below w.heap.size w w' := by
  have := PutInt_any n w h1 h2
  rw [h] at this
  exact this
theorem refPutInt_two (n : Int) (v : List UInt8) (e : Int) (h : putB n = (v, e)) (w : World) (h1 : -9223372036854775808 ≤ n) (h2 : n ≤ 9223372036854775807) :
    Calls Tryd.prog 13 #[.int .i64 n] w fun x w' => x = .returned (.tuple #[.string (bs v), .int .i64 e]) ∧ Below w.heap.size w w' := by
  have := refPutInt_any n w h1 h2
  rw [h] at this
  exact this
theorem PutString_two (s v : List UInt8) (e : Int) (h : putS s = (v, e)) (w : World) (hs : s.length ≤ 9223372036854775807) :
    Calls Tryd.prog 19 #[.string (bs s)] w fun x w' => x = .returned (.tuple #[.string (bs v), .int .i64 e]) ∧ Below w.heap.size w w' := by
  have := PutString_any s w hs
  rw [h] at this
  exact this
theorem refPutString_two (s v : List UInt8) (e : Int) (h : putS s = (v, e)) (w : World) (hs : s.length ≤ 9223372036854775807) :
    Calls Tryd.prog 20 #[.string (bs s)] w fun x w' => x = .returned (.tuple #[.string (bs v), .int .i64 e]) ∧ Below w.heap.size w w' := by
  have := refPutString_any s w hs
  rw [h] at this
  exact this
theorem refString_is (l : List UInt8) (at_ : Int) (v : List UInt8) (next e : Int) (h : strB l at_ = (v, next, e)) (w : World) (hs : l.length ≤ 1000) (h1 : -9223372036854775808 ≤ at_) (h2 : at_ ≤ 9223372036854775807) :
    Calls Tryd.prog 18 #[.string (bs l), .int .i64 at_] w fun x w' => x = .returned (.tuple #[.string (bs v), .int .i64 next, .int .i64 e]) ∧ Below w.heap.size w w' :=
  (refString_any l at_ w hs h1 h2).mono fun e w' ⟨he, hw⟩ => ⟨by rw [he, h]; rfl, hw⟩

/-- the world at the head of a round: the two numbers lie in block B -/
structure TwoAt (w : World) (B : Nat) (a b : Int) (wr : World) : Prop where
  below : Below w.heap.size w wr
  c0 : wr.cell? ⟨B, 0, none⟩ = some (.int .i64 a)
  c1 : wr.cell? ⟨B, 1, none⟩ = some (.int .i64 b)
  lt : B < wr.heap.size
  le : w.heap.size ≤ B
theorem TwoAt.next {w : World} {B : Nat} {a b : Int} {wr wr' : World} (h : TwoAt w B a b wr) (hb : Below wr.heap.size wr wr') : TwoAt w B a b wr' :=
  ⟨below_on h.below hb (by have := h.lt; have := h.le; omega), (hb.cell (p := ⟨B, 0, none⟩) h.lt).trans h.c0, (hb.cell (p := ⟨B, 1, none⟩) h.lt).trans h.c1, Nat.lt_of_lt_of_le h.lt hb.size, h.le⟩
theorem TwoAt.read {w : World} {B : Nat} {a b : Int} {wr : World} (h : TwoAt w B a b wr) (ha : -9223372036854775808 ≤ a ∧ a ≤ 9223372036854775807) (hb : -9223372036854775808 ≤ b ∧ b ≤ 9223372036854775807) (j : Nat) (hj : j < 2) :
    ∃ k : Int, wr.cell? ⟨B, j, none⟩ = some (.int .i64 k) ∧ -9223372036854775808 ≤ k ∧ k ≤ 9223372036854775807 := by
  rcases (show j = 0 ∨ j = 1 by omega) with rfl | rfl
  · exact ⟨a, h.c0, ha⟩
  · exact ⟨b, h.c1, hb⟩
theorem TwoAt.start {w W : World} (h : Below w.heap.size w W) (a b : Int) : TwoAt w W.heap.size a b (W.alloc (.cells #[.int .i64 a, .int .i64 b] 3)) :=
  ⟨h.alloc h.size _, by rw [cell_of_row _ _ _ _ _ _ (heap_alloc_new _ _)]; rfl, by rw [cell_of_row _ _ _ _ _ _ (heap_alloc_new _ _)]; rfl, by simp, h.size⟩

set_option maxRecDepth 100000 in
set_option maxHeartbeats 1000000 in
theorem Matches_any (n : Int) (s : ByteArray) (at_ : Int) (w : World) (h : TabAt w) (n1 : -9223372036854775808 ≤ n) (n2 : n ≤ 9223372036854775807) (c1 : -9223372036854775808 ≤ at_) (c2 : at_ ≤ 9223372036854775807) :
    Calls Tryd.prog 3 #[.int .i64 n, .string s, .int .i64 at_] w fun e w' => e = .returned (.bool true) ∧ Below w.heap.size w w' := by
  obtain ⟨m0, T, ⟨m0a, m0b⟩, x0, l0, e0, -⟩ := cut_string s 300
  have r0 := fun w ts ty => min_run (P := Tryd.prog) s.size 300 m0 e0 300 rfl w ts ty
  have ht : T.length ≤ 300 := by omega
  clear e0 l0
  go_enter Tryd.func3, Tryd.ntmps3
  go_wp2_with fail
  refine (sane_any _ h).mono ?_
  rintro e w1 ⟨rfl, b1⟩
  go_wp2_with fail
  refine (NumberFrom_any n _ n1 n2).mono ?_
  rintro e w2 ⟨rfl, b2⟩
  have B2 := below_on b1 b2 b1.size
  have hnf := nf_bd n
  generalize nf n = k1 at *
  go_wp2_with fail
  have q := TwoAt.start B2 n k1
  obtain ⟨B, hBB⟩ : ∃ B, B = w2.heap.size := ⟨_, rfl⟩
  rw [← hBB] at q ⊢
  generalize w2.alloc (.cells #[.int .i64 n, .int .i64 k1] 3) = W2 at *
  clear hBB B2 b1 b2
  go_loopw [44] (fun i wr => ∃ j : Nat, j ≤ 2 ∧ i = .int .i64 j ∧ TwoAt w B n k1 wr) (fun i _ => 2 - (intOf i).toNat)
  case atStart => exact ⟨0, by omega, rfl, q⟩
  case round =>
    obtain ⟨j, hj, rfl, hU⟩ := hrel
    rcases Nat.lt_or_ge j 2 with hj2 | hj2
    · obtain ⟨k, hc, d1, d2⟩ := hU.read ⟨n1, n2⟩ (by omega) j hj2
      obtain ⟨v, e, hv⟩ : ∃ v e, putB k = (v, e) := ⟨_, _, rfl⟩
      have V := Lib.hid hv
      clear hv
      go_wp2_with fail
      refine (PutInt_two k v e V.out _ d1 d2).mono ?_
      rintro e' w3 ⟨rfl, b3⟩
      have hU3 := hU.next b3
      clear hU b3 hc
      go_wp2_with fail
      refine (refPutInt_two k v e V.out _ d1 d2).mono ?_
      rintro e' w4 ⟨rfl, b4⟩
      have hU4 := hU3.next b4
      clear hU3 b4
      go_wp2_with fail
      go_roundw
      case rel => exact ⟨j + 1, by omega, by go_num, hU4⟩
      case measure => simp [intOf]; omega
    · have hB := hU.below
      clear hU q hnf hj
      have hsz : ∀ l, (bs l).size = l.length := bs_size
      go_wp2_with fail
      obtain ⟨k2, hk2⟩ : ∃ k2, pk at_ ((T.length : Int) + 2) = k2 := ⟨_, rfl⟩
      have hb2 : 0 ≤ k2 ∧ k2 ≤ 1000 := by have := pk_bd at_ (n := (T.length : Int) + 2) (by omega); omega
      refine (pick_any _ _ _ c1 c2 (by omega) (by omega)).mono ?_
      rintro e w2 ⟨rfl, rfl⟩
      rw [hk2]
      clear hk2
      go_wp2_with fail
      have q := TwoAt.start hB at_ k2
      obtain ⟨B', hBB⟩ : ∃ B', B' = wr.heap.size := ⟨_, rfl⟩
      rw [← hBB] at q ⊢
      generalize wr.alloc (.cells #[.int .i64 at_, .int .i64 k2] 3) = W3 at *
      clear hBB hB
      go_loopw [75] (fun i wr => ∃ j : Nat, j ≤ 2 ∧ i = .int .i64 j ∧ TwoAt w B' at_ k2 wr) (fun i _ => 2 - (intOf i).toNat)
      case atStart => exact ⟨0, by omega, rfl, q⟩
      case round =>
        obtain ⟨i, hi, rfl, hU⟩ := hrel
        rcases Nat.lt_or_ge i 2 with hi2 | hi2
        · obtain ⟨k, hc, d1, d2⟩ := hU.read ⟨c1, c2⟩ (by omega) i hi2
          obtain ⟨a, x, e, hf⟩ : ∃ a x e, intB (nb T) k = (a, x, e) := ⟨_, _, _, rfl⟩
          obtain ⟨v, y, g, hg⟩ : ∃ v y g, strB T k = (v, y, g) := ⟨_, _, _, rfl⟩
          have F := Lib.hid hf
          have G := Lib.hid hg
          clear hf hg
          go_wp2_with fail
          refine (Int_is T k _ _ _ F.out _ (by unfold maxLen; omega) d1 d2).mono ?_
          rintro e' w3 ⟨rfl, rfl⟩
          go_wp2_with fail
          refine (refInt_is T k _ _ _ F.out _ (by omega) d1 d2).mono ?_
          rintro e' w3 ⟨rfl, b3⟩
          have hU3 := hU.next b3
          clear hU b3 hc
          go_wp2_with fail
          refine (String_is T k _ _ _ G.out _ (by unfold maxLen; omega) d1 d2).mono ?_
          rintro e' w4 ⟨rfl, rfl⟩
          go_wp2_with fail
          refine (refString_is T k _ _ _ G.out _ (by omega) d1 d2).mono ?_
          rintro e' w4 ⟨rfl, b4⟩
          have hU4 := hU3.next b4
          clear hU3 b4
          go_wp2_with fail
          go_roundw
          case rel => exact ⟨i + 1, by omega, by go_num, hU4⟩
          case measure => simp [intOf]; omega
        · have hB := hU.below
          clear hU q hi
          obtain ⟨v, e, hv⟩ : ∃ v e, putS T = (v, e) := ⟨_, _, rfl⟩
          have V := Lib.hid hv
          clear hv
          go_wp2_with fail
          refine (PutString_two T v e V.out _ (by omega)).mono ?_
          rintro e' w3 ⟨rfl, b3⟩
          have hB3 := below_on hB b3 hB.size
          clear hB b3
          go_wp2_with fail
          refine (refPutString_two T v e V.out _ (by omega)).mono ?_
          rintro e' w4 ⟨rfl, b4⟩
          have hB4 := below_on hB3 b4 hB3.size
          clear hB3 b4
          go_wp2_with fail
          refine (Sum_any T _ (by unfold maxLen; omega) (h.below hB4)).mono ?_
          rintro e' w5 ⟨rfl, rfl⟩
          go_wp2_with fail
          refine (refSum_any T _ (by unfold maxLen; omega)).mono ?_
          rintro e' w5 ⟨rfl, rfl⟩
          go_wp2_with fail
          go_ret
          exact ⟨rfl, hB4⟩

end Go.Proofs.YtbcdigkndpjebaaDoor
