/-
  The law WireSequence: the walk.
-/
import Derived.Test.YtbcdigkndpjebaaDoorSeMath
import Derived.Test.YtbcdigkndpjebaaDoorFrame
import Derived.RegionTactic
import Derived.ChangeAlike
import Derived.Deep.RegionHeld3
namespace Go.Proofs.YtbcdigkndpjebaaDoor
open Go.RowKit

def cutB (s : ByteArray) (k : Nat) : List UInt8 := s.data.toList.take (min s.size k)
def itemAt (zs : List Int) (ss : List ByteArray) (i : Nat) : Int × List UInt8 := (nf (zs.getD i 0), cutB (ss.getD i ByteArray.empty) 100)
def items (zs : List Int) (ss : List ByteArray) (n : Nat) : List (Int × List UInt8) := (List.range n).map (itemAt zs ss)
theorem items_length (zs : List Int) (ss : List ByteArray) (n : Nat) : (items zs ss n).length = n := by simp [items]
theorem items_get (zs : List Int) (ss : List ByteArray) (n j : Nat) (h : j < (items zs ss n).length) : (items zs ss n)[j] = itemAt zs ss j := by simp [items]
theorem cutB_length (s : ByteArray) (k : Nat) : (cutB s k).length ≤ k := by
  unfold cutB; rw [List.length_take]; omega
theorem itemAt_ok (zs : List Int) (ss : List ByteArray) (i : Nat) : OkP (itemAt zs ss i) :=
  ⟨(nf_bd _).1, (nf_bd _).2, cutB_length _ _⟩
theorem items_ok (zs : List Int) (ss : List ByteArray) (n : Nat) : ∀ x ∈ items zs ss n, OkP x := by
  intro x hx
  simp only [items, List.mem_map] at hx
  obtain ⟨i, _, rfl⟩ := hx
  exact itemAt_ok zs ss i
theorem min3_run {P : Program} (a b k n : Nat) (h : n = min (min a b) k) (K : Int) (hK : K = k) (w : World) (ts : Array TypeId) (ty : TypeId) :
    (Builtin.min_ ts ty #[.int .i64 (a : Int), .int .i64 (b : Int), .int .i64 K]).run P w = .ok (.int .i64 (n : Int)) w := by
  subst hK
  rw [run_min_int3]
  congr 2
  subst h; split <;> split <;> omega
theorem below_undrew {w w' : World} (h : Below w.drew.heap.size w.drew w') : Below w.heap.size w w' := ⟨h.os, h.tape, h.output, h.size, h.block⟩
/-- what the walk knows of both slices at the j-th place -/
structure PlaceAt (w : World) (b0 o0 b1 o1 n : Nat) (zs : List Int) (ss : List ByteArray) : Prop where
  ints : ∀ i, i < n → w.cell? ⟨b0, o0 + i, none⟩ = some (.int .i64 (zs.getD i 0))
  strs : ∀ i, i < n → w.cell? ⟨b1, o1 + i, none⟩ = some (.string (ss.getD i ByteArray.empty))
theorem PlaceAt.below {w wr : World} {b0 o0 b1 o1 n : Nat} {zs : List Int} {ss : List ByteArray} (h : PlaceAt w b0 o0 b1 o1 n zs ss) (hb : Below w.heap.size w wr) : PlaceAt wr b0 o0 b1 o1 n zs ss :=
  ⟨fun i hi => (hb.cell (p := ⟨b0, o0 + i, none⟩) (block_lt_of_cell (h.ints i hi))).trans (h.ints i hi), fun i hi => (hb.cell (p := ⟨b1, o1 + i, none⟩) (block_lt_of_cell (h.strs i hi))).trans (h.strs i hi)⟩

set_option maxRecDepth 100000 in
set_option maxHeartbeats 1000000 in
theorem Sequence_any (a0 a1 : Option Addr) (n0 n1 k0 k1 : Nat) (zs : List Int) (ss : List ByteArray) (w : World) (h : TabAt w) (w0 : Fr.IsInts .i64 w a0 n0 zs) (w1 : Fr.IsStrs w a1 n1 ss) :
    Calls Tryd.prog 6 #[.slice a0 n0 k0, .slice a1 n1 k1] w fun e w' => e = .returned (.bool true) ∧ Below w.heap.size w w' := by
  obtain ⟨n, hn⟩ : ∃ n : Nat, n = min (min n0 n1) 20 := ⟨_, rfl⟩
  have hmin := fun w ts ty => min3_run (P := Tryd.prog) n0 n1 20 n hn 20 rfl w ts ty
  have h0 : n ≤ n0 := by omega
  have h1 : n ≤ n1 := by omega
  have h2 : n ≤ 20 := by omega
  clear hn
  obtain ⟨L, hL⟩ : ∃ L, L = items zs ss n := ⟨_, rfl⟩
  have hLl : Hid (L.length = n) := Lib.hid (by rw [hL, items_length])
  have hLo : ∀ x ∈ L, OkP x := by rw [hL]; exact items_ok zs ss n
  have hLg : Hid (∀ j (hj : j < L.length), L[j] = itemAt zs ss j) := Lib.hid (fun j hj => by subst hL; exact items_get zs ss n j hj)
  have hLO := Lib.hid hLo
  have hLb : (encAll L).length ≤ 2360 := by have := encAll_length hLo; rw [hLl.out] at this; omega
  clear hL hLo
  obtain ⟨z1, z2, z3, z4⟩ := w0
  obtain ⟨s1, s2, s3, s4⟩ := w1
  unfold maxLen at z2 s2
  have hsz : ∀ l, (bs l).size = l.length := bs_size
  have hap : ∀ l m, bs l ++ bs m = bs (l ++ m) := bs_append
  go_enter Tryd.func6, Tryd.ntmps6
  go_wp2_with fail
  refine (sane_any _ h).mono ?_
  rintro e w2 ⟨rfl, B2⟩
  rcases Nat.eq_zero_or_pos n with hn0 | hn0
  · subst hn0
    have hL0 : encAll L = [] := by
      have := hLl.out
      rw [List.length_eq_zero_iff] at this
      rw [this]; rfl
    clear z4 s4 z3 s3 z1 s1 hLb
    go_wp2_with fail
    go_loopw [7, 8] (fun s i wr => i = .int .i64 0 ∧ s = .string (bs []) ∧ Below w.heap.size w wr) (fun _ _ _ => 0)
    case atStart => exact ⟨rfl, rfl, B2⟩
    case round =>
      obtain ⟨rfl, rfl, hw⟩ := hrel
      go_wp2_with fail
      obtain ⟨w3, hw3⟩ : ∃ w3, w3 = wr := ⟨_, rfl⟩
      rw [← hw3] at hw ⊢
      clear hw3
      go_loopw [13, 14] (fun a i wr => i = .int .i64 0 ∧ a = .int .i64 0 ∧ Below w.heap.size w wr) (fun _ _ _ => 0)
      case atStart => exact ⟨rfl, rfl, hw⟩
      case round =>
        obtain ⟨rfl, rfl, hw⟩ := hrel
        go_wp2_with fail
        refine (Int_is [] 0 _ _ _ (int_end []) _ (by unfold maxLen; simp) (by omega) (by omega)).mono ?_
        rintro e w4 ⟨rfl, rfl⟩
        go_wp2_with fail
        go_ret
        exact ⟨rfl, hw⟩
  · obtain ⟨b0, o0, rfl, c0⟩ := z4.resolve_left (by omega)
    obtain ⟨b1, o1, rfl, c1⟩ := s4.resolve_left (by omega)
    have hP : PlaceAt w b0 o0 b1 o1 n zs ss := ⟨fun i hi => c0 i (by omega), fun i hi => c1 i (by omega)⟩
    clear c0 c1
    go_wp2_with fail
    go_loopw [7, 8] (fun s i wr => ∃ j : Nat, j ≤ n ∧ i = .int .i64 j ∧ s = .string (bs (encAll (L.take j))) ∧ Below w.heap.size w wr) (fun _ i _ => n - (intOf i).toNat)
    case atStart => exact ⟨0, by omega, rfl, rfl, B2⟩
    case round =>
      obtain ⟨j, hj, rfl, rfl, hw⟩ := hrel
      rcases Nat.lt_or_ge j n with hjn | hjn
      · have i0 : j < n0 := by omega
        have i1 : j < n1 := by omega
        have hPr := hP.below hw
        have k0 := hPr.ints j hjn
        have k1 := hPr.strs j hjn
        have zb := bounds_i64 (z3 (zs.getD j 0) (by rw [List.getD_eq_getElem?_getD, List.getElem?_eq_getElem (by omega)]; exact List.getElem_mem _))
        have sb := s3 (ss.getD j ByteArray.empty) (by rw [List.getD_eq_getElem?_getD, List.getElem?_eq_getElem (by omega)]; exact List.getElem_mem _)
        have hit := hLg.out j (by rw [hLl.out]; exact hjn)
        unfold itemAt at hit
        obtain ⟨c, hc⟩ : ∃ c, zs.getD j 0 = c := ⟨_, rfl⟩
        obtain ⟨s, hs⟩ : ∃ s, ss.getD j ByteArray.empty = s := ⟨_, rfl⟩
        rw [hc] at k0 zb hit
        rw [hs] at k1 sb hit
        have Hs := Lib.hid hs
        clear hc hs
        obtain ⟨zb1, zb2⟩ := zb
        unfold maxLen at sb
        obtain ⟨m, t, ⟨ma, mb⟩, x0, l0, e0, et⟩ := cut_string s 100
        have ht : t = cutB s 100 := by rw [et, e0]; rfl
        have r0 := fun w ts ty => min_run (P := Tryd.prog) s.size 100 m e0 100 rfl w ts ty
        have htl : t.length ≤ 100 := by omega
        rw [← ht] at hit
        have Hit := Lib.hid hit
        clear hit ht et e0 l0
        obtain ⟨n1', n2'⟩ := nf_bd c
        go_wp2_with fail
        refine (NumberFrom_any c _ zb1 zb2).mono ?_
        rintro e w3 ⟨rfl, B3⟩
        generalize nf c = d at *
        go_wp2_with fail
        refine (PutInt_at d _ (by omega) (by omega)).mono ?_
        rintro e w4 ⟨rfl, B4⟩
        go_wp2_with fail
        have B5 := below_on (below_on hw B3 hw.size) B4 (Nat.le_trans hw.size B3.size)
        have k4 := (hP.below B5).strs j hjn
        rw [Hs.out] at k4
        clear k0 k1 B3 B4
        go_region_held3 (fun w' => w'.cell? ⟨b1, o1 + j, none⟩ = some (.string s)) (go_keep)
          (first | (go_at_call 19; refine (PutString_at t (by omega) _).mono ?_; rintro e w5 ⟨rfl, B6⟩; have k5 : w5.cell? ⟨b1, o1 + j, none⟩ = some (.string s) := (B6.cell (p := ⟨b1, o1 + j, none⟩) (block_lt_of_cell k4)).trans k4))
        have g1 := encI_length d
        have g2 := encI_length t.length
        have g3 : (encAll (L.take j)).length ≤ 2360 := by
          have := encAll_length (l := L.take j) (fun x hx => hLO.out x (List.mem_of_mem_take hx))
          rw [List.length_take] at this
          omega
        go_wp2_with fail
        go_roundw
        case rel => exact ⟨j + 1, by omega, by go_num, by rw [encAll_take L j (by rw [hLl.out]; exact hjn), Hit.out]; simp [encP], below_on B5 (below_undrew B6) B5.size⟩
        case measure => simp [intOf]; omega
      · obtain rfl : n = j := by omega
        have hfull : L.take n = L := List.take_of_length_le (by rw [hLl.out]; exact Nat.le_refl _)
        rw [hfull]
        clear hfull
        go_wp2_with fail
        obtain ⟨w3, hw3⟩ : ∃ w3, w3 = wr := ⟨_, rfl⟩
        rw [← hw3] at hw ⊢
        clear hw3
        go_loopw [13, 14] (fun a i wr => ∃ j : Nat, j ≤ n ∧ i = .int .i64 j ∧ a = .int .i64 ((encAll (L.take j)).length : Int) ∧ Below w.heap.size w wr) (fun _ i _ => n - (intOf i).toNat)
        case atStart => exact ⟨0, by omega, rfl, rfl, hw⟩
        case round =>
          obtain ⟨j, hj, rfl, rfl, hw⟩ := hrel
          rcases Nat.lt_or_ge j n with hjn | hjn
          · have i0 : j < n0 := by omega
            have i1 : j < n1 := by omega
            have hPr := hP.below hw
            have k0 := hPr.ints j hjn
            have k1 := hPr.strs j hjn
            have zb := bounds_i64 (z3 (zs.getD j 0) (by rw [List.getD_eq_getElem?_getD, List.getElem?_eq_getElem (by omega)]; exact List.getElem_mem _))
            have sb := s3 (ss.getD j ByteArray.empty) (by rw [List.getD_eq_getElem?_getD, List.getElem?_eq_getElem (by omega)]; exact List.getElem_mem _)
            have hit := hLg.out j (by rw [hLl.out]; exact hjn)
            unfold itemAt at hit
            obtain ⟨c, hc⟩ : ∃ c, zs.getD j 0 = c := ⟨_, rfl⟩
            obtain ⟨s, hs⟩ : ∃ s, ss.getD j ByteArray.empty = s := ⟨_, rfl⟩
            rw [hc] at k0 zb hit
            rw [hs] at k1 sb hit
            have Hs := Lib.hid hs
            clear hc hs
            obtain ⟨zb1, zb2⟩ := zb
            unfold maxLen at sb
            obtain ⟨m, t, ⟨ma, mb⟩, x0, l0, e0, et⟩ := cut_string s 100
            have ht : t = cutB s 100 := by rw [et, e0]; rfl
            have r0 := fun w ts ty => min_run (P := Tryd.prog) s.size 100 m e0 100 rfl w ts ty
            have htl : t.length ≤ 100 := by omega
            rw [← ht] at hit
            have sI := seq_int hLO.out j (by rw [hLl.out]; exact hjn)
            have sS := seq_str hLO.out j (by rw [hLl.out]; exact hjn)
            rw [hit] at sI sS
            clear hit ht et e0 l0
            simp only at sI sS
            have SI := Lib.hid sI
            have SS := Lib.hid sS
            clear sI sS
            have g1 := encI_length (nf c)
            have g3 : (encAll (L.take j)).length ≤ 2360 := by
              have := encAll_length (l := L.take j) (fun x hx => hLO.out x (List.mem_of_mem_take hx))
              rw [List.length_take] at this
              omega
            go_wp2_with fail
            refine (Int_is _ _ _ _ _ SI.out _ (by unfold maxLen; omega) (by omega) (by omega)).mono ?_
            rintro e w4 ⟨rfl, rfl⟩
            go_wp2_with fail
            refine (String_is _ _ _ _ _ SS.out _ (by unfold maxLen; omega) (by omega) (by omega)).mono ?_
            rintro e w4 ⟨rfl, rfl⟩
            go_wp2_with fail
            go_region_held3 (fun w' => w'.cell? ⟨b0, o0 + j, none⟩ = some (.int .i64 c) ∧ w'.cell? ⟨b1, o1 + j, none⟩ = some (.string s)) (go_keep)
              (first | (go_at_call 11; refine (NumberFrom_any c _ zb1 zb2).mono ?_; rintro e w5 ⟨rfl, B6⟩; have k5 : w5.cell? ⟨b0, o0 + j, none⟩ = some (.int .i64 c) := (B6.cell (p := ⟨b0, o0 + j, none⟩) (block_lt_of_cell k0)).trans k0; have k6 : w5.cell? ⟨b1, o1 + j, none⟩ = some (.string s) := (B6.cell (p := ⟨b1, o1 + j, none⟩) (block_lt_of_cell k1)).trans k1))
            go_wp2_with fail
            go_roundw
            case rel => exact ⟨j + 1, by omega, by go_num, rfl, below_on hw (below_undrew B6) hw.size⟩
            case measure => simp [intOf]; omega
          · obtain rfl : n = j := by omega
            have hfull : L.take n = L := List.take_of_length_le (by rw [hLl.out]; exact Nat.le_refl _)
            rw [hfull]
            clear hfull
            go_wp2_with fail
            refine (Int_is _ _ _ _ _ (int_end _) _ (by unfold maxLen; omega) (by omega) (by omega)).mono ?_
            rintro e w4 ⟨rfl, rfl⟩
            go_wp2_with fail
            go_ret
            exact ⟨rfl, hw⟩

end Go.Proofs.YtbcdigkndpjebaaDoor
