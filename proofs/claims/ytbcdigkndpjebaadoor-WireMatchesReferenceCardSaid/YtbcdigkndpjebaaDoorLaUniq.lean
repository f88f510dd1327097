/-
  The law WireUnique: what Int and String accept, and the walk.
-/
import Derived.Test.YtbcdigkndpjebaaDoorLaMath
import Derived.RegionTactic
import Derived.ChangeAlike
namespace Go.Proofs.YtbcdigkndpjebaaDoor
open Go.RowKit

/-- what Int accepts at an offset is the encoding of what it returns; what it does not accept is refused by ErrWire -/
theorem intB_uniq (l : List UInt8) (k : Nat) (hk : k ≤ l.length) :
    (∃ (n : Int) (next : Nat), intB (nb l) (k : Int) = (n, (next : Int), 0) ∧ k < next ∧ next ≤ l.length ∧ -4611686018427387903 ≤ n ∧ n ≤ 4611686018427387903 ∧ (l.drop k).take (next - k) = encI n) ∨
    intB (nb l) (k : Int) = (0, 0, 10) := by
  have hb : ∀ b ∈ (nb l).drop k, b < 256 := fun b hb => nb_lt l b (List.mem_of_mem_drop hb)
  obtain ⟨hz, hm, hml⟩ := numB_bd ((nb l).drop k) hb
  unfold intB
  rw [if_neg (by rw [nb_length]; omega), Int.toNat_natCast]
  by_cases h : (numB ((nb l).drop k)).2 = 0 ∨ 9223372036854775806 < (numB ((nb l).drop k)).1
  · rw [if_pos h]; exact .inr rfl
  · rw [if_neg h]
    left
    obtain ⟨z, m, hn⟩ : ∃ z m, numB ((nb l).drop k) = (z, m) := ⟨_, _, rfl⟩
    rw [hn] at h hz hm hml ⊢
    simp only at h hz hm hml ⊢
    have hd : M1.dec true 9 ((nb l).drop k) = some (z, m) := by
      unfold numB at hn
      cases hd : M1.dec true 9 ((nb l).drop k) with
      | none => rw [hd] at hn; simp at hn; omega
      | some q => rw [hd] at hn; simp at hn; rw [hn]
    obtain ⟨e1, e2, e3, e4, e5, -⟩ := M1.leb_dec true 9 _ z m hb hd
    rw [List.length_drop, nb_length] at e4
    obtain ⟨u1, u2⟩ := un_bd (z := (z : Int)) (by omega) (by omega)
    refine ⟨un z, k + m, by simp, by omega, by omega, u1, u2, ?_⟩
    unfold encI
    rw [fo_un (by omega), Int.toNat_natCast]
    unfold lebU
    rw [e1, show k + m - k = m from by omega]
    unfold nb
    rw [← List.map_drop, ← List.map_take, List.map_map]
    conv => lhs; rw [← List.map_id ((l.drop k).take m)]
    apply List.map_congr_left
    intro b _
    simp
theorem strB_uniq (l : List UInt8) (k : Nat) (hk : k ≤ l.length) :
    (∃ (v : List UInt8) (next : Nat), strB l (k : Int) = (v, (next : Int), 0) ∧ k < next ∧ next ≤ l.length ∧ v.length ≤ 65536 ∧ (l.drop k).take (next - k) = encI v.length ++ v) ∨
    strB l (k : Int) = ([], 0, 10) := by
  unfold strB
  rcases intB_uniq l k hk with ⟨n, next, h, h1, h2, h3, h4, h5⟩ | h
  · rw [h]
    simp only
    rw [if_neg (by simp)]
    by_cases hc : n < 0 ∨ 65536 < n ∨ (l.length : Int) - next < n
    · rw [if_pos hc]; exact .inr rfl
    · rw [if_neg hc]
      left
      obtain ⟨m, rfl⟩ := Int.eq_ofNat_of_zero_le (show 0 ≤ n by omega)
      have hlen : ((l.drop next).take m).length = m := by rw [List.length_take, List.length_drop]; omega
      refine ⟨_, next + m, rfl, by omega, by omega, by simp only [Int.toNat_natCast]; omega, ?_⟩
      simp only [Int.toNat_natCast]
      rw [hlen, ← h5, show next + m - k = (next - k) + m from by omega, List.take_add, List.drop_drop, show k + (next - k) = next from by omega]
  · rw [h]; exact .inr rfl

theorem String_is (l : List UInt8) (at_ : Int) (v : List UInt8) (next e : Int) (h : strB l at_ = (v, next, e)) (w : World) (hs : l.length ≤ maxLen) (h1 : -9223372036854775808 ≤ at_) (h2 : at_ ≤ 9223372036854775807) :
    Calls Tryd.prog 17 #[.string (bs l), .int .i64 at_] w fun x w' => x = .returned (.tuple #[.string (bs v), .int .i64 next, .int .i64 e]) ∧ w = w' :=
  (String_any l at_ w hs h1 h2).mono fun e w' ⟨he, hw⟩ => ⟨by rw [he, h]; rfl, hw⟩

/-- the world at the head of a round: the two offsets lie in block B -/
structure UniAt (w : World) (B k1 : Nat) (wr : World) : Prop where
  below : Below w.heap.size w wr
  c0 : wr.cell? ⟨B, 0, none⟩ = some (.int .i64 0)
  c1 : wr.cell? ⟨B, 1, none⟩ = some (.int .i64 k1)
  lt : B < wr.heap.size
  le : w.heap.size ≤ B
theorem UniAt.next {w : World} {B k1 : Nat} {wr wr' : World} (h : UniAt w B k1 wr) (hb : Below wr.heap.size wr wr') : UniAt w B k1 wr' :=
  ⟨below_on h.below hb (by have := h.lt; have := h.le; omega), (hb.cell (p := ⟨B, 0, none⟩) h.lt).trans h.c0, (hb.cell (p := ⟨B, 1, none⟩) h.lt).trans h.c1, Nat.lt_of_lt_of_le h.lt hb.size, h.le⟩
theorem bs_nil : (bs []).toList = [] := by decide +kernel
theorem extract_bs (l : List UInt8) (a b : Nat) (m : List UInt8) (h : (l.drop a).take (b - a) = m) : (bs l).extract a b = bs m := by rw [bs_extract, h]

set_option maxRecDepth 100000 in
set_option maxHeartbeats 1000000 in
theorem Unique_any (s : ByteArray) (at_ x : Int) (w : World) (h : TabAt w) (c1 : -9223372036854775808 ≤ at_) (c2 : at_ ≤ 9223372036854775807) (x1 : 0 ≤ x) (x2 : x ≤ 255) :
    Calls Tryd.prog 5 #[.string s, .int .i64 at_, .int .u8 x] w fun e w' => e = .returned (.bool true) ∧ Below w.heap.size w w' := by
  obtain ⟨m0, t, ⟨m0a, m0b⟩, x0, l0, e0, -⟩ := cut_string s 300
  have r0 := fun w ts ty => min_run (P := Tryd.prog) s.size 300 m0 e0 300 rfl w ts ty
  have ht : t.length ≤ 300 := by omega
  clear e0 l0
  go_enter Tryd.func5, Tryd.ntmps5
  go_wp2_with fail
  refine (sane_any _ h).mono ?_
  rintro e w1 ⟨rfl, b1⟩
  go_wp2_with fail
  have hcv : (convert 38 9 (.slice (some ⟨w1.heap.size, 0, none⟩) 1 1)).run Tryd.prog (w1.alloc (.cells #[.int .u8 x] 5)).drew = .ok (.string (bs [UInt8.ofNat x.toNat])) (w1.alloc (.cells #[.int .u8 x] 5)).drew :=
    run_convert_bytes_arg _ 38 5 Tryd.underlying38 Tryd.underlying5 w1.heap.size 0 1 1 [x] rfl (fun i hi => by
      obtain rfl : i = 0 := by omega
      rw [cell_of_row _ _ _ _ _ _ (show (w1.alloc (.cells #[.int .u8 x] 5)).drew.heap[w1.heap.size]? = _ from heap_alloc_new _ _)]; rfl) 9 Tryd.underlying9
  have hap : ∀ l m, bs l ++ bs m = bs (l ++ m) := bs_append
  have hsz : ∀ l, (bs l).size = l.length := bs_size
  go_region
  go_wp2_with fail
  obtain ⟨T, hT⟩ : ∃ T, T = UInt8.ofNat x.toNat :: t := ⟨_, rfl⟩
  have hTl : T.length = t.length + 1 := by rw [hT]; rfl
  rw [← hT]
  obtain ⟨k1, hk1⟩ : ∃ k1 : Nat, pk at_ ((t.length : Int) + 1 + 1) = k1 := ⟨(pk at_ ((t.length : Int) + 1 + 1)).toNat, by have := pk_bd at_ (n := (t.length : Int) + 1 + 1) (by omega); omega⟩
  have hk1l : k1 ≤ T.length := by have := pk_bd at_ (n := (t.length : Int) + 1 + 1) (by omega); omega
  refine (pick_any _ _ _ c1 c2 (by omega) (by omega)).mono ?_
  rintro e w2 ⟨rfl, rfl⟩
  rw [hk1]
  have hTm : T.length ≤ 301 := by omega
  clear hcv r0 x0 m0a m0b hTl hT hk1
  generalize hW : (w1.alloc (.cells #[.int .u8 x] 5)).drew = W
  have hB : Below w.heap.size w W := by subst hW; exact (below_on b1 ((Below.refl _ w1).alloc (Nat.le_refl _) _) b1.size).drew
  clear hW b1
  go_wp2_with fail
  obtain ⟨B, hBB⟩ : ∃ B, B = W.heap.size := ⟨_, rfl⟩
  have hlt : w.heap.size ≤ B := by rw [hBB]; exact hB.size
  have q0 : (W.alloc (.cells #[.int .i64 0, .int .i64 k1] 3)).cell? ⟨B, 0, none⟩ = some (.int .i64 0) := by rw [hBB, cell_of_row _ _ _ _ _ _ (heap_alloc_new _ _)]; rfl
  have q1 : (W.alloc (.cells #[.int .i64 0, .int .i64 k1] 3)).cell? ⟨B, 1, none⟩ = some (.int .i64 k1) := by rw [hBB, cell_of_row _ _ _ _ _ _ (heap_alloc_new _ _)]; rfl
  have qs : B < (W.alloc (.cells #[.int .i64 0, .int .i64 k1] 3)).heap.size := by rw [hBB]; simp
  have qB : Below w.heap.size w (W.alloc (.cells #[.int .i64 0, .int .i64 k1] 3)) := hB.alloc hB.size _
  rw [← hBB]
  generalize W.alloc (.cells #[.int .i64 0, .int .i64 k1] 3) = W2 at *
  clear hBB hB
  go_loopw [38] (fun i wr => ∃ j : Nat, j ≤ 2 ∧ i = .int .i64 j ∧ UniAt w B k1 wr) (fun i _ => 2 - (intOf i).toNat)
  case atStart => exact ⟨0, by omega, rfl, ⟨qB, q0, q1, qs, hlt⟩⟩
  case round =>
    obtain ⟨j, hj, rfl, hU⟩ := hrel
    rcases Nat.lt_or_ge j 2 with hj2 | hj2
    · obtain ⟨k, hkl, hc⟩ : ∃ k : Nat, k ≤ T.length ∧ wr.cell? ⟨B, j, none⟩ = some (.int .i64 k) := by
        rcases (show j = 0 ∨ j = 1 by omega) with rfl | rfl
        · exact ⟨0, by omega, hU.c0⟩
        · exact ⟨k1, hk1l, hU.c1⟩
      rcases intB_uniq T k hkl with ⟨n, e1, f1, f2, f3, f4, f5, f6⟩ | f1
      · have F1 := Lib.hid f1
        have f7 := extract_bs T k e1 _ f6
        clear f1 f6
        go_wp2_with fail
        refine (Int_is T k _ _ _ F1.out _ (by unfold maxLen; omega) (by omega) (by omega)).mono ?_
        rintro e w3 ⟨rfl, rfl⟩
        go_wp2_with fail
        refine (PutInt_at n _ f4 f5).mono ?_
        rintro e w4 ⟨rfl, b4⟩
        have hpos : UniAt w B k1 w4 := hU.next b4
        rcases strB_uniq T k hkl with ⟨v, e2, g1, g2, g3, g4, g5⟩ | g1
        · have G1 := Lib.hid g1
          have g6 := extract_bs T k e2 _ g5
          clear g1 g5
          go_wp2_with fail
          refine (String_is T k _ _ _ G1.out _ (by unfold maxLen; omega) (by omega) (by omega)).mono ?_
          rintro e w5 ⟨rfl, rfl⟩
          go_wp2_with fail
          refine (PutString_at v g4 _).mono ?_
          rintro e w6 ⟨rfl, b6⟩
          go_wp2_with fail
          go_roundw
          case rel => exact ⟨j + 1, by omega, by go_num, hpos.next b6⟩
          case measure => simp [intOf]; omega
        · have G1 := Lib.hid g1
          clear g1
          go_wp2_with fail
          refine (String_is T k _ _ _ G1.out _ (by unfold maxLen; omega) (by omega) (by omega)).mono ?_
          rintro e w5 ⟨rfl, rfl⟩
          go_wp2_with fail
          have hnil := bs_nil
          refine (PutString_at [] (by simp) _).mono ?_
          rintro e w6 ⟨rfl, b6⟩
          go_wp2_with fail
          go_roundw
          case rel => exact ⟨j + 1, by omega, by go_num, hpos.next b6⟩
          case measure => simp [intOf]; omega
      · have F1 := Lib.hid f1
        clear f1
        go_wp2_with fail
        refine (Int_is T k _ _ _ F1.out _ (by unfold maxLen; omega) (by omega) (by omega)).mono ?_
        rintro e w3 ⟨rfl, rfl⟩
        go_wp2_with fail
        refine (PutInt_at 0 _ (by omega) (by omega)).mono ?_
        rintro e w4 ⟨rfl, b4⟩
        have hpos : UniAt w B k1 w4 := hU.next b4
        rcases strB_uniq T k hkl with ⟨v, e2, g1, g2, g3, g4, g5⟩ | g1
        · have G1 := Lib.hid g1
          have g6 := extract_bs T k e2 _ g5
          clear g1 g5
          go_wp2_with fail
          refine (String_is T k _ _ _ G1.out _ (by unfold maxLen; omega) (by omega) (by omega)).mono ?_
          rintro e w5 ⟨rfl, rfl⟩
          go_wp2_with fail
          refine (PutString_at v g4 _).mono ?_
          rintro e w6 ⟨rfl, b6⟩
          go_wp2_with fail
          go_roundw
          case rel => exact ⟨j + 1, by omega, by go_num, hpos.next b6⟩
          case measure => simp [intOf]; omega
        · have G1 := Lib.hid g1
          clear g1
          go_wp2_with fail
          refine (String_is T k _ _ _ G1.out _ (by unfold maxLen; omega) (by omega) (by omega)).mono ?_
          rintro e w5 ⟨rfl, rfl⟩
          go_wp2_with fail
          have hnil := bs_nil
          refine (PutString_at [] (by simp) _).mono ?_
          rintro e w6 ⟨rfl, b6⟩
          go_wp2_with fail
          go_roundw
          case rel => exact ⟨j + 1, by omega, by go_num, hpos.next b6⟩
          case measure => simp [intOf]; omega
    · go_wp2_with fail
      go_ret
      exact ⟨rfl, hU.below⟩

end Go.Proofs.YtbcdigkndpjebaaDoor
