/-
  The reference implementation of layer 2: value.
-/
import Derived.Test.YthlngcjenmcbkaaDoorRvf
namespace Go.Proofs.YthlngcjenmcbkaaDoor
open Go.RowKit Bs

set_option maxRecDepth 100000 in
set_option maxHeartbeats 1000000 in
theorem refValue_at (N : Nat) : ∀ (p : Strs) (a : Option Addr) (np c n i : Nat) (s : List UInt8) (w : World), np ≤ N → IsL w a np c p → (∀ x ∈ p, x.length = 32) → s.length ≤ 900000 → 1 ≤ n → n ≤ 9223372036854775807 → i < n →
    Calls Tryd.prog 51 #[.int .i64 (n : Int), .int .i64 (i : Int), .string (bs s), .slice a np c] w (GivesV (Tr.val dig n i s p.reverse) w) := by
  induction N with
  | zero =>
    intro p a np c n i s w hN hL hs hsl h1 h2 hi
    obtain rfl : np = 0 := by omega
    obtain rfl : p = [] := List.length_eq_zero_iff.1 hL.len
    have hv := val_nil n i s
    rw [show ([] : Strs).reverse = [] from rfl, hv]
    have hl := dig_length (0 :: s)
    by_cases e1 : n = 1
    · subst e1
      rw [if_pos rfl]
      unfold Tr.leaf
      have HL := Lib.hid hl
      clear hL hs hv hl
      go_enter Tryd.func51, Tryd.ntmps51
      go_wp2_with fail
      refine (refLeaf_any s _ hsl).mono ?_
      rintro e w1 ⟨rfl, b1⟩
      go_wp2_with fail
      go_ret2
      exact ⟨_, Nat.le_of_eq HL.out, (fun u h => by cases h; rfl), rfl, b1⟩
    · rw [if_neg e1]
      have e2 : ((n : Int) == 1) = false := by rw [beq_eq_false_iff_ne]; omega
      clear hL hs hv hl e1
      go_enter Tryd.func51, Tryd.ntmps51
      go_wp2_with fail
      go_ret2
      exact ⟨[], by simp, (fun u h => by cases h), rfl, Below.refl _ _⟩
  | succ N ih =>
    intro p a np c n i s w hN hL hs hsl h1 h2 hi
    rcases Nat.eq_zero_or_pos np with h0 | h0
    · exact ih p a np c n i s w (by omega) hL hs hsl h1 h2 hi
    · obtain ⟨m, rfl⟩ : ∃ m, np = m + 1 := ⟨np - 1, by omega⟩
      have hm := Nat.le_trans hL.cap hL.max
      have hc := hL.cap
      have hcm := hL.max
      unfold maxLen at hm hcm
      obtain ⟨q, x, rfl, hq⟩ := snoc_of hL.len
      have hv := val_cons n i s x q.reverse
      rw [show (q ++ [x]).reverse = x :: q.reverse by simp, hv]
      have hl := dig_length (0 :: s)
      have j0 : ((m : Int) + 1) - 1 = (m : Int) := by omega
      have j1 : ¬ ((m : Int) < 0) := by omega
      have j2 : (m : Int) < ((m : Int) + 1) := by omega
      have j3 : (m : Int) ≤ (c : Int) := by omega
      have j4 : (0 : Int) ≤ (m : Int) := by omega
      have j5 : decide ((m : Int) < 0) = false := decide_eq_false j1
      by_cases e1 : n = 1
      · subst e1
        rw [if_pos rfl]
        have HL := Lib.hid hl
        clear hL hs hv hl ih
        go_enter Tryd.func51, Tryd.ntmps51
        go_wp2_with fail
        refine (refLeaf_any s _ hsl).mono ?_
        rintro e w1 ⟨rfl, b1⟩
        go_wp2_with fail
        go_ret2
        exact ⟨_, Nat.le_of_eq HL.out, (fun u h => by cases h), rfl, b1⟩
      · rw [if_neg e1]
        have e2 : ((n : Int) == 1) = false := by rw [beq_eq_false_iff_ne]; omega
        obtain ⟨g, off, rfl, hpt⟩ := hL.at (by omega)
        have lg := hpt.lt (by simp)
        have hcell := hpt m (by simp; omega)
        rw [show (q ++ [x]).getD m [] = x by rw [List.getD_eq_getElem?_getD, List.getElem?_append_right (by omega), hq]; simp] at hcell
        have hk := Tr.lft_spec (n := n) (by omega)
        obtain ⟨k, hkk⟩ : ∃ k, Tr.lft n = k := ⟨_, rfl⟩
        have hfp := fun W => refLeft_any n W (by omega) h2
        rw [hkk] at hk ⊢
        simp only [hkk] at hfp
        have hx32 : x.length = 32 := hs x (by simp)
        have hs' : ∀ y ∈ q, y.length = 32 := fun y hy => hs y (by simp [hy])
        have hLi := hL.init
        have HFP := Lib.hid hfp
        have HX := Lib.hid hx32
        have HC := Lib.hid hcell
        by_cases hik : i < k
        · rw [if_pos hik]
          have hif : (i : Int) < (k : Int) := by omega
          have iV : ∀ W, Below w.heap.size w W → Calls Tryd.prog 51 #[.int .i64 (k : Int), .int .i64 (i : Int), .string (bs s), .slice (some ⟨g, off, none⟩) m c] W (GivesV (Tr.val dig k i s q.reverse) W) := fun W hb =>
            ih q (some ⟨g, off, none⟩) m c k i s W (by omega) (hLi.later hb) hs' hsl (by omega) (by omega) hik
          obtain ⟨o, ho⟩ : ∃ o, Tr.val dig k i s q.reverse = o := ⟨_, rfl⟩
          rw [ho] at iV ⊢
          have IV := Lib.hid iV
          clear hL hs hv hl ih iV ho hfp hx32 hs' hLi e1 hcell hpt hq
          go_enter Tryd.func51, Tryd.ntmps51
          go_wp2_with fail
          refine (HFP.out _).mono ?_
          rintro e w1 ⟨rfl, rfl⟩
          go_wp2_with fail
          refine (IV.out _ (Below.refl _ _)).mono ?_
          rintro e w2 ⟨v, hv32, hvu, rfl, hb2⟩
          have HVU := Lib.hid hvu
          have hc2 := (hb2.cell (p := ⟨g, off + m, none⟩) lg).trans HC.out
          clear hvu
          go_wp2_with fail
          refine (refNode_any v x _ (by omega) (by have := HX.out; omega)).mono ?_
          rintro e w3 ⟨rfl, hb4⟩
          go_wp2_with fail
          go_ret2
          exact ⟨dig (1 :: (v ++ x)), Nat.le_of_eq (dig_length _), (fun u h => by rw [Option.map_eq_some_iff] at h; obtain ⟨y, hy, rfl⟩ := h; rw [HVU.out y hy]; rfl), by rw [Option.isSome_map]; rfl, below_on hb2 hb4 hb2.size⟩
        · rw [if_neg hik]
          have hif : ¬ (i : Int) < (k : Int) := by omega
          have iV : ∀ W, Below w.heap.size w W → Calls Tryd.prog 51 #[.int .i64 ((n : Int) - (k : Int)), .int .i64 ((i : Int) - (k : Int)), .string (bs s), .slice (some ⟨g, off, none⟩) m c] W (GivesV (Tr.val dig (n - k) (i - k) s q.reverse) W) := fun W hb => by
            rw [show (n : Int) - (k : Int) = ((n - k : Nat) : Int) by omega, show (i : Int) - (k : Int) = ((i - k : Nat) : Int) by omega]
            exact ih q (some ⟨g, off, none⟩) m c (n - k) (i - k) s W (by omega) (hLi.later hb) hs' hsl (by omega) (by omega) (by omega)
          obtain ⟨o, ho⟩ : ∃ o, Tr.val dig (n - k) (i - k) s q.reverse = o := ⟨_, rfl⟩
          rw [ho] at iV ⊢
          have IV := Lib.hid iV
          clear hL hs hv hl ih iV ho hfp hx32 hs' hLi e1 hcell hpt hq
          go_enter Tryd.func51, Tryd.ntmps51
          go_wp2_with fail
          refine (HFP.out _).mono ?_
          rintro e w1 ⟨rfl, rfl⟩
          go_wp2_with fail
          refine (IV.out _ (Below.refl _ _)).mono ?_
          rintro e w2 ⟨v, hv32, hvu, rfl, hb2⟩
          have HVU := Lib.hid hvu
          have hc2 := (hb2.cell (p := ⟨g, off + m, none⟩) lg).trans HC.out
          clear hvu
          go_wp2_with fail
          refine (refNode_any x v _ (by have := HX.out; omega) (by omega)).mono ?_
          rintro e w3 ⟨rfl, hb4⟩
          go_wp2_with fail
          go_ret2
          exact ⟨dig (1 :: (x ++ v)), Nat.le_of_eq (dig_length _), (fun u h => by rw [Option.map_eq_some_iff] at h; obtain ⟨y, hy, rfl⟩ := h; rw [HVU.out y hy]; rfl), by rw [Option.isSome_map]; rfl, below_on hb2 hb4 hb2.size⟩

end Go.Proofs.YthlngcjenmcbkaaDoor
