/-
  The reference implementation of layer 2: both.
-/
import Derived.Test.YthlngcjenmcbkaaDoorRvy
import Derived.Test.YthlngcjenmcbkaaDoorDve
namespace Go.Proofs.YthlngcjenmcbkaaDoor
open Go.RowKit Bs

set_option maxRecDepth 100000 in
set_option maxHeartbeats 1000000 in
theorem refBoth_at (N : Nat) : ∀ (p : Strs) (a : Option Addr) (np c m n : Nat) (old : List UInt8) (b : Bool) (w : World), np ≤ N → IsL w a np c p → (∀ x ∈ p, x.length = 32) → old.length = 32 → 1 ≤ m → m ≤ n → n ≤ 9223372036854775807 →
    Calls Tryd.prog 53 #[.string (bs old), .int .i64 (m : Int), .int .i64 (n : Int), .slice a np c, .bool b] w (GivesT (Tr.two dig m n old b p.reverse) w) := by
  induction N with
  | zero =>
    intro p a np c m n old b w hN hL hs ho h1 h2 hn
    obtain rfl : np = 0 := by omega
    obtain rfl : p = [] := List.length_eq_zero_iff.1 hL.len
    rw [show ([] : Strs).reverse = [] from rfl, two_nil]
    by_cases e1 : m = n
    · subst e1
      cases b with
      | true =>
        rw [if_pos ⟨rfl, rfl⟩]
        have HO := Lib.hid ho
        clear hL hs ho
        go_enter Tryd.func53, Tryd.ntmps53
        go_wp2_with fail
        go_ret3
        exact ⟨old, old, Nat.le_of_eq HO.out, Nat.le_of_eq HO.out, (fun z h => by cases h; exact ⟨rfl, rfl⟩), rfl, Below.refl _ _⟩
      | false =>
        rw [if_neg (by simp)]
        clear hL hs ho
        go_enter Tryd.func53, Tryd.ntmps53
        go_wp2_with fail
        go_ret3
        exact ⟨[], [], by simp, by simp, (fun z h => by cases h), rfl, Below.refl _ _⟩
    · rw [if_neg (by simp [e1])]
      have e2 : ((m : Int) == (n : Int)) = false := by rw [beq_eq_false_iff_ne]; omega
      clear hL hs ho e1
      go_enter Tryd.func53, Tryd.ntmps53
      go_wp2_with fail
      go_ret3
      exact ⟨[], [], by simp, by simp, (fun z h => by cases h), rfl, Below.refl _ _⟩
  | succ N ih =>
    intro p a np c m n old b w hN hL hs ho h1 h2 hn
    rcases Nat.eq_zero_or_pos np with h0 | h0
    · exact ih p a np c m n old b w (by omega) hL hs ho h1 h2 hn
    · obtain ⟨r, rfl⟩ : ∃ r, np = r + 1 := ⟨np - 1, by omega⟩
      have hm := Nat.le_trans hL.cap hL.max
      unfold maxLen at hm
      obtain ⟨q, x, rfl, hq⟩ := snoc_of hL.len
      rw [show (q ++ [x]).reverse = x :: q.reverse by simp, two_cons]
      have hx32 : x.length = 32 := hs x (by simp)
      have hc := hL.cap
      have hcm := hL.max
      unfold maxLen at hcm
      obtain ⟨g, off, rfl, hpt⟩ := hL.at (by omega)
      have lg := hpt.lt (by simp)
      have hcell := hpt r (by simp; omega)
      rw [show (q ++ [x]).getD r [] = x by rw [List.getD_eq_getElem?_getD, List.getElem?_append_right (by omega), hq]; simp] at hcell
      have j0 : ((r : Int) + 1) - 1 = (r : Int) := by omega
      have j1 : ¬ ((r : Int) < 0) := by omega
      have j2 : (r : Int) < ((r : Int) + 1) := by omega
      have j3 : (r : Int) ≤ (c : Int) := by omega
      have j4 : (0 : Int) ≤ (r : Int) := by omega
      have j5 : decide ((r : Int) < 0) = false := decide_eq_false j1
      have e3 : (((r : Nat) : Int) + 1 == 0) = false := by rw [beq_eq_false_iff_ne]; omega
      have HX := Lib.hid hx32
      by_cases e1 : m = n
      · subst e1
        rw [if_pos rfl]
        cases b with
        | true =>
          rw [if_neg (by simp)]
          have HO := Lib.hid ho
          clear hL hs ho ih hx32 hq hcell hpt
          go_enter Tryd.func53, Tryd.ntmps53
          go_wp2_with fail
          go_ret3
          exact ⟨old, old, Nat.le_of_eq HO.out, Nat.le_of_eq HO.out, (fun z h => by cases h), rfl, Below.refl _ _⟩
        | false =>
          by_cases hr : r = 0
          · subst hr
            obtain rfl : q = [] := List.length_eq_zero_iff.1 hq
            rw [if_pos ⟨rfl, rfl⟩]
            rw [Nat.add_zero] at hcell
            clear hL hs ho ih hx32 hq hpt
            go_enter Tryd.func53, Tryd.ntmps53
            go_wp2_with fail
            go_quiet (fail)
            go_wp2_with fail
            go_ret3
            exact ⟨x, x, Nat.le_of_eq HX.out, Nat.le_of_eq HX.out, (fun z h => by cases h; exact ⟨rfl, rfl⟩), rfl, below_drewN (Below.refl _ _) nq⟩
          · have hq0 : q.reverse ≠ [] := by intro e; rw [List.reverse_eq_nil_iff] at e; rw [e] at hq; simp at hq; omega
            rw [if_neg (by simp [hq0])]
            have e4 : ((r : Int) == 0) = false := by rw [beq_eq_false_iff_ne]; omega
            clear hL hs ho ih hx32 hq hq0 hr hcell hpt
            go_enter Tryd.func53, Tryd.ntmps53
            go_wp2_with fail
            go_ret3
            exact ⟨[], [], by simp, by simp, (fun z h => by cases h), rfl, Below.refl _ _⟩
      · rw [if_neg e1]
        have e2 : ((m : Int) == (n : Int)) = false := by rw [beq_eq_false_iff_ne]; omega
        have hk := Tr.lft_spec (n := n) (by omega)
        obtain ⟨k, hkk⟩ : ∃ k, Tr.lft n = k := ⟨_, rfl⟩
        have hfp := fun W => refLeft_any n W (by omega) hn
        rw [hkk] at hk ⊢
        simp only [hkk] at hfp
        have hs' : ∀ y ∈ q, y.length = 32 := fun y hy => hs y (by simp [hy])
        have hLi := hL.init
        have HFP := Lib.hid hfp
        by_cases hik : m ≤ k
        · rw [if_pos hik]
          have hif : (m : Int) ≤ (k : Int) := by omega
          have iV : ∀ W, Below w.heap.size w W → Calls Tryd.prog 53 #[.string (bs old), .int .i64 (m : Int), .int .i64 (k : Int), .slice (some ⟨g, off, none⟩) r c, .bool b] W (GivesT (Tr.two dig m k old b q.reverse) W) := fun W hb =>
            ih q (some ⟨g, off, none⟩) r c m k old b W (by omega) (hLi.later hb) hs' ho h1 hik (by omega)
          obtain ⟨o, hoo⟩ : ∃ o, Tr.two dig m k old b q.reverse = o := ⟨_, rfl⟩
          rw [hoo] at iV ⊢
          have IV := Lib.hid iV
          have HC := Lib.hid hcell
          clear hL hs ih iV hoo ho hfp hx32 hs' hLi e1 hq hcell hpt
          go_enter Tryd.func53, Tryd.ntmps53
          go_wp2_with fail
          refine (HFP.out _).mono ?_
          rintro e w1 ⟨rfl, rfl⟩
          go_wp2_with fail
          refine (IV.out _ (Below.refl _ _)).mono ?_
          rintro e w2 ⟨v, u, hv32, hu32, hvu, rfl, hb2⟩
          have HVU := Lib.hid hvu
          have hc2 := (hb2.cell (p := ⟨g, off + r, none⟩) lg).trans HC.out
          have hb3 := hb2
          clear hvu
          go_wp2_with fail
          refine (refNode_any u x _ (by omega) (by have := HX.out; omega)).mono ?_
          rintro e w3 ⟨rfl, hb4⟩
          go_wp2_with fail
          go_ret3
          exact ⟨v, dig (1 :: (u ++ x)), hv32, Nat.le_of_eq (dig_length _), (fun z h => by rw [Option.map_eq_some_iff] at h; obtain ⟨y, hy, rfl⟩ := h; obtain ⟨g1, g2⟩ := HVU.out y hy; exact ⟨g1, by rw [g2]; rfl⟩), by rw [Option.isSome_map]; rfl, below_on hb3 hb4 hb3.size⟩
        · rw [if_neg hik]
          have hif : ¬ (m : Int) ≤ (k : Int) := by omega
          have iV : ∀ W, Below w.heap.size w W → Calls Tryd.prog 53 #[.string (bs old), .int .i64 ((m : Int) - (k : Int)), .int .i64 ((n : Int) - (k : Int)), .slice (some ⟨g, off, none⟩) r c, .bool false] W (GivesT (Tr.two dig (m - k) (n - k) old false q.reverse) W) := fun W hb => by
            rw [show (n : Int) - (k : Int) = ((n - k : Nat) : Int) by omega, show (m : Int) - (k : Int) = ((m - k : Nat) : Int) by omega]
            exact ih q (some ⟨g, off, none⟩) r c (m - k) (n - k) old false W (by omega) (hLi.later hb) hs' ho (by omega) (by omega) (by omega)
          obtain ⟨o, hoo⟩ : ∃ o, Tr.two dig (m - k) (n - k) old false q.reverse = o := ⟨_, rfl⟩
          rw [hoo] at iV ⊢
          have IV := Lib.hid iV
          have HC := Lib.hid hcell
          clear hL hs ih iV hoo ho hfp hx32 hs' hLi e1 hq hcell hpt
          go_enter Tryd.func53, Tryd.ntmps53
          go_wp2_with fail
          refine (HFP.out _).mono ?_
          rintro e w1 ⟨rfl, rfl⟩
          go_wp2_with fail
          refine (IV.out _ (Below.refl _ _)).mono ?_
          rintro e w2 ⟨v, u, hv32, hu32, hvu, rfl, hb2⟩
          have HVU := Lib.hid hvu
          have hc2 := (hb2.cell (p := ⟨g, off + r, none⟩) lg).trans HC.out
          have hb3 := hb2
          clear hvu
          go_wp2_with fail
          go_region_held3 (fun w' => w'.cell? ⟨g, off + r, none⟩ = some (.string (bs x))) (go_keep)
            (first
              | (go_at_call 18; (with_reducible refine (refNode_any x v _ (by have := HX.out; omega) (by omega)).mono ?_); rintro e w3 ⟨rfl, c3⟩; have b3 := below_on hb3 (below_undrew c3) hb3.size; have k3 : w3.cell? ⟨g, off + r, none⟩ = some (.string (bs x)) := (b3.cell (p := ⟨g, off + r, none⟩) lg).trans HC.out)
              | (go_at_call 18; (with_reducible refine (refNode_any x u _ (by have := HX.out; omega) (by omega)).mono ?_); rintro e w4 ⟨rfl, c4⟩; have b4 := below_on b3 c4 b3.size; have k4 : w4.cell? ⟨g, off + r, none⟩ = some (.string (bs x)) := (b4.cell (p := ⟨g, off + r, none⟩) lg).trans HC.out))
          all_goals
            go_wp2_with fail
            go_ret3
            exact ⟨dig (1 :: (x ++ v)), dig (1 :: (x ++ u)), Nat.le_of_eq (dig_length _), Nat.le_of_eq (dig_length _), (fun z h => by rw [Option.map_eq_some_iff] at h; obtain ⟨y, hy, rfl⟩ := h; obtain ⟨g1, g2⟩ := HVU.out y hy; rw [g1, g2]; exact ⟨rfl, rfl⟩), by rw [Option.isSome_map]; rfl, b4⟩

end Go.Proofs.YthlngcjenmcbkaaDoor
