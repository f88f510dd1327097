/-
  Package digest: path, Proof.
-/
import Derived.Test.YtagcpjokajcdiaaDoorOws
namespace Go.Proofs.YtagcpjokajcdiaaDoor
open Go.RowKit Bs

/-- a slice of new memory that holds the strings l -/
def GivesL (l : Strs) (w : World) (e : Ending) (w' : World) : Prop := ∃ v, e = .returned v ∧ OwnS w' w.heap.size v l ∧ Below w.heap.size w w'

theorem le_alloc {n : Nat} {W : World} (h : n ≤ W.heap.size) (o : Obj) : n ≤ (W.alloc o).heap.size := by rw [World.size_alloc]; omega
set_option maxRecDepth 100000 in
set_option maxHeartbeats 1000000 in
theorem path_at (N : Nat) : ∀ (l : Strs) (g off n c i : Nat) (w : World), n ≤ N → l.length = n → 1 ≤ n → i < n → n ≤ c → c ≤ maxLen → n ≤ 1000000 → (∀ s ∈ l, s.length ≤ 100000) → PartsAt w g off l → KAt w →
    Calls Tryd.prog 18 #[.slice (some ⟨g, off, none⟩) n c, .int .i64 (i : Int)] w (GivesL (Tr.prf dig l i).reverse w) := by
  induction N with
  | zero => intro l g off n c i w h1 h2 h3; omega
  | succ N ih =>
    intro l g off n c i w hN hl h1 hi hc hm hbig hs hp hK
    unfold maxLen at hm
    rcases Nat.lt_or_ge n 2 with h2 | h2
    · obtain rfl : n = 1 := by omega
      have hpr := prf_one l i (by omega)
      rw [hpr]
      clear hN ih hpr hp hs
      go_enter Tryd.func18, Tryd.ntmps18
      go_wp2_with fail
      go_ret
      exact ⟨_, rfl, OwnS.nil _ _, Below.refl _ _⟩
    · have hk := Tr.lft_spec h2
      have hpm := prf_more l i (by omega)
      have hpl : (Tr.prf dig l i).length ≤ 63 := Tr.prfF_length dig l.length 63 l i (by omega)
      rw [hl] at hpm
      obtain ⟨k, hkk⟩ : ∃ k, Tr.lft n = k := ⟨_, rfl⟩
      have hfp := firstPart_any n w h2 (by omega)
      rw [hkk] at hk hpm hfp
      have ck : k ≠ c := by omega
      have ck2 : c ≠ k := by omega
      have i1 : (0 : Int) ≤ (k : Int) := by omega
      have i2 : (k : Int) ≤ (n : Int) := by omega
      have i3 : (k : Int) ≤ (c : Int) := by omega
      have i4 : (n : Int) ≤ (c : Int) := by omega
      by_cases hik : i < k
      · rw [if_pos hik] at hpm
        obtain ⟨A, hA⟩ : ∃ A, Tr.root dig (l.drop k) = A := ⟨_, rfl⟩
        obtain ⟨P, hP⟩ : ∃ P, (Tr.prf dig (l.take k) i).reverse = P := ⟨_, rfl⟩
        have iP : ∀ W, Below w.heap.size w W → Calls Tryd.prog 18 #[.slice (some ⟨g, off, none⟩) k c, .int .i64 (i : Int)] W (GivesL P W) := fun W hb => by
          rw [← hP]
          exact ih (l.take k) g off k c i W (by omega) (by rw [List.length_take]; omega) (by omega) hik (by omega) (by unfold maxLen; omega) (by omega) (fun s h => hs s (List.mem_of_mem_take h)) ((hp.later hb).take k) (hK.below hb)
        have iR : ∀ W, Below w.heap.size w W → Calls Tryd.prog 12 #[.slice (some ⟨g, off + k, none⟩) (n - k) (c - k)] W fun e w' => e = .returned (.string (bs A)) ∧ Below W.heap.size W w' := fun W hb => by
          rw [← hA]
          exact Root_at n (l.drop k) g (off + k) (n - k) (c - k) W (by omega) (by rw [List.length_drop]; omega) (by omega) (by omega) (by unfold maxLen; omega) (by omega) (fun s h => hs s (List.mem_of_mem_drop h)) ((hp.later hb).drop k) (hK.below hb)
        have hR : (Tr.prf dig l i).reverse = P ++ [A] := by rw [hpm, hA, List.reverse_cons, hP]
        have hPl : P.length ≤ 2000000 := by rw [hpm, List.length_cons] at hpl; rw [← hP, List.length_reverse]; omega
        rw [hR]
        have IP := Lib.hid iP
        have IR := Lib.hid iR
        have hif : (i : Int) < (k : Int) := by omega
        clear hN ih hpm hpl hA hP iP iR hR hp hs hkk
        go_enter Tryd.func18, Tryd.ntmps18
        go_wp2_with fail
        refine hfp.mono ?_
        rintro e w1 ⟨rfl, rfl⟩
        go_wp2_with fail
        go_region_held3 (fun _ => True) (trivial)
          (first
            | (go_at_call 18; (with_reducible refine (IP.out _ (Below.refl _ _).drew).mono ?_); rintro e wA ⟨v, rfl, oA0, bA0⟩; have bA := below_undrew bA0; have oA : OwnS wA w.heap.size v P := oA0)
            | (go_at_call 12; (with_reducible refine (IR.out _ bA).mono ?_); rintro e wB ⟨rfl, bB0⟩; have bB := below_on bA bB0 bA.size; have oB := oA.later bB0; have sB := bB.size)
            | (refine step_pushS (by rfl) _ _ (by rfl) w.heap.size v P (by rfl) (oB.alloc _) ⟨wB.heap.size, 0, none⟩ 1 A (by rfl) (fresh_cell wB _ _) hPl (le_alloc sB _) ?_; intro v1 wC oC bC))
        all_goals
          have bD := (bB.alloc sB (.cells #[.string (bs A)] 9)).trans bC
          have HO := Lib.hid oC
          clear oA0 oA oB oC
          go_wp2_with fail
          go_ret
          exact ⟨_, rfl, HO.out, bD⟩
      · rw [if_neg hik] at hpm
        obtain ⟨A, hA⟩ : ∃ A, Tr.root dig (l.take k) = A := ⟨_, rfl⟩
        obtain ⟨P, hP⟩ : ∃ P, (Tr.prf dig (l.drop k) (i - k)).reverse = P := ⟨_, rfl⟩
        have iP : ∀ W, Below w.heap.size w W → Calls Tryd.prog 18 #[.slice (some ⟨g, off + k, none⟩) (n - k) (c - k), .int .i64 ((i : Int) - (k : Int))] W (GivesL P W) := fun W hb => by
          rw [← hP, show (i : Int) - (k : Int) = ((i - k : Nat) : Int) by omega]
          exact ih (l.drop k) g (off + k) (n - k) (c - k) (i - k) W (by omega) (by rw [List.length_drop]; omega) (by omega) (by omega) (by omega) (by unfold maxLen; omega) (by omega) (fun s h => hs s (List.mem_of_mem_drop h)) ((hp.later hb).drop k) (hK.below hb)
        have iR : ∀ W, Below w.heap.size w W → Calls Tryd.prog 12 #[.slice (some ⟨g, off, none⟩) k c] W fun e w' => e = .returned (.string (bs A)) ∧ Below W.heap.size W w' := fun W hb => by
          rw [← hA]
          exact Root_at n (l.take k) g off k c W (by omega) (by rw [List.length_take]; omega) (by omega) (by omega) (by unfold maxLen; omega) (by omega) (fun s h => hs s (List.mem_of_mem_take h)) ((hp.later hb).take k) (hK.below hb)
        have hR : (Tr.prf dig l i).reverse = P ++ [A] := by rw [hpm, hA, List.reverse_cons, hP]
        have hPl : P.length ≤ 2000000 := by rw [hpm, List.length_cons] at hpl; rw [← hP, List.length_reverse]; omega
        rw [hR]
        have IP := Lib.hid iP
        have IR := Lib.hid iR
        have hif : ¬ (i : Int) < (k : Int) := by omega
        have wr1 : IntKind.i64.wrap ((i : Int) - (k : Int)) = (i : Int) - (k : Int) := by rw [IntKind.wrap_i64]; omega
        clear hN ih hpm hpl hA hP iP iR hR hp hs hkk
        go_enter Tryd.func18, Tryd.ntmps18
        go_wp2_with fail
        refine hfp.mono ?_
        rintro e w1 ⟨rfl, rfl⟩
        go_wp2_with fail
        go_region_held3 (fun _ => True) (trivial)
          (first
            | (go_at_call 18; (with_reducible refine (IP.out _ (Below.refl _ _).drew).mono ?_); rintro e wA ⟨v, rfl, oA0, bA0⟩; have bA := below_undrew bA0; have oA : OwnS wA w.heap.size v P := oA0)
            | (go_at_call 12; (with_reducible refine (IR.out _ bA).mono ?_); rintro e wB ⟨rfl, bB0⟩; have bB := below_on bA bB0 bA.size; have oB := oA.later bB0; have sB := bB.size)
            | (refine step_pushS (by rfl) _ _ (by rfl) w.heap.size v P (by rfl) (oB.alloc _) ⟨wB.heap.size, 0, none⟩ 1 A (by rfl) (fresh_cell wB _ _) hPl (le_alloc sB _) ?_; intro v1 wC oC bC))
        all_goals
          have bD := (bB.alloc sB (.cells #[.string (bs A)] 9)).trans bC
          have HO := Lib.hid oC
          clear oA0 oA oB oC
          go_wp2_with fail
          go_ret
          exact ⟨_, rfl, HO.out, bD⟩

end Go.Proofs.YtagcpjokajcdiaaDoor
