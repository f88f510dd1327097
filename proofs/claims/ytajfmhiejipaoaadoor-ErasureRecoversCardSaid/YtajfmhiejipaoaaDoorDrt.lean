/-
  Package digest: Root.
-/
import Derived.Test.YtajfmhiejipaoaaDoorLst
namespace Go.Proofs.YtajfmhiejipaoaaDoor
open Go.RowKit Bs

theorem dig_len (l : List UInt8) : (dig l).length = 32 := dig_length l
theorem root_len (l : Strs) : (Tr.root dig l).length = 32 := by
  rcases Nat.lt_or_ge l.length 2 with h | h
  · match l, h with
    | [], _ => exact dig_length _
    | [s], _ => exact dig_length _
  · rw [Tr.root_more dig l h]; exact dig_length _
theorem Root_nil (a : Option Addr) (c : Nat) (w : World) (hK : KAt w) :
    Calls Tryd.prog 35 #[.slice a 0 c] w fun e w' => e = .returned (.string (bs (dig []))) ∧ Below w.heap.size w w' := by
  have h := Sum_any [] w hK (by simp)
  go_enter Tryd.func35, Tryd.ntmps35
  go_wp2_with fail
  refine h.mono ?_
  rintro e w1 ⟨rfl, hb⟩
  go_wp2_with fail
  go_ret
  exact ⟨rfl, hb⟩
set_option maxRecDepth 100000 in
set_option maxHeartbeats 1000000 in
theorem Root_at (N : Nat) : ∀ (l : Strs) (g off n c : Nat) (w : World), n ≤ N → l.length = n → 1 ≤ n → n ≤ c → c ≤ maxLen → n ≤ 1000000 → (∀ s ∈ l, s.length ≤ 100000) → PartsAt w g off l → KAt w →
    Calls Tryd.prog 35 #[.slice (some ⟨g, off, none⟩) n c] w fun e w' => e = .returned (.string (bs (Tr.root dig l))) ∧ Below w.heap.size w w' := by
  induction N with
  | zero => intro l g off n c w h1 h2 h3; omega
  | succ N ih =>
    intro l g off n c w hN hl h1 hc hm hbig hs hp hK
    unfold maxLen at hm
    rcases Nat.lt_or_ge n 2 with h2 | h2
    · obtain rfl : n = 1 := by omega
      obtain ⟨s, rfl⟩ : ∃ s, l = [s] := by match l, hl with | [s], _ => exact ⟨s, rfl⟩
      have hcell := hp 0 (by simp)
      rw [show (([s] : Strs).getD 0 []) = s from rfl, Nat.add_zero] at hcell
      have h := Leaf_any s w hK (by have := hs s (by simp); omega)
      rw [Tr.root_one]
      unfold Tr.leaf
      clear hN ih
      go_enter Tryd.func35, Tryd.ntmps35
      go_wp2_with fail
      refine h.mono ?_
      rintro e w1 ⟨rfl, hb⟩
      go_wp2_with fail
      go_ret
      exact ⟨rfl, hb⟩
    · have hk := Tr.lft_spec h2
      have hroot := Tr.root_more dig l (by omega)
      rw [hl] at hroot
      obtain ⟨k, hkk⟩ : ∃ k, Tr.lft n = k := ⟨_, rfl⟩
      have hfp := firstPart_any n w h2 (by omega)
      rw [hkk] at hk hroot hfp
      obtain ⟨A, hA⟩ : ∃ A, Tr.root dig (l.take k) = A := ⟨_, rfl⟩
      obtain ⟨B, hB⟩ : ∃ B, Tr.root dig (l.drop k) = B := ⟨_, rfl⟩
      have iA : ∀ W, Below w.heap.size w W → Calls Tryd.prog 35 #[.slice (some ⟨g, off, none⟩) k c] W fun e w' => e = .returned (.string (bs A)) ∧ Below W.heap.size W w' := fun W hb => by
        rw [← hA]
        exact ih (l.take k) g off k c W (by omega) (by rw [List.length_take]; omega) (by omega) (by omega) (by unfold maxLen; omega) (by omega) (fun s h => hs s (List.mem_of_mem_take h)) ((hp.later hb).take k) (hK.below hb)
      have iB : ∀ W, Below w.heap.size w W → Calls Tryd.prog 35 #[.slice (some ⟨g, off + k, none⟩) (n - k) (c - k)] W fun e w' => e = .returned (.string (bs B)) ∧ Below W.heap.size W w' := fun W hb => by
        rw [← hB]
        exact ih (l.drop k) g (off + k) (n - k) (c - k) W (by omega) (by rw [List.length_drop]; omega) (by omega) (by omega) (by unfold maxLen; omega) (by omega) (fun s h => hs s (List.mem_of_mem_drop h)) ((hp.later hb).drop k) (hK.below hb)
      have iN : ∀ W, Below w.heap.size w W → Calls Tryd.prog 60 #[.string (bs A), .string (bs B)] W fun e w' => e = .returned (.string (bs (Tr.root dig l))) ∧ Below W.heap.size W w' := fun W hb => by
        rw [hroot, hA, hB]
        exact Node_any A B W (hK.below hb) (by rw [← hA, root_len]; omega) (by rw [← hB, root_len]; omega)
      have IA := Lib.hid iA
      have IB := Lib.hid iB
      have IN := Lib.hid iN
      obtain ⟨R, hR⟩ : ∃ R, Tr.root dig l = R := ⟨_, rfl⟩
      rw [hR] at IN ⊢
      have ck : k ≠ c := by omega
      have i1 : (0 : Int) ≤ (k : Int) := by omega
      have i2 : (k : Int) ≤ (n : Int) := by omega
      have i3 : (k : Int) ≤ (c : Int) := by omega
      have i4 : (n : Int) ≤ (c : Int) := by omega
      clear hN ih hroot hA hB iA iB iN hR hp hs hkk
      go_enter Tryd.func35, Tryd.ntmps35
      go_wp2_with fail
      refine hfp.mono ?_
      rintro e w1 ⟨rfl, rfl⟩
      go_wp2_with fail
      go_region_held3 (fun _ => True) (trivial)
        (first
          | (go_at_call 35; (with_reducible refine (IA.out _ (Below.refl _ _).drew).mono ?_); rintro e wA ⟨rfl, bA0⟩; have bA := below_undrew bA0)
          | (go_at_call 35; (with_reducible refine (IB.out _ bA).mono ?_); rintro e wB ⟨rfl, bB0⟩; have bB := below_on bA bB0 bA.size)
          | (go_at_call 60; (with_reducible refine (IN.out _ bB).mono ?_); rintro e wC ⟨rfl, bC0⟩; have bC := below_on bB bC0 bB.size))
      all_goals
        go_wp2_with fail
        go_ret
        exact ⟨rfl, bC⟩

end Go.Proofs.YtajfmhiejipaoaaDoor
