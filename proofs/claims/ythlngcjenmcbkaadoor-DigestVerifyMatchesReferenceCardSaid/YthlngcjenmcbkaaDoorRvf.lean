/-
  The reference implementation of layer 2: Digests.
-/
import Derived.Test.YthlngcjenmcbkaaDoorDvf
import Derived.Test.YthlngcjenmcbkaaDoorRpp
namespace Go.Proofs.YthlngcjenmcbkaaDoor
open Go.RowKit Bs

set_option maxHeartbeats 400000 in
theorem refDigests_any (l : Strs) (a : Option Addr) (n c : Nat) (w : World) (hL : IsL w a n c l) (hs : ∀ s ∈ l, s.length ≤ maxLen) :
    Calls Tryd.prog 50 #[.slice a n c] w fun e w' => e = .returned (.bool (digB l)) ∧ w = w' := by
  have hn : n ≤ maxLen := Nat.le_trans hL.cap hL.max
  unfold maxLen at hn hs
  rcases Nat.eq_zero_or_pos n with h0 | h0
  · subst h0
    obtain rfl : l = [] := List.length_eq_zero_iff.1 hL.len
    rw [show digB [] = true from rfl]
    clear hs hL
    go_enter Tryd.func50, Tryd.ntmps50
    go_wp2_with fail
    go_loop [3] (fun i => i = .int .i64 0) (fun _ => 0)
    case atStart => exact rfl
    case round =>
      subst hrel
      go_wp2_with fail
      go_ret
      exact ⟨rfl, rfl⟩
  · obtain ⟨g, off, rfl, hp⟩ := hL.at h0
    have HL := Lib.hid hL.len
    have HS := Lib.hid hs
    clear hL hs
    go_enter Tryd.func50, Tryd.ntmps50
    go_wp2_with fail
    go_loop [3] (fun i => ∃ j : Nat, j ≤ n ∧ i = .int .i64 j ∧ Hid (∀ q, q < j → (l.getD q []).length = 32)) (fun i => n - (intOf i).toNat)
    case atStart => exact ⟨0, by omega, rfl, Lib.hid fun q hq => by omega⟩
    case round =>
      obtain ⟨j, hj, rfl, hall⟩ := hrel
      rcases Nat.lt_or_ge j n with hjn | hjn
      · have hcell := hp j (by rw [HL.out]; exact hjn)
        have hsz := bs_size (l.getD j [])
        have hsl := HS.out _ (getD_mem l j (by rw [HL.out]; exact hjn))
        obtain ⟨x, hx⟩ : ∃ x, l.getD j [] = x := ⟨_, rfl⟩
        rw [hx] at hcell hsz hsl
        have HX := Lib.hid hx
        clear hx hp
        by_cases h32 : x.length = 32
        · rw [h32] at hsz
          have H32 := Lib.hid h32
          clear h32
          go_wp2_with fail
          go_round
          case rel => exact ⟨j + 1, by omega, by go_num, Lib.hid fun q hq => by
            rcases Nat.lt_or_ge q j with h | h
            · exact hall.out q h
            · obtain rfl : q = j := by omega
              rw [HX.out]; exact H32.out⟩
          case measure => simp [intOf]; omega
        · have hf := digB_false (l := l) j (by rw [HL.out]; exact hjn) (by rw [HX.out]; exact h32)
          have hne : (((x.length : Nat) : Int) != 32) = true := by rw [bne_iff_ne]; omega
          have HF := Lib.hid hf
          clear h32 hf
          go_wp2_with fail
          go_ret
          exact ⟨by rw [HF.out]; rfl, rfl⟩
      · obtain rfl : n = j := by omega
        have ht : digB l = true := digB_of fun s hs => by
          obtain ⟨q, hq, rfl⟩ := List.getElem_of_mem hs
          rw [← getD_eq l q hq]; exact hall.out q (by rw [← HL.out]; exact hq)
        have HT := Lib.hid ht
        clear ht hp
        go_wp2_with fail
        go_ret
        exact ⟨by rw [HT.out]; rfl, rfl⟩


end Go.Proofs.YthlngcjenmcbkaaDoor
