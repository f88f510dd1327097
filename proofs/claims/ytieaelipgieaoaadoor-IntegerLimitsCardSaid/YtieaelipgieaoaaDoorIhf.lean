/-
  Layer 3: which strings are integers.
-/
import Derived.Test.YtieaelipgieaoaaDoorIhd
namespace Go.Proofs.YtieaelipgieaoaaDoor
open Go.RowKit Bs Ig

set_option maxRecDepth 100000 in
set_option maxHeartbeats 1000000 in
theorem Valid_any (l : List UInt8) (w : World) :
    Calls Tryd.prog 19 #[.string (bs l)] w fun e w' => ∃ r, e = .returned (.bool r) ∧ (r = true ↔ IsI l) ∧ w' = w := by
  have hc := Tryd.strings_TrimPrefix (bs l) ⟨#[45]⟩
  rw [show (bs l).data.toList = l from rfl, show (ByteArray.mk #[45]).data.toList = [45] from rfl, trim45] at hc
  have hII := isI_iff l
  obtain ⟨b, hb⟩ : ∃ b, body l = b := ⟨_, rfl⟩
  rw [hb] at hc hII
  have hcs : ∀ W, Calls Tryd.prog 36 #[.string (bs l), .string ⟨#[45]⟩] W fun e w' => e = .returned (.string (bs b)) ∧ w' = W := hc
  have HC := Lib.hid hcs
  have hsz : (bs b).size = b.length := bs_size b
  clear hc hcs
  obtain ⟨S, hS⟩ : ∃ S, bs b = S := ⟨_, rfl⟩
  obtain ⟨T, hT⟩ : ∃ T, bs l = T := ⟨_, rfl⟩
  rw [hS, hT] at HC
  rw [hS] at hsz
  rw [hT]
  have h48 : l = [48] → b = [48] := fun h => by rw [← hb, h]; rfl
  have hget : ∀ (i : Nat) (h : i < S.size), (S[i]'h) = b.getD i 0 := fun i h => by
    subst hS
    rw [List.getD_eq_getElem?_getD, List.getElem?_eq_getElem (show i < b.length by omega)]
    rfl
  have HI := Lib.hid hII
  have HG := Lib.hid hget
  have H48 := Lib.hid h48
  have HT := Lib.hid hT
  clear hII hget h48 hb hS hT
  rcases Nat.eq_zero_or_pos b.length with h0 | h0
  · have hd0 : ((b.length : Int) == 0) = true := by rw [h0]; rfl
    go_enter Tryd.func19, Tryd.ntmps19
    go_wp2_with (first | (go_at_call 36; refine (HC.out _).mono ?_; rintro e w1 ⟨rfl, rfl⟩))
    go_ret
    exact ⟨false, rfl, ⟨fun h => (by cases h), fun h => by
      rcases HI.out.1 h with h | h
      · rw [H48.out h] at h0; cases h0
      · omega⟩, rfl⟩
  have hd0 : ((b.length : Int) == 0) = false := beq_false_of_ne (by omega)
  rcases Nat.lt_or_ge 200 b.length with h2 | h2
  · have hd2 : decide (200 < (b.length : Int)) = true := decide_eq_true (by omega)
    go_enter Tryd.func19, Tryd.ntmps19
    go_wp2_with (first | (go_at_call 36; refine (HC.out _).mono ?_; rintro e w1 ⟨rfl, rfl⟩))
    go_ret
    exact ⟨false, rfl, ⟨fun h => (by cases h), fun h => by
      rcases HI.out.1 h with h | h
      · rw [H48.out h] at h2; simp at h2
      · omega⟩, rfl⟩
  have hd2 : decide (200 < (b.length : Int)) = false := decide_eq_false (by omega)
  have hi0 : 0 < S.size := by omega
  obtain ⟨k0, hk0⟩ : ∃ k0, (S[0]'hi0).toNat = k0 := ⟨_, rfl⟩
  have Hk0 := Lib.hid hk0
  rcases Decidable.em (k0 = 48) with h3 | h3
  · subst h3
    go_enter Tryd.func19, Tryd.ntmps19
    go_wp2_with (first | (go_at_call 36; refine (HC.out _).mono ?_; rintro e w1 ⟨rfl, rfl⟩))
    go_ret
    refine ⟨_, rfl, ⟨fun h => HI.out.2 (.inl ?_), fun h => ?_⟩, rfl⟩
    · rw [← HT.out, bs_toList] at h; exact eq_of_beq h
    · rw [← HT.out, bs_toList]
      rcases HI.out.1 h with h | h
      · rw [h]; rfl
      · exfalso
        refine h.2.2.1 ?_
        rw [← HG.out 0 hi0]
        exact byte_ext Hk0.out
  · have hd3 : ((k0 : Int) == 48) = false := beq_false_of_ne (by omega)
    have HI3 := Lib.hid (show IsI l ↔ ∀ i, i < b.length → isDig (b.getD i 0) from by
      have hne : b.getD 0 0 ≠ 48 := by
        rw [← HG.out 0 hi0]; intro h; rw [h] at hk0; exact h3 hk0.symm
      constructor
      · intro h
        rcases HI.out.1 h with h | h
        · rw [H48.out h] at hne; exact absurd rfl hne
        · exact h.2.2.2
      · intro h; exact HI.out.2 (.inr ⟨h0, h2, hne, h⟩))
    go_enter Tryd.func19, Tryd.ntmps19
    go_wp2_with (first | (go_at_call 36; refine (HC.out _).mono ?_; rintro e w1 ⟨rfl, rfl⟩))
    go_loopw [22] (fun u wr => ∃ i : Nat, i ≤ b.length ∧ u = .int .i64 (i : Int) ∧ (∀ j, j < i → isDig (b.getD j 0)) ∧ w1 = wr) (fun u _ => (b.length - intOf u).toNat)
    case atStart => exact ⟨0, Nat.zero_le _, rfl, fun j h => absurd h (Nat.not_lt_zero _), rfl⟩
    case round =>
      obtain ⟨i, hi, rfl, hdg, rfl⟩ := hrel
      have HD := Lib.hid hdg
      clear hdg
      rcases Nat.lt_or_ge i b.length with hlt | hge
      · have hiS : i < S.size := by omega
        obtain ⟨k, hk⟩ : ∃ k, (S[i]'hiS).toNat = k := ⟨_, rfl⟩
        have Hk := Lib.hid hk
        rcases Decidable.em (48 ≤ k ∧ k ≤ 57) with hkd | hkd
        · have e1 : decide ((k : Int) < 48) = false := decide_eq_false (by omega)
          have e2 : decide (57 < (k : Int)) = false := decide_eq_false (by omega)
          go_wp2_with fail
          go_roundw
          case rel => exact ⟨i + 1, by omega, by go_num, fun j hj => by
            rcases Nat.lt_or_ge j i with h | h
            · exact HD.out j h
            · obtain rfl : j = i := by omega
              rw [← HG.out j hiS]; unfold isDig; rw [Hk.out]; exact hkd, trivial⟩
          case measure => simp [intOf]; omega
        · have hno : ¬ IsI l := fun h => by
            have := HI3.out.1 h i hlt
            rw [← HG.out i hiS] at this; unfold isDig at this; rw [hk] at this; exact hkd this
          have HN := Lib.hid hno
          clear hno
          rcases Nat.lt_or_ge k 48 with hk4 | hk4
          · have e1 : decide ((k : Int) < 48) = true := decide_eq_true (by omega)
            go_wp2_with fail
            go_ret
            exact ⟨false, rfl, ⟨fun h => (by cases h), fun h => (HN.out h).elim⟩, rfl⟩
          · have e1 : decide ((k : Int) < 48) = false := decide_eq_false (by omega)
            have e2 : decide (57 < (k : Int)) = true := decide_eq_true (by omega)
            go_wp2_with fail
            go_ret
            exact ⟨false, rfl, ⟨fun h => (by cases h), fun h => (HN.out h).elim⟩, rfl⟩
      · obtain rfl : i = b.length := by omega
        go_wp2_with fail
        go_ret
        exact ⟨true, rfl, ⟨fun _ => HI3.out.2 HD.out, fun _ => rfl⟩, rfl⟩

end Go.Proofs.YtieaelipgieaoaaDoor
