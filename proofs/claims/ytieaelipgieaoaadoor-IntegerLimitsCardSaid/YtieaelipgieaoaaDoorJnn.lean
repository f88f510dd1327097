/-
  Layer 3: numbers of nines, and powers of ten.
-/
import Derived.Test.YtieaelipgieaoaaDoorJbb
namespace Go.Proofs.YtieaelipgieaoaaDoor
open Go.RowKit Bs Ig

def nn (k : Nat) : List UInt8 := List.replicate k 57
theorem nn_length (k : Nat) : (nn k).length = k := by simp [nn]
theorem nn_dig (k : Nat) : ∀ c ∈ nn k, isDig c := by
  intro c hc
  rw [List.eq_of_mem_replicate hc]
  decide
theorem nn_num (k : Nat) : num (nn k) + 1 = 10 ^ k := by
  induction k with
  | zero => rfl
  | succ k ih =>
    rw [show nn (k + 1) = 57 :: nn k from rfl, num_cons, nn_length, Nat.pow_succ, show (57 : UInt8).toNat - 48 = 9 from rfl]
    omega
theorem nn_itoa (k : Nat) (hk : 0 < k) : Lib.itoa ((10 : Int) ^ k - 1) = nn k := by
  obtain ⟨j, rfl⟩ : ∃ j, k = j + 1 := ⟨k - 1, by omega⟩
  have h := nn_num (j + 1)
  rw [show ((10 : Int) ^ (j + 1) - 1) = ((num (nn (j + 1)) : Nat) : Int) by
    have : (10 : Int) ^ (j + 1) = (((10 : Nat) ^ (j + 1) : Nat) : Int) := by simp
    omega]
  exact lit_pos _ _ rfl (nn_dig _) (show 49 ≤ (57 : UInt8).toNat by decide)
theorem nn_neg (k : Nat) (hk : 0 < k) : Lib.itoa (-((10 : Int) ^ k - 1)) = 45 :: nn k := by
  obtain ⟨j, rfl⟩ : ∃ j, k = j + 1 := ⟨k - 1, by omega⟩
  have h := nn_num (j + 1)
  rw [show -((10 : Int) ^ (j + 1) - 1) = -((num (nn (j + 1)) : Nat) : Int) by
    have : (10 : Int) ^ (j + 1) = (((10 : Nat) ^ (j + 1) : Nat) : Int) := by simp
    omega]
  exact lit_neg _ _ rfl (nn_dig _) (show 49 ≤ (57 : UInt8).toNat by decide)
theorem nn_two (k : Nat) : Lib.itoa (2 * (10 : Int) ^ k - 1) = 49 :: nn k := by
  have h := nn_num k
  rw [show 2 * (10 : Int) ^ k - 1 = ((num (49 :: nn k) : Nat) : Int) by
    have : (10 : Int) ^ k = (((10 : Nat) ^ k : Nat) : Int) := by simp
    rw [num_cons, nn_length, show (49 : UInt8).toNat - 48 = 1 from rfl]
    omega]
  refine lit_pos _ _ rfl (fun c hc => ?_) (show 49 ≤ (49 : UInt8).toNat by decide)
  rcases List.mem_cons.1 hc with rfl | hc
  · decide
  · exact nn_dig k c hc
theorem nn_snoc (k : Nat) : nn k ++ [57] = nn (k + 1) := by unfold nn; rw [List.replicate_succ']
theorem nn_no (k : Nat) (hk : 200 < k) : ¬ IsI (nn k) := by
  obtain ⟨j, rfl⟩ : ∃ j, k = j + 1 := ⟨k - 1, by omega⟩
  rw [isI_iff]
  rintro (h | ⟨_, h, _⟩)
  · have := congrArg List.length h
    rw [nn_length] at this
    simp at this
    omega
  · rw [show body (nn (j + 1)) = nn (j + 1) from rfl, nn_length] at h
    omega

set_option maxRecDepth 100000 in
set_option maxHeartbeats 1000000 in
theorem nines_any (n : Nat) (hn : n ≤ 200) (N : Int) (hN : N = n) (w : World) :
    Calls Tryd.prog 23 #[.int .i64 N] w fun e w' => e = .returned (.string (bs (nn n))) ∧ w' = w := by
  subst hN
  go_enter Tryd.func23, Tryd.ntmps23
  go_wp2_with fail
  go_loopw [3, 4] (fun u v wr => ∃ i : Nat, i ≤ n ∧ u = .string (bs (nn i)) ∧ v = .int .i64 (i : Int) ∧ w = wr) (fun _ v _ => n - (intOf v).toNat)
  case atStart => exact ⟨0, Nat.zero_le _, rfl, rfl, rfl⟩
  case round =>
    obtain ⟨i, hi, rfl, rfl, rfl⟩ := hrel
    rcases Nat.lt_or_ge i n with h | h
    · have hs := nn_snoc i
      have hap := bs_append (nn i) [57]
      rw [hs] at hap
      obtain ⟨S, hS⟩ : ∃ S, bs (nn i) = S := ⟨_, rfl⟩
      have hsz : S.size = i := by rw [← hS, bs_size, nn_length]
      have hnl : ¬ 9223372036854775807 < i + 1 := by omega
      rw [hS] at hap ⊢
      have Hap := Lib.hid hap
      clear hap hs hS
      go_wp2_with fail
      go_roundw
      case rel => exact ⟨i + 1, by omega, congrArg Value.string Hap.out, by go_num, trivial⟩
      case measure => simp [intOf]; omega
    · obtain rfl : i = n := by omega
      go_wp2_with fail
      go_ret
      exact ⟨rfl, rfl⟩

set_option maxRecDepth 100000 in
set_option maxHeartbeats 1000000 in
theorem pick_any (c : Int) (h0 : -9223372036854775808 ≤ c) (h1 : c ≤ 9223372036854775807) (w : World) :
    Calls Tryd.prog 24 #[.int .i64 c, .int .i64 200] w fun e w' => ∃ k : Nat, k < 200 ∧ e = .returned (.int .i64 (k : Int)) ∧ w' = w := by
  rcases Int.lt_or_le c 0 with h | h
  · obtain ⟨d, he⟩ : ∃ d : Nat, -(c + 1) = (d : Int) := ⟨(-(c + 1)).toNat, by omega⟩
    have hd : decide (c < 0) = true := decide_eq_true h
    have ht : (d : Int).tmod 200 = ((d % 200 : Nat) : Int) := (Int.ofNat_tmod d 200).symm
    have hlt := Nat.mod_lt d (show 0 < 200 by omega)
    obtain ⟨k, hk⟩ : ∃ k, d % 200 = k := ⟨_, rfl⟩
    rw [hk] at ht hlt
    clear hk
    go_enter Tryd.func24, Tryd.ntmps24
    go_wp2_with fail
    go_ret
    exact ⟨k, hlt, rfl, rfl⟩
  · obtain ⟨d, rfl⟩ : ∃ d : Nat, c = (d : Int) := ⟨c.toNat, by omega⟩
    have ht : (d : Int).tmod 200 = ((d % 200 : Nat) : Int) := (Int.ofNat_tmod d 200).symm
    have hlt := Nat.mod_lt d (show 0 < 200 by omega)
    obtain ⟨k, hk⟩ : ∃ k, d % 200 = k := ⟨_, rfl⟩
    rw [hk] at ht hlt
    clear hk h
    go_enter Tryd.func24, Tryd.ntmps24
    go_wp2_with fail
    go_ret
    exact ⟨k, hlt, rfl, rfl⟩

end Go.Proofs.YtieaelipgieaoaaDoor
