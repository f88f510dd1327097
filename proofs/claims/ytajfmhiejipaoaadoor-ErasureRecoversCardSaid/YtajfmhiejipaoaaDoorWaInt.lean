/-
  wire.Int: what it returns, for every string and every offset.
-/
import Derived.Test.YtajfmhiejipaoaaDoorWaNum
namespace Go.Proofs.YtajfmhiejipaoaaDoor
open Go.RowKit

theorem bN_extract (s : ByteArray) (k : Nat) : bN (s.extract k s.size) = (bN s).drop k := by
  simp only [bN, ByteArray.data_extract, Array.toList_extract, List.map_drop, List.extract_eq_take_drop, List.map_take]
  rw [List.take_of_length_le (by simp)]

theorem numB_bd (l : List Nat) (hb : ∀ b ∈ l, b < 256) : (numB l).1 < 9223372036854775808 ∧ (numB l).2 ≤ 9 ∧ (numB l).2 ≤ l.length := by
  unfold numB
  cases h : M1.dec true 9 l with
  | none => simp
  | some p =>
    obtain ⟨z, k⟩ := p
    obtain ⟨_, _, h2, h3, h4, _⟩ := M1.leb_dec true 9 l z k hb h
    have h5 : (128 : Nat) ^ 9 = 9223372036854775808 := by decide
    simp only [Option.getD_some]
    exact ⟨by omega, h2, h3⟩

theorem number_is (s : ByteArray) (z m : Nat) (h : numB (bN s) = (z, m)) (w : World) (hs : s.size ≤ maxLen) :
    Calls Tryd.prog 88 #[.string s] w fun e w' => e = .returned (.tuple #[.int .u64 z, .int .i64 m]) ∧ w = w' := by
  have := number_any s w hs
  rw [h] at this
  exact this

/-- what Int returns: the integer, the offset behind it, the error -/
def intB (l : List Nat) (at_ : Int) : Int × Int × Int :=
  if at_ < 0 ∨ (l.length : Int) < at_ then (0, 0, 2)
  else if (numB (l.drop at_.toNat)).2 = 0 ∨ 9223372036854775806 < (numB (l.drop at_.toNat)).1 then (0, 0, 10)
  else (un (numB (l.drop at_.toNat)).1, at_ + (numB (l.drop at_.toNat)).2, 0)

def Ret3 (v : Int × Int × Int) : Ending := .returned (.tuple #[.int .i64 v.1, .int .i64 v.2.1, .int .i64 v.2.2])

theorem extract_size (s : ByteArray) (k : Nat) : (s.extract k s.size).size = s.size - k := by simp

set_option maxRecDepth 100000 in
set_option maxHeartbeats 400000 in
theorem Int_any (s : ByteArray) (at_ : Int) (w : World) (hs : s.size ≤ maxLen) (h1 : -9223372036854775808 ≤ at_) (h2 : at_ ≤ 9223372036854775807) :
    Calls Tryd.prog 71 #[.string s, .int .i64 at_] w fun e w' => e = Ret3 (intB (bN s) at_) ∧ w = w' := by
  unfold maxLen at hs
  by_cases ha : at_ < 0
  · have e : intB (bN s) at_ = (0, 0, 2) := by unfold intB; rw [if_pos (.inl ha)]
    rw [e]; clear e
    go_enter Tryd.func71, Tryd.ntmps71
    go_wp2
    go_ret3
    exact ⟨rfl, rfl⟩
  · by_cases hb : (s.size : Int) < at_
    · have e : intB (bN s) at_ = (0, 0, 2) := by unfold intB; rw [if_pos (.inr (by rw [bN_length]; exact hb))]
      rw [e]; clear e
      go_enter Tryd.func71, Tryd.ntmps71
      go_wp2
      go_ret3
      exact ⟨rfl, rfl⟩
    · obtain ⟨k, rfl⟩ := Int.eq_ofNat_of_zero_le (show 0 ≤ at_ by omega)
      obtain ⟨z, m, hn⟩ : ∃ z m, numB (bN (s.extract k s.size)) = (z, m) := ⟨_, _, rfl⟩
      have hbd := numB_bd (bN (s.extract k s.size)) (bN_lt _)
      rw [hn, bN_length, extract_size] at hbd
      obtain ⟨hb1, hb2, hb3⟩ := hbd
      simp only at hb1 hb2 hb3
      have e : intB (bN s) (k : Int) = if m = 0 ∨ 9223372036854775806 < z then ((0, 0, 10) : Int × Int × Int) else (un z, (k : Int) + (m : Int), 0) := by
        unfold intB
        rw [if_neg (by rw [bN_length]; rintro (h | h) <;> omega), Int.toNat_natCast, ← bN_extract, hn]
      have Hn := Lib.hid hn
      clear hn
      by_cases hm : m = 0
      · subst hm
        rw [if_pos (.inl rfl)] at e
        rw [e]; clear e
        go_enter Tryd.func71, Tryd.ntmps71
        go_wp2_with (go_at_call 88; refine (number_is _ z 0 Hn.out _ (by unfold maxLen; simp; omega)).mono ?_; rintro e w' ⟨rfl, rfl⟩)
        go_ret3
        exact ⟨rfl, rfl⟩
      · by_cases hz : 9223372036854775806 < z
        · rw [if_pos (.inr hz)] at e
          rw [e]; clear e
          have hm' : ((m : Int) == 0) = false := by simp; omega
          clear hm
          have hz' : 9223372036854775806 < (z : Int) := by omega
          go_enter Tryd.func71, Tryd.ntmps71
          go_wp2_with (go_at_call 88; refine (number_is _ z m Hn.out _ (by unfold maxLen; simp; omega)).mono ?_; rintro e w' ⟨rfl, rfl⟩)
          go_ret3
          exact ⟨rfl, rfl⟩
        · rw [if_neg (by omega)] at e
          rw [e]; clear e
          have hm' : ((m : Int) == 0) = false := by simp; omega
          clear hm
          have hz' : (z : Int) ≤ 9223372036854775806 := by omega
          go_enter Tryd.func71, Tryd.ntmps71
          go_wp2_with (first | (go_at_call 88; refine (number_is _ z m Hn.out _ (by unfold maxLen; simp; omega)).mono ?_; rintro e w' ⟨rfl, rfl⟩) | (go_at_call 89; refine (unfold_any _ _ (by omega) (by omega)).mono ?_; rintro e w' ⟨rfl, rfl⟩))
          go_ret3
          exact ⟨rfl, rfl⟩

end Go.Proofs.YtajfmhiejipaoaaDoor
