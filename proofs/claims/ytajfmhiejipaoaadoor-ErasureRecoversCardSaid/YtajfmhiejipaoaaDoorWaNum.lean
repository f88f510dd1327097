/-
  wire.number: the number that a string begins with, and the size of its encoding.
-/
import Derived.Test.YtajfmhiejipaoaaDoorWaOne
import Derived.Lib.Hide
namespace Go.Proofs.YtajfmhiejipaoaaDoor
open Go.RowKit

/-- the bytes of a string, as numbers -/
def bN (s : ByteArray) : List Nat := s.data.toList.map UInt8.toNat
theorem bN_length (s : ByteArray) : (bN s).length = s.size := by simp [bN]
theorem bN_get (s : ByteArray) (k : Nat) (h : k < s.size) (h' : k < (bN s).length) : (bN s)[k] = s[k].toNat := by simp [bN]; rfl
theorem bN_lt (s : ByteArray) : ∀ b ∈ bN s, b < 256 := by
  intro b hb; simp only [bN, List.mem_map] at hb; obtain ⟨x, _, rfl⟩ := hb; exact x.toNat_lt
/-- what 'number' returns -/
def numB (l : List Nat) : Nat × Nat := (M1.dec true 9 l).getD (0, 0)

theorem num_none {l : List Nat} (h : M1.dec true 9 l = none) : Ending.returned (.tuple #[.int .u64 0, .int .i64 0]) = Ending.returned (.tuple #[.int .u64 (numB l).1, .int .i64 (numB l).2]) := by
  simp [numB, h]
theorem num_some {l : List Nat} {a b : Nat} (h : M1.dec true 9 l = some (a, b)) {x y : Int} (hx : x = a) (hy : y = b) : Ending.returned (.tuple #[.int .u64 x, .int .i64 y]) = Ending.returned (.tuple #[.int .u64 (numB l).1, .int .i64 (numB l).2]) := by
  simp [numB, h, hx, hy]
/-- a round's facts, behind names -/
structure NumAt (s : ByteArray) (k a : Nat) : Prop where
  inv : M1.Inv (bN s) k a

set_option maxRecDepth 100000 in
set_option maxHeartbeats 400000 in
theorem number_any (s : ByteArray) (w : World) (hs : s.size ≤ maxLen) :
    Calls Tryd.prog 88 #[.string s] w fun e w' => e = .returned (.tuple #[.int .u64 (numB (bN s)).1, .int .i64 (numB (bN s)).2]) ∧ w = w' := by
  unfold maxLen at hs
  rcases Nat.lt_or_ge 9 s.size with h9 | h9
  all_goals
    go_enter Tryd.func88, Tryd.ntmps88
    go_wp2
    go_loop [10, 4] (fun i z => ∃ (k : Nat) (a : Nat), k ≤ 9 ∧ k ≤ s.size ∧ i = .int .i64 k ∧ z = .int .u64 a ∧ NumAt s k a) (fun i _ => 9 - (intOf i).toNat)
    case atStart => exact ⟨0, 0, by omega, by omega, rfl, rfl, ⟨M1.inv_start _⟩⟩
    case round =>
      obtain ⟨k, a, hk, hks, rfl, rfl, ha⟩ := hrel
      by_cases hlt : k < 9 ∧ k < s.size
      · obtain ⟨h1, h2⟩ := hlt
        have hl : k < (bN s).length := by rw [bN_length]; exact h2
        have hget := Lib.hid (bN_get s k h2 hl)
        have hor := Lib.hid (M1.or_val a k s[k].toNat h1 ha.inv.1 s[k].toNat_lt)
        have hb2 := Lib.hid s[k].toNat_lt
        go_wp2_with fail
        · have hz : s[k].toNat = 0 := by assumption
          have h0 : 0 < k := by assumption
          go_ret2
          exact ⟨num_none (M1.inv_zero ha.inv h1 hl h0 (by rw [hget.out]; exact hz)), rfl⟩
        · have hz : s[k].toNat = 0 := by assumption
          have h0 : ¬ 0 < k := by assumption
          go_ret2
          exact ⟨num_some (M1.inv_stop ha.inv h1 hl (by rintro ⟨_, h⟩; exact h0 h) (by rw [hget.out]; omega)) (by have h := hor.out; rw [hz] at h; rw [hget.out, hz]; simpa using h) (by simp), rfl⟩
        · have hz : ¬ s[k].toNat = 0 := by assumption
          have hb : (s[k].toNat : Int) < 128 := by assumption
          go_ret2
          exact ⟨num_some (M1.inv_stop ha.inv h1 hl (by rintro ⟨h, _⟩; rw [hget.out] at h; exact hz h) (by rw [hget.out]; omega)) (by rw [hget.out]; rw [hor.out, Nat.mod_eq_of_lt (by omega)]) (by simp), rfl⟩
        · have hb : 128 ≤ (s[k].toNat : Int) := by assumption
          go_round
          case rel => exact ⟨k + 1, _, by omega, by omega, by go_num, by rw [hor.out], ⟨by have h := M1.inv_go ha.inv h1 hl (by rw [hget.out]; omega) (by rw [hget.out]; exact hb2.out); rw [hget.out] at h; exact h⟩⟩
          case measure => simp [intOf]; omega
      · go_wp2
        go_ret2
        exact ⟨num_none (M1.inv_end ha.inv hk (by rw [bN_length]; exact hks) (by rw [bN_length]; exact hlt)), rfl⟩

end Go.Proofs.YtajfmhiejipaoaaDoor
