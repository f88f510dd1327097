/-
  Lists of strings in memory, and the size of a list's first part.
-/
import Derived.Test.YtajfmhiejipaoaaDoorDlf
import Derived.Test.YtajfmhiejipaoaaDoorTr
import Derived.Test.YtajfmhiejipaoaaDoorShelf
namespace Go.Proofs.YtajfmhiejipaoaaDoor
open Go.RowKit Bs

abbrev Strs := List (List UInt8)
/-- the slice (a, n, c) holds the strings l -/
structure IsL (W : World) (a : Option Addr) (n c : Nat) (l : Strs) : Prop where
  len : l.length = n
  cap : n ≤ c
  max : c ≤ maxLen
  row : n = 0 ∨ ∃ g off, a = some ⟨g, off, none⟩ ∧ PartsAt W g off l
theorem IsL.at {W : World} {a : Option Addr} {n c : Nat} {l : Strs} (h : IsL W a n c l) (hn : 0 < n) : ∃ g off, a = some ⟨g, off, none⟩ ∧ PartsAt W g off l := h.row.resolve_left (by omega)
theorem PartsAt.lt {W : World} {g off : Nat} {l : Strs} (h : PartsAt W g off l) (hl : 0 < l.length) : g < W.heap.size := block_lt_of_cell (h 0 hl)
theorem PartsAt.later {W W' : World} {g off : Nat} {l : Strs} (h : PartsAt W g off l) (hb : Below W.heap.size W W') : PartsAt W' g off l := fun i hi =>
  (hb.cell (p := ⟨g, off + i, none⟩) (block_lt_of_cell (h i hi))).trans (h i hi)
theorem IsL.later {W W' : World} {a : Option Addr} {n c : Nat} {l : Strs} (h : IsL W a n c l) (hb : Below W.heap.size W W') : IsL W' a n c l :=
  ⟨h.len, h.cap, h.max, h.row.imp id (fun ⟨g, off, e, hp⟩ => ⟨g, off, e, hp.later hb⟩)⟩
theorem PartsAt.take {W : World} {g off : Nat} {l : Strs} (h : PartsAt W g off l) (k : Nat) : PartsAt W g off (l.take k) := fun i hi => by
  rw [List.length_take] at hi
  rw [h i (by omega)]
  simp [List.getD_eq_getElem?_getD, show i < k by omega]
theorem PartsAt.drop {W : World} {g off : Nat} {l : Strs} (h : PartsAt W g off l) (k : Nat) : PartsAt W g (off + k) (l.drop k) := fun i hi => by
  rw [List.length_drop] at hi
  rw [Nat.add_assoc, h (k + i) (by omega)]
  simp [List.getD_eq_getElem?_getD, List.getElem?_drop]
theorem IsL.nil (W : World) (a : Option Addr) (c : Nat) (hc : c ≤ maxLen) : IsL W a 0 c [] := ⟨rfl, Nat.zero_le _, hc, .inl rfl⟩
theorem PartsAt.isL {W : World} {g off n c : Nat} {l : Strs} (h : PartsAt W g off l) (hn : l.length = n) (hc : n ≤ c) (hm : c ≤ maxLen) : IsL W (some ⟨g, off, none⟩) n c l := ⟨hn, hc, hm, .inr ⟨g, off, rfl, h⟩⟩
theorem getD_eq (l : Strs) (i : Nat) (hi : i < l.length) : l.getD i [] = l[i] := by rw [List.getD_eq_getElem?_getD, List.getElem?_eq_getElem hi]; rfl
theorem getD_mem (l : Strs) (i : Nat) (hi : i < l.length) : l.getD i [] ∈ l := by rw [getD_eq l i hi]; exact List.getElem_mem hi

/-! the size of the first part -/
theorem bitLen_log2 (f x : Nat) (h0 : 0 < x) (h : x < 2 ^ f) : Lib.bitLenAux f x = Nat.log2 x + 1 := by
  induction f generalizing x with
  | zero => simp at h; omega
  | succ f ih =>
    unfold Lib.bitLenAux
    rw [if_neg (by omega), Nat.log2_def]
    by_cases h2 : 2 ≤ x
    · rw [if_pos h2, ih (x / 2) (by omega) (by rw [Nat.pow_succ] at h; omega)]; omega
    · rw [if_neg h2]
      obtain rfl : x = 1 := by omega
      cases f <;> rfl
set_option maxHeartbeats 400000 in
theorem firstPart_any (n : Nat) (w : World) (h : 2 ≤ n) (hn : n ≤ 9223372036854775807) :
    Calls Tryd.prog 59 #[.int .i64 (n : Int)] w fun e w' => e = .returned (.int .i64 (Tr.lft n : Nat)) ∧ w = w' := by
  have hb : Lib.bitLen ((n : Int) - 1).toNat = Nat.log2 (n - 1) + 1 := by
    unfold Lib.bitLen
    rw [show ((n : Int) - 1).toNat = n - 1 by omega]
    exact bitLen_log2 64 _ (by omega) (by omega)
  obtain ⟨k, hk⟩ : ∃ k, Nat.log2 (n - 1) = k := ⟨_, rfl⟩
  have hk2 : 2 ^ k ≤ n - 1 := by rw [← hk]; exact Nat.log2_self_le (by omega)
  have hk3 : k ≤ 62 := by
    rcases Nat.lt_or_ge 62 k with h | h
    · have := Nat.pow_le_pow_right (n := 2) (by omega) (show 63 ≤ k from h); omega
    · exact h
  have Hl := Lib.hid (show Tr.lft n = 2 ^ k by unfold Tr.lft; rw [hk])
  rw [hk] at hb
  have hc := (Tryd.bits_Len ((n : Int) - 1) w (by omega) (by omega)).mono (R' := fun e w' => e = .returned (.int .i64 ((k : Int) + 1)) ∧ w = w') (fun e w' ⟨he, hw⟩ => ⟨by rw [he, hb]; simp, hw.symm⟩)
  have HP := Lib.hid (show wrap64 ((2 : Int) ^ k) = ((Tr.lft n : Nat) : Int) by
    have e : ((2 : Int) ^ k) = ((2 ^ k : Nat) : Int) := by simp
    have e2 : ∀ p : Nat, p ≤ n - 1 → wrap64 (p : Int) = p := fun p hp => IntWalk.wrap64_in _ (by omega)
    rw [e, e2 _ hk2, Hl.out])
  clear hb hk Hl
  go_enter Tryd.func59, Tryd.ntmps59
  go_wp2_with fail
  refine hc.mono ?_
  rintro e w' ⟨rfl, rfl⟩
  go_wp2_with fail
  go_ret
  exact ⟨congrArg (fun i => Ending.returned (.int .i64 i)) HP.out, rfl⟩

end Go.Proofs.YtajfmhiejipaoaaDoor
