/-
  Package digest: the blocks of a string, extended: plain mathematics.
-/
import Derived.Test.YtajfmhiejipaoaaDoorRsm
namespace Go.Proofs.YtajfmhiejipaoaaDoor.Blk
open Go.RowKit Bs

/-- block k of the extended list -/
def blk (T : List Nat) (k : Nat) : List Nat := ((Sha.pad T).drop (64 * k)).take 64
def num (T : List Nat) : Nat := (Sha.pad T).length / 64
theorem pad_len (T : List Nat) : (Sha.pad T).length = T.length + 9 + Sha.zeros T.length := by
  unfold Sha.pad Sha.be8
  simp only [List.length_append, List.length_cons, List.length_nil, List.length_replicate, List.length_map, List.length_range]
  omega
theorem blk_len (T : List Nat) (k : Nat) (hk : k < num T) : (blk T k).length = 64 := by
  unfold num at hk
  unfold blk; rw [List.length_take, List.length_drop]
  have := pad_length T
  omega
theorem blk_lt (T : List Nat) (h : ∀ x ∈ T, x < 256) (k : Nat) : ∀ x ∈ blk T k, x < 256 := fun x hx => pad_lt T h x (List.mem_of_mem_drop (List.mem_of_mem_take hx))
/-- a block of the string itself -/
theorem blk_full (T : List Nat) (k : Nat) (h : 64 * (k + 1) ≤ T.length) : blk T k = (T.drop (64 * k)).take 64 ∧ k < num T := by
  refine ⟨?_, by unfold num; rw [pad_len]; omega⟩
  unfold blk Sha.pad
  rw [List.append_assoc, List.append_assoc, List.drop_append_of_le_length (by omega), List.take_append_of_le_length (by rw [List.length_drop]; omega)]
/-- what is left behind k blocks -/
theorem drop_pad (T : List Nat) (k : Nat) (h : 64 * k ≤ T.length) : (Sha.pad T).drop (64 * k) = T.drop (64 * k) ++ [128] ++ List.replicate (Sha.zeros T.length) 0 ++ Sha.be8 (8 * T.length) := by
  unfold Sha.pad
  rw [List.append_assoc, List.append_assoc, List.drop_append_of_le_length h]; simp [List.append_assoc]
theorem be8_len (n : Nat) : (Sha.be8 n).length = 8 := by simp [Sha.be8]
/-- the last block, if the size has room in it -/
theorem blk_last (T : List Nat) (k f : Nat) (h : T.length = 64 * k + f) (hf : f < 56) :
    num T = k + 1 ∧ blk T k = T.drop (64 * k) ++ [128] ++ List.replicate (55 - f) 0 ++ Sha.be8 (8 * T.length) := by
  have hz : Sha.zeros T.length = 55 - f := by unfold Sha.zeros; omega
  refine ⟨by unfold num; rw [pad_len, hz]; omega, ?_⟩
  unfold blk
  rw [drop_pad T k (by omega), hz, List.take_of_length_le]
  simp only [List.length_append, List.length_drop, List.length_cons, List.length_nil, List.length_replicate, be8_len]
  omega
/-- the last two blocks, if it has not -/
theorem blk_last2 (T : List Nat) (k f : Nat) (h : T.length = 64 * k + f) (hf : 56 ≤ f) (hf2 : f < 64) :
    num T = k + 2 ∧ blk T k = T.drop (64 * k) ++ [128] ++ List.replicate (63 - f) 0 ∧ blk T (k + 1) = List.replicate 56 0 ++ Sha.be8 (8 * T.length) := by
  have hz : Sha.zeros T.length = (63 - f) + 56 := by unfold Sha.zeros; omega
  have hd := drop_pad T k (by omega)
  rw [hz, ← List.replicate_append_replicate] at hd
  have hl : (T.drop (64 * k) ++ [128] ++ List.replicate (63 - f) 0).length = 64 := by
    simp only [List.length_append, List.length_drop, List.length_cons, List.length_nil, List.length_replicate]; omega
  have hd2 : (Sha.pad T).drop (64 * k) = (T.drop (64 * k) ++ [128] ++ List.replicate (63 - f) 0) ++ (List.replicate 56 0 ++ Sha.be8 (8 * T.length)) := by rw [hd]; simp [List.append_assoc]
  refine ⟨by unfold num; rw [pad_len, hz]; omega, ?_, ?_⟩
  · unfold blk
    rw [hd2, List.take_append_of_le_length (by omega), List.take_of_length_le (by omega)]
  · unfold blk
    rw [show 64 * (k + 1) = 64 * k + 64 by omega, ← List.drop_drop, hd2, List.drop_append_of_le_length (by omega), List.drop_of_length_le (by omega), List.nil_append, List.take_of_length_le (by simp [be8_len])]
/-- the state behind all blocks is the digest's -/
theorem blocks_num (T : List Nat) : Sha.out (Sha.blocks Sha.H0 (Sha.pad T) (num T)) = Sha.sha T := rfl
theorem blocks_succ (T : List Nat) (k : Nat) : Sha.blocks Sha.H0 (Sha.pad T) (k + 1) = Sha.block (Sha.blocks Sha.H0 (Sha.pad T) k) (blk T k) := rfl
/-- the size's bytes -/
theorem be8_get (n i : Nat) (hi : i < 8) : (Sha.be8 n).getD i 0 = n / 2 ^ (8 * (7 - i)) % 256 := by
  simp [Sha.be8, List.getD_eq_getElem?_getD, hi]

end Go.Proofs.YtajfmhiejipaoaaDoor.Blk
