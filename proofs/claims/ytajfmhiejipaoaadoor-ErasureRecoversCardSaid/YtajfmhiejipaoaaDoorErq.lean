/-
  Layer 6: the first chunks are the columns of the frame.
-/
import Derived.Test.YtajfmhiejipaoaaDoorEro
namespace Go.Proofs.YtajfmhiejipaoaaDoor
open Go.RowKit Bs Ef

theorem row_own {ks : List (G × List G)} {m : Nat} (hn : (ptsOf ks).Nodup) {p : G} {d : List G} (h : (p, d) ∈ ks) (hd : d.length = m) : row ks m p = d := by
  apply List.ext_getElem
  · simp [hd]
  · intro j h1 h2
    rw [List.getElem_map, List.getElem_range]
    have hm : (p, d.getD j z0) ∈ col ks j := List.mem_map.2 ⟨(p, d), h, rfl⟩
    have hp : p ∈ ptsOf ks := List.mem_map.2 ⟨(p, d), h, rfl⟩
    have hc : (col ks j).map (·.1) = ptsOf ks := by rw [List.map_map]; rfl
    rw [lag_at hp (col ks j) (by rw [hc]; exact hn) hm, List.getD_eq_getElem?_getD, List.getElem?_eq_getElem h2]
    rfl
theorem nodup_of {α : Type} (f : Nat → α) (n : Nat) (h : ∀ i j, i < n → j < n → f i = f j → i = j) : ((List.range n).map f).Nodup := by
  unfold List.Nodup
  rw [List.pairwise_map]
  refine List.Pairwise.imp_of_mem ?_ (List.nodup_range (n := n))
  intro a b ha hb hab he
  exact hab (h a b (List.mem_range.1 ha) (List.mem_range.1 hb) he)
theorem ofNat_inj {i j : Nat} (hi : i < 256) (hj : j < 256) (h : (Fin.ofNat 256 i : G) = Fin.ofNat 256 j) : i = j := by
  have h2 : i % 256 = j % 256 := congrArg Fin.val h
  omega
theorem colsOf_pts (f : List G) (need m : Nat) : ptsOf (colsOf f need m) = (List.range need).map (fun i => (Fin.ofNat 256 i : G)) := by
  show ((List.range need).map (fun i => (Fin.ofNat 256 i, colAt f need m i))).map (·.1) = _
  rw [List.map_map]
  rfl
theorem colsOf_nodup (f : List G) (need m : Nat) (h : need ≤ 256) : (ptsOf (colsOf f need m)).Nodup := by
  rw [colsOf_pts]
  exact nodup_of _ _ (fun i j hi hj he => ofNat_inj (by omega) (by omega) he)
theorem row_cols (f : List G) (need m i : Nat) (h : need ≤ 256) (hi : i < need) : row (colsOf f need m) m (Fin.ofNat 256 i) = colAt f need m i :=
  row_own (colsOf_nodup f need m h) (List.mem_map.2 ⟨i, List.mem_range.2 hi, rfl⟩) (by simp)
theorem tg_at (l : List UInt8) (p : Nat) : ((tg l).getD p z0).val = (l.getD p 0).toNat := by
  rw [List.getD_eq_getElem?_getD, List.getD_eq_getElem?_getD, List.getElem?_map]
  cases l[p]? with
  | none => rfl
  | some b => rfl
theorem pad_at (l : List UInt8) (k p : Nat) : (l ++ List.replicate k 0).getD p 0 = l.getD p 0 := by
  rw [List.getD_eq_getElem?_getD, List.getD_eq_getElem?_getD]
  rcases Nat.lt_or_ge p l.length with h | h
  · rw [List.getElem?_append_left h]
  · rw [List.getElem?_append_right h, List.getElem?_eq_none h, List.getElem?_replicate]
    split <;> rfl
theorem encL_len (s : List UInt8) (need count : Nat) : (encL s need count).length = count := by unfold encL; simp
theorem encL_get (s : List UInt8) (need count i : Nat) (h : i < (encL s need count).length) : (encL s need count)[i] = ((i : Int), gs (row (colsOf (frG s need) need (mOf s need)) (mOf s need) (Fin.ofNat 256 i))) := by
  have : i < (chunksOf (colsOf (frG s need) need (mOf s need)) (mOf s need) count).length := h
  show (chunksOf (colsOf (frG s need) need (mOf s need)) (mOf s need) count)[i] = _
  rw [List.getElem_map, List.getElem_range]
theorem mOf_ceil (s : List UInt8) (need : Nat) (h : 1 ≤ need) : mOf s need = ((encI s.length ++ s).length + need - 1) / need := by
  have h1 := missN_mod (encI s.length ++ s).length need h
  have h2 := missN_lt (encI s.length ++ s).length need h
  have h4 : (frm s need).length = (encI s.length ++ s).length + missN (encI s.length ++ s).length need := by
    unfold frm; rw [List.length_append, List.length_replicate]
  unfold mOf
  rw [h4]
  generalize (encI s.length ++ s).length = c at *
  generalize missN c need = k at *
  obtain ⟨q, hq⟩ := Nat.dvd_of_mod_eq_zero h1
  rw [hq, Nat.mul_div_cancel_left _ (by omega)]
  have h3 : c + need - 1 = need * q + (need - 1 - k) := by omega
  rw [h3, Nat.mul_add_div (by omega), Nat.div_eq_of_lt (show need - 1 - k < need by omega), Nat.add_zero]
/-- a chunk's byte in the frame -/
theorem encL_byte (s : List UInt8) (need count i j : Nat) (h1 : 1 ≤ need) (h2 : need ≤ 16) (hi : i < need) (hic : i < count) (hj : j < mOf s need) (h3 : i < (encL s need count).length) (h4 : j < ((encL s need count)[i]).2.size) :
    (((encL s need count)[i]).2[j]).toNat = ((encI s.length ++ s).getD (j * need + i) 0).toNat := by
  have hg := encL_get s need count i h3
  rw [row_cols _ _ _ _ (by omega) hi] at hg
  have h5 : ((encL s need count)[i]).2 = gs (colAt (frG s need) need (mOf s need) i) := congrArg Prod.snd hg
  have h6 : ∀ (S : ByteArray) (hS : S = gs (colAt (frG s need) need (mOf s need) i)) (hj2 : j < S.size), (S[j]).toNat = ((encI s.length ++ s).getD (j * need + i) 0).toNat := by
    intro S hS hj2
    subst hS
    rw [gs_at _ j (by simpa using hj), List.getElem_map, List.getElem_range, tg_at]
    unfold frm
    rw [pad_at]
  exact h6 _ h5 h4
theorem encL_size (s : List UInt8) (need count i : Nat) (h3 : i < (encL s need count).length) : ((encL s need count)[i]).2.size = mOf s need := by
  rw [encL_get s need count i h3]
  show (gs _).size = _
  rw [gs_size]
  simp

end Go.Proofs.YtajfmhiejipaoaaDoor
