/-
  Layer 6, mathematics: what Decode answers on chunks of one string.
-/
import Derived.Test.YtajfmhiejipaoaaDoorErs
import Derived.Test.YtajfmhiejipaoaaDoorErl
namespace Go.Proofs.YtajfmhiejipaoaaDoor
open Go.RowKit Bs Ef

theorem take_rows (f : List G) (q n : Nat) (h : q + n ≤ f.length) : f.take (q + n) = f.take q ++ (List.range n).map (fun i => f.getD (q + i) z0) := by
  induction n with
  | zero => simp
  | succ n ih =>
    rw [List.range_succ, List.map_append, ← List.append_assoc, ← ih (by omega), ← Nat.add_assoc, List.take_succ_eq_append_getElem (by omega)]
    congr 1
    rw [List.map_singleton, List.getD_eq_getElem?_getD, List.getElem?_eq_getElem (by omega)]; rfl
theorem flat_cols (f : List G) (need m j : Nat) (hj : j ≤ m) (hf : f.length = m * need) : flatTo ((List.range need).map (fun i => colAt f need m i)) j = f.take (j * need) := by
  induction j with
  | zero => simp [flatTo]
  | succ j ih =>
    have hle : (j + 1) * need ≤ m * need := Nat.mul_le_mul_right _ hj
    rw [Nat.add_mul, Nat.one_mul] at hle
    rw [flatTo_succ, ih (by omega), Nat.add_mul, Nat.one_mul, take_rows f (j * need) need (by omega), List.map_map]
    congr 1
    refine List.map_congr_left (fun i _ => ?_)
    show (colAt f need m i).getD j z0 = _
    rw [List.getD_eq_getElem?_getD, List.getElem?_map, List.getElem?_range (by omega)]; rfl

/-- C holds chunks of the string, none twice -/
structure PickOf (s : List UInt8) (need count : Nat) (C : List (Int × ByteArray)) : Prop where
  mem : ∀ c ∈ C, ∃ i, i < count ∧ c = ((i : Int), gs (row (colsOf (frG s need) need (mOf s need)) (mOf s need) (Fin.ofNat 256 i)))
  nodup : (C.map (·.1)).Nodup

theorem PickOf.of {s : List UInt8} {need count : Nat} {L : List (Int × ByteArray)} (h : L.Perm (encL s need count)) (k : Nat) : PickOf s need count (L.take k) := by
  constructor
  · intro c hc
    have h2 := (h.mem_iff).1 (List.mem_of_mem_take hc)
    obtain ⟨i, hi, rfl⟩ := List.mem_map.1 h2
    exact ⟨i, List.mem_range.1 hi, rfl⟩
  · have h1 : (L.map (·.1)).Nodup := by
      refine (h.map (·.1)).nodup_iff.2 ?_
      show (((List.range count).map _).map _).Nodup
      rw [List.map_map]
      unfold List.Nodup
      rw [List.pairwise_map]
      refine List.Pairwise.imp ?_ List.nodup_range
      intro a b hab e
      exact hab (Int.ofNat.inj e)
    rw [List.map_take]
    exact h1.sublist (List.take_sublist _ _)

section
variable {s : List UInt8} {need count : Nat} {C : List (Int × ByteArray)}
theorem PickOf.fit (h : PickOf s need count C) (h1 : 1 ≤ need) (h2 : need ≤ 16) (hs : s.length ≤ 200) (hl : need ≤ C.length) (hc : C.length ≤ count) : fitP C need count ∧ (ckI C 0).2.size = mOf s need := by
  have sz : ∀ i, i < C.length → 0 ≤ (ckI C i).1 ∧ (ckI C i).1 < count ∧ (ckI C i).2.size = mOf s need := fun i hi => by
    rw [ckI_eq C i hi]
    obtain ⟨k, hk, e⟩ := h.mem _ (List.getElem_mem hi)
    rw [e]
    refine ⟨by simp, by simp; exact hk, ?_⟩
    show (gs _).size = _
    rw [gs_size, row_len]
  have z := (sz 0 (by omega)).2.2
  refine ⟨⟨hl, hc, ?_, fun i hi => ⟨(sz i hi).1, (sz i hi).2.1, fun k hk e => ?_, by rw [(sz i hi).2.2, z]⟩⟩, z⟩
  · rw [z, mOf_ceil s need h1]
    have hle := (encI_length s.length).2
    have := Nat.div_mul_le_self ((encI s.length ++ s).length + need - 1) need
    have hb : (encI s.length ++ s).length ≤ 209 := by rw [List.length_append]; omega
    omega
  · have hn := h.nodup
    unfold List.Nodup at hn
    rw [List.pairwise_iff_getElem] at hn
    refine hn k i (by rw [List.length_map]; omega) (by rw [List.length_map]; exact hi) hk ?_
    rw [List.getElem_map, List.getElem_map]
    rw [ckI_eq C i hi, ckI_eq C k (by omega)] at e
    exact e
theorem PickOf.frB (h : PickOf s need count C) (h1 : 1 ≤ need) (h2 : need ≤ 16) (h3 : count ≤ 16) (hs : s.length ≤ 200) (hl : need ≤ C.length) (hc : C.length ≤ count) : frB C need = frG s need := by
  obtain ⟨a1, a2, a3⟩ := mOf_spec s need h1 (by omega) h2
  have hz := (h.fit h1 h2 hs hl hc).2
  obtain ⟨K, hK⟩ : ∃ K, colsOf (frG s need) need (mOf s need) = K := ⟨_, rfl⟩
  have hmem := h.mem
  rw [hK] at hmem
  have hks : ksOf C need = ((C.take need).map (fun c => (Fin.ofNat 256 c.1.toNat : G))).map (fun p => (p, row K (mOf s need) p)) := by
    rw [List.map_map]
    refine List.map_congr_left (fun c hc2 => ?_)
    obtain ⟨i, hi, rfl⟩ := hmem c (List.mem_of_mem_take hc2)
    show (Fin.ofNat 256 ((i : Int)).toNat, tg (gs _).data.toList) = (Fin.ofNat 256 ((i : Int)).toNat, _)
    rw [tg_gs, Int.toNat_natCast]
    rfl
  have hnd : ((C.take need).map (fun c => (Fin.ofNat 256 c.1.toNat : G))).Nodup := by
    have hn := h.nodup.sublist ((List.take_sublist need C).map (·.1))
    unfold List.Nodup at hn ⊢
    rw [List.pairwise_map] at hn ⊢
    refine List.Pairwise.imp_of_mem ?_ hn
    intro a b ha hb hab e
    obtain ⟨i, hi, rfl⟩ := hmem a (List.mem_of_mem_take ha)
    obtain ⟨j, hj, rfl⟩ := hmem b (List.mem_of_mem_take hb)
    refine hab ?_
    show (i : Int) = (j : Int)
    rw [ofNat_inj (i := i) (j := j) (by omega) (by omega) e]
  have hKl : K.length = need := by rw [← hK]; simp
  have hrow : ∀ i, i < need → row (ksOf C need) (mOf s need) (Fin.ofNat 256 i) = colAt (frG s need) need (mOf s need) i := fun i hi => by
    rw [hks, rows_back _ hnd (by rw [List.length_map, List.length_take, hKl]; omega), ← hK, row_cols _ _ _ _ (by omega) hi]
  unfold Go.Proofs.YtajfmhiejipaoaaDoor.frB
  rw [hz]
  rw [show (List.range need).map (fun i => row (ksOf C need) (mOf s need) (Fin.ofNat 256 i)) = (List.range need).map (fun i => colAt (frG s need) need (mOf s need) i) from List.map_congr_left (fun i hi => hrow i (List.mem_range.1 hi))]
  rw [flat_cols _ need _ _ (Nat.le_refl _) a1, List.take_of_length_le (by omega)]
/-- need chunks or more give the string -/
theorem PickOf.dec (h : PickOf s need count C) (h1 : 1 ≤ need) (h2 : need ≤ 16) (h3 : count ≤ 16) (hs : s.length ≤ 200) (hl : need ≤ C.length) (hc : C.length ≤ count) : decS C need count = (s, 0) := by
  have hf := (h.fit h1 h2 hs hl hc).1
  have hb := h.frB h1 h2 h3 hs hl hc
  obtain ⟨e1, e2⟩ := strB_frm s need (by omega)
  unfold decS
  rw [if_pos hf, hb, ub_gl_tg, e1, e2, if_neg (by simp), if_neg (by omega), if_pos]
  intro i hi
  rw [ckI_eq C i hi]
  obtain ⟨k, hk, e⟩ := h.mem _ (List.getElem_mem hi)
  rw [e]
  show (encL s need count)[((k : Int)).toNat]? = _
  rw [Int.toNat_natCast, List.getElem?_eq_getElem (by rw [encL_len]; exact hk), encL_get]
/-- fewer do not -/
theorem dec_few (C : List (Int × ByteArray)) (need count : Nat) (h : C.length < need) : decS C need count = ([], 60) := by
  unfold decS
  rw [if_neg (fun hf => by have := hf.1; omega)]
end

end Go.Proofs.YtajfmhiejipaoaaDoor
