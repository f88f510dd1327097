/-
  Layer 6, mathematics of strings: a frame determines its string, any need rows determine all rows.
-/
import Derived.Test.YtajfmhiejipaoaaDoorErq
namespace Go.Proofs.YtajfmhiejipaoaaDoor
namespace Ew

theorem nb_append (l m : List UInt8) : nb (l ++ m) = nb l ++ nb m := by simp [nb]
theorem nb_lebU (z : Nat) : nb (lebU z) = M1.leb 9 z := by
  unfold nb lebU
  rw [List.map_map]
  conv => rhs; rw [← List.map_id (M1.leb 9 z)]
  apply List.map_congr_left
  intro b hb
  have := M1.leb_bytes 9 z b hb
  simp; omega
theorem fo_nat {n : Int} (h1 : -4611686018427387903 ≤ n) (h2 : n ≤ 4611686018427387903) : fo n = ((fo n).toNat : Int) ∧ (fo n).toNat ≤ 9223372036854775806 := by
  have := fo_bd h1 h2; omega
theorem pow128_9 : (128 : Nat) ^ 9 = 9223372036854775808 := by decide
theorem numB_enc {n : Int} (h1 : -4611686018427387903 ≤ n) (h2 : n ≤ 4611686018427387903) (q : List UInt8) :
    numB (nb (encI n ++ q)) = ((fo n).toNat, (encI n).length) := by
  obtain ⟨_, h4⟩ := fo_nat h1 h2
  unfold numB
  rw [nb_append]
  unfold encI
  rw [nb_lebU, M1.dec_leb true 9 _ (by rw [pow128_9]; omega) (by omega) (by simp)]
  simp [lebU]
theorem nb_drop_app (p r : List UInt8) : (nb (p ++ r)).drop p.length = nb r := by
  rw [nb_append, List.drop_append_of_le_length (by simp [nb]), List.drop_of_length_le (by simp [nb])]; rfl
theorem intB_enc {n : Int} (h1 : -4611686018427387903 ≤ n) (h2 : n ≤ 4611686018427387903) (p q : List UInt8) :
    intB (nb (p ++ (encI n ++ q))) (p.length : Int) = (n, (p.length : Int) + (encI n).length, 0) := by
  obtain ⟨h3, h4⟩ := fo_nat h1 h2
  have l1 := (encI_length n).1
  unfold intB
  rw [if_neg (by rw [nb_length]; simp; omega), Int.toNat_natCast, nb_drop_app, numB_enc h1 h2]
  simp only
  rw [if_neg (by omega), ← h3, un_fo]
theorem strB_enc (t : List UInt8) (ht : t.length ≤ 65536) (p q : List UInt8) :
    strB (p ++ (encI t.length ++ (t ++ q))) (p.length : Int) = (t, (p.length : Int) + (encI t.length).length + t.length, 0) := by
  unfold strB
  rw [intB_enc (by omega) (by omega)]
  simp only
  rw [if_neg (by simp), if_neg (by simp; omega)]
  rw [show ((p.length : Int) + (encI t.length).length).toNat = (p ++ encI t.length).length from by simp; omega, Int.toNat_natCast, ← List.append_assoc, List.drop_left, List.take_left]
end Ew
open Go.RowKit Bs Ef

theorem strB_frm (s : List UInt8) (need : Nat) (hs : s.length ≤ 65536) : (strB (frm s need) 0).1 = s ∧ (strB (frm s need) 0).2.2 = 0 := by
  have h := Ew.strB_enc s hs [] (List.replicate (missN (encI s.length ++ s).length need) 0)
  have e : frm s need = [] ++ (encI s.length ++ (s ++ List.replicate (missN (encI s.length ++ s).length need) 0)) := by unfold frm; simp
  rw [e, show (0 : Int) = (([] : List UInt8).length : Int) from rfl, h]
  exact ⟨rfl, rfl⟩
theorem frm_inj {s u : List UInt8} {need : Nat} (hs : s.length ≤ 65536) (hu : u.length ≤ 65536) (h : frm s need = frm u need) : s = u := by
  rw [← (strB_frm s need hs).1, h, (strB_frm u need hu).1]
theorem tg_inj {l k : List UInt8} (h : tg l = tg k) : l = k := by
  have h2 := congrArg gs h
  rw [gs_tg, gs_tg] at h2
  have h3 := congrArg (fun s => s.data.toList) h2
  exact h3
theorem gs_inj {l k : List G} (h : gs l = gs k) : l = k := by
  have h2 : ub (gl l) = ub (gl k) := bs_inj h
  have h3 : gl l = gl k := by rw [← nb_ub (gl_lt l), ← nb_ub (gl_lt k), h2]
  exact (List.map_inj_right (fun _ _ h => Fin.ext h)).1 h3
theorem tg_gs (l : List G) : tg (gs l).data.toList = l := gs_inj (by rw [gs_tgs])
theorem ub_gl_tg (l : List UInt8) : ub (gl (tg l)) = l := by
  have h : Bs.bs (ub (gl (tg l))) = Bs.bs l := gs_tg l
  exact bs_inj h

theorem row_len (ks : List (G × List G)) (m : Nat) (x : G) : (row ks m x).length = m := by simp
theorem row_get (ks : List (G × List G)) (m : Nat) (x : G) (j : Nat) (h : j < m) : (row ks m x).getD j z0 = lag (ptsOf ks) x (col ks j) := by
  rw [List.getD_eq_getElem?_getD, List.getElem?_map, List.getElem?_range h]; rfl
theorem col_fst (ks : List (G × List G)) (j : Nat) : (col ks j).map (·.1) = ptsOf ks := by rw [List.map_map]; rfl
/-- two families of polynomials of a degree less than need that agree at need points agree everywhere -/
theorem rows_agree {ks ks' : List (G × List G)} {m need : Nat} (h1 : ks.length ≤ need) (h2 : ks'.length ≤ need) {xs : List G} (hn : xs.Nodup) (hl : need ≤ xs.length)
    (h : ∀ x ∈ xs, row ks m x = row ks' m x) (x : G) : row ks m x = row ks' m x := by
  refine List.map_congr_left (fun j hj => ?_)
  have hj2 := List.mem_range.1 hj
  have d1 := lag_deg (ptsOf ks) (col ks j) (fun q hq => by rw [← col_fst ks j]; exact List.mem_map.2 ⟨q, hq, rfl⟩)
  have d2 := lag_deg (ptsOf ks') (col ks' j) (fun q hq => by rw [← col_fst ks' j]; exact List.mem_map.2 ⟨q, hq, rfl⟩)
  rw [List.length_map] at d1 d2
  refine (d1.lift h1).uniq (d2.lift h2) hn hl (fun p hp => ?_) x
  have h3 : (row ks m p).getD j z0 = (row ks' m p).getD j z0 := congrArg (fun l => l.getD j z0) (h p hp)
  rw [row_get ks m p j hj2, row_get ks' m p j hj2] at h3
  exact h3
/-- values of the polynomials at need points give the polynomials back -/
theorem rows_back {ks : List (G × List G)} {m : Nat} (xs : List G) (hn : xs.Nodup) (hl : xs.length = ks.length) (x : G) : row (xs.map (fun p => (p, row ks m p))) m x = row ks m x := by
  refine rows_agree (need := ks.length) (by rw [List.length_map]; omega) (Nat.le_refl _) hn (by omega) (fun p hp => ?_) x
  have hp2 : ptsOf (xs.map (fun p => (p, row ks m p))) = xs := by
    show (xs.map (fun p => (p, row ks m p))).map (·.1) = xs
    rw [List.map_map]
    exact List.map_id' _
  exact row_own (by rw [hp2]; exact hn) (List.mem_map.2 ⟨p, hp, rfl⟩) (row_len _ _ _)
theorem colAt_inj {f f' : List G} {need m : Nat} (h0 : 1 ≤ need) (h1 : f.length = m * need) (h2 : f'.length = m * need) (h : ∀ i, i < need → colAt f need m i = colAt f' need m i) : f = f' := by
  refine List.ext_getElem (by omega) (fun p p1 p2 => ?_)
  have hi : p % need < need := Nat.mod_lt _ (by omega)
  have hj : p / need < m := by rw [Nat.div_lt_iff_lt_mul (by omega)]; omega
  have h3 := congrArg (fun l => l.getD (p / need) z0) (h (p % need) hi)
  have hpp : p / need * need + p % need = p := by rw [Nat.mul_comm]; exact Nat.div_add_mod p need
  simp only [List.getD_eq_getElem?_getD, List.getElem?_map, List.getElem?_range hj, Option.map_some, Option.getD_some, hpp, List.getElem?_eq_getElem p1, List.getElem?_eq_getElem p2] at h3
  exact h3
/-- two strings with equally many columns that agree in need chunks are equal -/
theorem enc_agree {s u : List UInt8} {need count : Nat} (h1 : 1 ≤ need) (h2 : need ≤ 16) (h3 : count ≤ 16) (hs : s.length ≤ 4096) (hu : u.length ≤ 4096) (hm : mOf s need = mOf u need)
    (is : List Nat) (hn : is.Nodup) (hl : need ≤ is.length) (hi : ∀ i ∈ is, i < count) (he : ∀ i ∈ is, (encL s need count)[i]? = (encL u need count)[i]?) : s = u := by
  obtain ⟨a1, a2, a3⟩ := mOf_spec s need h1 hs h2
  obtain ⟨b1, b2, b3⟩ := mOf_spec u need h1 hu h2
  refine frm_inj (need := need) (by omega) (by omega) (tg_inj ?_)
  rw [← hm] at b1
  refine colAt_inj h1 a1 b1 (fun i hin => ?_)
  rw [← row_cols _ _ _ _ (by omega) hin, ← row_cols _ _ _ _ (by omega) hin]
  refine rows_agree (need := need) (by simp) (by simp) (xs := is.map (fun i => (Fin.ofNat 256 i : G))) ?_ (by rw [List.length_map]; exact hl) (fun x hx => ?_) _
  · unfold List.Nodup
    rw [List.pairwise_map]
    refine List.Pairwise.imp_of_mem ?_ hn
    intro a b ha hb hab e
    exact hab (ofNat_inj (by have := hi a ha; omega) (by have := hi b hb; omega) e)
  · obtain ⟨k, hk, rfl⟩ := List.mem_map.1 hx
    have h4 := he k hk
    have hk2 := hi k hk
    rw [List.getElem?_eq_getElem (by rw [encL_len]; exact hk2), List.getElem?_eq_getElem (by rw [encL_len]; exact hk2), encL_get, encL_get] at h4
    have h5 := (Prod.mk.inj (Option.some.inj h4)).2
    rw [← hm] at h5
    exact gs_inj h5
/-- fewer than need chunks are equal -/
theorem enc_dist {s u : List UInt8} {need count : Nat} (h1 : 1 ≤ need) (h2 : need ≤ 16) (h3 : count ≤ 16) (hs : s.length ≤ 4096) (hu : u.length ≤ 4096) (hm : mOf s need = mOf u need) (hne : s ≠ u) :
    ((List.range count).filter (fun i => decide ((encL s need count)[i]? = (encL u need count)[i]?))).length < need := by
  rcases Nat.lt_or_ge ((List.range count).filter (fun i => decide ((encL s need count)[i]? = (encL u need count)[i]?))).length need with h | h
  · exact h
  · refine absurd (enc_agree h1 h2 h3 hs hu hm _ (List.Pairwise.filter _ List.nodup_range) h (fun i hi => ?_) (fun i hi => ?_)) hne
    · exact List.mem_range.1 (List.mem_filter.1 hi).1
    · exact of_decide_eq_true (List.mem_filter.1 hi).2

end Go.Proofs.YtajfmhiejipaoaaDoor
