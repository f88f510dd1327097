/-
  Ers, Eda and Erv put together: a claim has at most 60 files.
-/
import Derived.Test.YtajfmhiejipaoaaDoorErq
import Derived.Test.YtajfmhiejipaoaaDoorEhs
import Derived.Test.YtajfmhiejipaoaaDoorErm
import Derived.Test.YtajfmhiejipaoaaDoorEro
namespace Go.Proofs.YtajfmhiejipaoaaDoor
namespace Ew

theorem nb_append (l m : List UInt8) : nb (l ++ m) = nb l ++ nb m := by simp [nb]
theorem nb_lebU (z : Nat) : nb (lebU z) = M1.leb 9 z := by
  unfold nb lebU
  rw [List.map_map]
  conv => rhs; rw [← List.map_id (M1.leb 9 z)]
  apply List.map_congr_left
  intro b hb
  have := M1.leb_bytes 9 z b hb
  simp; omega
theorem fo_nat {n : Int} (h1 : -4611686018427387903 ≤ n) (h2 : n ≤ 4611686018427387903) : fo n = ((fo n).toNat : Int) ∧ (fo n).toNat ≤ 9223372036854775806 := by
  have := fo_bd h1 h2; omega
theorem pow128_9 : (128 : Nat) ^ 9 = 9223372036854775808 := by decide
theorem numB_enc {n : Int} (h1 : -4611686018427387903 ≤ n) (h2 : n ≤ 4611686018427387903) (q : List UInt8) :
    numB (nb (encI n ++ q)) = ((fo n).toNat, (encI n).length) := by
  obtain ⟨_, h4⟩ := fo_nat h1 h2
  unfold numB
  rw [nb_append]
  unfold encI
  rw [nb_lebU, M1.dec_leb true 9 _ (by rw [pow128_9]; omega) (by omega) (by simp)]
  simp [lebU]
theorem nb_drop_app (p r : List UInt8) : (nb (p ++ r)).drop p.length = nb r := by
  rw [nb_append, List.drop_append_of_le_length (by simp [nb]), List.drop_of_length_le (by simp [nb])]; rfl
theorem intB_enc {n : Int} (h1 : -4611686018427387903 ≤ n) (h2 : n ≤ 4611686018427387903) (p q : List UInt8) :
    intB (nb (p ++ (encI n ++ q))) (p.length : Int) = (n, (p.length : Int) + (encI n).length, 0) := by
  obtain ⟨h3, h4⟩ := fo_nat h1 h2
  have l1 := (encI_length n).1
  unfold intB
  rw [if_neg (by rw [nb_length]; simp; omega), Int.toNat_natCast, nb_drop_app, numB_enc h1 h2]
  simp only
  rw [if_neg (by omega), ← h3, un_fo]
theorem strB_enc (t : List UInt8) (ht : t.length ≤ 65536) (p q : List UInt8) :
    strB (p ++ (encI t.length ++ (t ++ q))) (p.length : Int) = (t, (p.length : Int) + (encI t.length).length + t.length, 0) := by
  unfold strB
  rw [intB_enc (by omega) (by omega)]
  simp only
  rw [if_neg (by simp), if_neg (by simp; omega)]
  rw [show ((p.length : Int) + (encI t.length).length).toNat = (p ++ encI t.length).length from by simp; omega, Int.toNat_natCast, ← List.append_assoc, List.drop_left, List.take_left]
end Ew
open Go.RowKit Bs Ef

theorem strB_frm (s : List UInt8) (need : Nat) (hs : s.length ≤ 65536) : (strB (frm s need) 0).1 = s ∧ (strB (frm s need) 0).2.2 = 0 := by
  have h := Ew.strB_enc s hs [] (List.replicate (missN (encI s.length ++ s).length need) 0)
  have e : frm s need = [] ++ (encI s.length ++ (s ++ List.replicate (missN (encI s.length ++ s).length need) 0)) := by unfold frm; simp
  rw [e, show (0 : Int) = (([] : List UInt8).length : Int) from rfl, h]
  exact ⟨rfl, rfl⟩
theorem frm_inj {s u : List UInt8} {need : Nat} (hs : s.length ≤ 65536) (hu : u.length ≤ 65536) (h : frm s need = frm u need) : s = u := by
  rw [← (strB_frm s need hs).1, h, (strB_frm u need hu).1]
theorem tg_inj {l k : List UInt8} (h : tg l = tg k) : l = k := by
  have h2 := congrArg gs h
  rw [gs_tg, gs_tg] at h2
  have h3 := congrArg (fun s => s.data.toList) h2
  exact h3
theorem gs_inj {l k : List G} (h : gs l = gs k) : l = k := by
  have h2 : ub (gl l) = ub (gl k) := bs_inj h
  have h3 : gl l = gl k := by rw [← nb_ub (gl_lt l), ← nb_ub (gl_lt k), h2]
  exact (List.map_inj_right (fun _ _ h => Fin.ext h)).1 h3
theorem tg_gs (l : List G) : tg (gs l).data.toList = l := gs_inj (by rw [gs_tgs])
theorem ub_gl_tg (l : List UInt8) : ub (gl (tg l)) = l := by
  have h : Bs.bs (ub (gl (tg l))) = Bs.bs l := gs_tg l
  exact bs_inj h

theorem row_len (ks : List (G × List G)) (m : Nat) (x : G) : (row ks m x).length = m := by simp
theorem row_get (ks : List (G × List G)) (m : Nat) (x : G) (j : Nat) (h : j < m) : (row ks m x).getD j z0 = lag (ptsOf ks) x (col ks j) := by
  rw [List.getD_eq_getElem?_getD, List.getElem?_map, List.getElem?_range h]; rfl
theorem col_fst (ks : List (G × List G)) (j : Nat) : (col ks j).map (·.1) = ptsOf ks := by rw [List.map_map]; rfl
/-- two families of polynomials of a degree less than need that agree at need points agree everywhere -/
theorem rows_agree {ks ks' : List (G × List G)} {m need : Nat} (h1 : ks.length ≤ need) (h2 : ks'.length ≤ need) {xs : List G} (hn : xs.Nodup) (hl : need ≤ xs.length)
    (h : ∀ x ∈ xs, row ks m x = row ks' m x) (x : G) : row ks m x = row ks' m x := by
  refine List.map_congr_left (fun j hj => ?_)
  have hj2 := List.mem_range.1 hj
  have d1 := lag_deg (ptsOf ks) (col ks j) (fun q hq => by rw [← col_fst ks j]; exact List.mem_map.2 ⟨q, hq, rfl⟩)
  have d2 := lag_deg (ptsOf ks') (col ks' j) (fun q hq => by rw [← col_fst ks' j]; exact List.mem_map.2 ⟨q, hq, rfl⟩)
  rw [List.length_map] at d1 d2
  refine (d1.lift h1).uniq (d2.lift h2) hn hl (fun p hp => ?_) x
  have h3 : (row ks m p).getD j z0 = (row ks' m p).getD j z0 := congrArg (fun l => l.getD j z0) (h p hp)
  rw [row_get ks m p j hj2, row_get ks' m p j hj2] at h3
  exact h3
/-- values of the polynomials at need points give the polynomials back -/
theorem rows_back {ks : List (G × List G)} {m : Nat} (xs : List G) (hn : xs.Nodup) (hl : xs.length = ks.length) (x : G) : row (xs.map (fun p => (p, row ks m p))) m x = row ks m x := by
  refine rows_agree (need := ks.length) (by rw [List.length_map]; omega) (Nat.le_refl _) hn (by omega) (fun p hp => ?_) x
  have hp2 : ptsOf (xs.map (fun p => (p, row ks m p))) = xs := by
    show (xs.map (fun p => (p, row ks m p))).map (·.1) = xs
    rw [List.map_map]
    exact List.map_id' _
  exact row_own (by rw [hp2]; exact hn) (List.mem_map.2 ⟨p, hp, rfl⟩) (row_len _ _ _)
theorem colAt_inj {f f' : List G} {need m : Nat} (h0 : 1 ≤ need) (h1 : f.length = m * need) (h2 : f'.length = m * need) (h : ∀ i, i < need → colAt f need m i = colAt f' need m i) : f = f' := by
  refine List.ext_getElem (by omega) (fun p p1 p2 => ?_)
  have hi : p % need < need := Nat.mod_lt _ (by omega)
  have hj : p / need < m := by rw [Nat.div_lt_iff_lt_mul (by omega)]; omega
  have h3 := congrArg (fun l => l.getD (p / need) z0) (h (p % need) hi)
  have hpp : p / need * need + p % need = p := by rw [Nat.mul_comm]; exact Nat.div_add_mod p need
  simp only [List.getD_eq_getElem?_getD, List.getElem?_map, List.getElem?_range hj, Option.map_some, Option.getD_some, hpp, List.getElem?_eq_getElem p1, List.getElem?_eq_getElem p2] at h3
  exact h3
/-- two strings with equally many columns that agree in need chunks are equal -/
theorem enc_agree {s u : List UInt8} {need count : Nat} (h1 : 1 ≤ need) (h2 : need ≤ 16) (h3 : count ≤ 16) (hs : s.length ≤ 4096) (hu : u.length ≤ 4096) (hm : mOf s need = mOf u need)
    (is : List Nat) (hn : is.Nodup) (hl : need ≤ is.length) (hi : ∀ i ∈ is, i < count) (he : ∀ i ∈ is, (encL s need count)[i]? = (encL u need count)[i]?) : s = u := by
  obtain ⟨a1, a2, a3⟩ := mOf_spec s need h1 hs h2
  obtain ⟨b1, b2, b3⟩ := mOf_spec u need h1 hu h2
  refine frm_inj (need := need) (by omega) (by omega) (tg_inj ?_)
  rw [← hm] at b1
  refine colAt_inj h1 a1 b1 (fun i hin => ?_)
  rw [← row_cols _ _ _ _ (by omega) hin, ← row_cols _ _ _ _ (by omega) hin]
  refine rows_agree (need := need) (by simp) (by simp) (xs := is.map (fun i => (Fin.ofNat 256 i : G))) ?_ (by rw [List.length_map]; exact hl) (fun x hx => ?_) _
  · unfold List.Nodup
    rw [List.pairwise_map]
    refine List.Pairwise.imp_of_mem ?_ hn
    intro a b ha hb hab e
    exact hab (ofNat_inj (by have := hi a ha; omega) (by have := hi b hb; omega) e)
  · obtain ⟨k, hk, rfl⟩ := List.mem_map.1 hx
    have h4 := he k hk
    have hk2 := hi k hk
    rw [List.getElem?_eq_getElem (by rw [encL_len]; exact hk2), List.getElem?_eq_getElem (by rw [encL_len]; exact hk2), encL_get, encL_get] at h4
    have h5 := (Prod.mk.inj (Option.some.inj h4)).2
    rw [← hm] at h5
    exact gs_inj h5
/-- fewer than need chunks are equal -/
theorem enc_dist {s u : List UInt8} {need count : Nat} (h1 : 1 ≤ need) (h2 : need ≤ 16) (h3 : count ≤ 16) (hs : s.length ≤ 4096) (hu : u.length ≤ 4096) (hm : mOf s need = mOf u need) (hne : s ≠ u) :
    ((List.range count).filter (fun i => decide ((encL s need count)[i]? = (encL u need count)[i]?))).length < need := by
  rcases Nat.lt_or_ge ((List.range count).filter (fun i => decide ((encL s need count)[i]? = (encL u need count)[i]?))).length need with h | h
  · exact h
  · refine absurd (enc_agree h1 h2 h3 hs hu hm _ (List.Pairwise.filter _ List.nodup_range) h (fun i hi => ?_) (fun i hi => ?_)) hne
    · exact List.mem_range.1 (List.mem_filter.1 hi).1
    · exact of_decide_eq_true (List.mem_filter.1 hi).2

end Go.Proofs.YtajfmhiejipaoaaDoor

namespace Go.Proofs.YtajfmhiejipaoaaDoor
open Go.RowKit Bs Ef

theorem data_getD (C : List (Int × ByteArray)) (i : Nat) (h : i < C.length) : (dataOf C).getD i [] = (C[i]).2.data.toList := by
  rw [getD_eq (dataOf C) i (by rw [List.length_map]; exact h), List.getElem_map]
theorem data_take (C : List (Int × ByteArray)) (i : Nat) (h : i < C.length) : (dataOf C).take (i + 1) = (dataOf C).take i ++ [(dataOf C).getD i []] := by
  rw [List.take_succ_eq_append_getElem (by rw [List.length_map]; exact h), getD_eq (dataOf C) i (by rw [List.length_map]; exact h)]

set_option maxRecDepth 100000 in
set_option maxHeartbeats 4000000 in
theorem Data_any (C : List (Int × ByteArray)) (gc n : Nat) (w : World) (hn : C.length = n) (hn1 : n ≤ 1000) (hC : CkRow w gc C) :
    Calls Tryd.prog 34 #[.slice (some ⟨gc, 0, none⟩) n n] w (GivesH (dataOf C) w) := by
  have HC := Lib.hid hC
  have HN := Lib.hid hn
  clear hC hn
  go_enter Tryd.func34, Tryd.ntmps34
  go_wp2_with fail
  go_loopw [3, 4] (fun v q wr => ∃ i : Nat, i ≤ n ∧ q = .int .i64 i ∧ OwnS wr w.heap.size v ((dataOf C).take i) ∧ Below w.heap.size w wr) (fun _ q _ => n - (intOf q).toNat)
  case atStart => exact ⟨0, Nat.zero_le _, rfl, OwnS.nil _ _, Below.refl _ _⟩
  case round =>
    obtain ⟨i, hi, rfl, hown, hw⟩ := hrel
    have hwsz := hw.size
    rcases Nat.lt_or_ge i n with hin | hin
    · have hil : i < C.length := by rw [HN.out]; exact hin
      have hcell := ((HC.out.later hw).cell i hil).2
      have e1 := data_take C i hil
      rw [data_getD C i hil] at e1
      rw [← bs_bytes (C[i]'hil).2] at hcell
      obtain ⟨x, hx⟩ : ∃ x, (C[i]'hil).2.data.toList = x := ⟨_, rfl⟩
      rw [hx] at hcell e1
      have hPl : ((dataOf C).take i).length ≤ 2000000 := by rw [List.length_take]; omega
      obtain ⟨P, hP⟩ : ∃ P, (dataOf C).take i = P := ⟨_, rfl⟩
      rw [hP] at hown e1 hPl
      have E1 := Lib.hid e1
      have HO := Lib.hid hown
      have i1 : (i : Int) < (n : Int) := by omega
      clear hx e1 hown hP
      go_wp2_with (at_builtin; refine wpList_pushS rfl _ _ rfl w.heap.size _ P rfl (HO.out.alloc _) ⟨wr.heap.size, 0, none⟩ 1 x rfl (fresh_cell wr _ _) hPl (le_allocH hwsz _) ?_; intro v1 wC oC bC; have bD := (hw.alloc hwsz (.cells #[.string (bs x)] 9)).trans bC; have HO2 := Lib.hid oC; clear oC HO)
      go_roundw
      case rel => exact ⟨i + 1, hin, by go_num, by rw [E1.out]; exact HO2.out, bD⟩
      case measure => simp [intOf]; omega
    · obtain rfl : i = n := by omega
      rw [List.take_of_length_le (by rw [List.length_map, HN.out]; exact Nat.le_refl _)] at hown
      have HO := Lib.hid hown
      clear hown
      go_wp2_with fail
      go_ret
      exact ⟨_, rfl, HO.out, hw⟩

theorem enc_data {s u : List UInt8} {need count : Nat} (h1 : 1 ≤ need) (h2 : need ≤ 16) (hnc : need ≤ count) (h3 : count ≤ 16) (hs : s.length ≤ 4096) (hu : u.length ≤ 4096) (hne : s ≠ u) :
    dataOf (encL s need count) ≠ dataOf (encL u need count) := by
  intro h
  have hl := encL_len s need count
  have hl2 := encL_len u need count
  have hk : ∀ i, i < count → (encL s need count)[i]? = (encL u need count)[i]? := fun i hi => by
    have e : (dataOf (encL s need count)).getD i [] = (dataOf (encL u need count)).getD i [] := by rw [h]
    rw [data_getD _ i (by omega), data_getD _ i (by omega)] at e
    have e2 : ((encL s need count)[i]'(by omega)).2 = ((encL u need count)[i]'(by omega)).2 := by
      rw [← bs_bytes ((encL s need count)[i]'(by omega)).2, e, bs_bytes]
    rw [List.getElem?_eq_getElem (by omega), List.getElem?_eq_getElem (by omega)]
    refine congrArg some (Prod.ext ?_ e2)
    rw [encL_get s need count i (by omega), encL_get u need count i (by omega)]
  have hm : mOf s need = mOf u need := by
    rw [← encL_size s need count 0 (by omega), ← encL_size u need count 0 (by omega)]
    have := hk 0 (by omega)
    rw [List.getElem?_eq_getElem (by omega), List.getElem?_eq_getElem (by omega)] at this
    rw [Option.some.inj this]
  exact hne (enc_agree h1 h2 h3 hs hu hm (List.range count) List.nodup_range (by rw [List.length_range]; exact hnc) (fun i hi => List.mem_range.1 hi) (fun i hi => hk i (List.mem_range.1 hi)))

end Go.Proofs.YtajfmhiejipaoaaDoor

namespace Go.Proofs.YtajfmhiejipaoaaDoor
open Go.RowKit Bs Ef

theorem dataOf_le {C : List (Int × ByteArray)} {m : Nat} (h : ∀ i (h : i < C.length), (C[i]).2.size ≤ m) : ∀ x ∈ dataOf C, x.length ≤ m := fun x hx => by
  obtain ⟨c, hc, rfl⟩ := List.mem_map.1 hx
  obtain ⟨i, hi, rfl⟩ := List.mem_iff_getElem.1 hc
  exact h i hi

set_option maxRecDepth 100000 in
set_option maxHeartbeats 16000000 in
theorem ErasureRoots_any (s other : ByteArray) (a0 b0 : Int) (ha0 : -9223372036854775808 ≤ a0) (ha1 : a0 ≤ 9223372036854775807) (hb0 : -9223372036854775808 ≤ b0) (hb1 : b0 ≤ 9223372036854775807) (w : World) (hT : KAt w) :
    Calls Tryd.prog 9 #[.string s, .string other, .int .i64 a0, .int .i64 b0] w fun e w' => e = .returned (.bool true) ∧ Below w.heap.size w w' := by
  obtain ⟨m0, t, ⟨m0a, m0b⟩, x0, l0, e0, -⟩ := cut_string s 100
  have r0 := fun w ts ty => min_run (P := Tryd.prog) s.size 100 m0 e0 100 rfl w ts ty
  obtain ⟨m1, u, ⟨m1a, m1b⟩, y0, k0, f0, -⟩ := cut_string other 100
  have r1 := fun w ts ty => min_run (P := Tryd.prog) other.size 100 m1 f0 100 rfl w ts ty
  obtain ⟨need, count, n1, n8, nc, c16, PR⟩ := params_any a0 b0 ha0 ha1 hb0 hb1
  have ht : t.length ≤ 100 := by omega
  have ho : u.length ≤ 100 := by omega
  have hEnc := fun (W : World) (u : List UInt8) (hu : u.length ≤ 100) => (show Calls Tryd.prog 20 #[.string (Bs.bs u), .int .i64 (need : Int), .int .i64 (count : Int)] W fun e w' => ∃ gv, W.heap.size ≤ gv ∧ e = .returned (.tuple #[.slice (some ⟨gv, 0, none⟩) count count, .int .i64 0]) ∧ CkRow w' gv (encL u need count) ∧ Below W.heap.size W w' from Encode_ok u need count n1 nc c16 (by omega) W)
  have hRoot := fun (u : List UInt8) (hu : u.length ≤ 100) (g : Nat) (W : World) (hR : CkRow W g (encL u need count)) (hk : KAt W) =>
    (show Calls Tryd.prog 23 #[.slice (some ⟨g, 0, none⟩) count count] W fun e w' => e = .returned (.string (Bs.bs (Tr.root dig (dataOf (encL u need count))))) ∧ Below W.heap.size W w' from Root_ck (encL u need count) g 0 count count W (encL_len u need count) (by omega) (by omega) hR.at (Nat.le_refl _) (fun i => by
      rcases Nat.lt_or_ge i (encL u need count).length with h | h
      · rw [ckI_eq _ i h, encL_size u need count i h]
        have := (mOf_spec u need n1 (by omega) (by omega)).2.2
        omega
      · unfold ckI; rw [List.getD_eq_getElem?_getD, List.getElem?_eq_none h]; exact Nat.zero_le _) hk)
  have hdl := fun (u : List UInt8) (hu : u.length ≤ 100) => dataOf_le (C := encL u need count) (m := 100000) (fun i h => by
    rw [encL_size u need count i h]
    have := (mOf_spec u need n1 (by omega) (by omega)).2.2
    omega)
  have hdn := fun (u : List UInt8) => (show (dataOf (encL u need count)).length = count by rw [List.length_map]; exact encL_len u need count)
  obtain ⟨S0, hS0⟩ : ∃ S, Bs.bs t = S := ⟨_, rfl⟩
  obtain ⟨S1, hS1⟩ : ∃ S, Bs.bs u = S := ⟨_, rfl⟩
  have hE0 := fun W => hEnc W t ht
  have hE1 := fun W => hEnc W u ho
  have hR0 := hRoot t ht
  have hR1 := hRoot u ho
  have hl0 := hdl t ht
  have hl1 := hdl u ho
  have hn0 := hdn t
  have hn1 := hdn u
  have hel := encL_len t need count
  have hfl := encL_len u need count
  have hhit : t ≠ u → Tr.root dig (dataOf (encL t need count)) = Tr.root dig (dataOf (encL u need count)) → colL (hshF count (dataOf (encL t need count))) (hshF count (dataOf (encL u need count))) = true := fun hne hr =>
    hsh_hit count _ _ (by rw [hn0, hn1]) (by omega) (by omega) (enc_data n1 (by omega) nc c16 (by omega) (by omega) hne) hr
  have hsame : t = u → Tr.root dig (dataOf (encL t need count)) = Tr.root dig (dataOf (encL u need count)) := fun h => by rw [h]
  obtain ⟨E, hE⟩ : ∃ E, encL t need count = E := ⟨_, rfl⟩
  obtain ⟨F, hF⟩ : ∃ F, encL u need count = F := ⟨_, rfl⟩
  rw [hE] at hE0 hR0 hl0 hn0 hhit hsame hel
  rw [hF] at hE1 hR1 hl1 hn1 hhit hsame hfl
  rw [hS0] at x0 hE0
  rw [hS1] at y0 hE1
  obtain ⟨RA, hRA⟩ : ∃ R, Tr.root dig (dataOf E) = R := ⟨_, rfl⟩
  obtain ⟨RB, hRB⟩ : ∃ R, Tr.root dig (dataOf F) = R := ⟨_, rfl⟩
  rw [hRA] at hR0 hhit hsame
  rw [hRB] at hR1 hhit hsame
  have HE0 := Lib.hid hE0
  have HE1 := Lib.hid hE1
  have HR0 := Lib.hid hR0
  have HR1 := Lib.hid hR1
  have HL0 := Lib.hid hl0
  have HL1 := Lib.hid hl1
  have HN0 := Lib.hid hn0
  have HN1 := Lib.hid hn1
  have HEL := Lib.hid hel
  have HFL := Lib.hid hfl
  have HH := Lib.hid hhit
  have HSM := Lib.hid hsame
  have HS := Lib.hid esane_any
  replace PR := Lib.hid PR
  have HB := Lib.hid (Below.refl w.heap.size w)
  have HT0 := Lib.hid hS0
  have HT1 := Lib.hid hS1
  clear hEnc hRoot hdl hdn hE0 hE1 hR0 hR1 hl0 hl1 hn0 hn1 hel hfl hhit hsame hE hF hRA hRB hS0 hS1 ha0 ha1 hb0 hb1 e0 f0
  go_enter Tryd.func9, Tryd.ntmps9
  go_upto_region 10 with (first
    | (go_at_call 11; (with_reducible refine (HS.out _ (hT.below HB.out)).mono ?_); rintro e w0 ⟨rfl, hB⟩; replace HB := Lib.hid (below_on HB.out hB HB.out.size); clear hB)
    | (go_at_call 19; (with_reducible refine (PR.out _).mono ?_); rintro e ww ⟨rfl, hww⟩; rw [hww]; clear hww ww)
    | (go_at_call 20; (with_reducible refine (HE0.out _).mono ?_); rintro e w1 ⟨ge, hge, rfl, hR, hB⟩; replace HB := Lib.hid (below_on HB.out hB HB.out.size); have HR := Lib.hid hR; clear hB hR)
    | (go_at_call 20; (with_reducible refine (HE1.out _).mono ?_); rintro e w2 ⟨gf, hgf, rfl, hF, hB⟩; replace HB := Lib.hid (below_on HB.out hB HB.out.size); replace HR := Lib.hid (HR.out.later hB); have HF := Lib.hid hF; clear hB hF)
    | (go_at_call 23; (with_reducible refine (HR0.out ge _ HR.out (hT.below HB.out)).mono ?_); rintro e w3 ⟨rfl, hB⟩; replace HB := Lib.hid (below_on HB.out hB HB.out.size); replace HR := Lib.hid (HR.out.later hB); replace HF := Lib.hid (HF.out.later hB); clear hB)
    | (go_at_call 23; (with_reducible refine (HR1.out gf _ HF.out (hT.below HB.out)).mono ?_); rintro e w4 ⟨rfl, hB⟩; replace HB := Lib.hid (below_on HB.out hB HB.out.size); replace HR := Lib.hid (HR.out.later hB); replace HF := Lib.hid (HF.out.later hB); clear hB))
  by_cases htu : t = u
  · have hr := HSM.out htu
    obtain rfl : S1 = S0 := by rw [← HT0.out, ← HT1.out, htu]
    have hq := bsEqT hr
    have hq2 : (S1.toList == S1.toList) = true := by simp
    clear htu hr
    go_wp2_with fail
    go_ret
    exact ⟨rfl, HB.out⟩
  · have hq2 : (S0.toList == S1.toList) = false := by rw [← HT0.out, ← HT1.out]; exact bsEqF htu
    by_cases hr : RA = RB
    · have hq := bsEqT hr
      have hcol := HH.out htu hr
      have hla := hsh_len count (dataOf E) (by rw [HN0.out]; omega) (by rw [HN0.out]; exact Nat.le_refl _)
      have hlb := hsh_len count (dataOf F) (by rw [HN1.out]; omega) (by rw [HN1.out]; exact Nat.le_refl _)
      rw [HN0.out] at hla
      rw [HN1.out] at hlb
      have hsa := hsh_le count (dataOf E) (by rw [HN0.out]; omega) HL0.out
      have hsb := hsh_le count (dataOf F) (by rw [HN1.out]; omega) HL1.out
      have iA := fun (g off c : Nat) (W : World) (hc : count ≤ c) (hm : c ≤ maxLen) (hp : PartsAt W g off (dataOf E)) => Hashed_at count (dataOf E) g off count c W (Nat.le_refl _) HN0.out (by omega) hc hm (by omega) HL0.out hp
      have iB := fun (g off c : Nat) (W : World) (hc : count ≤ c) (hm : c ≤ maxLen) (hp : PartsAt W g off (dataOf F)) => Hashed_at count (dataOf F) g off count c W (Nat.le_refl _) HN1.out (by omega) hc hm (by omega) HL1.out hp
      obtain ⟨PA, hPA⟩ : ∃ P, hshF count (dataOf E) = P := ⟨_, rfl⟩
      obtain ⟨PB, hPB⟩ : ∃ P, hshF count (dataOf F) = P := ⟨_, rfl⟩
      rw [hPA] at hla hsa iA hcol
      rw [hPB] at hlb hsb iB hcol
      have IA := Lib.hid iA
      have IB := Lib.hid iB
      have HC := Lib.hid (fun (a b : Option Addr) (ca cb : Nat) (W : World) (hA : IsL W a PA.length ca PA) (hB : IsL W b PB.length cb PB) => by
        have h := Collided_any PA PB a b PA.length ca PB.length cb W hA hB (by omega) (by omega) (fun x hx => by have := hsa x hx; omega) (fun x hx => by have := hsb x hx; omega)
        rw [hcol] at h
        exact h)
      clear iA iB hPA hPB hla hlb hsa hsb hcol htu hr HH HSM
      go_wp2_with (first
        | (go_at_call 34; (with_reducible refine (Data_any E ge count _ HEL.out (by omega) HR.out).mono ?_); rintro e w5 ⟨v, rfl, hO, hB⟩; obtain ⟨a5, c5, rfl, hI, -⟩ := hO.is; rw [HN0.out] at hI ⊢; obtain ⟨g5, o5, rfl, hp5⟩ := hI.at (by omega); have k5 := hI.cap; have m5 := hI.max; replace HB := Lib.hid (below_on HB.out hB HB.out.size); replace HF := Lib.hid (HF.out.later hB); clear hB hO)
        | (go_at_call 33; (with_reducible refine (IA.out _ _ _ _ k5 m5 hp5).mono ?_); rintro e w6 ⟨v, rfl, hO, hB⟩; obtain ⟨a6, c6, rfl, hI6, -⟩ := hO.is; replace HB := Lib.hid (below_on HB.out hB HB.out.size); replace HF := Lib.hid (HF.out.later hB); clear hB hO)
        | (go_at_call 34; (with_reducible refine (Data_any F gf count _ HFL.out (by omega) HF.out).mono ?_); rintro e w7 ⟨v, rfl, hO, hB⟩; obtain ⟨a7, c7, rfl, hI7, -⟩ := hO.is; rw [HN1.out] at hI7 ⊢; obtain ⟨g7, o7, rfl, hp7⟩ := hI7.at (by omega); have k7 := hI7.cap; have m7 := hI7.max; replace HB := Lib.hid (below_on HB.out hB HB.out.size); replace hI6 := hI6.later hB; clear hB hO)
        | (go_at_call 33; (with_reducible refine (IB.out _ _ _ _ k7 m7 hp7).mono ?_); rintro e w8 ⟨v, rfl, hO, hB⟩; obtain ⟨a8, c8, rfl, hI8, -⟩ := hO.is; replace HB := Lib.hid (below_on HB.out hB HB.out.size); replace hI6 := hI6.later hB; clear hB hO)
        | (go_at_call 32; (with_reducible refine (HC.out _ _ _ _ _ hI6 hI8).mono ?_); rintro e w9 ⟨rfl, hB⟩; replace HB := Lib.hid (below_on HB.out hB HB.out.size); clear hB))
      go_ret
      exact ⟨rfl, HB.out⟩
    · have hq := bsEqF hr
      clear htu hr
      go_wp2_with fail
      go_ret
      exact ⟨rfl, HB.out⟩

end Go.Proofs.YtajfmhiejipaoaaDoor
