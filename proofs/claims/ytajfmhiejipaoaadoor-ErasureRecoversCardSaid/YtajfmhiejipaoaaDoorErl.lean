/-
  Layer 6: Decode.
-/
import Derived.Test.YtajfmhiejipaoaaDoorErk
namespace Go.Proofs.YtajfmhiejipaoaaDoor
open Go.RowKit Bs Ef

/-- the first chunks, as points and elements -/
abbrev ksOf (C : List (Int × ByteArray)) (need : Nat) : List (G × List G) := (C.take need).map (fun c => (Fin.ofNat 256 c.1.toNat, tg c.2.data.toList))
/-- the bytes of the frame that they determine -/
def frB (C : List (Int × ByteArray)) (need : Nat) : List G := flatTo ((List.range need).map (fun i => row (ksOf C need) (ckI C 0).2.size (Fin.ofNat 256 i))) (ckI C 0).2.size
def matchP (C E : List (Int × ByteArray)) : Prop := ∀ i, i < C.length → E[(ckI C i).1.toNat]? = some (ckI C i)
noncomputable instance matchP_dec (C E : List (Int × ByteArray)) : Decidable (matchP C E) := Classical.propDecidable _
/-- what Decode answers -/
noncomputable def decS (C : List (Int × ByteArray)) (need count : Nat) : List UInt8 × Int :=
  if fitP C need count then
    if (strB (ub (gl (frB C need))) 0).2.2 ≠ 0 then ([], 60)
    else if 4096 < (strB (ub (gl (frB C need))) 0).1.length then ([], 60)
    else if matchP C (encL (strB (ub (gl (frB C need))) 0).1 need count) then ((strB (ub (gl (frB C need))) 0).1, 0) else ([], 60)
  else ([], 60)
theorem tg_len (s : ByteArray) : (tg s.data.toList).length = s.size := by rw [List.length_map]; rfl
theorem gs_tgs (s : ByteArray) : gs (tg s.data.toList) = s := by rw [gs_tg, bs_bytes]
theorem ksOf_ck {C : List (Int × ByteArray)} {need count : Nat} (h : fitP C need count) (hc : count ≤ 256) : ckOf (ksOf C need) = C.take need := by
  show ((C.take need).map (fun c => (Fin.ofNat 256 c.1.toNat, tg c.2.data.toList))).map (fun k => ((k.1.val : Int), gs k.2)) = C.take need
  rw [List.map_map]
  refine List.ext_getElem (by simp) (fun i h1 h2 => ?_)
  rw [List.getElem_map]
  have hi : i < C.length := by rw [List.length_take] at h2; omega
  rw [List.getElem_take]
  obtain ⟨g1, g2, -, -⟩ := h.2.2.2 i hi
  rw [ckI_eq C i hi] at g1 g2
  show (((Fin.ofNat 256 (C[i]).1.toNat : G).val : Int), gs (tg (C[i]).2.data.toList)) = C[i]
  rw [gs_tgs]
  have : ((Fin.ofNat 256 (C[i]).1.toNat : G).val : Int) = (C[i]).1 := by show ((((C[i]).1.toNat % 256 : Nat)) : Int) = _; omega
  rw [this]
theorem ksOf_len {C : List (Int × ByteArray)} {need count : Nat} (h : fitP C need count) : (ksOf C need).length = need := by
  rw [List.length_map, List.length_take]; have := h.1; omega
theorem ksOf_data {C : List (Int × ByteArray)} {need count : Nat} (h : fitP C need count) : ∀ k ∈ ksOf C need, k.2.length = (ckI C 0).2.size := by
  intro k hk
  obtain ⟨c, hc, rfl⟩ := List.mem_map.1 hk
  obtain ⟨i, hi, rfl⟩ := List.mem_iff_getElem.1 (List.mem_of_mem_take hc)
  rw [tg_len]
  have := (h.2.2.2 i hi).2.2.2
  rw [ckI_eq C i hi] at this
  exact this
theorem chunks_idx (ks : List (G × List G)) (m count k : Nat) (h : k < (chunksOf ks m count).length) : ((chunksOf ks m count)[k]'h).1 = (k : Int) := by simp
theorem CkAt.take {W : World} {g off : Nat} {l : List (Int × ByteArray)} (h : CkAt W g off l) (k : Nat) : CkAt W g off (l.take k) :=
  ⟨fun i hi => by
    rw [List.length_take] at hi
    rw [List.getElem_take]
    exact h.cell i (by omega), h.lt⟩

set_option maxRecDepth 100000 in
set_option maxHeartbeats 1000000 in
theorem Decode_inv (a : Option Addr) (n c : Nat) (need count : Int) (hv : ¬ (1 ≤ need ∧ need ≤ count ∧ count ≤ 16)) (w : World) :
    Calls Tryd.prog 27 #[.slice a n c, .int .i64 need, .int .i64 count] w fun e w' => e = .returned (.tuple #[.string ⟨#[]⟩, .int .i64 60]) ∧ Below w.heap.size w w' := by
  have hV := fun (W : World) => areValid_any need count W
  rw [decide_eq_false hv] at hV
  have HV := Lib.hid hV
  clear hV hv
  go_enter Tryd.func27, Tryd.ntmps27
  go_wp2_with (go_at_call 38; (with_reducible refine (HV.out _).mono ?_); rintro e ww ⟨rfl, hww⟩; rw [hww]; clear hww ww)
  go_ret2
  exact ⟨rfl, Below.refl _ _⟩

set_option maxRecDepth 100000 in
set_option maxHeartbeats 4000000 in
theorem Decode_any (C : List (Int × ByteArray)) (a : Option Addr) (n c need count : Nat) (w : World) (hC : CkS w a n c C) (h1 : 1 ≤ need) (h2 : need ≤ count) (h3 : count ≤ 16) (hn : n ≤ 100000) (hsz : ∀ i, (ckI C i).2.size ≤ 1000000) :
    Calls Tryd.prog 27 #[.slice a n c, .int .i64 (need : Int), .int .i64 (count : Int)] w fun e w' => e = .returned (.tuple #[.string (bs (decS C need count).1), .int .i64 (decS C need count).2]) ∧ Below w.heap.size w w' := by
  have hV := fun (W : World) => areValid_any need count W
  rw [decide_eq_true (show 1 ≤ (need : Int) ∧ (need : Int) ≤ (count : Int) ∧ (count : Int) ≤ 16 by omega)] at hV
  have HV := Lib.hid hV
  have hFt := fit_any C a n c need count w hC h1 h2 h3 hn hsz
  clear hV
  by_cases hfit : fitP C need count
  · rw [decide_eq_true hfit] at hFt
    have HFt := Lib.hid hFt
    have hcl := hC.len
    have hcap := hC.cap
    have hnn := hfit.1
    have hnc := hfit.2.1
    have hnc2 : need ≤ c := by omega
    obtain ⟨gk, off, rfl, hK⟩ := hC.mem.resolve_left (by omega)
    have hml := missN_lt 4098 need h1
    have hmn := hfit.2.2.1
    have hck := ksOf_ck hfit (by omega)
    have hkl := ksOf_len hfit
    have hkd := ksOf_data hfit
    have hgood := hfit.2.2.2
    obtain ⟨m, hm⟩ : ∃ m, (ckI C 0).2.size = m := ⟨_, rfl⟩
    rw [hm] at hmn hkd hgood
    have hm5 : m ≤ 5000 := by have := Nat.le_mul_of_pos_right m (show 0 < need by omega); omega
    have hX := fun (W : World) (g : Nat) (hF : FldAt W g) (hb : Below w.heap.size w W) => extendedE_any (ksOf C need) m g gk off need c need W hF hkl (by omega) (by omega) (by rw [hck]; exact (hK.take need).below hb hK.lt) hkd (by omega) (by omega) (by omega)
    have hI := fun (W : World) (g : Nat) (hR : CkRow W g (chunksOf (ksOf C need) m need)) => interleaved_any (chunksOf (ksOf C need) m need) ((List.range need).map (fun i => row (ksOf C need) m (Fin.ofNat 256 i))) m need g 0 need W hR.at (by simp) (by omega) (by omega) (Nat.le_refl _) hm5
      (by rw [List.map_map, List.map_map]; rfl) (fun d hd => by obtain ⟨i, -, rfl⟩ := List.mem_map.1 hd; simp)
    have hfr : flatTo ((List.range need).map (fun i => row (ksOf C need) m (Fin.ofNat 256 i))) m = frB C need := by unfold frB; rw [hm]
    rw [hfr] at hI
    have hfl : (frB C need).length = m * need := by rw [← hfr, flatTo_len]; simp
    have hdec : decS C need count = if (strB (ub (gl (frB C need))) 0).2.2 ≠ 0 then ([], 60) else if 4096 < (strB (ub (gl (frB C need))) 0).1.length then ([], 60) else if matchP C (encL (strB (ub (gl (frB C need))) 0).1 need count) then ((strB (ub (gl (frB C need))) 0).1, 0) else ([], 60) := by
      unfold decS; rw [if_pos hfit]
    have hS := fun (W : World) => String_any (ub (gl (frB C need))) 0 W (by unfold maxLen; rw [show (ub (gl (frB C need))).length = (frB C need).length from by simp [ub]]; omega) (by omega) (by omega)
    obtain ⟨r1, r2, r3, hr⟩ : ∃ r1 r2 r3, strB (ub (gl (frB C need))) 0 = (r1, r2, r3) := ⟨_, _, _, rfl⟩
    rw [hr] at hS hdec
    unfold RetS at hS
    simp only at hS hdec
    obtain ⟨F, hF⟩ : ∃ F, gs (frB C need) = F := ⟨_, rfl⟩
    rw [hF] at hI
    rw [show bs (ub (gl (frB C need))) = F from hF] at hS
    have HX := Lib.hid hX
    have HI := Lib.hid hI
    have HS := Lib.hid hS
    have HD := Lib.hid hdec
    have HK := Lib.hid hK
    have HG := Lib.hid hgood
    clear hFt hX hI hS hdec hfr hr hF hck hkd hkl hgood hfl hmn hml hm hfit hC hsz
    go_enter Tryd.func27, Tryd.ntmps27
    go_wp2_with (first
      | (go_at_call 38; (with_reducible refine (HV.out _).mono ?_); rintro e ww ⟨rfl, hww⟩; rw [hww]; clear hww ww)
      | (go_at_call 50; (with_reducible refine HFt.out.mono ?_); rintro e w1 ⟨rfl, hB1⟩))
    go_region_held3 (fun _ => True) (trivial) (first
      | (go_at_call 36; (with_reducible refine (newField_any _).mono ?_); rintro e w2 ⟨g, hg0, hg1, rfl, hF, hB2⟩; have hB3 := below_on hB1 (below_undrew hB2) hB1.size)
      | (go_at_call 39; (with_reducible refine (HX.out _ _ hF hB3).mono ?_); rintro e w3 ⟨gv, hgv, rfl, hR, hB4⟩))
    have hB5 := below_on hB3 hB4 hB3.size
    by_cases hr3 : r3 = 0
    · subst hr3
      have HD1 := Lib.hid (show decS C need count = if 4096 < r1.length then ([], 60) else if matchP C (encL r1 need count) then (r1, 0) else ([], 60) from by rw [HD.out, if_neg (fun h => h rfl)])
      by_cases hlen : 4096 < r1.length
      · have hE := fun (W : World) => Encode_no r1 need count (.inr hlen) W
        have HE := Lib.hid hE
        have HD2 := Lib.hid (show decS C need count = ([], 60) from by rw [HD1.out, if_pos hlen])
        clear hE hlen
        go_wp2_with (first
          | (go_at_call 52; (with_reducible refine (HI.out _ _ hR).mono ?_); rintro e w4 ⟨rfl, hB6⟩)
          | (go_at_call 51; (with_reducible refine (HS.out _).mono ?_); rintro e ww ⟨rfl, hww⟩; rw [← hww]; clear hww ww)
          | (go_at_call 20; (with_reducible refine (HE.out _).mono ?_); rintro e w5 ⟨rfl, hB7⟩))
        go_ret2
        have hB8 := below_on hB5 hB6 hB5.size
        exact ⟨by rw [HD2.out]; rfl, below_on hB8 hB7 hB8.size⟩
      · have hE := fun (W : World) => Encode_ok r1 need count h1 h2 h3 (by omega) W
        have HE := Lib.hid hE
        have HD2 := Lib.hid (show decS C need count = if matchP C (encL r1 need count) then (r1, 0) else ([], 60) from by rw [HD1.out, if_neg hlen])
        clear hE hlen
        go_wp2_with (first
          | (go_at_call 52; (with_reducible refine (HI.out _ _ hR).mono ?_); rintro e w4 ⟨rfl, hB6⟩)
          | (go_at_call 51; (with_reducible refine (HS.out _).mono ?_); rintro e ww ⟨rfl, hww⟩; rw [← hww]; clear hww ww)
          | (go_at_call 20; (with_reducible refine (HE.out _).mono ?_); rintro e w5 ⟨ge, hge, rfl, hRE, hB7⟩))
        have hB8 := below_on hB5 hB6 hB5.size
        have hB9 := below_on hB8 hB7 hB8.size
        have hRl : (encL r1 need count).length = count := by unfold encL; simp
        obtain ⟨E, hE⟩ : ∃ E, encL r1 need count = E := ⟨_, rfl⟩
        rw [hE] at hRE hRl
        have HEI := Lib.hid (show ∀ k (h : k < E.length), (E[k]).1 = (k : Int) from fun k h => by subst hE; exact chunks_idx _ _ _ k h)
        have HD3 := Lib.hid (show decS C need count = if matchP C E then (r1, 0) else ([], 60) from by rw [HD2.out, hE])
        obtain ⟨R1, hR1⟩ : ∃ R, bs r1 = R := ⟨_, rfl⟩
        rw [hR1]
        have HR1 := Lib.hid hR1
        have HRE := Lib.hid hRE
        have HB9 := Lib.hid hB9
        clear hB1 hB3 hB4 hB5 hB6 hB7 hB8 hB9 hR hF hRE hE hR1 HE HI HS HX HFt HV HD HD1 HD2
        go_wp2_with fail
        go_loopw [53] (fun v wr => ∃ i : Nat, i ≤ n ∧ v = .int .i64 i ∧ (∀ j, j < i → E[(ckI C j).1.toNat]? = some (ckI C j)) ∧ Below w5.heap.size w5 wr) (fun v _ => n - (intOf v).toNat)
        case atStart => exact ⟨0, Nat.zero_le _, rfl, fun j hj => absurd hj (by omega), Below.refl _ _⟩
        case round =>
          obtain ⟨i, hi, rfl, hmt, hw⟩ := hrel
          have HM := Lib.hid hmt
          have hwb := below_on HB9.out hw HB9.out.size
          have hs := hwb.size
          rcases Nat.lt_or_ge i n with hin | hin
          · obtain ⟨q1, q3⟩ := (HK.out.later hwb).cell i (by omega)
            have hck := ckI_eq C i (by omega)
            rw [← hck] at q1 q3
            obtain ⟨g1, g2, -, -⟩ := HG.out i (by omega)
            obtain ⟨zn, hz⟩ : ∃ m : Nat, (ckI C i).1 = (m : Int) := ⟨(ckI C i).1.toNat, by omega⟩
            have hzc : zn < count := by omega
            have hEc := (HRE.out.later hw).cell zn (by omega)
            have hEz : E[zn]? = some (E[zn]'(by omega)) := List.getElem?_eq_getElem (by omega)
            obtain ⟨S, hS⟩ : ∃ S, (ckI C i).2 = S := ⟨_, rfl⟩
            obtain ⟨zi, R, hzR⟩ : ∃ a b, E[zn]'(by omega) = (a, b) := ⟨_, _, rfl⟩
            have hcc : ckI C i = ((zn : Int), S) := by rw [← hz, ← hS]
            obtain rfl : zi = (zn : Int) := by have h2 := HEI.out zn (by omega); rw [hzR] at h2; exact h2
            rw [hzR] at hEc hEz
            rw [hz] at q1
            rw [hS] at q3
            obtain ⟨e1, e2⟩ := hEc
            dsimp only at e1 e2
            have HC := Lib.hid (show E[(ckI C i).1.toNat]? = some ((zn : Int), R) ∧ ckI C i = ((zn : Int), S) from ⟨by rw [hcc]; exact hEz, hcc⟩)
            have hal : Below wr.heap.size wr (wr.alloc (.cells #[.int .i64 (zn : Int), .string S] 40)) := (Below.refl _ wr).alloc (Nat.le_refl _) _
            have HW := Lib.hid (below_on hw hal hw.size)
            have HWB := Lib.hid (below_on hwb hal hwb.size)
            have hbx : (wr.alloc (.cells #[.int .i64 (zn : Int), .string S] 40)).heap[wr.heap.size]? = some (.cells #[.int .i64 (zn : Int), .string S] 40 (0, 0)) := heap_alloc_new _ _
            have lge : ge < wr.heap.size := (HRE.out.later hw).lt
            clear hck hz g1 g2 hEz hzR hcc hS hw hwb hmt
            go_upto_region 13 with fail
            refine wp_here fun W hW => ?_
            replace HW : Hid (Below w5.heap.size w5 W) := Lib.hid (by rw [hW]; exact HW.out)
            replace HWB : Hid (Below w.heap.size w W) := Lib.hid (by rw [hW]; exact HWB.out)
            replace hbx : W.heap[wr.heap.size]? = some (.cells #[.int .i64 (zn : Int), .string S] 40 (0, 0)) := by rw [hW]; exact hbx
            replace hal : Below wr.heap.size wr W := by rw [hW]; exact hal
            have b1 : W.cell? ⟨wr.heap.size, 0, none⟩ = some (.int .i64 (zn : Int)) := by rw [cell_of_row _ _ 0 _ _ _ hbx]; rfl
            have b2 : W.cell? ⟨wr.heap.size, 1, none⟩ = some (.string S) := by rw [cell_of_row _ _ 1 _ _ _ hbx]; rfl
            have b3 : W.cell? ⟨ge, zn * 2, none⟩ = some (.int .i64 (zn : Int)) := (hal.cell (p := ⟨ge, zn * 2, none⟩) lge).trans e1
            have b4 : W.cell? ⟨ge, zn * 2 + 1, none⟩ = some (.string R) := (hal.cell (p := ⟨ge, zn * 2 + 1, none⟩) lge).trans e2
            clear hW hbx hal e1 e2 q1 q3
            by_cases heq : R = S
            · subst heq
              have HMM := Lib.hid (show ∀ j, j < i + 1 → E[(ckI C j).1.toNat]? = some (ckI C j) from fun j hj => by
                rcases Nat.lt_or_ge j i with h | h
                · exact HM.out j h
                · obtain rfl : j = i := by omega
                  rw [HC.out.1, HC.out.2])
              go_region_held3 (fun w' => w'.cell? ⟨wr.heap.size, 0, none⟩ = some (.int .i64 (zn : Int)) ∧ w'.cell? ⟨wr.heap.size, 1, none⟩ = some (.string R) ∧ w'.cell? ⟨ge, zn * 2, none⟩ = some (.int .i64 (zn : Int)) ∧ w'.cell? ⟨ge, zn * 2 + 1, none⟩ = some (.string R)) (first | exact ⟨b1, b2, b3, b4⟩ | go_keep) (fail)
              go_wp2_with fail
              go_roundw
              case rel => exact ⟨i + 1, hin, by go_num, HMM.out, HW.out.drew⟩
              case measure => simp [intOf]; omega
            · have HNM := Lib.hid (show ¬ matchP C E from fun h => heq (by
                have h2 := h i (by omega)
                rw [HC.out.1, HC.out.2] at h2
                have h3 := Prod.mk.inj (Option.some.inj h2)
                exact h3.2))
              have hne : ¬ S.toList = R.toList := fun h => heq (by rw [toList_eq, toList_eq] at h; rw [← bs_bytes R, ← bs_bytes S, h])
              have hne1 : (S.toList == R.toList) = false := beq_false_of_ne hne
              have hne2 : decide (S.toList = R.toList) = false := decide_eq_false hne
              clear heq
              go_region_held3 (fun w' => w'.cell? ⟨wr.heap.size, 0, none⟩ = some (.int .i64 (zn : Int)) ∧ w'.cell? ⟨wr.heap.size, 1, none⟩ = some (.string S) ∧ w'.cell? ⟨ge, zn * 2, none⟩ = some (.int .i64 (zn : Int)) ∧ w'.cell? ⟨ge, zn * 2 + 1, none⟩ = some (.string R)) (first | exact ⟨b1, b2, b3, b4⟩ | go_keep) (fail)
              go_wp2_with fail
              go_ret2
              exact ⟨by rw [HD3.out, if_neg HNM.out]; rfl, HWB.out.drew⟩
          · obtain rfl : i = n := by omega
            have HYM := Lib.hid (show matchP C E from fun j hj => HM.out j (by omega))
            go_wp2_with fail
            go_ret2
            exact ⟨by rw [HD3.out, if_pos HYM.out, HR1.out]; rfl, hwb⟩
    · have e0 : (r3 == 0) = false := beq_false_of_ne hr3
      have e1 : (r3 != 0) = true := by rw [bne, e0]; rfl
      have HD1 := Lib.hid (show decS C need count = ([], 60) from by rw [HD.out, if_pos hr3])
      clear hr3
      go_wp2_with (first
        | (go_at_call 52; (with_reducible refine (HI.out _ _ hR).mono ?_); rintro e w4 ⟨rfl, hB6⟩)
        | (go_at_call 51; (with_reducible refine (HS.out _).mono ?_); rintro e ww ⟨rfl, hww⟩; rw [← hww]; clear hww ww))
      go_ret2
      exact ⟨by rw [HD1.out]; rfl, below_on hB5 hB6 hB5.size⟩
  · rw [decide_eq_false hfit] at hFt
    have HFt := Lib.hid hFt
    have hdec : decS C need count = ([], 60) := by unfold decS; rw [if_neg hfit]
    rw [hdec]
    clear hFt hdec hfit hC hsz
    go_enter Tryd.func27, Tryd.ntmps27
    go_wp2_with (first
      | (go_at_call 38; (with_reducible refine (HV.out _).mono ?_); rintro e ww ⟨rfl, hww⟩; rw [hww]; clear hww ww)
      | (go_at_call 50; (with_reducible refine HFt.out.mono ?_); rintro e w1 ⟨rfl, hB1⟩))
    go_ret2
    exact ⟨rfl, hB1⟩

end Go.Proofs.YtajfmhiejipaoaaDoor
