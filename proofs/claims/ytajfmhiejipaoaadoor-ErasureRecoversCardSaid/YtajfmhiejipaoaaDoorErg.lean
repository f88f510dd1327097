/-
  Layer 6: the chunks that some chunks of the same length determine.
-/
import Derived.Test.YtajfmhiejipaoaaDoorErf
import Derived.Deep.RegionHeld3
namespace Go.Proofs.YtajfmhiejipaoaaDoor
open Go.RowKit Bs Ef

/-- the values at one place, each with its point -/
abbrev col (ks : List (G × List G)) (j : Nat) : List (G × G) := ks.map (fun k => (k.1, k.2.getD j z0))
abbrev ptsOf (ks : List (G × List G)) : List G := ks.map (·.1)
/-- the bytes of the chunk at x -/
abbrev row (ks : List (G × List G)) (m : Nat) (x : G) : List G := (List.range m).map (fun j => lag (ptsOf ks) x (col ks j))
/-- the chunks that they determine -/
abbrev chunksOf (ks : List (G × List G)) (m count : Nat) : List (Int × ByteArray) := (List.range count).map (fun (i : Nat) => ((i : Int), gs (row ks m (Fin.ofNat 256 i))))
/-- chunks as they lie in memory -/
abbrev ckOf (ks : List (G × List G)) : List (Int × ByteArray) := ks.map (fun k => ((k.1.val : Int), gs k.2))
abbrev accN (ks : List (G × List G)) (m : Nat) (x : G) (k : Nat) : List Nat := (List.range m).map (fun j => (lag (ptsOf ks) x ((col ks j).take k)).val)
abbrev accI (ks : List (G × List G)) (m : Nat) (x : G) (k j : Nat) : List Nat := (List.range m).map (fun i => if i < j then (lag (ptsOf ks) x ((col ks i).take (k + 1))).val else (lag (ptsOf ks) x ((col ks i).take k)).val)
abbrev uptoC (ks : List (G × List G)) (m count i : Nat) : List (Int × ByteArray) := (List.range count).map (fun (k : Nat) => if k < i then ((k : Int), gs (row ks m (Fin.ofNat 256 k))) else (0, ⟨#[]⟩))
theorem accI_zero (ks : List (G × List G)) (m : Nat) (x : G) (k : Nat) : accI ks m x k 0 = accN ks m x k := range_ext (fun _ _ => if_neg (by omega))
theorem accI_all (ks : List (G × List G)) (m : Nat) (x : G) (k : Nat) : accI ks m x k m = accN ks m x (k + 1) := range_ext (fun _ h => if_pos h)
theorem accI_set (ks : List (G × List G)) (m : Nat) (x : G) (k j : Nat) : (accI ks m x k j).set j (lag (ptsOf ks) x ((col ks j).take (k + 1))).val = accI ks m x k (j + 1) := by
  rw [set_range]
  refine range_ext (fun i _ => ?_)
  by_cases h1 : i = j
  · rw [if_pos h1, if_pos (by omega), h1]
  · rw [if_neg h1]
    by_cases h2 : i < j
    · rw [if_pos h2, if_pos (by omega)]
    · rw [if_neg h2, if_neg (by omega)]
theorem accN_zero (ks : List (G × List G)) (m : Nat) (x : G) : accN ks m x 0 = List.replicate m 0 := by
  apply List.ext_getElem
  · simp
  · intro i h1 h2
    simp only [List.getElem_map, List.getElem_range, List.take_zero, List.getElem_replicate]
    rfl
theorem accN_all (ks : List (G × List G)) (m : Nat) (x : G) : accN ks m x ks.length = gl (row ks m x) := by
  show _ = ((List.range m).map (fun j => lag (ptsOf ks) x (col ks j))).map Fin.val
  rw [List.map_map]
  refine List.map_congr_left (fun j _ => ?_)
  rw [List.take_of_length_le (by rw [List.length_map]; omega)]
  rfl
theorem uptoC_zero (ks : List (G × List G)) (m count : Nat) : uptoC ks m count 0 = List.replicate count (0, ⟨#[]⟩) := by
  apply List.ext_getElem
  · simp
  · intro i h1 h2
    simp
theorem uptoC_all (ks : List (G × List G)) (m count : Nat) : uptoC ks m count count = chunksOf ks m count := by
  refine List.map_congr_left (fun i hi => ?_)
  rw [if_pos (List.mem_range.1 hi)]
theorem uptoC_set (ks : List (G × List G)) (m count i : Nat) : (uptoC ks m count i).set i ((i : Int), gs (row ks m (Fin.ofNat 256 i))) = uptoC ks m count (i + 1) := by
  apply List.ext_getElem
  · simp
  · intro k h1 h2
    simp only [List.getElem_set, List.getElem_map, List.getElem_range]
    by_cases h : i = k
    · rw [if_pos h, if_pos (by omega), h]
    · rw [if_neg h]
      by_cases h3 : k < i
      · rw [if_pos h3, if_pos (by omega)]
      · rw [if_neg h3, if_neg (by omega)]
theorem col_take (ks : List (G × List G)) (j k : Nat) (h : k < ks.length) (x : G) : lag (ptsOf ks) x ((col ks j).take (k + 1)) = ga (lag (ptsOf ks) x ((col ks j).take k)) (mu (lw (ks[k]).1 x o1 (ptsOf ks)) ((ks[k]).2.getD j z0)) := by
  rw [List.take_succ_eq_append_getElem (by rw [List.length_map]; exact h), List.getElem_map, Ef.lag_snoc]

theorem build_ck (i : Int) (R : ByteArray) (w : World) : (Instr.build 40 #[(0, .int .i64 i), (1, .string R)]).run Tryd.prog w = .ok (.agg #[.int .i64 i, .string R]) w := by kernel_rfl

set_option maxRecDepth 100000 in
set_option maxHeartbeats 8000000 in
theorem extendedE_any (ks : List (G × List G)) (m g gk off n c count : Nat) (w : World) (hF : FldAt w g) (hn : ks.length = n) (hn0 : 0 < n) (hn2 : n ≤ 20) (hK : CkAt w gk off (ckOf ks)) (hm : ∀ k ∈ ks, k.2.length = m) (hm2 : m ≤ 100000) (hc : n ≤ c) (hct : count ≤ 20) :
    Calls Tryd.prog 39 #[.agg #[fprod g, fquot g], .slice (some ⟨gk, off, none⟩) n c, .int .i64 (count : Int)] w fun e w' =>
      ∃ gv, w.heap.size ≤ gv ∧ e = .returned (.slice (some ⟨gv, 0, none⟩) count count) ∧ CkRow w' gv (chunksOf ks m count) ∧ Below w.heap.size w w' := by
  have hmI := fun (W : World) (h : Below w.heap.size w W) => mapI_any (ckOf ks) gk off n c W (by rw [List.length_map]; exact hn) (by omega) (hK.later h) hc
  have he : (ckOf ks).map (fun k => el k.1) = gl (ptsOf ks) := by
    show (ks.map (fun k => ((k.1.val : Int), gs k.2))).map (fun k => el k.1) = (ks.map (·.1)).map Fin.val
    rw [List.map_map, List.map_map]
    exact List.map_congr_left (fun k _ => el_nat k.1.2)
  rw [he] at hmI
  have HI := Lib.hid hmI
  clear hmI he
  have hbx : FBox (w.alloc (.cells #[fprod g, fquot g] 62)) w.heap.size (fprod g) (fquot g) := heap_alloc_new _ _
  have hB0 : Below w.heap.size w (w.alloc (.cells #[fprod g, fquot g] 62)) := (Below.refl _ w).alloc (Nat.le_refl _) _
  go_enter Tryd.func39, Tryd.ntmps39
  go_upto_region 2 with (go_at_call 63; (with_reducible refine (HI.out _ hB0).mono ?_); rintro e w1 ⟨gp, hgp, rfl, hAp, hB1⟩)
  have hmk := mkC w1 count (by omega)
  have hR0 : CkRow (w1.alloc (.cells (ckc (List.replicate count (0, ⟨#[]⟩))).toArray 40)) w1.heap.size (uptoC ks m count 0) := by rw [uptoC_zero]; exact heap_alloc_new _ _
  have hB2 : Below w.heap.size w w1 := below_on hB0 hB1 hB0.size
  have hbx1 : FBox w1 w.heap.size (fprod g) (fquot g) := (hB1.block _ (by simp)).trans hbx
  have hA2 : Below w1.heap.size w1 (w1.alloc (.cells (ckc (List.replicate count (0, ⟨#[]⟩))).toArray 40)) := (Below.refl _ w1).alloc (Nat.le_refl _) _
  obtain ⟨W0, hW0⟩ : ∃ W, w1.alloc (.cells (ckc (List.replicate count (0, ⟨#[]⟩))).toArray 40) = W := ⟨_, rfl⟩
  rw [hW0] at hmk hR0 hA2
  have hlp : w.heap.size < gp ∧ gp < w1.heap.size ∧ w.heap.size < w1.heap.size := ⟨by have : (w.alloc (.cells #[fprod g, fquot g] 62)).heap.size = w.heap.size + 1 := by simp
                                                                                      omega, hAp.lt, (Array.getElem?_eq_some_iff.1 hbx1).1⟩
  have hsz := hR0.lt
  clear hW0 hbx hB0 hB1 HI
  go_wp2_with fail
  go_loopw [20] (fun i wr => ∃ j : Nat, j ≤ count ∧ i = .int .i64 j ∧ CkRow wr w1.heap.size (uptoC ks m count j) ∧ Below w1.heap.size w1 wr ∧ w1.heap.size < wr.heap.size) (fun i _ => count - (intOf i).toNat)
  case atStart => exact ⟨0, Nat.zero_le _, rfl, hR0, hA2, hsz⟩
  case round =>
    obtain ⟨i, hi, rfl, hR, hw, hsr⟩ := hrel
    obtain ⟨wR, rfl⟩ : ∃ V, V = wr := ⟨_, rfl⟩
    have hwb := below_on hB2 hw hB2.size
    rcases Nat.lt_or_ge i count with h | h
    · have hbr : FBox wR w.heap.size (fprod g) (fquot g) := (hw.block _ hlp.2.2).trans hbx1
      have hpr : Arr wR gp 5 .u8 (gl (ptsOf ks)) := hAp.below hw hlp.2.1
      have hk0 := hK.below hwb hK.lt
      obtain ⟨q1, q2⟩ := hk0.cell 0 (by rw [List.length_map]; omega)
      have hk00 : (ckOf ks)[0]'(by rw [List.length_map]; omega) = (((ks[0]'(by omega)).1.val : Int), gs (ks[0]'(by omega)).2) := List.getElem_map ..
      rw [hk00] at q2
      have hsz0 : (gs (ks[0]'(by omega)).2).size = m := by rw [gs_size]; exact hm _ (List.getElem_mem _)
      obtain ⟨S0, hS0⟩ : ∃ S, gs (ks[0]'(by omega)).2 = S := ⟨_, rfl⟩
      dsimp only at q2
      rw [hS0] at q2 hsz0
      rw [show off + 0 * 2 + 1 = off + 1 from by omega] at q2
      have hmk2 := mkB wR m (by omega)
      have hD0 : Arr (wR.alloc (.cells (iv .u8 (List.replicate m 0)).toArray 5)) wR.heap.size 5 .u8 (accN ks m (Fin.ofNat 256 i) 0) := by rw [accN_zero]; exact Arr.new _ _ _ _
      have hBd : Below wR.heap.size wR (wR.alloc (.cells (iv .u8 (List.replicate m 0)).toArray 5)) := (Below.refl _ wR).alloc (Nat.le_refl _) _
      obtain ⟨W1, hW1⟩ : ∃ W, wR.alloc (.cells (iv .u8 (List.replicate m 0)).toArray 5) = W := ⟨_, rfl⟩
      rw [hW1] at hmk2 hD0 hBd
      have hlb : w.heap.size < wR.heap.size ∧ gp < wR.heap.size := by have := hw.size; omega
      have f0 : W1.cell? ⟨w.heap.size, 0, none⟩ = some (fprod g) := by rw [cell_of_row _ _ 0 _ _ _ ((hBd.block _ hlb.1).trans hbr)]; rfl
      have f1 : W1.cell? ⟨w.heap.size, 1, none⟩ = some (fquot g) := by rw [cell_of_row _ _ 1 _ _ _ ((hBd.block _ hlb.1).trans hbr)]; rfl
      unfold fprod at f0
      unfold fquot at f1
      have hwd := below_on hwb hBd hwb.size
      have hW := weights_any (Fin.ofNat 256 i) (ptsOf ks) g gp 0 n n W1 (hF.later hwd) (by rw [List.length_map]; exact hn) hn0 (by omega) (by have := (hpr.later hBd).nums (off := 0) (n := n) (by rw [List.length_map, List.length_map]; omega); rwa [List.drop_zero] at this) (Nat.le_refl _)
      have hxi : ((Fin.ofNat 256 i : G).val : Int) = (i : Int) := by show ((i % 256 : Nat) : Int) = _; omega
      rw [hxi] at hW
      have HW := Lib.hid hW
      have w8 : IntKind.u8.wrap (i : Int) = (i : Int) := by rw [IntKind.wrap_u8]; omega
      have HD := Lib.hid (And.intro hD0 (And.intro hBd hwd))
      clear hW hk00 hS0 hD0 hBd hwd hW1 q1
      go_upto_region 8 with (go_at_call 65; (with_reducible refine HW.out.mono ?_); rintro e w2 ⟨gw, hgw, rfl, hAw, hB3⟩)
      obtain ⟨hD0, hBd, hwd⟩ := HD.out
      have hD1 := hD0.later hB3
      have hBe := below_on hBd hB3 hBd.size
      have hwg : wR.heap.size < gw ∧ gw < w2.heap.size := ⟨by have := hD0.lt; omega, hAw.lt⟩
      obtain ⟨X, hX⟩ : ∃ X : G, Fin.ofNat 256 i = X := ⟨_, rfl⟩
      obtain ⟨WL, hWL⟩ : ∃ L, gl ((ptsOf ks).map (fun p => lw p X o1 (ptsOf ks))) = L := ⟨_, rfl⟩
      rw [hX] at hAw hD1
      rw [hWL] at hAw
      have hWn : WL.length = n := by rw [← hWL]; simp [hn]
      have HX := Lib.hid hX
      have HWL := Lib.hid (show ∀ k (hk : k < ks.length), WL.getD k 0 = (lw (ks[k]).1 X o1 (ptsOf ks)).val from fun k hk => by
        subst hWL
        rw [gl_at _ _ (by rw [List.length_map, List.length_map]; exact hk)]
        simp)
      have hkl : gk < wR.heap.size := hk0.lt
      have HC := Lib.hid (show ∀ W', Below wR.heap.size wR W' → FldAt W' g ∧ FBox W' w.heap.size (fprod g) (fquot g) ∧ CkAt W' gk off (ckOf ks) from fun W' hb => by
        have hk2 := hk0.lt
        have hwx := hwb.trans (hb.mono (Nat.le_of_lt hlb.1))
        exact ⟨hF.later hwx, (hb.block _ hlb.1).trans hbr, hk0.below hb hk2⟩)
      clear hX hWL hD0 hBd hwd HD HW f0 f1 w8 hB3 hgw hmk2 hk0 hbr hpr q2 hsz0 hxi
      go_wp2_with fail
      go_loopw [35] (fun v wq => ∃ k : Nat, k ≤ n ∧ v = .int .i64 k ∧ Arr wq wR.heap.size 5 .u8 (accN ks m X k) ∧ Arr wq gw 5 .u8 WL ∧ Below wR.heap.size wR wq) (fun v _ => n - (intOf v).toNat)
      case atStart => exact ⟨0, Nat.zero_le _, rfl, hD1, hAw, hBe⟩
      case round =>
        obtain ⟨k, hk, rfl, hD, hA, hq⟩ := hrel
        rcases Nat.lt_or_ge k n with hkn | hkn
        · have hwk := hA.get k (by omega)
          rw [HWL.out k (by omega)] at hwk
          have hst := fun j => col_take ks j k (by omega) X
          have hck : (ckOf ks)[k]'(by rw [List.length_map]; omega) = (((ks[k]'(by omega)).1.val : Int), gs (ks[k]'(by omega)).2) := List.getElem_map ..
          have hdm := hm (ks[k]'(by omega)) (List.getElem_mem _)
          obtain ⟨pk, hpk⟩ : ∃ p, ks[k]'(by omega) = p := ⟨_, rfl⟩
          rw [hpk] at hwk hck hdm
          obtain ⟨vk, hvk⟩ : ∃ v, lw pk.1 X o1 (ptsOf ks) = v := ⟨_, rfl⟩
          have HST := Lib.hid (show ∀ j, lag (ptsOf ks) X ((col ks j).take (k + 1)) = ga (lag (ptsOf ks) X ((col ks j).take k)) (mu vk (pk.2.getD j z0)) from fun j => by have h2 := hst j; rw [hpk, hvk] at h2; exact h2)
          have HCK := Lib.hid (And.intro hck hdm)
          have HD := Lib.hid hD
          have HA := Lib.hid hA
          have HQ := Lib.hid hq
          rw [hvk] at hwk
          clear hst hpk hvk hck hdm hD hA hq
          go_wp2_with fail
          go_loopw [42] (fun v wz => ∃ j : Nat, j ≤ m ∧ v = .int .i64 j ∧ Arr wz wR.heap.size 5 .u8 (accI ks m X k j) ∧ Arr wz gw 5 .u8 WL ∧ Below wR.heap.size wR wz) (fun v _ => m - (intOf v).toNat)
          case atStart => exact ⟨0, Nat.zero_le _, rfl, by rw [accI_zero]; exact HD.out, HA.out, HQ.out⟩
          case round =>
            obtain ⟨j, hj, rfl, hD, hA, hz⟩ := hrel
            rcases Nat.lt_or_ge j m with hjm | hjm
            · obtain ⟨hFz, hBz, hKz⟩ := HC.out _ hz
              have s1 : wr.cell? ⟨w.heap.size, 0, none⟩ = some (fprod g) := by rw [cell_of_row _ _ 0 _ _ _ hBz]; rfl
              unfold fprod at s1
              have s2 := (hKz.cell k (by rw [List.length_map]; omega)).2
              obtain ⟨hck, hdm⟩ := HCK.out
              rw [hck] at s2
              dsimp only at s2
              have g1 := gs_size pk.2
              rw [hdm] at g1
              have g3 : ∀ h2, ((gs pk.2)[j]'h2).toNat = (pk.2.getD j z0).val := fun h2 => by
                rw [gs_at _ _ (by omega), List.getD_eq_getElem?_getD, List.getElem?_eq_getElem (by omega)]; rfl
              obtain ⟨S, hS⟩ : ∃ S, gs pk.2 = S := ⟨_, rfl⟩
              rw [hS] at s2 g1
              have g2 : j < S.size := by omega
              have g4 : (S[j]'g2).toNat = (pk.2.getD j z0).val := by subst hS; exact g3 _
              obtain ⟨dv, hdv⟩ : ∃ d : G, pk.2.getD j z0 = d := ⟨_, rfl⟩
              rw [hdv] at g4
              have hacc : (accI ks m X k j).getD j 0 = (lag (ptsOf ks) X ((col ks j).take k)).val := by rw [range_at _ _ _ hjm, if_neg (by omega)]
              have c0 := hD.get j (by rw [List.length_map, List.length_range]; exact hjm)
              rw [hacc] at c0
              obtain ⟨av, hav⟩ : ∃ a : G, lag (ptsOf ks) X ((col ks j).take k) = a := ⟨_, rfl⟩
              have HN := Lib.hid (show lag (ptsOf ks) X ((col ks j).take (k + 1)) = ga av (mu vk dv) by rw [HST.out j, hav, hdv])
              rw [hav] at c0
              have x1 := xor_g av (mu vk dv)
              have c1 := hD.free j
              have hP := product_w g vk dv
              have HP := Lib.hid (fun (W : World) (h : FldAt W g) => hP W h)
              have HF := Lib.hid hFz
              have HD := Lib.hid hD
              have HA := Lib.hid hA
              have HZ := Lib.hid hz
              clear hFz hBz hKz hck hdm g3 hS hdv hacc hav hP hD hA hz
              go_upto_region 13 with fail
              refine wp_region_held_drew (S := fun w' => w'.cell? ⟨w.heap.size, 0, none⟩ = some (.func (.func 61) #[] #[.pointer (some ⟨g, 0, none⟩), .pointer (some ⟨g + 1, 0, none⟩)]) ∧ w'.cell? ⟨gk, off + k * 2 + 1, none⟩ = some (.string S)) (by kernel_rfl) ?hS (fun hHeld => ?_)
              case hS => exact ⟨s1, s2⟩
              refine wpAnyH_take (i := 0) (oi := _) (v := ?v1) rfl (by kernel_rfl) (by kernel_rfl) (by kernel_rfl) (fun _ _ _ h => h) (Or.inl ⟨by rfl, ?hy1⟩) (by assumption) ?rest1
              case hy1 => (intro w' hSw; (try dsimp only at hSw); obtain ⟨s1, s2⟩ := hSw; go_simp; try with_reducible rfl)
              try simp only [List.getElem_toArray, List.getElem_cons_succ, List.getElem_cons_zero, Act.put, List.setIfInBounds_toArray, List.set_cons_zero, List.set_cons_succ]
              refine wpAnyH_take (i := 1) (oi := _) (v := ?v2) rfl (by kernel_rfl) (by kernel_rfl) (by kernel_rfl) (fun _ _ _ h => h) (Or.inl ⟨by rfl, ?hy2⟩) (by assumption) ?rest2
              case hy2 => (intro w' hSw; (try dsimp only at hSw); obtain ⟨s1, s2⟩ := hSw; go_simp; try with_reducible rfl)
              try simp only [List.getElem_toArray, List.getElem_cons_succ, List.getElem_cons_zero, Act.put, List.setIfInBounds_toArray, List.set_cons_zero, List.set_cons_succ]
              refine wpAnyH_take (i := 2) (oi := _) (v := ?v3) rfl (by kernel_rfl) (by kernel_rfl) (by kernel_rfl) (fun _ _ _ h => h) (Or.inl ⟨by rfl, ?hy3⟩) (by assumption) ?rest3
              case hy3 => (intro w' hSw; (try dsimp only at hSw); obtain ⟨s1, s2⟩ := hSw; go_simp; try with_reducible rfl)
              try simp only [List.getElem_toArray, List.getElem_cons_succ, List.getElem_cons_zero, Act.put, List.setIfInBounds_toArray, List.set_cons_zero, List.set_cons_succ]
              refine wpAnyH_take (i := 4) (oi := _) (v := ?v4) rfl (by kernel_rfl) (by kernel_rfl) (by kernel_rfl) (fun _ _ _ h => h) (Or.inl ⟨by rfl, ?hy4⟩) (by assumption) ?rest4
              case hy4 => (intro w' hSw; (try dsimp only at hSw); obtain ⟨s1, s2⟩ := hSw; go_simp; try with_reducible rfl)
              try simp only [List.getElem_toArray, List.getElem_cons_succ, List.getElem_cons_zero, Act.put, List.setIfInBounds_toArray, List.set_cons_zero, List.set_cons_succ]
              refine wpAnyH_take (i := 5) (oi := _) (v := ?v5) rfl (by kernel_rfl) (by kernel_rfl) (by kernel_rfl) (fun _ _ _ h => h) (Or.inl ⟨by rfl, ?hy5⟩) (by assumption) ?rest5
              case hy5 => (intro w' hSw; (try dsimp only at hSw); obtain ⟨s1, s2⟩ := hSw; go_simp; try with_reducible rfl)
              try simp only [List.getElem_toArray, List.getElem_cons_succ, List.getElem_cons_zero, Act.put, List.setIfInBounds_toArray, List.set_cons_zero, List.set_cons_succ]
              refine wpAnyH_take (i := 6) (oi := _) (v := ?v6) rfl (by kernel_rfl) (by kernel_rfl) (by kernel_rfl) (fun _ _ _ h => h) (Or.inl ⟨by rfl, ?hy6⟩) (by assumption) ?rest6
              case hy6 => (intro w' hSw; (try dsimp only at hSw); obtain ⟨s1, s2⟩ := hSw; go_simp; try with_reducible rfl)
              try simp only [List.getElem_toArray, List.getElem_cons_succ, List.getElem_cons_zero, Act.put, List.setIfInBounds_toArray, List.set_cons_zero, List.set_cons_succ]
              refine wpAnyH_take (i := 7) (oi := _) (v := ?v7) rfl (by kernel_rfl) (by kernel_rfl) (by kernel_rfl) (fun _ _ _ h => h) (Or.inl ⟨by rfl, ?hy7⟩) (by assumption) ?rest7
              case hy7 => (intro w' hSw; (try dsimp only at hSw); obtain ⟨s1, s2⟩ := hSw; go_simp; try with_reducible rfl)
              try simp only [List.getElem_toArray, List.getElem_cons_succ, List.getElem_cons_zero, Act.put, List.setIfInBounds_toArray, List.set_cons_zero, List.set_cons_succ]
              refine wpAnyH_take (i := 8) (oi := _) (v := ?v8) rfl (by kernel_rfl) (by kernel_rfl) (by kernel_rfl) (fun _ _ _ h => h) (Or.inl ⟨by rfl, ?hy8⟩) (by assumption) ?rest8
              case hy8 => (intro w' hSw; (try dsimp only at hSw); obtain ⟨s1, s2⟩ := hSw; go_simp; try with_reducible rfl)
              try simp only [List.getElem_toArray, List.getElem_cons_succ, List.getElem_cons_zero, Act.put, List.setIfInBounds_toArray, List.set_cons_zero, List.set_cons_succ]
              refine wpAnyH_take (i := 9) (oi := _) (v := ?v9) rfl (by kernel_rfl) (by kernel_rfl) (by kernel_rfl) (fun _ _ _ h => h) (Or.inl ⟨by rfl, ?hy9⟩) (by assumption) ?rest9
              case hy9 => (intro w' hSw; (try dsimp only at hSw); obtain ⟨s1, s2⟩ := hSw; go_simp; try with_reducible rfl)
              try simp only [List.getElem_toArray, List.getElem_cons_succ, List.getElem_cons_zero, Act.put, List.setIfInBounds_toArray, List.set_cons_zero, List.set_cons_succ]
              refine wpAnyH_take (i := 10) (oi := _) (v := ?v10) rfl (by kernel_rfl) (by kernel_rfl) (by kernel_rfl) (fun _ _ _ h => h) (Or.inl ⟨by rfl, ?hy10⟩) (by assumption) ?rest10
              case hy10 => (intro w' hSw; (try dsimp only at hSw); obtain ⟨s1, s2⟩ := hSw; go_simp; try with_reducible rfl)
              try simp only [List.getElem_toArray, List.getElem_cons_succ, List.getElem_cons_zero, Act.put, List.setIfInBounds_toArray, List.set_cons_zero, List.set_cons_succ]
              refine wpAnyH_take (i := 11) (oi := _) (v := ?v11) rfl (by kernel_rfl) (by kernel_rfl) (by kernel_rfl) (fun _ _ _ h => h) (Or.inl ⟨by rfl, ?hy11⟩) (by assumption) ?rest11
              case hy11 => (intro w' hSw; (try dsimp only at hSw); obtain ⟨s1, s2⟩ := hSw; go_simp; try with_reducible rfl)
              try simp only [List.getElem_toArray, List.getElem_cons_succ, List.getElem_cons_zero, Act.put, List.setIfInBounds_toArray, List.set_cons_zero, List.set_cons_succ]
              refine wpAnyH_take (i := 12) (oi := _) (v := ?v12) rfl (by kernel_rfl) (by kernel_rfl) (by kernel_rfl) (fun _ _ _ h => h) (Or.inl ⟨by rfl, ?hy12⟩) (by assumption) ?rest12
              case hy12 => (intro w' hSw; (try dsimp only at hSw); obtain ⟨s1, s2⟩ := hSw; go_simp; try with_reducible rfl)
              try simp only [List.getElem_toArray, List.getElem_cons_succ, List.getElem_cons_zero, Act.put, List.setIfInBounds_toArray, List.set_cons_zero, List.set_cons_succ]
              refine wpAnyH_take (i := 13) (oi := _) (v := ?v13) rfl (by kernel_rfl) (by kernel_rfl) (by kernel_rfl) (fun _ _ _ h => h) (Or.inl ⟨by rfl, ?hy13⟩) (by assumption) ?rest13
              case hy13 => (intro w' hSw; (try dsimp only at hSw); obtain ⟨s1, s2⟩ := hSw; go_simp; try with_reducible rfl)
              try simp only [List.getElem_toArray, List.getElem_cons_succ, List.getElem_cons_zero, Act.put, List.setIfInBounds_toArray, List.set_cons_zero, List.set_cons_succ]
              refine wpAnyH_ready (rs := [3, 14]) (by kernel_rfl) (by simp) ?_
              refine AllReadyH.cons (o := _) rfl (fun K hK => ?_) ?_
              · try simp only [List.getElem_toArray, List.getElem_cons_succ, List.getElem_cons_zero, Act.put, List.setIfInBounds_toArray, List.set_cons_zero, List.set_cons_succ]
                have cx : (wr.drew).cell? ⟨wR.heap.size, j, none⟩ = some (.int .u8 (av.val : Nat)) := c0
                go_simp
                refine hK.out _ _ ⟨s1, s2⟩ (fun hHeld => ?_)
                clear hK K
                try simp only [List.getElem_toArray, List.getElem_cons_succ, List.getElem_cons_zero, Act.put, List.setIfInBounds_toArray, List.set_cons_zero, List.set_cons_succ]
                refine wpAnyH_ready (rs := [14]) (by kernel_rfl) (by simp) ?_
                refine AllReadyH.cons (o := _) rfl (fun K hK => ?_) ?_
                · try simp only [List.getElem_toArray, List.getElem_cons_succ, List.getElem_cons_zero, Act.put, List.setIfInBounds_toArray, List.set_cons_zero, List.set_cons_succ]
                  go_simp
                  refine (HP.out _ (HF.out.later ((Below.refl _ _).drew))).mono ?_
                  rintro e wA ⟨rfl, mm, rfl⟩
                  refine hK.out _ _ ⟨s1, s2⟩ (fun hHeld => ?_)
                  clear hK K
                  try simp only [List.getElem_toArray, List.getElem_cons_succ, List.getElem_cons_zero, Act.put, List.setIfInBounds_toArray, List.set_cons_zero, List.set_cons_succ]
                  refine wpAnyH_take (i := 15) (oi := _) (v := ?v14) rfl (by kernel_rfl) (by kernel_rfl) (by kernel_rfl) (fun _ _ _ h => h) (Or.inl ⟨by rfl, ?hy14⟩) (by assumption) ?rest14
                  case hy14 => (intro w' hSw; (try dsimp only at hSw); obtain ⟨s1, s2⟩ := hSw; go_simp; try with_reducible rfl)
                  try simp only [List.getElem_toArray, List.getElem_cons_succ, List.getElem_cons_zero, Act.put, List.setIfInBounds_toArray, List.set_cons_zero, List.set_cons_succ]
                  refine wpAnyH_take (i := 16) (oi := _) (v := ?v15) rfl (by kernel_rfl) (by kernel_rfl) (by kernel_rfl) (fun _ _ _ h => h) (Or.inl ⟨by rfl, ?hy15⟩) (by assumption) ?rest15
                  case hy15 => (intro w' hSw; (try dsimp only at hSw); obtain ⟨s1, s2⟩ := hSw; go_simp; try with_reducible rfl)
                  try simp only [List.getElem_toArray, List.getElem_cons_succ, List.getElem_cons_zero, Act.put, List.setIfInBounds_toArray, List.set_cons_zero, List.set_cons_succ]
                  have hd2 : Arr ((wr.drew).drewN mm) wR.heap.size 5 .u8 (accI ks m X k j) := HD.out.drew.drewN mm
                  have c2 : ((wr.drew).drewN mm).cell? ⟨wR.heap.size, j, none⟩ = some (.int .u8 (av.val : Nat)) := c0
                  have c3 := hd2.free j
                  have hdx : Arr (wr.drewN (1 + mm)) wR.heap.size 5 .u8 (accI ks m X k j) := HD.out.drewN (1 + mm)
                  have hbs := (below_drewN ((Below.refl wR.heap.size wr).drew) mm).setCell (p := ⟨wR.heap.size, j, none⟩) (Nat.le_refl _) (.int .u8 ((ga av (mu vk dv)).val : Nat))
                  refine wpAnyH_ready (rs := [17]) (by kernel_rfl) (by simp) ?_
                  refine AllReadyH.cons (o := _) rfl (fun K hK => ?_) ?_
                  · try simp only [List.getElem_toArray, List.getElem_cons_succ, List.getElem_cons_zero, Act.put, List.setIfInBounds_toArray, List.set_cons_zero, List.set_cons_succ]
                    go_simp
                    refine hK.out _ _ ⟨(hbs.cell (p := ⟨w.heap.size, 0, none⟩) hlb.1).trans s1, (hbs.cell (p := ⟨gk, off + k * 2 + 1, none⟩) hkl).trans s2⟩ (fun hHeld => ?_)
                    clear hK K
                    try simp only [List.getElem_toArray, List.getElem_cons_succ, List.getElem_cons_zero, Act.put, List.setIfInBounds_toArray, List.set_cons_zero, List.set_cons_succ]
                    refine wpAnyH_done (by kernel_rfl) ?_ _
                    go_wp2_with fail
                    go_roundw
                    case rel => exact ⟨j + 1, hjm, by go_num, by rw [← accI_set, HN.out]; exact hdx.set j _ _ rfl, (HA.out.drewN (1 + mm)).other (by omega) _, (below_drewN HZ.out (1 + mm)).setCell (p := ⟨wR.heap.size, j, none⟩) (Nat.le_refl _) _⟩
                    case measure => simp [intOf]; omega
                  · exact AllReadyH.nil
                · exact AllReadyH.nil
              · skip
                refine AllReadyH.cons (o := _) rfl (fun K hK => ?_) ?_
                · try simp only [List.getElem_toArray, List.getElem_cons_succ, List.getElem_cons_zero, Act.put, List.setIfInBounds_toArray, List.set_cons_zero, List.set_cons_succ]
                  go_simp
                  refine (HP.out _ (HF.out.later ((Below.refl _ _).drew))).mono ?_
                  rintro e wA ⟨rfl, mm, rfl⟩
                  refine hK.out _ _ ⟨s1, s2⟩ (fun hHeld => ?_)
                  clear hK K
                  try simp only [List.getElem_toArray, List.getElem_cons_succ, List.getElem_cons_zero, Act.put, List.setIfInBounds_toArray, List.set_cons_zero, List.set_cons_succ]
                  refine wpAnyH_ready (rs := [3]) (by kernel_rfl) (by simp) ?_
                  refine AllReadyH.cons (o := _) rfl (fun K hK => ?_) ?_
                  · try simp only [List.getElem_toArray, List.getElem_cons_succ, List.getElem_cons_zero, Act.put, List.setIfInBounds_toArray, List.set_cons_zero, List.set_cons_succ]
                    have cx : ((wr.drew).drewN mm).cell? ⟨wR.heap.size, j, none⟩ = some (.int .u8 (av.val : Nat)) := c0
                    go_simp
                    refine hK.out _ _ ⟨s1, s2⟩ (fun hHeld => ?_)
                    clear hK K
                    try simp only [List.getElem_toArray, List.getElem_cons_succ, List.getElem_cons_zero, Act.put, List.setIfInBounds_toArray, List.set_cons_zero, List.set_cons_succ]
                    refine wpAnyH_take (i := 15) (oi := _) (v := ?v16) rfl (by kernel_rfl) (by kernel_rfl) (by kernel_rfl) (fun _ _ _ h => h) (Or.inl ⟨by rfl, ?hy16⟩) (by assumption) ?rest16
                    case hy16 => (intro w' hSw; (try dsimp only at hSw); obtain ⟨s1, s2⟩ := hSw; go_simp; try with_reducible rfl)
                    try simp only [List.getElem_toArray, List.getElem_cons_succ, List.getElem_cons_zero, Act.put, List.setIfInBounds_toArray, List.set_cons_zero, List.set_cons_succ]
                    refine wpAnyH_take (i := 16) (oi := _) (v := ?v17) rfl (by kernel_rfl) (by kernel_rfl) (by kernel_rfl) (fun _ _ _ h => h) (Or.inl ⟨by rfl, ?hy17⟩) (by assumption) ?rest17
                    case hy17 => (intro w' hSw; (try dsimp only at hSw); obtain ⟨s1, s2⟩ := hSw; go_simp; try with_reducible rfl)
                    try simp only [List.getElem_toArray, List.getElem_cons_succ, List.getElem_cons_zero, Act.put, List.setIfInBounds_toArray, List.set_cons_zero, List.set_cons_succ]
                    have hd2 : Arr ((wr.drew).drewN mm) wR.heap.size 5 .u8 (accI ks m X k j) := HD.out.drew.drewN mm
                    have c2 : ((wr.drew).drewN mm).cell? ⟨wR.heap.size, j, none⟩ = some (.int .u8 (av.val : Nat)) := c0
                    have c3 := hd2.free j
                    have hdx : Arr (wr.drewN (1 + mm)) wR.heap.size 5 .u8 (accI ks m X k j) := HD.out.drewN (1 + mm)
                    have hbs := (below_drewN ((Below.refl wR.heap.size wr).drew) mm).setCell (p := ⟨wR.heap.size, j, none⟩) (Nat.le_refl _) (.int .u8 ((ga av (mu vk dv)).val : Nat))
                    refine wpAnyH_ready (rs := [17]) (by kernel_rfl) (by simp) ?_
                    refine AllReadyH.cons (o := _) rfl (fun K hK => ?_) ?_
                    · try simp only [List.getElem_toArray, List.getElem_cons_succ, List.getElem_cons_zero, Act.put, List.setIfInBounds_toArray, List.set_cons_zero, List.set_cons_succ]
                      go_simp
                      refine hK.out _ _ ⟨(hbs.cell (p := ⟨w.heap.size, 0, none⟩) hlb.1).trans s1, (hbs.cell (p := ⟨gk, off + k * 2 + 1, none⟩) hkl).trans s2⟩ (fun hHeld => ?_)
                      clear hK K
                      try simp only [List.getElem_toArray, List.getElem_cons_succ, List.getElem_cons_zero, Act.put, List.setIfInBounds_toArray, List.set_cons_zero, List.set_cons_succ]
                      refine wpAnyH_done (by kernel_rfl) ?_ _
                      go_wp2_with fail
                      go_roundw
                      case rel => exact ⟨j + 1, hjm, by go_num, by rw [← accI_set, HN.out]; exact hdx.set j _ _ rfl, (HA.out.drewN (1 + mm)).other (by omega) _, (below_drewN HZ.out (1 + mm)).setCell (p := ⟨wR.heap.size, j, none⟩) (Nat.le_refl _) _⟩
                      case measure => simp [intOf]; omega
                    · exact AllReadyH.nil
                  · exact AllReadyH.nil
                · exact AllReadyH.nil
            · obtain rfl : j = m := by omega
              rw [accI_all] at hD
              have HD := Lib.hid hD
              have HA := Lib.hid hA
              have HZ := Lib.hid hz
              clear hD hA hz
              go_wp2_with fail
              go_roundw
              case rel => exact ⟨k + 1, hkn, by go_num, HD.out, HA.out, HZ.out⟩
              case measure => simp [intOf]; omega
        · obtain rfl : k = n := by omega
          rw [← hn, accN_all] at hD
          have hcv := arr_strE (n := m) (c := m) hD (by simp)
          have hR2 := hR.below hq hsr
          have hul : i < (uptoC ks m count i).length := by simp; exact h
          obtain ⟨r1, r2⟩ := hR2.cell i hul
          have r3 := hR2.free (i * 2)
          have r4 := hR2.free (i * 2 + 1)
          obtain ⟨R, hRR⟩ : ∃ R, gs (row ks m X) = R := ⟨_, rfl⟩
          rw [hRR] at hcv
          have HS := Lib.hid (show CkRow ((wr.setCell ⟨w1.heap.size, i * 2, none⟩ (.int .i64 (i : Int))).setCell ⟨w1.heap.size, i * 2 + 1, none⟩ (.string R)) w1.heap.size (uptoC ks m count (i + 1)) from by
            rw [← uptoC_set, HX.out, hRR]; exact hR2.set i hul _ _)
          have HB := Lib.hid (below_on hw hq hw.size)
          have HZ := Lib.hid (show wR.heap.size ≤ wr.heap.size from hq.size)
          obtain ⟨ri, r1'⟩ : ∃ z : Int, wr.cell? ⟨w1.heap.size, i * 2, none⟩ = some (.int .i64 z) := ⟨_, r1⟩
          obtain ⟨rs, r2'⟩ : ∃ z, wr.cell? ⟨w1.heap.size, i * 2 + 1, none⟩ = some (.string z) := ⟨_, r2⟩
          have hbk := build_ck (i : Int) R wr
          clear r1 r2 hR2 hul hRR hR hw hq hD hA HC HWL HX
          go_wp2_with fail
          go_roundw
          case rel => exact ⟨i + 1, h, by go_num, HS.out, (HB.out.setCell (p := ⟨w1.heap.size, i * 2, none⟩) (Nat.le_refl _) _).setCell (p := ⟨w1.heap.size, i * 2 + 1, none⟩) (Nat.le_refl _) _, by have := HZ.out; simp; omega⟩
          case measure => simp [intOf]; omega
    · obtain rfl : i = count := by omega
      rw [uptoC_all] at hR
      go_wp2_with fail
      go_ret
      exact ⟨w1.heap.size, by omega, rfl, hR, hwb⟩

end Go.Proofs.YtajfmhiejipaoaaDoor
