/-
  The law DigestProofAccepted: the walk.
-/
import Derived.Test.YthlngcjenmcbkaaDoorLac
import Derived.Test.YthlngcjenmcbkaaDoorOwb
namespace Go.Proofs.YthlngcjenmcbkaaDoor
open Go.RowKit Bs

set_option maxRecDepth 100000 in
set_option maxHeartbeats 8000000 in
theorem ProofAccepted_any (a0 : Option Addr) (n0 c0 : Nat) (ss : List ByteArray) (i : Int) (w : World) (hS : Fr.IsStrs w a0 n0 ss) (m1 : -9223372036854775808 ≤ i) (m2 : i ≤ 9223372036854775807) (h : KAt w) :
    Calls Tryd.prog 6 #[.slice a0 n0 c0, .int .i64 i] w fun e w' => e = .returned (.bool true) ∧ Below w.heap.size w w' := by
  have hFl : (fewL ss 40).length ≤ 40 := by rw [fewL_length]; omega
  have hFs : ∀ x ∈ fewL ss 40, x.length ≤ 60 := fewL_short
  have iF : ∀ W, Below w.heap.size w W → Calls Tryd.prog 21 #[.slice a0 n0 c0, .int .i64 40] W (GivesL (fewL ss 40) W) := fun W hb => few_any a0 n0 c0 40 ss W (IsStrs_below hS hb) (by omega)
  obtain ⟨L, hL⟩ : ∃ L, fewL ss 40 = L := ⟨_, rfl⟩
  rw [hL] at hFl hFs iF
  have IF := Lib.hid iF
  clear iF hL hS
  go_enter Tryd.func6, Tryd.ntmps6
  go_wp2_with fail
  refine (sane_any _ h).mono ?_
  rintro e w1 ⟨rfl, B1⟩
  go_wp2_with fail
  refine (IF.out _ B1).mono ?_
  rintro e w2 ⟨v, rfl, ho, b2⟩
  have B2 := below_on B1 b2 B1.size; clear b2 B1
  obtain ⟨a, c, rfl, hi0, -⟩ := ho.is
  obtain ⟨n, hn⟩ : ∃ n, L.length = n := ⟨_, rfl⟩
  rw [hn] at hi0 hFl ⊢
  have hcm : c ≤ maxLen := hi0.max
  have hnc : n ≤ c := hi0.cap
  unfold maxLen at hcm
  have HI : Hid (∀ W, Below w2.heap.size w2 W → IsL W a n c L ∧ KAt W) := Lib.hid fun W hb => ⟨hi0.later hb, h.below (below_on B2 hb B2.size)⟩
  have h100 : ∀ x ∈ L, x.length ≤ 100000 := fun x hx => by have := hFs x hx; omega
  have iR : ∀ W, Below w2.heap.size w2 W → Calls Tryd.prog 27 #[.slice a n c] W fun e w' => e = .returned (.string (bs (Tr.root dig L))) ∧ Below W.heap.size W w' := fun W hb =>
    Root_is L a n c W (HI.out W hb).1 (by omega) h100 (HI.out W hb).2
  have iP : ∀ W k, Below w2.heap.size w2 W → k < n → Calls Tryd.prog 22 #[.slice a n c, .int .i64 (k : Int)] W (GivesP (Tr.prf dig L k).reverse 0 W) := fun W k hb hk => by
    obtain ⟨g, off, rfl, hp⟩ := (HI.out W hb).1.at (by omega)
    exact Proof_in L g off n c k W hn hk (by omega) (by unfold maxLen; omega) (by omega) h100 hp (HI.out W hb).2
  have iV : ∀ W k (P : Strs) np a' c', Below w2.heap.size w2 W → k < n → IsL W a' np c' P → (∀ x ∈ P, x.length = 32) → Calls Tryd.prog 29 #[.string (bs (Tr.root dig L)), .int .i64 (n : Int), .int .i64 (k : Int), .string (bs (L.getD k [])), .slice a' np c'] W fun e w' => e = .returned (.bool (verB (Tr.root dig L) n k (L.getD k []) P)) ∧ Below W.heap.size W w' := fun W k P np a' c' hb hk hx hp =>
    Verify_any (Tr.root dig L) n k (L.getD k []) P a' np c' W hx (fun x hx => by rw [hp x hx]; unfold maxLen; omega) (by have := hFs _ (getD_mem L k (by omega)); omega) (by omega) (by omega) (by omega) (by omega) (HI.out W hb).2
  have iVk : ∀ W k a' c', Below w2.heap.size w2 W → k < n → IsL W a' (Tr.prf dig L k).reverse.length c' (Tr.prf dig L k).reverse → Calls Tryd.prog 29 #[.string (bs (Tr.root dig L)), .int .i64 (n : Int), .int .i64 (k : Int), .string (bs (L.getD k [])), .slice a' (Tr.prf dig L k).reverse.length c'] W fun e w' => e = .returned (.bool true) ∧ Below W.heap.size W w' := fun W k a' c' hb hk hx => by
    have := iV W k (Tr.prf dig L k).reverse (Tr.prf dig L k).reverse.length a' c' hb hk hx (prf_digs L k)
    rw [verB_prf L n k hn hk] at this
    exact this
  have iVx : ∀ W k (P : Strs) np a' c', Below w2.heap.size w2 W → k < n → IsL W a' np c' P → (∀ x ∈ P, x.length = 32) → P.length ≠ (Tr.prf dig L k).reverse.length → Calls Tryd.prog 29 #[.string (bs (Tr.root dig L)), .int .i64 (n : Int), .int .i64 (k : Int), .string (bs (L.getD k [])), .slice a' np c'] W fun e w' => e = .returned (.bool false) ∧ Below W.heap.size W w' := fun W k P np a' c' hb hk hx hp hlen => by
    have := iV W k P np a' c' hb hk hx hp
    rw [verB_len L n k (L.getD k []) P hn hk (by rw [List.length_reverse] at hlen; exact hlen)] at this
    exact this
  have iVo : ∀ W, Below w2.heap.size w2 W → ¬ (0 ≤ i ∧ i < (n : Int)) → Calls Tryd.prog 29 #[.string (bs (Tr.root dig L)), .int .i64 (n : Int), .int .i64 i, .string ⟨#[]⟩, .slice none 0 0] W fun e w' => e = .returned (.bool false) ∧ Below W.heap.size W w' := fun W hb ho => by
    have := Verify_any (Tr.root dig L) n i [] [] none 0 0 W (IsL.nil W none 0 (Nat.zero_le _)) (by simp) (by simp) (by omega) (by omega) m1 m2 (HI.out W hb).2
    rw [verB_out ho] at this
    exact this
  have hps : ∀ k, (Tr.prf dig L k).reverse.length ≤ bin 62 n := fun k => prf_short L n k hn (by omega)
  have hcl : ∀ W k, Below w2.heap.size w2 W → k < n → ∀ g off, a = some ⟨g, off, none⟩ → W.cell? ⟨g, off + k, none⟩ = some (.string (bs (L.getD k []))) := fun W k hb hk g off e => by
    obtain ⟨g', off', e', hp⟩ := (HI.out W hb).1.at (by omega)
    rw [e] at e'
    cases e'
    exact hp k (by omega)
  have hat : 0 < n → ∃ g off, a = some ⟨g, off, none⟩ := fun h0 => by
    obtain ⟨g, off, e, _⟩ := hi0.at h0
    exact ⟨g, off, e⟩
  have hb62 := bin_le 62 n
  have iB := fun W => binary_any n W (lt62 (by omega))
  obtain ⟨b, hb⟩ : ∃ b, bin 62 n = b := ⟨_, rfl⟩
  rw [hb] at hps hb62 iB
  have hRl := root_len L
  obtain ⟨R, hR⟩ : ∃ R, Tr.root dig L = R := ⟨_, rfl⟩
  rw [hR] at iR iVk iVx iVo hRl
  have IR := Lib.hid iR
  have IP := Lib.hid iP
  have IVk := Lib.hid iVk
  have IVx := Lib.hid iVx
  have IVo := Lib.hid iVo
  have PS := Lib.hid hps
  have CL := Lib.hid hcl
  have AT := Lib.hid hat
  clear iR iP iV iVk iVx iVo hps hcl hat hb hR hi0 ho hFs h100
  go_wp2_with fail
  refine (IR.out _ (Below.refl _ _)).mono ?_
  rintro e w3 ⟨rfl, b3⟩
  go_wp2_with fail
  go_loopw [7] (fun q wr => ∃ k : Nat, k ≤ n ∧ q = .int .i64 k ∧ Below w2.heap.size w2 wr) (fun q _ => 2000 - (intOf q).toNat)
  case atStart => exact ⟨0, by omega, rfl, b3⟩
  case round =>
    obtain ⟨k, hk, rfl, hw⟩ := hrel
    clear b3
    rcases Nat.lt_or_ge k n with hkn | hkn
    · --[1
      have hcc : (k : Int) < (n : Int) := by omega
      obtain ⟨g, off, rfl⟩ := AT.out (by omega)
      have hx := PS.out k
      have iPk := fun W hb => IP.out W k hb hkn
      have iVk := fun W a' c' hb => IVk.out W k a' c' hb hkn
      have hck := fun W hb => CL.out W k hb hkn g off rfl
      obtain ⟨X, hX⟩ : ∃ X, (Tr.prf dig L k).reverse = X := ⟨_, rfl⟩
      rw [hX] at hx iPk iVk
      obtain ⟨x, hxl⟩ : ∃ x, X.length = x := ⟨_, rfl⟩
      rw [hxl] at hx iVk
      obtain ⟨z, hz⟩ : ∃ z, L.getD k [] = z := ⟨_, rfl⟩
      rw [hz] at iVk hck
      have HXL := Lib.hid hxl
      have IVkk := Lib.hid iVk
      have IPk := Lib.hid iPk
      have CK := Lib.hid hck
      clear iVk iPk hX hxl hck hz
      have hx2 : ¬ ((b : Int) < (x : Int)) := by omega
      go_wp2_with fail
      refine (IPk.out _ hw).mono ?_
      rintro e w4 hg
      obtain ⟨a4, c4, rfl, hI4, b4⟩ := hg.is HXL.out
      clear hg
      have HI4 := Lib.hid hI4
      have B4 := below_on hw b4 hw.size
      clear b4 hI4
      have hc4 := CK.out _ B4
      go_wp2_with fail
      refine (iB _).mono ?_
      rintro e w5 ⟨rfl, rfl⟩
      go_wp2_with fail
      refine (IVkk.out _ _ _ B4 HI4.out).mono ?_
      rintro e w7 ⟨rfl, b7⟩
      have B7 := below_on B4 b7 B4.size
      clear b7
      go_wp2_with fail
      go_roundw
      case rel => exact ⟨k + 1, by omega, by go_num, B7⟩
      case measure => simp [intOf]; omega
      --]1
    · have hk1 : k = n := by omega
      subst hk1
      by_cases hin : 0 ≤ i ∧ i < (k : Int)
      · --[2
        obtain ⟨i1, i2⟩ := hin
        obtain ⟨I, rfl⟩ := Int.eq_ofNat_of_zero_le i1
        have hIk : I < k := by omega
        obtain ⟨g, off, rfl⟩ := AT.out (by omega)
        have iPk := fun W hb => IP.out W I hb hIk
        have iVx := fun W P np a' c' hb => IVx.out W I P np a' c' hb hIk
        have hck := fun W hb => CL.out W I hb hIk g off rfl
        have hpd := prf_digs L I
        obtain ⟨P, hP⟩ : ∃ X, (Tr.prf dig L I).reverse = X := ⟨_, rfl⟩
        rw [hP] at iPk hpd
        simp only [hP] at iVx
        obtain ⟨np, hnp⟩ : ∃ x, P.length = x := ⟨_, rfl⟩
        have hps := PS.out I
        rw [hP, hnp] at hps
        simp only [hnp] at iVx
        obtain ⟨z, hz⟩ : ∃ z, L.getD I [] = z := ⟨_, rfl⟩
        simp only [hz] at iVx
        simp only [hz] at hck
        have HNP := Lib.hid hnp
        have IVX := Lib.hid iVx
        have IPK := Lib.hid iPk
        have CK := Lib.hid hck
        have PD := Lib.hid hpd
        have hd2 : decide ((I : Int) < (k : Int)) = true := decide_eq_true i2
        clear iVx iPk hP hnp hck hz hpd IF IP IVk IVo IR PS CL AT
        go_wp2_with fail
        refine (IPK.out _ hw).mono ?_
        rintro e w4 ⟨v4, rfl, ho4, b4⟩
        have B4 := below_on hw b4 hw.size
        have hsr := hw.size
        have hs4 := b4.size
        obtain ⟨a4, c4, rfl, hI4, -⟩ := ho4.is
        rw [HNP.out] at hI4 ho4 ⊢
        have HI4 := Lib.hid hI4
        have HO4 := Lib.hid ho4
        have hc4 := CK.out _ B4
        clear b4 hI4 ho4 hw
        obtain ⟨s, hs⟩ : ∃ s, w4.heap.size = s := ⟨_, rfl⟩
        have hs' : w4.drew.heap.size = s := hs
        have hlg : g < s := by rw [← hs]; exact block_lt_of_cell hc4
        have lE : Below w4.heap.size w4 (w4.drew.alloc (.cells #[] 9)) := (Below.refl _ w4).drew.alloc (Nat.le_refl _) _
        have lR : Below w4.heap.size w4 (w4.drew.alloc (.cells #[.string (bs R)] 9)) := (Below.refl _ w4).drew.alloc (Nat.le_refl _) _
        have lER : Below w4.heap.size w4 ((w4.drew.alloc (.cells #[] 9)).alloc (.cells #[.string (bs R)] 9)) := lE.alloc lE.size _
        have lRE : Below w4.heap.size w4 ((w4.drew.alloc (.cells #[.string (bs R)] 9)).alloc (.cells #[] 9)) := lR.alloc lR.size _
        have eA := Lib.hid (OwnS.at_new0 w4.drew s s (by omega) hs')
        have eB := Lib.hid ((OwnS.at_new0 w4.drew s s (by omega) hs').alloc (.cells #[.string (bs R)] 9))
        have eC := Lib.hid (OwnS.at_new0 (w4.drew.alloc (.cells #[.string (bs R)] 9)) s (s + 1) (by rw [World.size_alloc]; omega) (by rw [World.size_alloc, hs']))
        have rB := Lib.hid (OwnS.at_new (w4.drew.alloc (.cells #[] 9)) s (s + 1) R (by rw [World.size_alloc]; omega) (by rw [World.size_alloc, hs']))
        have rC := Lib.hid ((OwnS.at_new w4.drew s s R (by omega) hs').alloc (.cells #[] 9))
        have pA := Lib.hid (HO4.out.later lE)
        have pB := Lib.hid (HO4.out.later lER)
        have pC := Lib.hid (HO4.out.later lRE)
        have LE := Lib.hid (show Below s w4 _ from hs ▸ lE)
        have LER := Lib.hid (show Below s w4 _ from hs ▸ lER)
        have LRE := Lib.hid (show Below s w4 _ from hs ▸ lRE)
        have zE : s ≤ (w4.drew.alloc (.cells #[] 9)).heap.size := by rw [← hs]; exact lE.size
        have zER : s ≤ ((w4.drew.alloc (.cells #[] 9)).alloc (.cells #[.string (bs R)] 9)).heap.size := by rw [← hs]; exact lER.size
        have zRE : s ≤ ((w4.drew.alloc (.cells #[.string (bs R)] 9)).alloc (.cells #[] 9)).heap.size := by rw [← hs]; exact lRE.size
        have hPL : P.length ≤ 1000 := by rw [HNP.out]; omega
        have Hs := Lib.hid hs
        have hQd : ∀ x ∈ ([] ++ P) ++ [R], x.length = 32 := by
          intro x hx
          simp at hx
          rcases hx with hx | rfl
          · exact PD.out x hx
          · exact hRl
        have hQl : (([] ++ P) ++ [R]).length ≠ np := by simp [HNP.out]
        obtain ⟨Q, hQ⟩ : ∃ Q, ([] ++ P) ++ [R] = Q := ⟨_, rfl⟩
        rw [hQ] at hQd hQl
        have HQ := Lib.hid hQ
        have QD := Lib.hid hQd
        have QL := Lib.hid hQl
        clear hQd hQl hQ
        clear lE lR lER lRE hs'
        go_wp2_with fail
        go_region_held3 (fun w' => w'.cell? ⟨g, off + I, none⟩ = some (.string (bs z))) (go_keep)
          (first
            | (go_at_call 29; refine (IVX.out _ Q _ _ _ (below_on B4 (below_eq B5 Hs.out) B4.size) i5 QD.out QL.out).mono ?_; rintro e w7 ⟨rfl, b7⟩; have B7 : Below w4.heap.size w4 w7 := below_on (below_eq B5 Hs.out) b7 B5.size; have k7 : w7.cell? ⟨g, off + I, none⟩ = some (.string (bs z)) := (B7.cell (p := ⟨g, off + I, none⟩) (Nat.lt_of_lt_of_eq hlg Hs.out.symm)).trans hc4)
            | (refine step_pushAllG (by rfl) _ _ (by rfl) s _ ([] ++ P) (by rfl) o3 _ _ [R] (by rfl) r3 (by simp <;> omega) z3 ?_; intro v5 w5 o5 b5 g5; have B5 : Below s w4 w5 := B3.trans b5; have k5 : w5.cell? ⟨g, off + I, none⟩ = some (.string (bs z)) := (B5.cell (p := ⟨g, off + I, none⟩) hlg).trans hc4; have o6 : OwnS w5 s v5 Q := HQ.out ▸ o5; obtain ⟨a5, c5, rfl, i5, -⟩ := o6.is)
            | (refine step_pushAllG (by rfl) _ _ (by rfl) s _ ([] ++ P) (by rfl) (o3.alloc _) _ _ [R] (by rfl) (OwnS.at_new w3 s w3.heap.size R z3 rfl) (by simp <;> omega) (by rw [World.size_alloc]; omega) ?_; intro v5 w5 o5 b5 g5; have B5 : Below s w4 w5 := (B3.alloc z3 _).trans b5; have k5 : w5.cell? ⟨g, off + I, none⟩ = some (.string (bs z)) := (B5.cell (p := ⟨g, off + I, none⟩) hlg).trans hc4; have o6 : OwnS w5 s v5 Q := HQ.out ▸ o5; obtain ⟨a5, c5, rfl, i5, -⟩ := o6.is)
            | (refine step_pushAllG (by rfl) _ _ (by rfl) s _ [] (by rfl) eA.out _ _ P (by rfl) pA.out (by simp <;> omega) zE ?_; intro v3 w3 o3 b3 g3; have B3 : Below s w4 w3 := LE.out.trans b3; have z3 : s ≤ w3.heap.size := Nat.le_trans (Nat.le_of_eq Hs.out.symm) B3.size; have k3 : w3.cell? ⟨g, off + I, none⟩ = some (.string (bs z)) := (B3.cell (p := ⟨g, off + I, none⟩) hlg).trans hc4)
            | (refine step_pushAllG (by rfl) _ _ (by rfl) s _ [] (by rfl) eB.out _ _ P (by rfl) pB.out (by simp <;> omega) zER ?_; intro v3 w3 o3 b3 g3; have B3 : Below s w4 w3 := LER.out.trans b3; have z3 : s ≤ w3.heap.size := Nat.le_trans (Nat.le_of_eq Hs.out.symm) B3.size; have r3 := rB.out.kept g3 (.inr (by simp [Value.ownBlock])); have k3 : w3.cell? ⟨g, off + I, none⟩ = some (.string (bs z)) := (B3.cell (p := ⟨g, off + I, none⟩) hlg).trans hc4)
            | (refine step_pushAllG (by rfl) _ _ (by rfl) s _ [] (by rfl) eC.out _ _ P (by rfl) pC.out (by simp <;> omega) zRE ?_; intro v3 w3 o3 b3 g3; have B3 : Below s w4 w3 := LRE.out.trans b3; have z3 : s ≤ w3.heap.size := Nat.le_trans (Nat.le_of_eq Hs.out.symm) B3.size; have r3 := rC.out.kept g3 (.inr (by simp [Value.ownBlock])); have k3 : w3.cell? ⟨g, off + I, none⟩ = some (.string (bs z)) := (B3.cell (p := ⟨g, off + I, none⟩) hlg).trans hc4))
        all_goals
          have B8 := below_on B4 B7 B4.size
          have HI8 := Lib.hid (HI4.out.later B7)
          clear eA eB eC rB rC pA pB pC LE LER LRE
          have D1 := Lib.hid (show ∀ x ∈ P.drop 1, x.length = 32 from fun x hx => PD.out x (List.mem_of_mem_drop hx))
          have hk7 := k7
          clear k3 k5 hc4 B3 B5 b3 b5 o3 o5 o6 i5 g3 g5 z3 zE zER zRE QD QL HQ HO4
          rcases Nat.eq_zero_or_pos np with h0 | h0
          · subst h0
            go_wp2_with fail
            go_quiet (fail)
            go_wp2_with fail
            go_ret
            exact ⟨rfl, below_on B2 (below_drewN B8 nq) B2.size⟩
          · have hcap := HI8.out.cap
            have hmax := HI8.out.max
            unfold maxLen at hmax
            obtain ⟨g4, o4, rfl, p4⟩ := HI8.out.at h0
            have L1 := Lib.hid (show (P.drop 1).length ≠ np by rw [List.length_drop, HNP.out]; omega)
            have j1 : decide (0 < (np : Int)) = true := decide_eq_true (by omega)
            have j2 : (1 : Int) ≤ (np : Int) := by omega
            have j3 : (1 : Int) ≤ (c4 : Int) := by omega
            have j4 : (np : Int) ≤ (c4 : Int) := by omega
            have j5 : 0 < np := h0
            by_cases hc1 : c4 = 1
            · have hnp1 : np = 1 := by omega
              subst hc1
              subst hnp1
              have hnil : P.drop 1 = [] := List.length_eq_zero_iff.1 (by rw [List.length_drop, HNP.out])
              clear p4 j2 j3 j4 j5 hcap hmax h0
              go_wp2_with fail
              go_region_held3 (fun w' => w'.cell? ⟨g, off + I, none⟩ = some (.string (bs z))) (go_keep)
                (first
                  | (go_at_call 29; refine (IVX.out _ (P.drop 1) _ _ _ (off_on B8) (by rw [hnil]; exact IsL.nil _ _ _ (by unfold maxLen; omega)) D1.out L1.out).mono ?_; rintro e w9 ⟨rfl, b9⟩; have B9 := below_on B8 (below_undrew b9) B8.size; have k9 : w9.cell? ⟨g, off + I, none⟩ = some (.string (bs z)) := ((below_undrew b9).cell (p := ⟨g, off + I, none⟩) (block_lt_of_cell hk7)).trans hk7))
              all_goals
                go_wp2_with fail
                go_ret
                exact ⟨rfl, below_on B2 B9 B2.size⟩
            · have ck1 : 1 ≠ c4 := fun e => hc1 e.symm
              have ck2 : c4 ≠ 1 := hc1
              have hdl := (p4.drop 1).isL (n := np - 1) (c := c4 - 1) (by rw [List.length_drop, HNP.out]) (by omega) (by unfold maxLen; omega)
              have HDL := Lib.hid hdl
              clear hdl p4 hc1
              go_wp2_with fail
              go_region_held3 (fun w' => w'.cell? ⟨g, off + I, none⟩ = some (.string (bs z))) (go_keep)
                (first
                  | (go_at_call 29; refine (IVX.out _ (P.drop 1) _ _ _ (off_on B8) ⟨HDL.out.len, HDL.out.cap, HDL.out.max, HDL.out.row⟩ D1.out L1.out).mono ?_; rintro e w9 ⟨rfl, b9⟩; have B9 := below_on B8 (below_undrew b9) B8.size; have k9 : w9.cell? ⟨g, off + I, none⟩ = some (.string (bs z)) := ((below_undrew b9).cell (p := ⟨g, off + I, none⟩) (block_lt_of_cell hk7)).trans hk7))
              all_goals
                go_wp2_with fail
                go_ret
                exact ⟨rfl, below_on B2 B9 B2.size⟩
        --]2
      · --[3
        have iO : ∀ W, Calls Tryd.prog 22 #[.slice a k c, .int .i64 i] W (GivesP [] 2 W) := fun W => Proof_out a k c i W (by unfold maxLen; omega) m1 m2 (by omega)
        have iX := fun W hb => IVo.out W hb hin
        have IO := Lib.hid iO
        have IX := Lib.hid iX
        clear iO iX
        by_cases h0 : i < 0
        · have h0' : ¬ (0 ≤ i) := by omega
          clear hin
          go_wp2_with fail
          refine (IO.out _).mono ?_
          rintro e w4 hg
          obtain ⟨a4, c4, rfl, hI4, b4⟩ := hg.is (n := 0) rfl
          clear hg hI4
          have B4 := below_on hw b4 hw.size
          clear b4
          go_wp2_with fail
          refine (IX.out _ B4).mono ?_
          rintro e w5 ⟨rfl, b5⟩
          have B5 := below_on B4 b5 B4.size
          clear b5
          go_wp2_with fail
          go_ret
          exact ⟨by first | rfl | (simp; omega), below_on B2 B5 B2.size⟩
        · have h0' : 0 ≤ i := by omega
          have h1' : ¬ (i < (k : Int)) := by omega
          have h2' : decide (i < (k : Int)) = false := decide_eq_false h1'
          clear hin
          go_wp2_with fail
          refine (IO.out _).mono ?_
          rintro e w4 hg
          obtain ⟨a4, c4, rfl, hI4, b4⟩ := hg.is (n := 0) rfl
          clear hg hI4
          have B4 := below_on hw b4 hw.size
          clear b4
          go_wp2_with fail
          refine (IX.out _ B4).mono ?_
          rintro e w5 ⟨rfl, b5⟩
          have B5 := below_on B4 b5 B4.size
          clear b5
          go_wp2_with fail
          go_ret
          exact ⟨by first | rfl | (simp; omega), below_on B2 B5 B2.size⟩
        --]3

end Go.Proofs.YthlngcjenmcbkaaDoor
