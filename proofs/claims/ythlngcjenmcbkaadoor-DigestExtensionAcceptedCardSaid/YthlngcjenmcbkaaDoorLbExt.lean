/-
  The law DigestExtensionAccepted: the walk.
-/
import Derived.Test.YthlngcjenmcbkaaDoorLac
namespace Go.Proofs.YthlngcjenmcbkaaDoor
open Go.RowKit Bs

set_option maxRecDepth 100000 in
set_option maxHeartbeats 1000000 in
theorem ExtAccepted_any (a0 : Option Addr) (n0 c0 : Nat) (ss : List ByteArray) (m : Int) (w : World) (hS : Fr.IsStrs w a0 n0 ss) (m1 : -9223372036854775808 ≤ m) (m2 : m ≤ 9223372036854775807) (h : KAt w) :
    Calls Tryd.prog 7 #[.slice a0 n0 c0, .int .i64 m] w fun e w' => e = .returned (.bool true) ∧ Below w.heap.size w w' := by
  have hFl : (fewL ss 25).length ≤ 25 := by rw [fewL_length]; omega
  have hFs : ∀ x ∈ fewL ss 25, x.length ≤ 60 := fewL_short
  have iF : ∀ W, Below w.heap.size w W → Calls Tryd.prog 21 #[.slice a0 n0 c0, .int .i64 25] W (GivesL (fewL ss 25) W) := fun W hb => few_any a0 n0 c0 25 ss W (IsStrs_below hS hb) (by omega)
  obtain ⟨L, hL⟩ : ∃ L, fewL ss 25 = L := ⟨_, rfl⟩
  rw [hL] at hFl hFs iF
  have IF := Lib.hid iF
  clear iF hL hS
  go_enter Tryd.func7, Tryd.ntmps7
  go_wp2_with fail
  refine (sane_any _ h).mono ?_
  rintro e w1 ⟨rfl, B1⟩
  go_wp2_with fail
  refine (IF.out _ B1).mono ?_
  rintro e w2 ⟨v, rfl, ho, b2⟩
  have B2 := below_on B1 b2 B1.size; clear b2 B1
  obtain ⟨a, c, rfl, hi0, -⟩ := ho.is
  obtain ⟨n, hn⟩ : ∃ n, L.length = n := ⟨_, rfl⟩
  rw [hn] at hi0 hFl ⊢
  have hK0 := h.below B2
  have hcm : c ≤ maxLen := hi0.max
  have hnc : n ≤ c := hi0.cap
  have HI : Hid (∀ W, Below w2.heap.size w2 W → IsL W a n c L ∧ KAt W) := Lib.hid fun W hb => ⟨hi0.later hb, hK0.below hb⟩
  have h100 : ∀ x ∈ L, x.length ≤ 100000 := fun x hx => by have := hFs x hx; omega
  have iR : ∀ W k, Below w2.heap.size w2 W → k ≤ n → Calls Tryd.prog 27 #[.slice a k c] W fun e w' => e = .returned (.string (bs (Tr.root dig (L.take k)))) ∧ Below W.heap.size W w' := fun W k hb hk =>
    Root_is (L.take k) a k c W ((HI.out W hb).1.take k hk) (by omega) (fun s hs => h100 s (List.mem_of_mem_take hs)) (HI.out W hb).2
  have iRn : ∀ W, Below w2.heap.size w2 W → Calls Tryd.prog 27 #[.slice a n c] W fun e w' => e = .returned (.string (bs (Tr.root dig L))) ∧ Below W.heap.size W w' := fun W hb =>
    Root_is L a n c W (HI.out W hb).1 (by omega) h100 (HI.out W hb).2
  have iE : ∀ W k, Below w2.heap.size w2 W → k ≤ n → Calls Tryd.prog 24 #[.slice a n c, .int .i64 (k : Int)] W (GivesP (ext L k) 0 W) := fun W k hb hk =>
    Extension_in L a n c k W (HI.out W hb).1 hk (by omega) h100 (HI.out W hb).2
  have iV : ∀ W k a' c', Below w2.heap.size w2 W → k ≤ n → IsL W a' (ext L k).length c' (ext L k) → Calls Tryd.prog 31 #[.string (bs (Tr.root dig (L.take k))), .int .i64 (k : Int), .string (bs (Tr.root dig L)), .int .i64 (n : Int), .slice a' (ext L k).length c'] W fun e w' => e = .returned (.bool true) ∧ Below W.heap.size W w' := fun W k a' c' hb hk hx => by
    have := VerifyExt_any (Tr.root dig (L.take k)) (Tr.root dig L) k n (ext L k) a' (ext L k).length c' W hx (fun x hx => by rw [ext_digs L k x hx]; unfold maxLen; omega) (by rw [root_len]; unfold maxLen; omega) (by rw [root_len]; unfold maxLen; omega) (by omega) (by omega) (by omega) (by omega) (HI.out W hb).2
    rw [extB_ext L n k hn hk] at this
    exact this
  have hxs : ∀ k, k ≤ n → (ext L k).length ≤ 2 * bin 62 n := fun k hk => ext_short L n k hn hk (by omega)
  have hb62 := bin_le 62 n
  have iB := fun W => binary_any n W (lt62 (by omega))
  obtain ⟨b, hb⟩ : ∃ b, bin 62 n = b := ⟨_, rfl⟩
  rw [hb] at hxs hb62 iB
  have hRl := root_len L
  obtain ⟨R, hR⟩ : ∃ R, Tr.root dig L = R := ⟨_, rfl⟩
  rw [hR] at iRn iV hRl
  have IR := Lib.hid iR
  have IRn := Lib.hid iRn
  have IE := Lib.hid iE
  have IV := Lib.hid iV
  have HX := Lib.hid hxs
  clear iR iRn iE iV hxs hb hR hi0 ho hFs h100
  go_wp2_with fail
  refine (IRn.out _ (Below.refl _ _)).mono ?_
  rintro e w3 ⟨rfl, b3⟩
  go_wp2_with fail
  go_loopw [7] (fun i wr => ∃ k : Nat, k ≤ n + 1 ∧ i = .int .i64 k ∧ Below w2.heap.size w2 wr) (fun i _ => 2000 - (intOf i).toNat)
  case atStart => exact ⟨0, by omega, rfl, b3⟩
  case round =>
    obtain ⟨k, hk, rfl, hw⟩ := hrel
    clear b3
    rcases Nat.lt_or_ge n k with hkn | hkn
    · have hk1 : k = n + 1 := by omega
      subst hk1
      have hcc : ¬ ((n + 1 : Nat) : Int) ≤ (n : Int) := by omega
      by_cases hin : 0 ≤ m ∧ m ≤ (n : Int)
      · obtain ⟨i1, i2⟩ := hin
        obtain ⟨M, rfl⟩ := Int.eq_ofNat_of_zero_le i1
        go_wp2_with fail
        refine (IE.out _ M hw (by omega)).mono ?_
        rintro e w4 hg
        obtain ⟨a4, c4, rfl, -, b4⟩ := hg.is rfl
        clear hg
        have B4 := below_on hw b4 hw.size
        clear b4
        go_wp2_with fail
        go_ret
        exact ⟨rfl, below_on B2 B4 B2.size⟩
      · have iO : ∀ W, Calls Tryd.prog 24 #[.slice a n c, .int .i64 m] W (GivesP [] 2 W) := fun W => Extension_out a n c m W (Nat.le_trans hnc hcm) m1 m2 (by omega)
        have iX : ∀ W a' c', Below w2.heap.size w2 W → c' ≤ maxLen → Calls Tryd.prog 31 #[.string (bs R), .int .i64 m, .string (bs R), .int .i64 (n : Int), .slice a' 0 c'] W fun e w' => e = .returned (.bool false) ∧ Below W.heap.size W w' := fun W a' c' hb hc' => by
          have := VerifyExt_any R R m n [] a' 0 c' W (IsL.nil W a' c' hc') (by simp) (by unfold maxLen; omega) (by unfold maxLen; omega) (by omega) (by omega) (by omega) (by omega) (HI.out W hb).2
          rw [extB_out hin] at this
          exact this
        have IO := Lib.hid iO
        have IX := Lib.hid iX
        clear iO iX
        by_cases h0 : m < 0
        · have h0' : ¬ (0 ≤ m) := by omega
          clear hin
          go_wp2_with fail
          refine (IO.out _).mono ?_
          rintro e w4 hg
          obtain ⟨a4, c4, rfl, hI4, b4⟩ := hg.is (n := 0) rfl
          have hc4 := hI4.max
          clear hg hI4
          have B4 := below_on hw b4 hw.size
          clear b4
          go_wp2_with fail
          refine (IX.out _ _ _ B4 hc4).mono ?_
          rintro e w5 ⟨rfl, b5⟩
          have B5 := below_on B4 b5 B4.size
          clear b5
          go_wp2_with fail
          go_ret
          exact ⟨rfl, below_on B2 B5 B2.size⟩
        · have h0' : 0 ≤ m := by omega
          have h1' : ¬ (m ≤ (n : Int)) := by omega
          clear hin
          go_wp2_with fail
          refine (IO.out _).mono ?_
          rintro e w4 hg
          obtain ⟨a4, c4, rfl, hI4, b4⟩ := hg.is (n := 0) rfl
          have hc4 := hI4.max
          clear hg hI4
          have B4 := below_on hw b4 hw.size
          clear b4
          go_wp2_with fail
          refine (IX.out _ _ _ B4 hc4).mono ?_
          rintro e w5 ⟨rfl, b5⟩
          have B5 := below_on B4 b5 B4.size
          clear b5
          go_wp2_with fail
          go_ret
          exact ⟨by first | (simp [h1']; done) | (simp; omega), below_on B2 B5 B2.size⟩
    · have hcc : (k : Int) ≤ (n : Int) := by omega
      have hck : (k : Int) ≤ (c : Int) := by omega
      have hx := HX.out k hkn
      have iVk := fun W a' c' hb => IV.out W k a' c' hb hkn
      have iRk := fun W hb => IR.out W k hb hkn
      obtain ⟨X, hX⟩ : ∃ X, ext L k = X := ⟨_, rfl⟩
      have iEk := fun W hb => IE.out W k hb hkn
      obtain ⟨Q, hQ⟩ : ∃ Q, Tr.root dig (L.take k) = Q := ⟨_, rfl⟩
      rw [hX] at hx iVk iEk
      rw [hQ] at iVk iRk
      obtain ⟨x, hxl⟩ : ∃ x, X.length = x := ⟨_, rfl⟩
      rw [hxl] at hx iVk
      have HXL := Lib.hid hxl
      have IVk := Lib.hid iVk
      have IRk := Lib.hid iRk
      have IEk := Lib.hid iEk
      clear iVk iRk iEk hX hQ hxl
      have hx2 : ¬ (2 * (b : Int) < (x : Int)) := by omega
      have hwr : IntKind.i64.wrap (2 * (b : Int)) = 2 * (b : Int) := by rw [IntKind.wrap_i64]; omega
      go_wp2_with fail
      refine (IEk.out _ hw).mono ?_
      rintro e w4 hg
      obtain ⟨a4, c4, rfl, hI4, b4⟩ := hg.is HXL.out
      clear hg
      have HI4 := Lib.hid hI4
      have B4 := below_on hw b4 hw.size
      clear b4 hI4
      go_wp2_with fail
      refine (iB _).mono ?_
      rintro e w5 ⟨rfl, rfl⟩
      go_wp2_with fail
      refine (IRk.out _ B4).mono ?_
      rintro e w6 ⟨rfl, b6⟩
      have HI6 := Lib.hid (HI4.out.later b6)
      have B6 := below_on B4 b6 B4.size
      clear b6 HI4
      go_wp2_with fail
      refine (IVk.out _ _ _ B6 HI6.out).mono ?_
      rintro e w7 ⟨rfl, b7⟩
      have B7 := below_on B6 b7 B6.size
      clear b7
      go_wp2_with fail
      go_roundw
      case rel => exact ⟨k + 1, by omega, by go_num, B7⟩
      case measure => simp [intOf]; omega

end Go.Proofs.YthlngcjenmcbkaaDoor
