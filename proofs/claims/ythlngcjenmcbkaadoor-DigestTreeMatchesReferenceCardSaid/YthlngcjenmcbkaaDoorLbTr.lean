/-
  The law DigestTreeMatchesReference: the walk.
-/
import Derived.Test.YthlngcjenmcbkaaDoorLhd
import Derived.Test.YthlngcjenmcbkaaDoorRpp
namespace Go.Proofs.YthlngcjenmcbkaaDoor
open Go.RowKit Bs

theorem refRoot_is (l : Strs) (a : Option Addr) (n c : Nat) (w : World) (hL : IsL w a n c l) (hbig : n ≤ 1000000) (hs : ∀ s ∈ l, s.length ≤ 100000) :
    Calls Tryd.prog 28 #[.slice a n c] w fun e w' => e = .returned (.string (bs (Tr.root dig l))) ∧ Below w.heap.size w w' := by
  rcases Nat.eq_zero_or_pos n with h0 | h0
  · subst h0
    obtain rfl : l = [] := List.length_eq_zero_iff.1 hL.len
    exact refRoot_nil a c w
  · obtain ⟨g, off, rfl, hp⟩ := hL.at h0
    exact refRoot_at n l g off n c w (Nat.le_refl _) hL.len h0 hL.cap hL.max hbig hs hp
theorem both_proof (l : Strs) (n : Nat) (i : Int) (hn : n ≤ 1000000) (hs : ∀ s ∈ l, s.length ≤ 100000) (h1 : -9223372036854775808 ≤ i) (h2 : i ≤ 9223372036854775807) :
    ∃ (P : Strs) (e : Int), ∀ (a : Option Addr) (c : Nat) (W : World), IsL W a n c l → KAt W →
      Calls Tryd.prog 22 #[.slice a n c, .int .i64 i] W (GivesP P e W) ∧ Calls Tryd.prog 23 #[.slice a n c, .int .i64 i] W (GivesP P e W) := by
  by_cases hin : 0 ≤ i ∧ i < (n : Int)
  · obtain ⟨I, rfl⟩ := Int.eq_ofNat_of_zero_le hin.1
    refine ⟨(Tr.prf dig l I).reverse, 0, fun a c W hL hK => ?_⟩
    obtain ⟨g, off, rfl, hp⟩ := hL.at (by omega)
    exact ⟨Proof_in l g off n c I W hL.len (by omega) hL.cap hL.max hn hs hp hK, refProof_at n l g off n c I W (Nat.le_refl _) hL.len (by omega) (by omega) hL.cap hL.max hn hs hp⟩
  · refine ⟨[], 2, fun a c W hL hK => ?_⟩
    have hm := Nat.le_trans hL.cap hL.max
    exact ⟨Proof_out a n c i W hm h1 h2 (by omega), refProof_out a n c i W hm h1 h2 (by omega)⟩
theorem both_ext (l : Strs) (n : Nat) (i : Int) (hn : n ≤ 1000000) (hs : ∀ s ∈ l, s.length ≤ 100000) (h1 : -9223372036854775808 ≤ i) (h2 : i ≤ 9223372036854775807) :
    ∃ (P : Strs) (e : Int), ∀ (a : Option Addr) (c : Nat) (W : World), IsL W a n c l → KAt W →
      Calls Tryd.prog 24 #[.slice a n c, .int .i64 i] W (GivesP P e W) ∧ Calls Tryd.prog 25 #[.slice a n c, .int .i64 i] W (GivesP P e W) := by
  by_cases hin : 0 ≤ i ∧ i ≤ (n : Int)
  · obtain ⟨I, rfl⟩ := Int.eq_ofNat_of_zero_le hin.1
    refine ⟨ext l I, 0, fun a c W hL hK => ?_⟩
    exact ⟨Extension_in l a n c I W hL (by omega) hn hs hK, refExtension_in l a n c I W hL (by omega) hn hs⟩
  · refine ⟨[], 2, fun a c W hL hK => ?_⟩
    have hm := Nat.le_trans hL.cap hL.max
    exact ⟨Extension_out a n c i W hm h1 h2 (by omega), refExtension_out a n c i W hm h1 h2 (by omega)⟩

set_option maxRecDepth 100000 in
set_option maxHeartbeats 4000000 in
theorem TreeMatches_any (a0 : Option Addr) (n0 c0 : Nat) (ss : List ByteArray) (i m : Int) (w : World) (hS : Fr.IsStrs w a0 n0 ss) (m1 : -9223372036854775808 ≤ i) (m2 : i ≤ 9223372036854775807) (m3 : -9223372036854775808 ≤ m) (m4 : m ≤ 9223372036854775807) (h : KAt w) :
    Calls Tryd.prog 4 #[.slice a0 n0 c0, .int .i64 i, .int .i64 m] w fun e w' => e = .returned (.bool true) ∧ Below w.heap.size w w' := by
  have hFl : (fewL ss 40).length ≤ 40 := by rw [fewL_length]; omega
  have hFs : ∀ x ∈ fewL ss 40, x.length ≤ 60 := fewL_short
  have iF : ∀ W, Below w.heap.size w W → Calls Tryd.prog 21 #[.slice a0 n0 c0, .int .i64 40] W (GivesL (fewL ss 40) W) := fun W hb => few_any a0 n0 c0 40 ss W (IsStrs_below hS hb) (by omega)
  obtain ⟨L, hL⟩ : ∃ L, fewL ss 40 = L := ⟨_, rfl⟩
  rw [hL] at hFl hFs iF
  have IF := Lib.hid iF
  clear iF hL hS
  obtain ⟨n, hn⟩ : ∃ n, L.length = n := ⟨_, rfl⟩
  rw [hn] at hFl
  have h100 : ∀ x ∈ L, x.length ≤ 100000 := fun x hx => by have := hFs x hx; omega
  obtain ⟨P, eP, hP⟩ := both_proof L n i (by omega) h100 m1 m2
  obtain ⟨X, eX, hX⟩ := both_ext L n m (by omega) h100 m3 m4
  have HP := Lib.hid hP
  have HX := Lib.hid hX
  have HN := Lib.hid hn
  have H100 := Lib.hid h100
  clear hP hX hn h100 hFs
  go_enter Tryd.func4, Tryd.ntmps4
  go_wp2_with fail
  refine (sane_any _ h).mono ?_
  rintro e w1 ⟨rfl, B1⟩
  go_wp2_with fail
  refine (IF.out _ B1).mono ?_
  rintro e w2 ⟨v, rfl, ho, b2⟩
  have B2 := below_on B1 b2 B1.size; clear b2 B1
  obtain ⟨a, c, rfl, hi0, -⟩ := ho.is
  rw [HN.out] at hi0 ⊢
  have HI : Hid (∀ W, Below w2.heap.size w2 W → IsL W a n c L ∧ KAt W) := Lib.hid fun W hb => ⟨hi0.later hb, h.below (below_on B2 hb B2.size)⟩
  clear hi0 ho
  go_wp2_with fail
  refine (HP.out _ _ _ (HI.out _ (Below.refl _ _)).1 (HI.out _ (Below.refl _ _)).2).1.mono ?_
  rintro e w3 hg
  obtain ⟨a3, c3, rfl, i3, b3⟩ := hg.is rfl
  have I3 := Lib.hid i3
  clear hg i3
  go_wp2_with fail
  refine (HP.out _ _ _ (HI.out _ b3).1 (HI.out _ b3).2).2.mono ?_
  rintro e w4 hg
  obtain ⟨a4, c4, rfl, i4, b4⟩ := hg.is rfl
  have B4 := below_on b3 b4 b3.size
  have I4 := Lib.hid i4
  have I3' := Lib.hid (I3.out.later b4)
  clear hg i4 b3 b4 I3
  go_wp2_with fail
  refine (HX.out _ _ _ (HI.out _ B4).1 (HI.out _ B4).2).1.mono ?_
  rintro e w5 hg
  obtain ⟨a5, c5, rfl, i5, b5⟩ := hg.is rfl
  have B5 := below_on B4 b5 B4.size
  have I5 := Lib.hid i5
  have J3 := Lib.hid (I3'.out.later b5)
  have J4 := Lib.hid (I4.out.later b5)
  clear hg i5 b5 B4 I3' I4
  go_wp2_with fail
  refine (HX.out _ _ _ (HI.out _ B5).1 (HI.out _ B5).2).2.mono ?_
  rintro e w6 hg
  obtain ⟨a6, c6, rfl, i6, b6⟩ := hg.is rfl
  have B6 := below_on B5 b6 B5.size
  have I6 := Lib.hid i6
  have K3 := Lib.hid (J3.out.later b6)
  have K4 := Lib.hid (J4.out.later b6)
  have K5 := Lib.hid (I5.out.later b6)
  clear hg i6 b6 B5 J3 J4 I5
  go_wp2_with fail
  refine (Same_any P P a3 a4 P.length c3 P.length c4 _ K3.out K4.out).mono ?_
  rintro e w7 ⟨rfl, b7⟩
  rw [decide_eq_true (rfl : P = P)]
  have B7 := below_on B6 b7 B6.size
  have L5 := Lib.hid (K5.out.later b7)
  have L6 := Lib.hid (I6.out.later b7)
  clear b7 B6 K3 K4 K5 I6
  go_wp2_with fail
  refine (Same_any X X a5 a6 X.length c5 X.length c6 _ L5.out L6.out).mono ?_
  rintro e w8 ⟨rfl, b8⟩
  rw [decide_eq_true (rfl : X = X)]
  have B8 := below_on B7 b8 B7.size
  clear b8 B7 L5 L6
  have hq : ∀ l, ((bs l).toList == (bs l).toList) = true := fun l => bsEq_true rfl
  go_wp2_with fail
  refine (Root_is L a n c _ (HI.out _ B8).1 (by omega) H100.out (HI.out _ B8).2).mono ?_
  rintro e w9 ⟨rfl, b9⟩
  have B9 := below_on B8 b9 B8.size
  clear b9 B8
  go_wp2_with fail
  refine (refRoot_is L a n c _ (HI.out _ B9).1 (by omega) H100.out).mono ?_
  rintro e w10 ⟨rfl, b10⟩
  have B10 := below_on B9 b10 B9.size
  go_wp2_with fail
  go_ret
  exact ⟨rfl, below_on B2 B10 B2.size⟩

end Go.Proofs.YthlngcjenmcbkaaDoor
