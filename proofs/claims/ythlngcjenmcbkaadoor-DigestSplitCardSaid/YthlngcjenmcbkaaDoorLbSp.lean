/-
  The law DigestSplit: the walk.
-/
import Derived.Test.YthlngcjenmcbkaaDoorLac
import Derived.Test.YthlngcjenmcbkaaDoorOwa
namespace Go.Proofs.YthlngcjenmcbkaaDoor
open Go.RowKit Bs

set_option maxRecDepth 100000 in
set_option maxHeartbeats 1000000 in
theorem Split_any (a0 : Option Addr) (n0 c0 : Nat) (ss : List ByteArray) (s : ByteArray) (w : World) (hS : Fr.IsStrs w a0 n0 ss) (h : KAt w) :
    Calls Tryd.prog 11 #[.slice a0 n0 c0, .string s] w fun e w' => e = .returned (.bool true) ∧ Below w.heap.size w w' := by
  obtain ⟨ms, S, ⟨msa, msb⟩, x0, l0, e0, -⟩ := cut_string s 60
  have r0 := fun w ts ty => min_run (P := Tryd.prog) s.size 60 ms e0 60 rfl w ts ty
  have hSl : S.length ≤ 60 := by omega
  clear e0 l0
  have hFl : (fewL ss 40).length ≤ 40 := by rw [fewL_length]; omega
  have hFs : ∀ x ∈ fewL ss 40, x.length ≤ 60 := fewL_short
  have iF : ∀ W, Below w.heap.size w W → Calls Tryd.prog 21 #[.slice a0 n0 c0, .int .i64 40] W (GivesL (fewL ss 40) W) := fun W hb => few_any a0 n0 c0 40 ss W (IsStrs_below hS hb) (by omega)
  obtain ⟨L, hL⟩ : ∃ L, fewL ss 40 = L := ⟨_, rfl⟩
  rw [hL] at hFl hFs iF
  have IF := Lib.hid iF
  clear iF hL hS
  go_enter Tryd.func11, Tryd.ntmps11
  go_wp2_with fail
  refine (sane_any _ h).mono ?_
  rintro e w1 ⟨rfl, B1⟩
  go_wp2_with fail
  refine (IF.out _ B1).mono ?_
  rintro e w2 ⟨v, rfl, ho, b2⟩
  have B2 := below_on B1 b2 B1.size; clear b2
  obtain ⟨a, c, rfl, hi0, -⟩ := ho.is
  have HI0 := Lib.hid hi0
  have HO := Lib.hid ho
  clear hi0 ho
  go_wp2_with (at_builtin; refine wpList_pushAllS rfl _ _ rfl w2.heap.size _ [] rfl (OwnS.none0 w2 w2.heap.size (Nat.le_refl _)) w1.heap.size _ L rfl (HO.out.alloc _) (by simp; omega) (by simp) ?_)
  intro u3 w3 ho3 hb3
  have b3 : Below w2.heap.size w2 w3 := ((Below.refl w2.heap.size w2).alloc (Nat.le_refl _) (.cells #[] 9)).trans hb3
  have HO3 := Lib.hid ho3
  clear ho3 hb3 HO B1
  have hs3 := b3.size
  go_wp2_with (at_builtin; refine wpList_pushAllS rfl _ _ rfl w2.heap.size _ ([] ++ L) rfl (HO3.out.alloc _) w3.heap.size _ [S] rfl (OwnS.lit w3 w3.heap.size S (Nat.le_refl _)) (by simp; omega) (by simp; omega) ?_)
  intro u4 w4 ho4 hb4
  have b4 : Below w2.heap.size w2 w4 := (b3.alloc hs3 (.cells #[.string (bs S)] 9)).trans hb4
  try rw [List.nil_append] at ho4
  obtain ⟨a4, c4, rfl, hi4, hg4⟩ := ho4.is
  have hM : (L ++ [S]).length = L.length + 1 := by simp
  have hMs : ∀ x ∈ L ++ [S], x.length ≤ 100000 := fun x hx => by
    rcases List.mem_append.1 hx with hx | hx
    · have := hFs x hx; omega
    · simp at hx; subst hx; omega
  have hMt : (L ++ [S]).take L.length = L := by rw [List.take_append_of_le_length (Nat.le_refl _), List.take_length]
  have hroot1 : L.length = 0 → Tr.root dig (L ++ [S]) = dig (0 :: S) := fun h0 => by
    rw [List.length_eq_zero_iff.1 h0]; rfl
  have hroot2 : L.length = 0 → Tr.root dig L = dig [] := fun h0 => by
    rw [List.length_eq_zero_iff.1 h0]; rfl
  obtain ⟨g4, rfl, -⟩ := hg4 (by omega)
  have h100 : ∀ x ∈ L, x.length ≤ 100000 := fun x hx => by have := hFs x hx; omega
  obtain ⟨M, hMe⟩ : ∃ M, L ++ [S] = M := ⟨_, rfl⟩
  rw [hMe] at hM hMs hMt hroot1 hi4 ho4
  obtain ⟨N, hN⟩ : ∃ N, M.length = N := ⟨_, rfl⟩
  obtain ⟨n, hn⟩ : ∃ n, L.length = n := ⟨_, rfl⟩
  rw [hMe, hN, hn]
  have hi0 := HI0.out
  rw [hn] at hM hFl hMt hroot1 hroot2 hi0
  rw [hN] at hM hi4
  clear HI0 HO3 ho4 hg4 hb4 b3 hs3
  have B4 := below_on B2 b4 B2.size
  have HI : Hid (∀ W, Below w4.heap.size w4 W → IsL W a n c L ∧ IsL W (some ⟨g4, 0, none⟩) N c4 M ∧ KAt W) := Lib.hid fun W hb => ⟨(hi0.later b4).later hb, hi4.later hb, h.below (below_on B4 hb B4.size)⟩
  have hNc : N ≤ c4 := hi4.cap
  have hc4 := hi4.max
  unfold maxLen at hc4
  have iRL : ∀ W, Below w4.heap.size w4 W → Calls Tryd.prog 27 #[.slice a n c] W fun e w' => e = .returned (.string (bs (Tr.root dig L))) ∧ Below W.heap.size W w' := fun W hb =>
    Root_is L a n c W (HI.out W hb).1 (by omega) h100 (HI.out W hb).2.2
  have iRM : ∀ W, Below w4.heap.size w4 W → Calls Tryd.prog 27 #[.slice (some ⟨g4, 0, none⟩) N c4] W fun e w' => e = .returned (.string (bs (Tr.root dig M))) ∧ Below W.heap.size W w' := fun W hb =>
    Root_is M _ N c4 W (HI.out W hb).2.1 (by omega) hMs (HI.out W hb).2.2
  have iE : ∀ W, Below w4.heap.size w4 W → Calls Tryd.prog 24 #[.slice (some ⟨g4, 0, none⟩) N c4, .int .i64 (n : Int)] W (GivesP (ext M n) 0 W) := fun W hb =>
    Extension_in M _ N c4 n W (HI.out W hb).2.1 (by omega) (by omega) hMs (HI.out W hb).2.2
  have iV : ∀ W a' c', Below w4.heap.size w4 W → IsL W a' (ext M n).length c' (ext M n) → Calls Tryd.prog 31 #[.string (bs (Tr.root dig L)), .int .i64 (n : Int), .string (bs (Tr.root dig M)), .int .i64 (N : Int), .slice a' (ext M n).length c'] W fun e w' => e = .returned (.bool true) ∧ Below W.heap.size W w' := fun W a' c' hb hx => by
    have := VerifyExt_any (Tr.root dig (M.take n)) (Tr.root dig M) n N (ext M n) a' (ext M n).length c' W hx (fun x hx => by rw [ext_digs M n x hx]; unfold maxLen; omega) (by rw [root_len]; unfold maxLen; omega) (by rw [root_len]; unfold maxLen; omega) (by omega) (by omega) (by omega) (by omega) (HI.out W hb).2.2
    rw [extB_ext M N n hN (by omega), hMt] at this
    exact this
  obtain ⟨X, hX⟩ : ∃ X, ext M n = X := ⟨_, rfl⟩
  rw [hX] at iE iV
  have IE := Lib.hid iE
  have IRL := Lib.hid iRL
  have IRM := Lib.hid iRM
  have IV := Lib.hid iV
  clear iE iRL iRM iV hX
  rcases Nat.eq_zero_or_pos n with h0 | h0
  · have q1 := hroot1 h0
    have q2 := hroot2 h0
    have iLf : ∀ W, Below w4.heap.size w4 W → Calls Tryd.prog 15 #[.string (bs S)] W fun e w' => e = .returned (.string (bs (Tr.root dig M))) ∧ Below W.heap.size W w' := fun W hb => by rw [q1]; exact Leaf_any S W (HI.out W hb).2.2 (by omega)
    have iSm : ∀ W, Below w4.heap.size w4 W → Calls Tryd.prog 13 #[.string ⟨#[]⟩] W fun e w' => e = .returned (.string (bs (Tr.root dig L))) ∧ Below W.heap.size W w' := fun W hb => by rw [q2]; exact Sum_any [] W (HI.out W hb).2.2 (by simp)
    obtain ⟨R, hR⟩ : ∃ R, Tr.root dig M = R := ⟨_, rfl⟩
    obtain ⟨R3, hR3⟩ : ∃ R, Tr.root dig L = R := ⟨_, rfl⟩
    rw [hR] at iLf
    rw [hR3] at iSm
    have IRM := Lib.hid (hR ▸ IRM.out)
    have IRL := Lib.hid (hR3 ▸ IRL.out)
    have IV := Lib.hid (hR3 ▸ hR ▸ IV.out)
    have ILf := Lib.hid iLf
    have ISm := Lib.hid iSm
    have hq : ∀ l, ((bs l).toList == (bs l).toList) = true := fun l => bsEq_true rfl
    have hN41 : N ≤ 41 := by omega
    subst h0
    clear hroot1 hroot2 q1 q2 hR hR3 iLf iSm hMt hi0 hi4 hMs h100 hFs hM hN hn
    go_wp2_with fail
    refine (IE.out _ (Below.refl _ _)).mono ?_
    rintro e w5 ⟨v, rfl, ho, b5⟩
    obtain ⟨a5, c5, rfl, hi5, -⟩ := ho.is
    have HI5 := Lib.hid hi5
    clear ho hi5
    go_wp2_with fail
    refine (IRL.out _ b5).mono ?_
    rintro e w6 ⟨rfl, b6⟩
    have B6 := below_on b5 b6 b5.size
    have HI6 := Lib.hid (HI5.out.later b6)
    clear b5 b6 HI5
    go_wp2_with fail
    refine (IRM.out _ B6).mono ?_
    rintro e w7 ⟨rfl, b7⟩
    have B7 := below_on B6 b7 B6.size
    have HI7 := Lib.hid (HI6.out.later b7)
    clear B6 b7 HI6
    go_wp2_with fail
    refine (IV.out _ _ _ B7 HI7.out).mono ?_
    rintro e w8 ⟨rfl, b8⟩
    have B8 := below_on B7 b8 B7.size
    clear B7 b8 HI7
    go_wp2_with fail
    refine (IRM.out _ B8).mono ?_
    rintro e w9 ⟨rfl, b9⟩
    have B9 := below_on B8 b9 B8.size
    clear B8 b9
    go_wp2_with fail
    refine (ILf.out _ B9).mono ?_
    rintro e w10 ⟨rfl, b10⟩
    have B10 := below_on B9 b10 B9.size
    clear B9 b10
    go_wp2_with fail
    refine (IRL.out _ B10).mono ?_
    rintro e w11 ⟨rfl, b11⟩
    have B11 := below_on B10 b11 B10.size
    clear B10 b11
    go_wp2_with fail
    refine (ISm.out _ B11).mono ?_
    rintro e w12 ⟨rfl, b12⟩
    have B12 := below_on B11 b12 B11.size
    clear B11 b12
    go_wp2_with fail
    go_ret
    exact ⟨rfl, below_on B4 B12 B4.size⟩
  · have hk := Tr.lft_spec (n := N) (by omega)
    have hroot := Tr.root_more dig M (by omega)
    rw [hN] at hroot
    obtain ⟨k, hkk⟩ : ∃ k, Tr.lft N = k := ⟨_, rfl⟩
    have hfp := fun W => left_any N W (by omega) (by omega)
    rw [hkk] at hk hroot
    simp only [hkk] at hfp
    have iA : ∀ W, Below w4.heap.size w4 W → Calls Tryd.prog 27 #[.slice (some ⟨g4, 0, none⟩) k c4] W fun e w' => e = .returned (.string (bs (Tr.root dig (M.take k)))) ∧ Below W.heap.size W w' := fun W hb =>
      Root_is (M.take k) _ k c4 W ((HI.out W hb).2.1.take k (by omega)) (by omega) (fun s hs => hMs s (List.mem_of_mem_take hs)) (HI.out W hb).2.2
    have iB : ∀ W, Below w4.heap.size w4 W → Calls Tryd.prog 27 #[.slice (some ⟨g4, k, none⟩) (N - k) (c4 - k)] W fun e w' => e = .returned (.string (bs (Tr.root dig (M.drop k)))) ∧ Below W.heap.size W w' := fun W hb => by
      obtain ⟨g, off, e1, hp⟩ := (HI.out W hb).2.1.at (by omega)
      cases e1
      have hd := hp.drop k
      rw [Nat.zero_add] at hd
      exact Root_is (M.drop k) _ (N - k) (c4 - k) W (hd.isL (by rw [List.length_drop]; omega) (by omega) (by unfold maxLen; omega)) (by omega) (fun s hs => hMs s (List.mem_of_mem_drop hs)) (HI.out W hb).2.2
    have la := root_len (M.take k)
    have lb := root_len (M.drop k)
    obtain ⟨A, hA⟩ : ∃ A, Tr.root dig (M.take k) = A := ⟨_, rfl⟩
    obtain ⟨B, hB⟩ : ∃ B, Tr.root dig (M.drop k) = B := ⟨_, rfl⟩
    rw [hA] at iA la hroot
    rw [hB] at iB lb hroot
    have hq : ((bs (Tr.root dig M)).toList == (bs (dig (1 :: (A ++ B)))).toList) = true := bsEq_true hroot
    have iN : ∀ W, Below w4.heap.size w4 W → Calls Tryd.prog 17 #[.string (bs A), .string (bs B)] W fun e w' => e = .returned (.string (bs (dig (1 :: (A ++ B))))) ∧ Below W.heap.size W w' := fun W hb => Node_any A B W (HI.out W hb).2.2 (by omega) (by omega)
    obtain ⟨R, hR⟩ : ∃ R, Tr.root dig M = R := ⟨_, rfl⟩
    obtain ⟨R2, hR2⟩ : ∃ R, dig (1 :: (A ++ B)) = R := ⟨_, rfl⟩
    rw [hR, hR2] at hq
    rw [hR2] at iN
    have IRM := Lib.hid (hR ▸ IRM.out)
    have IV := Lib.hid (hR ▸ IV.out)
    obtain ⟨R3, hR3⟩ : ∃ R, Tr.root dig L = R := ⟨_, rfl⟩
    have IRL := Lib.hid (hR3 ▸ IRL.out)
    have IV := Lib.hid (hR3 ▸ IV.out)
    have IA := Lib.hid iA
    have IB := Lib.hid iB
    have IN := Lib.hid iN
    have HFP := Lib.hid hfp
    have e0 : ((n : Int) == 0) = false := by rw [beq_eq_false_iff_ne]; omega
    have ck : k ≠ c4 := by omega
    have ck' : c4 ≠ k := by omega
    have i1 : (0 : Int) ≤ (k : Int) := by omega
    have i2 : (k : Int) ≤ (N : Int) := by omega
    have i3 : (k : Int) ≤ (c4 : Int) := by omega
    have i4 : (N : Int) ≤ (c4 : Int) := by omega
    have hN41 : N ≤ 41 := by omega
    clear hroot1 hroot2 hMt hi0 hi4 hMs h100 hFs hM hN hn hroot iA iB iN hA hB hR hR2 hR3 hfp hkk la lb
    go_wp2_with fail
    refine (IE.out _ (Below.refl _ _)).mono ?_
    rintro e w5 ⟨v, rfl, ho, b5⟩
    obtain ⟨a5, c5, rfl, hi5, -⟩ := ho.is
    have HI5 := Lib.hid hi5
    clear ho hi5
    go_wp2_with fail
    refine (IRL.out _ b5).mono ?_
    rintro e w6 ⟨rfl, b6⟩
    have B6 := below_on b5 b6 b5.size
    have HI6 := Lib.hid (HI5.out.later b6)
    clear b5 b6 HI5
    go_wp2_with fail
    refine (IRM.out _ B6).mono ?_
    rintro e w7 ⟨rfl, b7⟩
    have B7 := below_on B6 b7 B6.size
    have HI7 := Lib.hid (HI6.out.later b7)
    clear B6 b7 HI6
    go_wp2_with fail
    refine (IV.out _ _ _ B7 HI7.out).mono ?_
    rintro e w8 ⟨rfl, b8⟩
    have B8 := below_on B7 b8 B7.size
    clear B7 b8 HI7
    go_wp2_with fail
    refine (HFP.out _).mono ?_
    rintro e w9 ⟨rfl, rfl⟩
    go_wp2_with fail
    go_region_held3 (fun _ => True) (trivial)
      (first
        | (go_at_call 27; (with_reducible refine (IRM.out _ (off_on B8)).mono ?_); rintro e wA ⟨rfl, bA0⟩; have bA := below_on B8 (below_undrew bA0) B8.size)
        | (go_at_call 27; (with_reducible refine (IA.out _ bA).mono ?_); rintro e wB ⟨rfl, bB0⟩; have bB := below_on bA bB0 bA.size)
        | (go_at_call 27; (with_reducible refine (IB.out _ bB).mono ?_); rintro e wC ⟨rfl, bC0⟩; have bC := below_on bB bC0 bB.size)
        | (go_at_call 17; (with_reducible refine (IN.out _ bC).mono ?_); rintro e wD ⟨rfl, bD0⟩; have bD := below_on bC bD0 bC.size))
    all_goals
      go_wp2_with fail
      go_ret
      exact ⟨rfl, below_on B4 bD B4.size⟩

end Go.Proofs.YthlngcjenmcbkaaDoor
