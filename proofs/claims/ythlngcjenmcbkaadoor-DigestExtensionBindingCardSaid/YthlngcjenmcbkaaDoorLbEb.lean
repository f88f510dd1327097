/-
  The law DigestExtensionBinding: the walk.
-/
import Derived.Test.YthlngcjenmcbkaaDoorLsd
import Derived.Test.YthlngcjenmcbkaaDoorLcl
namespace Go.Proofs.YthlngcjenmcbkaaDoor
open Go.RowKit Bs

theorem extB_get {old root : List UInt8} {m n : Int} {p : Strs} (h : extB old m root n p = true) : (0 ≤ m ∧ m ≤ n) ∧ old.length = 32 ∧ (∀ x ∈ p, x.length = 32) ∧
    ((m = 0 ∧ old = dig []) ∨ (m ≠ 0 ∧ Tr.two dig m.toNat n.toNat old true p.reverse = some (old, root))) := by
  unfold extB at h
  simp only [Bool.and_eq_true, decide_eq_true_eq] at h
  obtain ⟨h1, h2, h3, h4⟩ := h
  refine ⟨h1, digB_true h2 old (by simp), digB_true h3, ?_⟩
  by_cases h0 : m = 0
  · rw [if_pos h0] at h4
    simp only [Bool.and_eq_true, decide_eq_true_eq] at h4
    exact .inl ⟨h0, h4.2⟩
  · rw [if_neg h0] at h4
    exact .inr ⟨h0, of_decide_eq_true h4⟩

set_option maxRecDepth 100000 in
set_option maxHeartbeats 1000000 in
theorem ExtBinding_any (sa sb root : ByteArray) (m n : Int) (a1 a2 : Option Addr) (n1 c1 n2 c2 : Nat) (ss1 ss2 : List ByteArray) (w : World) (hS1 : Fr.IsStrs w a1 n1 ss1) (hS2 : Fr.IsStrs w a2 n2 ss2) (za : sa.size ≤ maxLen) (zb : sb.size ≤ maxLen) (zr : root.size ≤ maxLen)
    (m1 : -9223372036854775808 ≤ m) (m2 : m ≤ 9223372036854775807) (m3 : -9223372036854775808 ≤ n) (m4 : n ≤ 9223372036854775807) (h : KAt w) :
    Calls Tryd.prog 10 #[.string sa, .slice a1 n1 c1, .string sb, .slice a2 n2 c2, .int .i64 m, .string root, .int .i64 n] w fun e w' => e = .returned (.bool true) ∧ Below w.heap.size w w' := by
  obtain ⟨r, rfl⟩ : ∃ r, root = bs r := ⟨root.data.toList, (bs_bytes root).symm⟩
  obtain ⟨S, rfl⟩ : ∃ r, sa = bs r := ⟨sa.data.toList, (bs_bytes sa).symm⟩
  obtain ⟨T, rfl⟩ : ∃ r, sb = bs r := ⟨sb.data.toList, (bs_bytes sb).symm⟩
  rw [bs_size] at za zb zr
  have iF : ∀ W, Below w.heap.size w W → Calls Tryd.prog 21 #[.slice a1 n1 c1, .int .i64 70] W (GivesL (fewL ss1 70) W) := fun W hb => few_any a1 n1 c1 70 ss1 W (IsStrs_below hS1 hb) (by omega)
  have iG : ∀ W, Below w.heap.size w W → Calls Tryd.prog 21 #[.slice a2 n2 c2, .int .i64 70] W (GivesL (fewL ss2 70) W) := fun W hb => few_any a2 n2 c2 70 ss2 W (IsStrs_below hS2 hb) (by omega)
  have hPl : (fewL ss1 70).length ≤ 70 := by rw [fewL_length]; omega
  have hQl : (fewL ss2 70).length ≤ 70 := by rw [fewL_length]; omega
  have hPs : ∀ x ∈ fewL ss1 70, x.length ≤ 60 := fewL_short
  have hQs : ∀ x ∈ fewL ss2 70, x.length ≤ 60 := fewL_short
  obtain ⟨P, hP⟩ : ∃ L, fewL ss1 70 = L := ⟨_, rfl⟩
  obtain ⟨Q, hQ⟩ : ∃ L, fewL ss2 70 = L := ⟨_, rfl⟩
  rw [hP] at iF hPl hPs
  rw [hQ] at iG hQl hQs
  have IF := Lib.hid iF
  have IG := Lib.hid iG
  clear iF iG hP hQ hS1 hS2
  go_enter Tryd.func10, Tryd.ntmps10
  go_wp2_with fail
  refine (sane_any _ h).mono ?_
  rintro e w1 ⟨rfl, B1⟩
  go_wp2_with fail
  refine (IF.out _ B1).mono ?_
  rintro e w2 ⟨v, rfl, ho, b2⟩
  have B2 := below_on B1 b2 B1.size; clear b2 B1
  obtain ⟨a, c, rfl, hi0, -⟩ := ho.is
  obtain ⟨np, hnp⟩ : ∃ n, P.length = n := ⟨_, rfl⟩
  rw [hnp] at hi0 hPl ⊢
  have HI0 := Lib.hid hi0
  clear hi0 ho
  go_wp2_with fail
  refine (IG.out _ B2).mono ?_
  rintro e w3 ⟨v, rfl, ho, b3⟩
  have HI1 := Lib.hid (HI0.out.later b3)
  have B3 := below_on B2 b3 B2.size; clear b3 B2
  obtain ⟨a', c', rfl, hj0, -⟩ := ho.is
  obtain ⟨nq, hnq⟩ : ∃ n, Q.length = n := ⟨_, rfl⟩
  rw [hnq] at hj0 hQl ⊢
  have HJ1 := Lib.hid hj0
  clear hj0 ho HI0
  have iV1 : ∀ W, Below w3.heap.size w3 W → Calls Tryd.prog 31 #[.string (bs S), .int .i64 m, .string (bs r), .int .i64 n, .slice a np c] W fun e w' => e = .returned (.bool (extB S m r n P)) ∧ Below W.heap.size W w' := fun W hb =>
    VerifyExt_any S r m n P a np c W (HI1.out.later hb) (fun x hx => by have := hPs x hx; unfold maxLen; omega) za zr m3 m4 m1 m2 (h.below (below_on B3 hb B3.size))
  have iV2 : ∀ W, Below w3.heap.size w3 W → Calls Tryd.prog 31 #[.string (bs T), .int .i64 m, .string (bs r), .int .i64 n, .slice a' nq c'] W fun e w' => e = .returned (.bool (extB T m r n Q)) ∧ Below W.heap.size W w' := fun W hb =>
    VerifyExt_any T r m n Q a' nq c' W (HJ1.out.later hb) (fun x hx => by have := hQs x hx; unfold maxLen; omega) zb zr m3 m4 m1 m2 (h.below (below_on B3 hb B3.size))
  cases hb1 : extB S m r n P with
  | false =>
    rw [hb1] at iV1
    have IV1 := Lib.hid iV1
    have IV2 := Lib.hid iV2
    clear iV1 iV2 hb1
    go_wp2_with fail
    refine (IV1.out _ (Below.refl _ _)).mono ?_
    rintro e w4 ⟨rfl, b4⟩
    go_wp2_with fail
    refine (IV2.out _ b4).mono ?_
    rintro e w5 ⟨rfl, b5⟩
    have B5 := below_on B3 (below_on b4 b5 b4.size) B3.size
    go_wp2_with fail
    go_ret
    exact ⟨rfl, B5⟩
  | true =>
    rw [hb1] at iV1
    cases hb2 : extB T m r n Q with
    | false =>
      rw [hb2] at iV2
      have IV1 := Lib.hid iV1
      have IV2 := Lib.hid iV2
      clear iV1 iV2 hb1 hb2
      go_wp2_with fail
      refine (IV1.out _ (Below.refl _ _)).mono ?_
      rintro e w4 ⟨rfl, b4⟩
      go_wp2_with fail
      refine (IV2.out _ b4).mono ?_
      rintro e w5 ⟨rfl, b5⟩
      have B5 := below_on B3 (below_on b4 b5 b4.size) B3.size
      go_wp2_with fail
      go_ret
      exact ⟨rfl, B5⟩
    | true =>
      rw [hb2] at iV2
      have IV1 := Lib.hid iV1
      have IV2 := Lib.hid iV2
      obtain ⟨hin, hS32, hp32, hvp⟩ := extB_get hb1
      obtain ⟨-, hT32, hq32, hvq⟩ := extB_get hb2
      clear iV1 iV2 hb1 hb2
      by_cases hst : S = T
      · have hc := bsEq_true hst
        clear hst hvp hvq
        go_wp2_with fail
        refine (IV1.out _ (Below.refl _ _)).mono ?_
        rintro e w4 ⟨rfl, b4⟩
        go_wp2_with fail
        refine (IV2.out _ b4).mono ?_
        rintro e w5 ⟨rfl, b5⟩
        have B5 := below_on B3 (below_on b4 b5 b4.size) B3.size
        go_wp2_with fail
        go_ret
        exact ⟨rfl, B5⟩
      · have hc := bsEq_false hst
        have hm0 : m ≠ 0 := fun e0 => hst (by
          rcases hvp with ⟨_, e1⟩ | ⟨e1, _⟩
          · rcases hvq with ⟨_, e2⟩ | ⟨e2, _⟩
            · rw [e1, e2]
            · exact absurd e0 e2
          · exact absurd e0 e1)
        have hvp := (hvp.resolve_left (fun e => hm0 e.1)).2
        have hvq := (hvq.resolve_left (fun e => hm0 e.1)).2
        obtain ⟨N, rfl⟩ := Int.eq_ofNat_of_zero_le (show 0 ≤ n by omega)
        obtain ⟨I, rfl⟩ := Int.eq_ofNat_of_zero_le (show 0 ≤ m by omega)
        rw [Int.toNat_natCast, Int.toNat_natCast] at hvp hvq
        have hpr : ∀ x ∈ P.reverse, x.length = 32 := fun x hx => hp32 x (List.mem_reverse.1 hx)
        have hqr : ∀ x ∈ Q.reverse, x.length = 32 := fun x hx => hq32 x (List.mem_reverse.1 hx)
        have hit := Tr.binds_two dig dig_len P.reverse Q.reverse I N (by omega) (by omega) S T hS32 hT32 hpr hqr true S T r hst hvp hvq
        have hwp := side_lens P.reverse I N S true hS32 hpr
        have hwq := side_lens Q.reverse I N T true hT32 hqr
        have iW : ∀ W, Below w3.heap.size w3 W → Calls Tryd.prog 37 #[.string (bs S), .int .i64 (I : Int), .int .i64 (N : Int), .slice a np c, .bool true] W (GivesW (Tr.side dig I N S true P.reverse) r W) := fun W hb =>
          sides_at np P a np c I N S true S r W (Nat.le_refl _) (HI1.out.later hb) hp32 (by omega) hS32 (by omega) (by omega) (by omega) hvp (h.below (below_on B3 hb B3.size))
        have iW' : ∀ W, Below w3.heap.size w3 W → Calls Tryd.prog 37 #[.string (bs T), .int .i64 (I : Int), .int .i64 (N : Int), .slice a' nq c', .bool true] W (GivesW (Tr.side dig I N T true Q.reverse) r W) := fun W hb =>
          sides_at nq Q a' nq c' I N T true T r W (Nat.le_refl _) (HJ1.out.later hb) hq32 (by omega) hT32 (by omega) (by omega) (by omega) hvq (h.below (below_on B3 hb B3.size))
        obtain ⟨X, hX⟩ : ∃ X, Tr.side dig I N S true P.reverse = X := ⟨_, rfl⟩
        obtain ⟨Y, hY⟩ : ∃ Y, Tr.side dig I N T true Q.reverse = Y := ⟨_, rfl⟩
        rw [hX] at iW hit hwp
        rw [hY] at iW' hit hwq
        have IW := Lib.hid iW
        have IW2 := Lib.hid iW'
        have HIT := Lib.hid hit
        have WP := Lib.hid hwp
        have WQ := Lib.hid hwq
        clear iW iW' hit hwp hwq hX hY hvp hvq hst
        go_wp2_with fail
        refine (IV1.out _ (Below.refl _ _)).mono ?_
        rintro e w4 ⟨rfl, b4⟩
        go_wp2_with fail
        refine (IV2.out _ b4).mono ?_
        rintro e w5 ⟨rfl, b5⟩
        have B5 := below_on b4 b5 b4.size
        clear b4 b5
        go_wp2_with fail
        refine (IW.out _ B5).mono ?_
        rintro e w6 ⟨u, rfl, ho, b6⟩
        have B6 := below_on B5 b6 B5.size
        obtain ⟨a6, c6, rfl, hi6, -⟩ := ho.is
        have HI6 := Lib.hid hi6
        clear ho hi6 b6
        go_wp2_with fail
        refine (IW2.out _ B6).mono ?_
        rintro e w7 ⟨u, rfl, ho, b7⟩
        have B7 := below_on B6 b7 B6.size
        obtain ⟨a7, c7, rfl, hi7, -⟩ := ho.is
        have HI7 := Lib.hid hi7
        have HI8 := Lib.hid (HI6.out.later b7)
        clear ho hi7 b7
        have BB := below_on B3 B7 B3.size
        go_wp2_with fail
        refine (collide_any X Y a6 a7 X.length c6 Y.length c7 w7 HI8.out HI7.out WP.out WQ.out HIT.out (h.below BB)).mono ?_
        rintro e w8 ⟨rfl, b8⟩
        go_wp2_with fail
        go_ret
        exact ⟨rfl, below_on BB b8 BB.size⟩

end Go.Proofs.YthlngcjenmcbkaaDoor
