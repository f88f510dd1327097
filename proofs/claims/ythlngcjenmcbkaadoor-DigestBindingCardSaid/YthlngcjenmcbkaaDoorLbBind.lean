/-
  The law DigestBinding: the walk.
-/
import Derived.Test.YthlngcjenmcbkaaDoorLwy
import Derived.Test.YthlngcjenmcbkaaDoorLcl
namespace Go.Proofs.YthlngcjenmcbkaaDoor
open Go.RowKit Bs

theorem way_lens (p : Strs) (n i : Nat) (s : List UInt8) (hs : s.length ≤ 60) (hp : ∀ x ∈ p, x.length = 32) : ∀ y ∈ Tr.way dig n i s p, y.length ≤ 900000 := by
  induction p generalizing n i with
  | nil => intro y hy; rw [way_nil] at hy; simp at hy; subst hy; simp; omega
  | cons x p ih =>
    intro y hy
    have hx := hp x (by simp)
    have hp' : ∀ z ∈ p, z.length = 32 := fun z hz => hp z (by simp [hz])
    have hg : ∀ m j, ((Tr.val dig m j s p).getD []).length ≤ 32 := fun m j => by
      cases h : Tr.val dig m j s p with
      | none => simp
      | some v => rw [show (some v).getD [] = v from rfl, val_len32 h]; omega
    rw [way_cons] at hy
    split at hy
    · simp at hy; subst hy; simp; omega
    · split at hy
      · rcases List.mem_cons.1 hy with rfl | hy
        · have := hg (Tr.lft n) i
          simp only [List.length_cons, List.length_append]; omega
        · exact ih _ _ hp' y hy
      · rcases List.mem_cons.1 hy with rfl | hy
        · have := hg (n - Tr.lft n) (i - Tr.lft n)
          simp only [List.length_cons, List.length_append]; omega
        · exact ih _ _ hp' y hy
theorem verB_get {root : List UInt8} {n i : Int} {s : List UInt8} {p : Strs} (h : verB root n i s p = true) : (0 ≤ i ∧ i < n) ∧ (∀ x ∈ p, x.length = 32) ∧ Tr.val dig n.toNat i.toNat s p.reverse = some root := by
  unfold verB at h
  simp only [Bool.and_eq_true, decide_eq_true_eq] at h
  exact ⟨h.1, digB_true h.2.1, h.2.2⟩

set_option maxRecDepth 100000 in
set_option maxHeartbeats 1000000 in
theorem Binding_any (root s t : ByteArray) (n i : Int) (a1 a2 : Option Addr) (n1 c1 n2 c2 : Nat) (ss1 ss2 : List ByteArray) (w : World) (hS1 : Fr.IsStrs w a1 n1 ss1) (hS2 : Fr.IsStrs w a2 n2 ss2)
    (m1 : -9223372036854775808 ≤ n) (m2 : n ≤ 9223372036854775807) (m3 : -9223372036854775808 ≤ i) (m4 : i ≤ 9223372036854775807) (h : KAt w) :
    Calls Tryd.prog 8 #[.string root, .int .i64 n, .int .i64 i, .string s, .slice a1 n1 c1, .string t, .slice a2 n2 c2] w fun e w' => e = .returned (.bool true) ∧ Below w.heap.size w w' := by
  obtain ⟨r, rfl⟩ : ∃ r, root = bs r := ⟨root.data.toList, (bs_bytes root).symm⟩
  obtain ⟨ms, S, ⟨msa, msb⟩, x0, l0, e0, -⟩ := cut_string s 60
  obtain ⟨mt, T, ⟨mta, mtb⟩, x1, l1, e1, -⟩ := cut_string t 60
  have r0 := fun w ts ty => min_run (P := Tryd.prog) s.size 60 ms e0 60 rfl w ts ty
  have r1 := fun w ts ty => min_run (P := Tryd.prog) t.size 60 mt e1 60 rfl w ts ty
  have hSl : S.length ≤ 60 := by omega
  have hTl : T.length ≤ 60 := by omega
  clear e0 l0 e1 l1
  have iF : ∀ W, Below w.heap.size w W → Calls Tryd.prog 21 #[.slice a1 n1 c1, .int .i64 70] W (GivesL (fewL ss1 70) W) := fun W hb => few_any a1 n1 c1 70 ss1 W (IsStrs_below hS1 hb) (by omega)
  have iG : ∀ W, Below w.heap.size w W → Calls Tryd.prog 21 #[.slice a2 n2 c2, .int .i64 70] W (GivesL (fewL ss2 70) W) := fun W hb => few_any a2 n2 c2 70 ss2 W (IsStrs_below hS2 hb) (by omega)
  have hPl : (fewL ss1 70).length ≤ 70 := by rw [fewL_length]; omega
  have hQl : (fewL ss2 70).length ≤ 70 := by rw [fewL_length]; omega
  have hPs : ∀ x ∈ fewL ss1 70, x.length ≤ 60 := fewL_short
  have hQs : ∀ x ∈ fewL ss2 70, x.length ≤ 60 := fewL_short
  obtain ⟨P, hP⟩ : ∃ L, fewL ss1 70 = L := ⟨_, rfl⟩
  obtain ⟨Q, hQ⟩ : ∃ L, fewL ss2 70 = L := ⟨_, rfl⟩
  rw [hP] at iF hPl hPs
  rw [hQ] at iG hQl hQs
  have IF := Lib.hid iF
  have IG := Lib.hid iG
  clear iF iG hP hQ hS1 hS2
  go_enter Tryd.func8, Tryd.ntmps8
  go_wp2_with fail
  refine (sane_any _ h).mono ?_
  rintro e w1 ⟨rfl, B1⟩
  go_wp2_with fail
  refine (IF.out _ B1).mono ?_
  rintro e w2 ⟨v, rfl, ho, b2⟩
  have B2 := below_on B1 b2 B1.size; clear b2 B1
  obtain ⟨a, c, rfl, hi0, -⟩ := ho.is
  obtain ⟨np, hnp⟩ : ∃ n, P.length = n := ⟨_, rfl⟩
  rw [hnp] at hi0 hPl ⊢
  have HI0 := Lib.hid hi0
  clear hi0 ho
  go_wp2_with fail
  refine (IG.out _ B2).mono ?_
  rintro e w3 ⟨v, rfl, ho, b3⟩
  have HI1 := Lib.hid (HI0.out.later b3)
  have B3 := below_on B2 b3 B2.size; clear b3 B2
  obtain ⟨a', c', rfl, hj0, -⟩ := ho.is
  obtain ⟨nq, hnq⟩ : ∃ n, Q.length = n := ⟨_, rfl⟩
  rw [hnq] at hj0 hQl ⊢
  have HJ1 := Lib.hid hj0
  clear hj0 ho HI0
  have iV : ∀ W (X : List UInt8), Below w3.heap.size w3 W → X.length ≤ 60 → Calls Tryd.prog 29 #[.string (bs r), .int .i64 n, .int .i64 i, .string (bs X), .slice a np c] W fun e w' => e = .returned (.bool (verB r n i X P)) ∧ Below W.heap.size W w' := fun W X hb hX =>
    Verify_any r n i X P a np c W (HI1.out.later hb) (fun x hx => by have := hPs x hx; unfold maxLen; omega) (by omega) m1 m2 m3 m4 (h.below (below_on B3 hb B3.size))
  have iV1 := fun W hb => iV W S hb hSl
  have iV' : ∀ W (X : List UInt8), Below w3.heap.size w3 W → X.length ≤ 60 → Calls Tryd.prog 29 #[.string (bs r), .int .i64 n, .int .i64 i, .string (bs X), .slice a' nq c'] W fun e w' => e = .returned (.bool (verB r n i X Q)) ∧ Below W.heap.size W w' := fun W X hb hX =>
    Verify_any r n i X Q a' nq c' W (HJ1.out.later hb) (fun x hx => by have := hQs x hx; unfold maxLen; omega) (by omega) m1 m2 m3 m4 (h.below (below_on B3 hb B3.size))
  have iV2 := fun W hb => iV' W T hb hTl
  clear iV iV'
  cases hb1 : verB r n i S P with
  | false =>
    rw [hb1] at iV1
    have IV1 := Lib.hid iV1
    have IV2 := Lib.hid iV2
    clear iV1 iV2 hb1
    go_wp2_with fail
    refine (IV1.out _ (Below.refl _ _)).mono ?_
    rintro e w4 ⟨rfl, b4⟩
    go_wp2_with fail
    refine (IV2.out _ b4).mono ?_
    rintro e w5 ⟨rfl, b5⟩
    have B5 := below_on B3 (below_on b4 b5 b4.size) B3.size
    go_wp2_with fail
    go_ret
    exact ⟨rfl, B5⟩
  | true =>
    rw [hb1] at iV1
    cases hb2 : verB r n i T Q with
    | false =>
      rw [hb2] at iV2
      have IV1 := Lib.hid iV1
      have IV2 := Lib.hid iV2
      clear iV1 iV2 hb1 hb2
      go_wp2_with fail
      refine (IV1.out _ (Below.refl _ _)).mono ?_
      rintro e w4 ⟨rfl, b4⟩
      go_wp2_with fail
      refine (IV2.out _ b4).mono ?_
      rintro e w5 ⟨rfl, b5⟩
      have B5 := below_on B3 (below_on b4 b5 b4.size) B3.size
      go_wp2_with fail
      go_ret
      exact ⟨rfl, B5⟩
    | true =>
      rw [hb2] at iV2
      have IV1 := Lib.hid iV1
      have IV2 := Lib.hid iV2
      obtain ⟨hin, hp32, hvp⟩ := verB_get hb1
      obtain ⟨-, hq32, hvq⟩ := verB_get hb2
      clear iV1 iV2 hb1 hb2
      by_cases hst : S = T
      · have hc := bsEq_true hst
        clear hst hvp hvq
        go_wp2_with fail
        refine (IV1.out _ (Below.refl _ _)).mono ?_
        rintro e w4 ⟨rfl, b4⟩
        go_wp2_with fail
        refine (IV2.out _ b4).mono ?_
        rintro e w5 ⟨rfl, b5⟩
        have B5 := below_on B3 (below_on b4 b5 b4.size) B3.size
        go_wp2_with fail
        go_ret
        exact ⟨rfl, B5⟩
      · have hc := bsEq_false hst
        obtain ⟨N, rfl⟩ := Int.eq_ofNat_of_zero_le (show 0 ≤ n by omega)
        obtain ⟨I, rfl⟩ := Int.eq_ofNat_of_zero_le (show 0 ≤ i by omega)
        rw [Int.toNat_natCast, Int.toNat_natCast] at hvp hvq
        have hit := Tr.binds dig dig_len P.reverse Q.reverse N I (by omega) S T r hst hvp hvq
        have hwp := way_lens P.reverse N I S hSl (fun x hx => hp32 x (List.mem_reverse.1 hx))
        have hwq := way_lens Q.reverse N I T hTl (fun x hx => hq32 x (List.mem_reverse.1 hx))
        have iW : ∀ W, Below w3.heap.size w3 W → Calls Tryd.prog 34 #[.int .i64 (N : Int), .int .i64 (I : Int), .string (bs S), .slice a np c] W (GivesW (Tr.way dig N I S P.reverse) r W) := fun W hb =>
          way_at np P a np c N I S r W (Nat.le_refl _) (HI1.out.later hb) hp32 (by omega) hSl (by omega) (by omega) (by omega) hvp (h.below (below_on B3 hb B3.size))
        have iW' : ∀ W, Below w3.heap.size w3 W → Calls Tryd.prog 34 #[.int .i64 (N : Int), .int .i64 (I : Int), .string (bs T), .slice a' nq c'] W (GivesW (Tr.way dig N I T Q.reverse) r W) := fun W hb =>
          way_at nq Q a' nq c' N I T r W (Nat.le_refl _) (HJ1.out.later hb) hq32 (by omega) hTl (by omega) (by omega) (by omega) hvq (h.below (below_on B3 hb B3.size))
        obtain ⟨X, hX⟩ : ∃ X, Tr.way dig N I S P.reverse = X := ⟨_, rfl⟩
        obtain ⟨Y, hY⟩ : ∃ Y, Tr.way dig N I T Q.reverse = Y := ⟨_, rfl⟩
        rw [hX] at iW hit hwp
        rw [hY] at iW' hit hwq
        have IW := Lib.hid iW
        have IW2 := Lib.hid iW'
        have HIT := Lib.hid hit
        have WP := Lib.hid hwp
        have WQ := Lib.hid hwq
        clear iW iW' hit hwp hwq hX hY hvp hvq hst
        go_wp2_with fail
        refine (IV1.out _ (Below.refl _ _)).mono ?_
        rintro e w4 ⟨rfl, b4⟩
        go_wp2_with fail
        refine (IV2.out _ b4).mono ?_
        rintro e w5 ⟨rfl, b5⟩
        have B5 := below_on b4 b5 b4.size
        clear b4 b5
        go_wp2_with fail
        refine (IW.out _ B5).mono ?_
        rintro e w6 ⟨u, rfl, ho, b6⟩
        have B6 := below_on B5 b6 B5.size
        obtain ⟨a6, c6, rfl, hi6, -⟩ := ho.is
        have HI6 := Lib.hid hi6
        clear ho hi6 b6
        go_wp2_with fail
        refine (IW2.out _ B6).mono ?_
        rintro e w7 ⟨u, rfl, ho, b7⟩
        have B7 := below_on B6 b7 B6.size
        obtain ⟨a7, c7, rfl, hi7, -⟩ := ho.is
        have HI7 := Lib.hid hi7
        have HI8 := Lib.hid (HI6.out.later b7)
        clear ho hi7 b7
        have BB := below_on B3 B7 B3.size
        go_wp2_with fail
        refine (collide_any X Y a6 a7 X.length c6 Y.length c7 w7 HI8.out HI7.out WP.out WQ.out HIT.out (h.below BB)).mono ?_
        rintro e w8 ⟨rfl, b8⟩
        go_wp2_with fail
        go_ret
        exact ⟨rfl, below_on BB b8 BB.size⟩

end Go.Proofs.YthlngcjenmcbkaaDoor
