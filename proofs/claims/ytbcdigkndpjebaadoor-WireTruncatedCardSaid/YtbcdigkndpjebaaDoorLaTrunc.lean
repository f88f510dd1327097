/-
  The law WireTruncated: proper prefixes of encodings are refused, and the walk.
-/
import Derived.Test.YtbcdigkndpjebaaDoorLaUniq
namespace Go.Proofs.YtbcdigkndpjebaaDoor
open Go.RowKit

theorem intB_take (n : Int) (j : Nat) (hj : j < (encI n).length) : intB (nb ((encI n).take j)) 0 = (0, 0, 10) := by
  have hd : M1.dec true 9 ((nb ((encI n).take j)).drop (Int.toNat 0)) = none := by
    rw [show Int.toNat 0 = 0 from rfl, List.drop_zero]
    unfold nb encI
    rw [List.map_take, show (lebU (fo n).toNat).map UInt8.toNat = nb (lebU (fo n).toNat) from rfl, nb_lebU]
    exact M1.dec_take true 9 _ j (by simpa [encI, lebU] using hj)
  unfold intB
  have hn : numB ((nb ((encI n).take j)).drop (Int.toNat 0)) = (0, 0) := by unfold numB; rw [hd]; rfl
  rw [if_neg (by omega), hn]
  rfl

theorem strB_take (t : List UInt8) (ht : t.length ≤ 65536) (j : Nat) (hj : j < (encI t.length ++ t).length) : strB ((encI t.length ++ t).take j) 0 = ([], 0, 10) := by
  rcases Nat.lt_or_ge j (encI t.length).length with h | h
  · unfold strB
    rw [List.take_append_of_le_length (by omega), intB_take _ _ h]
    rfl
  · rw [List.take_append, List.take_of_length_le h]
    have hi := intB_enc (n := (t.length : Int)) (by omega) (by omega) [] (t.take (j - (encI t.length).length))
    simp only [List.nil_append, List.length_nil] at hi
    unfold strB
    rw [show ((0 : Nat) : Int) = 0 from rfl] at hi
    rw [hi]
    simp only
    rw [if_neg (by simp), if_pos]
    right; right
    rw [List.length_append] at hj
    simp only [List.length_append, List.length_take]
    omega

theorem encI_prefix {a b : Int} (a1 : -4611686018427387903 ≤ a) (a2 : a ≤ 4611686018427387903) (b1 : -4611686018427387903 ≤ b) (b2 : b ≤ 4611686018427387903)
    (h : (encI b).take (encI a).length = encI a) : a = b := by
  have e1 := intB_enc a1 a2 [] ((encI b).drop (encI a).length)
  have e2 := intB_enc b1 b2 [] []
  have hb : encI a ++ (encI b).drop (encI a).length = encI b := by
    conv => lhs; arg 1; rw [← h]
    exact List.take_append_drop _ _
  simp only [List.nil_append, List.append_nil] at e1 e2
  rw [hb, e2] at e1
  exact (Prod.mk.inj e1).1.symm

set_option maxRecDepth 100000 in
set_option maxHeartbeats 1000000 in
theorem Truncated_any (c d at_ : Int) (s : ByteArray) (w : World) (h : TabAt w) (c1 : -9223372036854775808 ≤ c) (c2 : c ≤ 9223372036854775807) (d1 : -9223372036854775808 ≤ d) (d2 : d ≤ 9223372036854775807)
    (p1 : -9223372036854775808 ≤ at_) (p2 : at_ ≤ 9223372036854775807) :
    Calls Tryd.prog 7 #[.int .i64 c, .int .i64 d, .string s, .int .i64 at_] w fun e w' => e = .returned (.bool true) ∧ Below w.heap.size w w' := by
  obtain ⟨m0, t, ⟨m0a, m0b⟩, x0, l0, e0, -⟩ := cut_string s 200
  have r0 := fun w ts ty => min_run (P := Tryd.prog) s.size 200 m0 e0 200 rfl w ts ty
  have ht : t.length ≤ 200 := by omega
  clear e0 l0
  have hsz : ∀ l, (bs l).size = l.length := bs_size
  go_enter Tryd.func7, Tryd.ntmps7
  go_wp2_with fail
  refine (sane_any _ h).mono ?_
  rintro e w1 ⟨rfl, B1⟩
  go_wp2_with fail
  refine (NumberFrom_any c _ c1 c2).mono ?_
  rintro e w2 ⟨rfl, b2⟩
  have B2 := below_on B1 b2 B1.size; clear b2 B1
  obtain ⟨n1, n2⟩ := nf_bd c
  obtain ⟨n3, n4⟩ := nf_bd d
  obtain ⟨n, hn⟩ : ∃ n, nf c = n := ⟨_, rfl⟩
  obtain ⟨m, hm⟩ : ∃ m, nf d = m := ⟨_, rfl⟩
  rw [hn] at n1 n2 ⊢
  rw [hm] at n3 n4
  have Hn := Lib.hid hn; clear hn
  have Hm := Lib.hid hm; clear hm
  go_wp2_with fail
  refine (PutInt_at n _ (by omega) (by omega)).mono ?_
  rintro e w3 ⟨rfl, b3⟩
  have B3 := below_on B2 b3 B2.size; clear b3 B2
  go_wp2_with fail
  refine (NumberFrom_any d _ d1 d2).mono ?_
  rintro e w4 ⟨rfl, b4⟩
  have B4 := below_on B3 b4 B3.size; clear b4 B3
  rw [Hm.out]
  go_wp2_with fail
  refine (PutInt_at m _ (by omega) (by omega)).mono ?_
  rintro e w5 ⟨rfl, b5⟩
  have B5 := below_on B4 b5 B4.size; clear b5 B4
  go_wp2_with fail
  refine (PutString_at t (by omega) _).mono ?_
  rintro e w6 ⟨rfl, b6⟩
  have B6 := below_on B5 b6 B5.size; clear b6 B5 x0 r0
  obtain ⟨k1, k2⟩ := encI_length n
  obtain ⟨k3, k4⟩ := encI_length m
  obtain ⟨k5, k6⟩ := encI_length t.length
  obtain ⟨T, hT⟩ : ∃ T, T = encI t.length ++ t := ⟨_, rfl⟩
  have hTl : T.length = (encI t.length).length + t.length := by rw [hT, List.length_append]
  have hT1 : 1 ≤ T.length := by omega
  have hT2 : T.length ≤ 209 := by omega
  clear hTl
  rw [← hT]
  have HT := Lib.hid hT
  clear hT
  have u1 : (((encI n).length : Int) == 0) = false := beq_eq_false_iff_ne.2 (by omega)
  have u2 : ((T.length : Int) == 0) = false := beq_eq_false_iff_ne.2 (by omega)
  obtain ⟨j1, hj1, v1⟩ : ∃ j : Nat, pk at_ ((encI n).length : Int) = j ∧ j < (encI n).length := ⟨(pk at_ ((encI n).length : Int)).toNat, by have := pk_bd at_ (n := ((encI n).length : Int)) (by omega); omega⟩
  obtain ⟨j2, hj2, v2⟩ : ∃ j : Nat, pk at_ (T.length : Int) = j ∧ j < T.length := ⟨(pk at_ (T.length : Int)).toNat, by have := pk_bd at_ (n := (T.length : Int)) (by omega); omega⟩
  have y1 := intB_take n j1 v1
  have y2 := strB_take t (by omega) j2 (by rw [← HT.out]; exact v2)
  rw [← HT.out] at y2
  have X1 : (bs (encI n)).extract 0 j1 = bs ((encI n).take j1) := extract_bs _ _ _ _ rfl
  have X2 : (bs T).extract 0 j2 = bs (T.take j2) := extract_bs _ _ _ _ rfl
  have Y1 := Lib.hid y1; clear y1
  have Y2 := Lib.hid y2; clear y2
  go_wp2_with fail
  refine (pick_any _ _ _ p1 p2 (by omega) (by omega)).mono ?_
  rintro e w7 ⟨rfl, rfl⟩
  rw [hj1]; clear hj1
  go_wp2_with fail
  refine (Int_is _ 0 _ _ _ Y1.out _ (by unfold maxLen; rw [List.length_take]; omega) (by omega) (by omega)).mono ?_
  rintro e w7 ⟨rfl, rfl⟩
  go_wp2_with fail
  refine (pick_any _ _ _ p1 p2 (by omega) (by omega)).mono ?_
  rintro e w7 ⟨rfl, rfl⟩
  rw [hj2]; clear hj2
  go_wp2_with fail
  refine (String_is _ 0 _ _ _ Y2.out _ (by unfold maxLen; rw [List.length_take]; omega) (by omega) (by omega)).mono ?_
  rintro e w7 ⟨rfl, rfl⟩
  by_cases hnm : n = m
  · subst hnm
    have X3 : (bs (encI n)).extract 0 (encI n).length = bs (encI n) := extract_bs _ _ _ _ (by simp)
    go_wp2_with fail
    refine (NumberFrom_any c _ c1 c2).mono ?_
    rintro e w8 ⟨rfl, b8⟩
    have B8 := below_on B6 b8 B6.size; clear b8 B6
    rw [Hn.out]
    go_wp2_with fail
    refine (NumberFrom_any d _ d1 d2).mono ?_
    rintro e w9 ⟨rfl, b9⟩
    have B9 := below_on B8 b9 B8.size; clear b9 B8
    rw [Hm.out]
    go_wp2_with fail
    go_ret
    exact ⟨rfl, B9⟩
  · have X3 : (bs (encI m)).extract 0 (encI n).length = bs ((encI m).take (encI n).length) := extract_bs _ _ _ _ rfl
    have X4 : ((bs ((encI m).take (encI n).length)).toList == (bs (encI n)).toList) = false := by
      rw [bs_toList, bs_toList]
      exact beq_eq_false_iff_ne.2 fun e => hnm (encI_prefix (by omega) (by omega) (by omega) (by omega) e)
    have X5 : (n == m) = false := beq_eq_false_iff_ne.2 hnm
    clear hnm
    rcases Nat.lt_or_ge (encI m).length (encI n).length with hl | hl
    all_goals
      go_wp2_with fail
      refine (NumberFrom_any c _ c1 c2).mono ?_
      rintro e w8 ⟨rfl, b8⟩
      have B8 := below_on B6 b8 B6.size; clear b8 B6
      rw [Hn.out]
      go_wp2_with fail
      refine (NumberFrom_any d _ d1 d2).mono ?_
      rintro e w9 ⟨rfl, b9⟩
      have B9 := below_on B8 b9 B8.size; clear b9 B8
      rw [Hm.out]
      go_wp2_with fail
      go_ret
      exact ⟨rfl, B9⟩

end Go.Proofs.YtbcdigkndpjebaaDoor
