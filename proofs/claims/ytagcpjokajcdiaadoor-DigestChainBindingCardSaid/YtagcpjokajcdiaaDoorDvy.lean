/-
  Package digest: Verify.
-/
import Derived.Test.YtagcpjokajcdiaaDoorDvf
namespace Go.Proofs.YtagcpjokajcdiaaDoor
open Go.RowKit Bs

theorem bsEq_true {v u : List UInt8} (h : v = u) : ((bs v).toList == (bs u).toList) = true := by subst h; simp
theorem bsEq_false {v u : List UInt8} (h : v ≠ u) : ((bs v).toList == (bs u).toList) = false := by
  rw [bs_toList, bs_toList, beq_eq_false_iff_ne]; exact h
/-- what Verify answers -/
def verB (root : List UInt8) (n i : Int) (s : List UInt8) (p : Strs) : Bool := decide (0 ≤ i ∧ i < n) && (digB p && decide (Tr.val dig n.toNat i.toNat s p.reverse = some root))
theorem verB_out {root : List UInt8} {n i : Int} {s : List UInt8} {p : Strs} (h : ¬ (0 ≤ i ∧ i < n)) : verB root n i s p = false := by unfold verB; rw [decide_eq_false h]; rfl
theorem verB_dig {root : List UInt8} {n i : Int} {s : List UInt8} {p : Strs} (h : digB p = false) : verB root n i s p = false := by unfold verB; rw [h]; simp
theorem verB_val {root : List UInt8} {n i : Int} {s : List UInt8} {p : Strs} (h1 : 0 ≤ i ∧ i < n) (h2 : digB p = true) : verB root n i s p = decide (Tr.val dig n.toNat i.toNat s p.reverse = some root) := by
  unfold verB; rw [decide_eq_true h1, h2]; rfl

set_option maxRecDepth 100000 in
set_option maxHeartbeats 1000000 in
theorem Verify_any (root : List UInt8) (n i : Int) (s : List UInt8) (p : Strs) (a : Option Addr) (np c : Nat) (w : World) (hL : IsL w a np c p) (hp : ∀ x ∈ p, x.length ≤ maxLen) (hs : s.length ≤ 900000)
    (n1 : -9223372036854775808 ≤ n) (n2 : n ≤ 9223372036854775807) (i1 : -9223372036854775808 ≤ i) (i2 : i ≤ 9223372036854775807) (hK : KAt w) :
    Calls Tryd.prog 14 #[.string (bs root), .int .i64 n, .int .i64 i, .string (bs s), .slice a np c] w fun e w' => e = .returned (.bool (verB root n i s p)) ∧ Below w.heap.size w w' := by
  by_cases h0 : i < 0
  · have HV := Lib.hid (verB_out (root := root) (n := n) (i := i) (s := s) (p := p) (by omega))
    clear hL hp hs
    go_enter Tryd.func14, Tryd.ntmps14
    go_wp2_with fail
    go_ret
    exact ⟨by rw [HV.out]; rfl, Below.refl _ _⟩
  · by_cases h1 : n ≤ i
    · have HV := Lib.hid (verB_out (root := root) (n := n) (i := i) (s := s) (p := p) (by omega))
      clear hL hp hs
      go_enter Tryd.func14, Tryd.ntmps14
      go_wp2_with fail
      go_ret
      exact ⟨by rw [HV.out]; rfl, Below.refl _ _⟩
    · have hd := areDigests_any p a np c w hL hp
      cases hdig : digB p with
      | false =>
        have HV := Lib.hid (verB_dig (root := root) (n := n) (i := i) (s := s) (p := p) hdig)
        rw [hdig] at hd
        clear hL hp hs hdig
        go_enter Tryd.func14, Tryd.ntmps14
        go_wp2_with fail
        refine hd.mono ?_
        rintro e w' ⟨rfl, rfl⟩
        go_wp2_with fail
        go_ret
        exact ⟨by rw [HV.out]; rfl, Below.refl _ _⟩
      | true =>
        have hvv := verB_val (root := root) (n := n) (i := i) (s := s) (p := p) (by omega) hdig
        rw [hdig] at hd
        have h32 := digB_true hdig
        obtain ⟨N, rfl⟩ := Int.eq_ofNat_of_zero_le (show 0 ≤ n by omega)
        obtain ⟨I, rfl⟩ := Int.eq_ofNat_of_zero_le (show 0 ≤ i by omega)
        rw [Int.toNat_natCast, Int.toNat_natCast] at hvv
        have hlf := Leaf_any s w hK hs
        have iV : ∀ W, Below w.heap.size w W → Calls Tryd.prog 24 #[.int .i64 (N : Int), .int .i64 (I : Int), .string (bs (dig (0 :: s))), .slice a np c] W (GivesV (Tr.val dig N I s p.reverse) W) := fun W hb =>
          value_at np p a np c N I s W (Nat.le_refl _) (hL.later hb) h32 (by omega) (by omega) (by omega) (hK.below hb)
        obtain ⟨o, ho⟩ : ∃ o, Tr.val dig N I s p.reverse = o := ⟨_, rfl⟩
        rw [ho] at iV hvv
        have IV := Lib.hid iV
        have HV := Lib.hid hvv
        clear hL hp hs hdig h32 iV hvv ho
        go_enter Tryd.func14, Tryd.ntmps14
        go_wp2_with fail
        refine hd.mono ?_
        rintro e w' ⟨rfl, rfl⟩
        go_wp2_with fail
        refine hlf.mono ?_
        rintro e w1 ⟨rfl, hb1⟩
        go_wp2_with fail
        refine (IV.out _ hb1).mono ?_
        rintro e w2 ⟨v, hv32, hvu, rfl, hb2⟩
        have hb3 := below_on hb1 hb2 hb1.size
        cases o with
        | none =>
          clear hvu
          go_wp2_with fail
          go_ret
          exact ⟨by rw [HV.out]; rfl, hb3⟩
        | some u =>
          have hvu2 := hvu u rfl
          subst hvu2
          clear hvu
          by_cases hr : v = root
          · have hc := bsEq_true hr
            have HD := Lib.hid (show decide (some v = some root) = true by simp [hr])
            clear hr
            go_wp2_with fail
            go_ret
            exact ⟨by rw [HV.out, HD.out]; rfl, hb3⟩
          · have hc := bsEq_false hr
            have HD := Lib.hid (show decide (some v = some root) = false by simp [hr])
            clear hr
            go_wp2_with fail
            go_ret
            exact ⟨by rw [HV.out, HD.out]; rfl, hb3⟩

end Go.Proofs.YtagcpjokajcdiaaDoor
