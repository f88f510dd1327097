/-
  The reference implementation of layer 2: Verify.
-/
import Derived.Test.YthlngcjenmcbkaaDoorRva
import Derived.Test.YthlngcjenmcbkaaDoorDvy
namespace Go.Proofs.YthlngcjenmcbkaaDoor
open Go.RowKit Bs

set_option maxRecDepth 100000 in
set_option maxHeartbeats 1000000 in
theorem refVerify_any (root : List UInt8) (n i : Int) (s : List UInt8) (p : Strs) (a : Option Addr) (np c : Nat) (w : World) (hL : IsL w a np c p) (hp : ∀ x ∈ p, x.length ≤ maxLen) (hs : s.length ≤ 900000)
    (n1 : -9223372036854775808 ≤ n) (n2 : n ≤ 9223372036854775807) (i1 : -9223372036854775808 ≤ i) (i2 : i ≤ 9223372036854775807) :
    Calls Tryd.prog 30 #[.string (bs root), .int .i64 n, .int .i64 i, .string (bs s), .slice a np c] w fun e w' => e = .returned (.bool (verB root n i s p)) ∧ Below w.heap.size w w' := by
  have hd := refDigests_any p a np c w hL hp
  by_cases h0 : i < 0
  · have HV := Lib.hid (verB_out (root := root) (n := n) (i := i) (s := s) (p := p) (by omega))
    clear hL hp hs
    obtain ⟨D, hD⟩ : ∃ D, digB p = D := ⟨_, rfl⟩
    rw [hD] at hd
    clear hD
    go_enter Tryd.func30, Tryd.ntmps30
    go_wp2_with fail
    refine hd.mono ?_
    rintro e w' ⟨rfl, rfl⟩
    go_wp2_with fail
    go_ret
    exact ⟨by rw [HV.out]; rfl, Below.refl _ _⟩
  · by_cases h1 : n ≤ i
    · have HV := Lib.hid (verB_out (root := root) (n := n) (i := i) (s := s) (p := p) (by omega))
      clear hL hp hs
      obtain ⟨D, hD⟩ : ∃ D, digB p = D := ⟨_, rfl⟩
      rw [hD] at hd
      clear hD
      go_enter Tryd.func30, Tryd.ntmps30
      go_wp2_with fail
      refine hd.mono ?_
      rintro e w' ⟨rfl, rfl⟩
      go_wp2_with fail
      go_ret
      exact ⟨by rw [HV.out]; rfl, Below.refl _ _⟩
    · have h2 : ¬ (n ≤ i) := h1
      have h3 : decide (n ≤ i) = false := decide_eq_false h1
      cases hdig : digB p with
      | false =>
        have HV := Lib.hid (verB_dig (root := root) (n := n) (i := i) (s := s) (p := p) hdig)
        rw [hdig] at hd
        clear hL hp hs hdig
        go_enter Tryd.func30, Tryd.ntmps30
        go_wp2_with fail
        refine hd.mono ?_
        rintro e w' ⟨rfl, rfl⟩
        go_wp2_with fail
        go_ret
        exact ⟨by rw [HV.out]; rfl, Below.refl _ _⟩
      | true =>
        have hvv := verB_val (root := root) (n := n) (i := i) (s := s) (p := p) (by omega) hdig
        rw [hdig] at hd
        have h32 := digB_true hdig
        obtain ⟨N, rfl⟩ := Int.eq_ofNat_of_zero_le (show 0 ≤ n by omega)
        obtain ⟨I, rfl⟩ := Int.eq_ofNat_of_zero_le (show 0 ≤ i by omega)
        rw [Int.toNat_natCast, Int.toNat_natCast] at hvv
        have iV := refValue_at np p a np c N I s w (Nat.le_refl _) hL h32 hs (by omega) (by omega) (by omega)
        obtain ⟨o, ho⟩ : ∃ o, Tr.val dig N I s p.reverse = o := ⟨_, rfl⟩
        rw [ho] at iV hvv
        have IV := Lib.hid iV
        have HV := Lib.hid hvv
        clear hL hp hs hdig h32 iV hvv ho
        go_enter Tryd.func30, Tryd.ntmps30
        go_wp2_with fail
        refine hd.mono ?_
        rintro e w' ⟨rfl, rfl⟩
        go_wp2_with fail
        refine IV.out.mono ?_
        rintro e w2 ⟨v, hv32, hvu, rfl, hb3⟩
        cases o with
        | none =>
          clear hvu
          go_wp2_with fail
          go_ret
          exact ⟨by rw [HV.out]; rfl, hb3⟩
        | some u =>
          have hvu2 := hvu u rfl
          subst hvu2
          clear hvu
          by_cases hr : v = root
          · have hc := bsEq_true hr
            have HD := Lib.hid (show decide (some v = some root) = true by simp [hr])
            clear hr
            go_wp2_with fail
            go_ret
            exact ⟨by rw [HV.out, HD.out]; rfl, hb3⟩
          · have hc := bsEq_false hr
            have HD := Lib.hid (show decide (some v = some root) = false by simp [hr])
            clear hr
            go_wp2_with fail
            go_ret
            exact ⟨by rw [HV.out, HD.out]; rfl, hb3⟩

end Go.Proofs.YthlngcjenmcbkaaDoor
