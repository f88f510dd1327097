/-
  The reference implementation of layer 2: VerifyExtension.
-/
import Derived.Test.YthlngcjenmcbkaaDoorRbo
namespace Go.Proofs.YthlngcjenmcbkaaDoor
open Go.RowKit Bs

set_option maxRecDepth 100000 in
set_option maxHeartbeats 2000000 in
theorem refVerifyExt_any (old root : List UInt8) (m n : Int) (p : Strs) (a : Option Addr) (np c : Nat) (w : World) (hL : IsL w a np c p) (hp : ∀ x ∈ p, x.length ≤ maxLen) (ho : old.length ≤ maxLen) (hr : root.length ≤ maxLen)
    (n1 : -9223372036854775808 ≤ n) (n2 : n ≤ 9223372036854775807) (m1 : -9223372036854775808 ≤ m) (m2 : m ≤ 9223372036854775807) :
    Calls Tryd.prog 32 #[.string (bs old), .int .i64 m, .string (bs root), .int .i64 n, .slice a np c] w fun e w' => e = .returned (.bool (extB old m root n p)) ∧ Below w.heap.size w w' := by
  have hd := refDigests_any p a np c w hL hp
  have sz1 := bs_size old
  have sz2 := bs_size root
  unfold maxLen at ho hr
  by_cases h0 : m < 0
  · have HV := Lib.hid (extB_out (old := old) (root := root) (n := n) (m := m) (p := p) (by omega))
    clear hL hp
    obtain ⟨D, hD⟩ : ∃ D, digB p = D := ⟨_, rfl⟩
    rw [hD] at hd
    clear hD
    go_enter Tryd.func32, Tryd.ntmps32
    go_wp2_with fail
    refine hd.mono ?_
    rintro e w' ⟨rfl, rfl⟩
    go_wp2_with fail
    go_ret
    exact ⟨by rw [HV.out]; rfl, Below.refl _ _⟩
  · by_cases h1 : n < m
    · have HV := Lib.hid (extB_out (old := old) (root := root) (n := n) (m := m) (p := p) (by omega))
      clear hL hp
      obtain ⟨D, hD⟩ : ∃ D, digB p = D := ⟨_, rfl⟩
      rw [hD] at hd
      clear hD
      go_enter Tryd.func32, Tryd.ntmps32
      go_wp2_with fail
      refine hd.mono ?_
      rintro e w' ⟨rfl, rfl⟩
      go_wp2_with fail
      go_ret
      exact ⟨by rw [HV.out]; rfl, Below.refl _ _⟩
    · have h2 : decide (n < m) = false := decide_eq_false h1
      cases hdig : digB p with
      | false =>
        have HV := Lib.hid (extB_dig (old := old) (root := root) (n := n) (m := m) (p := p) hdig)
        rw [hdig] at hd
        clear hL hp hdig
        go_enter Tryd.func32, Tryd.ntmps32
        go_wp2_with fail
        refine hd.mono ?_
        rintro e w' ⟨rfl, rfl⟩
        go_wp2_with fail
        go_ret
        exact ⟨by rw [HV.out]; rfl, Below.refl _ _⟩
      | true =>
        rw [hdig] at hd
        by_cases ho32 : old.length = 32
        · by_cases hr32 : root.length = 32
          · have hdig2 : digB [old, root] = true := digB_of (by intro s hs; simp at hs; rcases hs with rfl | rfl <;> assumption)
            have hvv := extB_val (old := old) (root := root) (n := n) (m := m) (p := p) (by omega) hdig2 hdig
            have h32 := digB_true hdig
            rw [ho32] at sz1
            rw [hr32] at sz2
            have HR32 := Lib.hid hr32
            clear hr32
            by_cases e0 : m = 0
            · subst e0
              rw [if_pos rfl] at hvv
              rcases Nat.eq_zero_or_pos np with hnp | hnp
              · subst hnp
                obtain rfl : p = [] := List.length_eq_zero_iff.1 hL.len
                have hrn := refSum_any2 [] w (by simp)
                rw [show ub (Sha.sha (nb [])) = dig [] from rfl] at hrn
                by_cases hc : old = dig []
                · have hcc := bsEq_true hc
                  have HV := Lib.hid (show extB old 0 root n [] = true by rw [hvv]; simp [hc])
                  obtain ⟨d, hd0⟩ : ∃ d, dig [] = d := ⟨_, rfl⟩
                  rw [hd0] at hcc hrn
                  clear hL hp hdig2 hdig ho hr hvv h32 ho32 hc hd0
                  go_enter Tryd.func32, Tryd.ntmps32
                  go_wp2_with fail
                  refine hd.mono ?_
                  rintro e w' ⟨rfl, rfl⟩
                  go_wp2_with fail
                  refine hrn.mono ?_
                  rintro e w2 ⟨rfl, hb2⟩
                  go_wp2_with fail
                  go_ret
                  exact ⟨by rw [HV.out]; rfl, hb2⟩
                · have hcc := bsEq_false hc
                  have HV := Lib.hid (show extB old 0 root n [] = false by rw [hvv]; simp [hc])
                  obtain ⟨d, hd0⟩ : ∃ d, dig [] = d := ⟨_, rfl⟩
                  rw [hd0] at hcc hrn
                  clear hL hp hdig2 hdig ho hr hvv h32 ho32 hc hd0
                  go_enter Tryd.func32, Tryd.ntmps32
                  go_wp2_with fail
                  refine hd.mono ?_
                  rintro e w' ⟨rfl, rfl⟩
                  go_wp2_with fail
                  refine hrn.mono ?_
                  rintro e w2 ⟨rfl, hb2⟩
                  go_wp2_with fail
                  go_ret
                  exact ⟨by rw [HV.out]; rfl, hb2⟩
              · have hpn : p ≠ [] := by intro e; have := hL.len; rw [e] at this; simp at this; omega
                have HV := Lib.hid (show extB old 0 root n p = false by rw [hvv]; simp [hpn])
                have e5 : ((np : Int) == 0) = false := by rw [beq_eq_false_iff_ne]; omega
                clear hL hp hdig2 hdig ho hr hvv h32 ho32 hpn
                go_enter Tryd.func32, Tryd.ntmps32
                go_wp2_with fail
                refine hd.mono ?_
                rintro e w' ⟨rfl, rfl⟩
                go_wp2_with fail
                go_ret
                exact ⟨by rw [HV.out]; rfl, Below.refl _ _⟩
            · rw [if_neg e0] at hvv
              have e5 : (m == 0) = false := by rw [beq_eq_false_iff_ne]; exact e0
              obtain ⟨M, rfl⟩ := Int.eq_ofNat_of_zero_le (show 0 ≤ m by omega)
              obtain ⟨N, rfl⟩ := Int.eq_ofNat_of_zero_le (show 0 ≤ n by omega)
              rw [Int.toNat_natCast, Int.toNat_natCast] at hvv
              by_cases hMN : M = N
              · subst hMN
                rcases Nat.eq_zero_or_pos np with hnp | hnp
                · subst hnp
                  obtain rfl : p = [] := List.length_eq_zero_iff.1 hL.len
                  rw [show ([] : Strs).reverse = [] from rfl, two_nil, if_pos ⟨rfl, rfl⟩] at hvv
                  by_cases hc : old = root
                  · have hcc := bsEq_true hc
                    have HV := Lib.hid (show extB old M root M [] = true by rw [hvv]; simp [hc])
                    clear hL hp hdig2 hdig ho hr hvv h32 ho32 hc e0
                    go_enter Tryd.func32, Tryd.ntmps32
                    go_wp2_with fail
                    refine hd.mono ?_
                    rintro e w' ⟨rfl, rfl⟩
                    go_wp2_with fail
                    go_ret
                    exact ⟨by rw [HV.out]; rfl, Below.refl _ _⟩
                  · have hcc := bsEq_false hc
                    have HV := Lib.hid (show extB old M root M [] = false by rw [hvv]; simp [hc])
                    clear hL hp hdig2 hdig ho hr hvv h32 ho32 hc e0
                    go_enter Tryd.func32, Tryd.ntmps32
                    go_wp2_with fail
                    refine hd.mono ?_
                    rintro e w' ⟨rfl, rfl⟩
                    go_wp2_with fail
                    go_ret
                    exact ⟨by rw [HV.out]; rfl, Below.refl _ _⟩
                · obtain ⟨r, rfl⟩ : ∃ r, np = r + 1 := ⟨np - 1, by omega⟩
                  obtain ⟨q, x, rfl, hq⟩ := snoc_of hL.len
                  rw [show (q ++ [x]).reverse = x :: q.reverse by simp, two_cons, if_pos rfl, if_neg (by simp)] at hvv
                  have HV := Lib.hid (show extB old M root M (q ++ [x]) = false by rw [hvv]; simp)
                  have e6 : (((r : Nat) : Int) + 1 == 0) = false := by rw [beq_eq_false_iff_ne]; omega
                  clear hL hp hdig2 hdig ho hr hvv h32 ho32 e0
                  go_enter Tryd.func32, Tryd.ntmps32
                  go_wp2_with fail
                  refine hd.mono ?_
                  rintro e w' ⟨rfl, rfl⟩
                  go_wp2_with fail
                  go_ret
                  exact ⟨by rw [HV.out]; rfl, Below.refl _ _⟩
              · have e7 : ((M : Int) == (N : Int)) = false := by rw [beq_eq_false_iff_ne]; omega
                have hv := refBoth_at np p a np c M N old true w (Nat.le_refl _) hL h32 ho32 (by omega) (by omega) (by omega)
                obtain ⟨o, hoo⟩ : ∃ o, Tr.two dig M N old true p.reverse = o := ⟨_, rfl⟩
                rw [hoo] at hv hvv
                have IV := Lib.hid hv
                have HV := Lib.hid hvv
                clear hL hp hdig2 hdig ho hr hvv h32 ho32 hv hoo e0 hMN
                go_enter Tryd.func32, Tryd.ntmps32
                go_wp2_with fail
                refine hd.mono ?_
                rintro e w' ⟨rfl, rfl⟩
                go_wp2_with fail
                refine IV.out.mono ?_
                rintro e w2 ⟨v, u, hv32, hu32, hvu, rfl, hb3⟩
                cases o with
                | none =>
                  clear hvu
                  go_wp2_with fail
                  go_ret
                  exact ⟨by rw [HV.out]; rfl, hb3⟩
                | some z =>
                  obtain ⟨z1, z2⟩ := z
                  obtain ⟨rfl, rfl⟩ := hvu _ rfl
                  clear hvu
                  by_cases c1 : v = old
                  · by_cases c2 : u = root
                    · have q1 := bsEq_true c1
                      have q2 := bsEq_true c2
                      have HD := Lib.hid (show decide (some (v, u) = some (old, root)) = true by simp [c1, c2])
                      clear c1 c2
                      go_wp2_with fail
                      go_ret
                      exact ⟨by rw [HV.out, HD.out]; rfl, hb3⟩
                    · have q1 := bsEq_true c1
                      have q2 := bsEq_false c2
                      have HD := Lib.hid (show decide (some (v, u) = some (old, root)) = false by simp [c2])
                      clear c1 c2
                      go_wp2_with fail
                      go_ret
                      exact ⟨by rw [HV.out, HD.out]; rfl, hb3⟩
                  · have q1 := bsEq_false c1
                    have HD := Lib.hid (show decide (some (v, u) = some (old, root)) = false by simp [c1])
                    clear c1
                    go_wp2_with fail
                    go_ret
                    exact ⟨by rw [HV.out, HD.out]; rfl, hb3⟩
          · have HV := Lib.hid (extB_two (old := old) (root := root) (n := n) (m := m) (p := p) (digB_false 1 (by simp) hr32))
            have e8 : ((root.length : Int) != 32) = true := by rw [bne_iff_ne]; omega
            have sz1' : (bs old).size = 32 := by rw [sz1, ho32]
            clear hL hp hdig sz1 ho32
            go_enter Tryd.func32, Tryd.ntmps32
            go_wp2_with fail
            refine hd.mono ?_
            rintro e w' ⟨rfl, rfl⟩
            go_wp2_with fail
            go_ret
            exact ⟨by rw [HV.out]; rfl, Below.refl _ _⟩
        · have HV := Lib.hid (extB_two (old := old) (root := root) (n := n) (m := m) (p := p) (digB_false 0 (by simp) ho32))
          have e8 : ((old.length : Int) != 32) = true := by rw [bne_iff_ne]; omega
          clear hL hp hdig
          go_enter Tryd.func32, Tryd.ntmps32
          go_wp2_with fail
          refine hd.mono ?_
          rintro e w' ⟨rfl, rfl⟩
          go_wp2_with fail
          go_ret
          exact ⟨by rw [HV.out]; rfl, Below.refl _ _⟩

end Go.Proofs.YthlngcjenmcbkaaDoor
