/-
  Package digest: values, VerifyExtension.
-/
import Derived.Test.YtagcpjokajcdiaaDoorDvy
namespace Go.Proofs.YtagcpjokajcdiaaDoor
open Go.RowKit Bs

/-- two values that may be there, and whether they are -/
def GivesT (o : Option (List UInt8 × List UInt8)) (w : World) (e : Ending) (w' : World) : Prop :=
  ∃ v u : List UInt8, v.length ≤ 32 ∧ u.length ≤ 32 ∧ (∀ z, o = some z → v = z.1 ∧ u = z.2) ∧ e = .returned (.tuple #[.string (bs v), .string (bs u), .bool o.isSome]) ∧ Below w.heap.size w w'
theorem two_nil (m n : Nat) (old : List UInt8) (b : Bool) : Tr.two dig m n old b [] = if m = n ∧ b = true then some (old, old) else none := by unfold Tr.two; rfl
theorem two_cons (m n : Nat) (old x : List UInt8) (b : Bool) (p : Strs) : Tr.two dig m n old b (x :: p) = if m = n then (if b = false ∧ p = [] then some (x, x) else none)
    else if m ≤ Tr.lft n then (Tr.two dig m (Tr.lft n) old b p).map (fun v => (v.1, Tr.node dig v.2 x)) else (Tr.two dig (m - Tr.lft n) (n - Tr.lft n) old false p).map (fun v => (Tr.node dig x v.1, Tr.node dig x v.2)) := by
  conv => lhs; unfold Tr.two

set_option maxRecDepth 100000 in
set_option maxHeartbeats 1000000 in
theorem values_at (N : Nat) : ∀ (p : Strs) (a : Option Addr) (np c m n : Nat) (old : List UInt8) (b : Bool) (w : World), np ≤ N → IsL w a np c p → (∀ x ∈ p, x.length = 32) → old.length = 32 → 1 ≤ m → m ≤ n → n ≤ 9223372036854775807 → KAt w →
    Calls Tryd.prog 25 #[.string (bs old), .int .i64 (m : Int), .int .i64 (n : Int), .slice a np c, .bool b] w (GivesT (Tr.two dig m n old b p.reverse) w) := by
  induction N with
  | zero =>
    intro p a np c m n old b w hN hL hs ho h1 h2 hn hK
    obtain rfl : np = 0 := by omega
    obtain rfl : p = [] := List.length_eq_zero_iff.1 hL.len
    rw [show ([] : Strs).reverse = [] from rfl, two_nil]
    by_cases e1 : m = n
    · subst e1
      cases b with
      | true =>
        rw [if_pos ⟨rfl, rfl⟩]
        have HO := Lib.hid ho
        clear hL hs ho
        go_enter Tryd.func25, Tryd.ntmps25
        go_wp2_with fail
        go_ret3
        exact ⟨old, old, Nat.le_of_eq HO.out, Nat.le_of_eq HO.out, (fun z h => by cases h; exact ⟨rfl, rfl⟩), rfl, Below.refl _ _⟩
      | false =>
        rw [if_neg (by simp)]
        clear hL hs ho
        go_enter Tryd.func25, Tryd.ntmps25
        go_wp2_with fail
        go_ret3
        exact ⟨[], [], by simp, by simp, (fun z h => by cases h), rfl, Below.refl _ _⟩
    · rw [if_neg (by simp [e1])]
      have e2 : ((m : Int) == (n : Int)) = false := by rw [beq_eq_false_iff_ne]; omega
      clear hL hs ho e1
      go_enter Tryd.func25, Tryd.ntmps25
      go_wp2_with fail
      go_ret3
      exact ⟨[], [], by simp, by simp, (fun z h => by cases h), rfl, Below.refl _ _⟩
  | succ N ih =>
    intro p a np c m n old b w hN hL hs ho h1 h2 hn hK
    rcases Nat.eq_zero_or_pos np with h0 | h0
    · exact ih p a np c m n old b w (by omega) hL hs ho h1 h2 hn hK
    · obtain ⟨r, rfl⟩ : ∃ r, np = r + 1 := ⟨np - 1, by omega⟩
      have hm := Nat.le_trans hL.cap hL.max
      unfold maxLen at hm
      obtain ⟨q, x, rfl, hq⟩ := snoc_of hL.len
      rw [show (q ++ [x]).reverse = x :: q.reverse by simp, two_cons]
      have hx32 : x.length = 32 := hs x (by simp)
      have hwl := withoutLast_any q x a r c w hL
      have e3 : (((r : Nat) : Int) + 1 == 0) = false := by rw [beq_eq_false_iff_ne]; omega
      have HX := Lib.hid hx32
      by_cases e1 : m = n
      · subst e1
        rw [if_pos rfl]
        cases b with
        | true =>
          rw [if_neg (by simp)]
          have HO := Lib.hid ho
          clear hL hs ho ih hwl hx32 hq
          go_enter Tryd.func25, Tryd.ntmps25
          go_wp2_with fail
          go_ret3
          exact ⟨old, old, Nat.le_of_eq HO.out, Nat.le_of_eq HO.out, (fun z h => by cases h), rfl, Below.refl _ _⟩
        | false =>
          by_cases hr : r = 0
          · subst hr
            obtain rfl : q = [] := List.length_eq_zero_iff.1 hq
            rw [if_pos ⟨rfl, rfl⟩]
            clear hL hs ho ih hx32 hq
            go_enter Tryd.func25, Tryd.ntmps25
            go_wp2_with fail
            refine hwl.mono ?_
            rintro e w1 ⟨rfl, kk, rfl⟩
            go_wp2_with fail
            go_ret3
            exact ⟨x, x, Nat.le_of_eq HX.out, Nat.le_of_eq HX.out, (fun z h => by cases h; exact ⟨rfl, rfl⟩), rfl, below_drewN (Below.refl _ _) _⟩
          · have hq0 : q.reverse ≠ [] := by intro e; rw [List.reverse_eq_nil_iff] at e; rw [e] at hq; simp at hq; omega
            rw [if_neg (by simp [hq0])]
            have e4 : ((r : Int) == 0) = false := by rw [beq_eq_false_iff_ne]; omega
            clear hL hs ho ih hx32 hq hq0 hr
            go_enter Tryd.func25, Tryd.ntmps25
            go_wp2_with fail
            refine hwl.mono ?_
            rintro e w1 ⟨rfl, kk, rfl⟩
            go_wp2_with fail
            go_ret3
            exact ⟨x, x, Nat.le_of_eq HX.out, Nat.le_of_eq HX.out, (fun z h => by cases h), rfl, below_drewN (Below.refl _ _) _⟩
      · rw [if_neg e1]
        have e2 : ((m : Int) == (n : Int)) = false := by rw [beq_eq_false_iff_ne]; omega
        have hk := Tr.lft_spec (n := n) (by omega)
        obtain ⟨k, hkk⟩ : ∃ k, Tr.lft n = k := ⟨_, rfl⟩
        have hfp := fun W => firstPart_any n W (by omega) hn
        rw [hkk] at hk ⊢
        simp only [hkk] at hfp
        have hs' : ∀ y ∈ q, y.length = 32 := fun y hy => hs y (by simp [hy])
        have hLi := hL.init
        have HFP := Lib.hid hfp
        by_cases hik : m ≤ k
        · rw [if_pos hik]
          have hif : (m : Int) ≤ (k : Int) := by omega
          have iV : ∀ W, Below w.heap.size w W → Calls Tryd.prog 25 #[.string (bs old), .int .i64 (m : Int), .int .i64 (k : Int), .slice a r c, .bool b] W (GivesT (Tr.two dig m k old b q.reverse) W) := fun W hb =>
            ih q a r c m k old b W (by omega) (hLi.later hb) hs' ho h1 hik (by omega) (hK.below hb)
          obtain ⟨o, hoo⟩ : ∃ o, Tr.two dig m k old b q.reverse = o := ⟨_, rfl⟩
          rw [hoo] at iV ⊢
          have IV := Lib.hid iV
          clear hL hs ih iV hoo ho hfp hx32 hs' hLi e1 hq
          go_enter Tryd.func25, Tryd.ntmps25
          go_wp2_with fail
          refine hwl.mono ?_
          rintro e w1 ⟨rfl, kk, rfl⟩
          go_wp2_with fail
          refine (HFP.out _).mono ?_
          rintro e w1 ⟨rfl, rfl⟩
          go_wp2_with fail
          refine (IV.out _ (below_drewN (Below.refl _ _) _)).mono ?_
          rintro e w2 ⟨v, u, hv32, hu32, hvu, rfl, hb2⟩
          have HVU := Lib.hid hvu
          clear hvu
          go_wp2_with fail
          have hb3 : Below w.heap.size w w2 := (below_drewN (Below.refl w.heap.size w) kk).trans hb2
          refine (Node_any u x _ (hK.below hb3) (by omega) (by have := HX.out; omega)).mono ?_
          rintro e w3 ⟨rfl, hb4⟩
          go_wp2_with fail
          go_ret3
          exact ⟨v, dig (1 :: (u ++ x)), hv32, Nat.le_of_eq (dig_length _), (fun z h => by rw [Option.map_eq_some_iff] at h; obtain ⟨y, hy, rfl⟩ := h; obtain ⟨g1, g2⟩ := HVU.out y hy; exact ⟨g1, by rw [g2]; rfl⟩), by rw [Option.isSome_map]; rfl, below_on hb3 hb4 hb3.size⟩
        · rw [if_neg hik]
          have hif : ¬ (m : Int) ≤ (k : Int) := by omega
          have iV : ∀ W, Below w.heap.size w W → Calls Tryd.prog 25 #[.string (bs old), .int .i64 ((m : Int) - (k : Int)), .int .i64 ((n : Int) - (k : Int)), .slice a r c, .bool false] W (GivesT (Tr.two dig (m - k) (n - k) old false q.reverse) W) := fun W hb => by
            rw [show (n : Int) - (k : Int) = ((n - k : Nat) : Int) by omega, show (m : Int) - (k : Int) = ((m - k : Nat) : Int) by omega]
            exact ih q a r c (m - k) (n - k) old false W (by omega) (hLi.later hb) hs' ho (by omega) (by omega) (by omega) (hK.below hb)
          obtain ⟨o, hoo⟩ : ∃ o, Tr.two dig (m - k) (n - k) old false q.reverse = o := ⟨_, rfl⟩
          rw [hoo] at iV ⊢
          have IV := Lib.hid iV
          clear hL hs ih iV hoo ho hfp hx32 hs' hLi e1 hq
          go_enter Tryd.func25, Tryd.ntmps25
          go_wp2_with fail
          refine hwl.mono ?_
          rintro e w1 ⟨rfl, kk, rfl⟩
          go_wp2_with fail
          refine (HFP.out _).mono ?_
          rintro e w1 ⟨rfl, rfl⟩
          go_wp2_with fail
          refine (IV.out _ (below_drewN (Below.refl _ _) _)).mono ?_
          rintro e w2 ⟨v, u, hv32, hu32, hvu, rfl, hb2⟩
          have HVU := Lib.hid hvu
          clear hvu
          go_wp2_with fail
          have hb3 : Below w.heap.size w w2 := (below_drewN (Below.refl w.heap.size w) kk).trans hb2
          refine (Node_any x v _ (hK.below hb3) (by have := HX.out; omega) (by omega)).mono ?_
          rintro e w3 ⟨rfl, hb4⟩
          go_wp2_with fail
          have hb5 := below_on hb3 hb4 hb3.size
          refine (Node_any x u _ (hK.below hb5) (by have := HX.out; omega) (by omega)).mono ?_
          rintro e w4 ⟨rfl, hb6⟩
          go_wp2_with fail
          go_ret3
          exact ⟨dig (1 :: (x ++ v)), dig (1 :: (x ++ u)), Nat.le_of_eq (dig_length _), Nat.le_of_eq (dig_length _), (fun z h => by rw [Option.map_eq_some_iff] at h; obtain ⟨y, hy, rfl⟩ := h; obtain ⟨g1, g2⟩ := HVU.out y hy; rw [g1, g2]; exact ⟨rfl, rfl⟩), by rw [Option.isSome_map]; rfl, below_on hb5 hb6 hb5.size⟩

/-- what VerifyExtension answers -/
def extB (old : List UInt8) (m : Int) (root : List UInt8) (n : Int) (p : Strs) : Bool :=
  decide (0 ≤ m ∧ m ≤ n) && (digB [old, root] && (digB p && (if m = 0 then decide (p = []) && decide (old = dig []) else decide (Tr.two dig m.toNat n.toNat old true p.reverse = some (old, root)))))
theorem extB_out {old root : List UInt8} {m n : Int} {p : Strs} (h : ¬ (0 ≤ m ∧ m ≤ n)) : extB old m root n p = false := by unfold extB; rw [decide_eq_false h]; rfl
theorem extB_two {old root : List UInt8} {m n : Int} {p : Strs} (h : digB [old, root] = false) : extB old m root n p = false := by unfold extB; rw [h]; simp
theorem extB_dig {old root : List UInt8} {m n : Int} {p : Strs} (h : digB p = false) : extB old m root n p = false := by unfold extB; rw [h]; simp
theorem extB_val {old root : List UInt8} {m n : Int} {p : Strs} (h1 : 0 ≤ m ∧ m ≤ n) (h2 : digB [old, root] = true) (h3 : digB p = true) :
    extB old m root n p = (if m = 0 then decide (p = []) && decide (old = dig []) else decide (Tr.two dig m.toNat n.toNat old true p.reverse = some (old, root))) := by
  unfold extB; rw [decide_eq_true h1, h2, h3]; rfl

set_option maxRecDepth 100000 in
set_option maxHeartbeats 1000000 in
theorem VerifyExt_any (old root : List UInt8) (m n : Int) (p : Strs) (a : Option Addr) (np c : Nat) (w : World) (hL : IsL w a np c p) (hp : ∀ x ∈ p, x.length ≤ maxLen) (ho : old.length ≤ maxLen) (hr : root.length ≤ maxLen)
    (n1 : -9223372036854775808 ≤ n) (n2 : n ≤ 9223372036854775807) (m1 : -9223372036854775808 ≤ m) (m2 : m ≤ 9223372036854775807) (hK : KAt w) :
    Calls Tryd.prog 15 #[.string (bs old), .int .i64 m, .string (bs root), .int .i64 n, .slice a np c] w fun e w' => e = .returned (.bool (extB old m root n p)) ∧ Below w.heap.size w w' := by
  by_cases h0 : m < 0
  · have HV := Lib.hid (extB_out (old := old) (root := root) (n := n) (m := m) (p := p) (by omega))
    clear hL hp ho hr
    go_enter Tryd.func15, Tryd.ntmps15
    go_wp2_with fail
    go_ret
    exact ⟨by rw [HV.out]; rfl, Below.refl _ _⟩
  · by_cases h1 : n < m
    · have HV := Lib.hid (extB_out (old := old) (root := root) (n := n) (m := m) (p := p) (by omega))
      clear hL hp ho hr
      go_enter Tryd.func15, Tryd.ntmps15
      go_wp2_with fail
      go_ret
      exact ⟨by rw [HV.out]; rfl, Below.refl _ _⟩
    · have hW : Below w.heap.size w (w.alloc (.cells #[.string (bs old), .string (bs root)] 9)) := (Below.refl _ _).alloc (Nat.le_refl _) _
      have hP2 : PartsAt (w.alloc (.cells #[.string (bs old), .string (bs root)] 9)) w.heap.size 0 [old, root] := fun i hi => by
        rw [cell_of_row _ _ _ _ _ _ (heap_alloc_new _ _), Nat.zero_add]
        rcases (show i = 0 ∨ i = 1 by simp at hi; omega) with rfl | rfl <;> rfl
      have hd2 := areDigests_any [old, root] _ 2 2 _ (hP2.isL rfl (Nat.le_refl _) (by unfold maxLen; omega)) (by simpa using ⟨ho, hr⟩)
      cases hdig2 : digB [old, root] with
      | false =>
        have HV := Lib.hid (extB_two (old := old) (root := root) (n := n) (m := m) (p := p) hdig2)
        rw [hdig2] at hd2
        clear hL hp hdig2 hP2 ho hr
        go_enter Tryd.func15, Tryd.ntmps15
        go_wp2_with fail
        refine hd2.mono ?_
        rintro e w' ⟨rfl, rfl⟩
        go_wp2_with fail
        go_ret
        exact ⟨by rw [HV.out]; rfl, hW⟩
      | true =>
        rw [hdig2] at hd2
        have hd := areDigests_any p a np c _ (hL.later hW) hp
        cases hdig : digB p with
        | false =>
          have HV := Lib.hid (extB_dig (old := old) (root := root) (n := n) (m := m) (p := p) hdig)
          rw [hdig] at hd
          clear hL hp hdig2 hdig hP2 ho hr
          go_enter Tryd.func15, Tryd.ntmps15
          go_wp2_with fail
          refine hd2.mono ?_
          rintro e w' ⟨rfl, rfl⟩
          go_wp2_with fail
          refine hd.mono ?_
          rintro e w' ⟨rfl, rfl⟩
          go_wp2_with fail
          go_ret
          exact ⟨by rw [HV.out]; rfl, hW⟩
        | true =>
          rw [hdig] at hd
          have hvv := extB_val (old := old) (root := root) (n := n) (m := m) (p := p) (by omega) hdig2 hdig
          have h32 := digB_true hdig
          have ho32 : old.length = 32 := digB_true hdig2 old (by simp)
          by_cases e0 : m = 0
          · subst e0
            rw [if_pos rfl] at hvv
            rcases Nat.eq_zero_or_pos np with hnp | hnp
            · subst hnp
              obtain rfl : p = [] := List.length_eq_zero_iff.1 hL.len
              have hrn := Root_nil none 0 _ (hK.below hW)
              by_cases hc : old = dig []
              · have hcc := bsEq_true hc
                have HV := Lib.hid (show extB old 0 root n [] = true by rw [hvv]; simp [hc])
                clear hL hp hdig2 hdig hP2 ho hr hvv h32 ho32 hc
                go_enter Tryd.func15, Tryd.ntmps15
                go_wp2_with fail
                refine hd2.mono ?_
                rintro e w' ⟨rfl, rfl⟩
                go_wp2_with fail
                refine hd.mono ?_
                rintro e w' ⟨rfl, rfl⟩
                go_wp2_with fail
                refine hrn.mono ?_
                rintro e w2 ⟨rfl, hb2⟩
                go_wp2_with fail
                go_ret
                exact ⟨by rw [HV.out]; rfl, below_on hW hb2 hW.size⟩
              · have hcc := bsEq_false hc
                have HV := Lib.hid (show extB old 0 root n [] = false by rw [hvv]; simp [hc])
                clear hL hp hdig2 hdig hP2 ho hr hvv h32 ho32 hc
                go_enter Tryd.func15, Tryd.ntmps15
                go_wp2_with fail
                refine hd2.mono ?_
                rintro e w' ⟨rfl, rfl⟩
                go_wp2_with fail
                refine hd.mono ?_
                rintro e w' ⟨rfl, rfl⟩
                go_wp2_with fail
                refine hrn.mono ?_
                rintro e w2 ⟨rfl, hb2⟩
                go_wp2_with fail
                go_ret
                exact ⟨by rw [HV.out]; rfl, below_on hW hb2 hW.size⟩
            · have hpn : p ≠ [] := by intro e; have := hL.len; rw [e] at this; simp at this; omega
              have HV := Lib.hid (show extB old 0 root n p = false by rw [hvv]; simp [hpn])
              have e5 : ((np : Int) == 0) = false := by rw [beq_eq_false_iff_ne]; omega
              clear hL hp hdig2 hdig hP2 ho hr hvv h32 ho32 hpn
              go_enter Tryd.func15, Tryd.ntmps15
              go_wp2_with fail
              refine hd2.mono ?_
              rintro e w' ⟨rfl, rfl⟩
              go_wp2_with fail
              refine hd.mono ?_
              rintro e w' ⟨rfl, rfl⟩
              go_wp2_with fail
              go_ret
              exact ⟨by rw [HV.out]; rfl, hW⟩
          · rw [if_neg e0] at hvv
            have e5 : (m == 0) = false := by rw [beq_eq_false_iff_ne]; exact e0
            obtain ⟨M, rfl⟩ := Int.eq_ofNat_of_zero_le (show 0 ≤ m by omega)
            obtain ⟨N, rfl⟩ := Int.eq_ofNat_of_zero_le (show 0 ≤ n by omega)
            rw [Int.toNat_natCast, Int.toNat_natCast] at hvv
            have hv := values_at np p a np c M N old true _ (Nat.le_refl _) (hL.later hW) h32 ho32 (by omega) (by omega) (by omega) (hK.below hW)
            obtain ⟨o, hoo⟩ : ∃ o, Tr.two dig M N old true p.reverse = o := ⟨_, rfl⟩
            rw [hoo] at hv hvv
            have IV := Lib.hid hv
            have HV := Lib.hid hvv
            clear hL hp hdig2 hdig hP2 ho hr hvv h32 ho32 hv hoo e0
            go_enter Tryd.func15, Tryd.ntmps15
            go_wp2_with fail
            refine hd2.mono ?_
            rintro e w' ⟨rfl, rfl⟩
            go_wp2_with fail
            refine hd.mono ?_
            rintro e w' ⟨rfl, rfl⟩
            go_wp2_with fail
            refine IV.out.mono ?_
            rintro e w2 ⟨v, u, hv32, hu32, hvu, rfl, hb2⟩
            have hb3 := below_on hW hb2 hW.size
            cases o with
            | none =>
              clear hvu
              go_wp2_with fail
              go_ret
              exact ⟨by rw [HV.out]; rfl, hb3⟩
            | some z =>
              obtain ⟨z1, z2⟩ := z
              obtain ⟨rfl, rfl⟩ := hvu _ rfl
              clear hvu
              by_cases c1 : v = old
              · by_cases c2 : u = root
                · have q1 := bsEq_true c1
                  have q2 := bsEq_true c2
                  have HD := Lib.hid (show decide (some (v, u) = some (old, root)) = true by simp [c1, c2])
                  clear c1 c2
                  go_wp2_with fail
                  go_ret
                  exact ⟨by rw [HV.out, HD.out]; rfl, hb3⟩
                · have q1 := bsEq_true c1
                  have q2 := bsEq_false c2
                  have HD := Lib.hid (show decide (some (v, u) = some (old, root)) = false by simp [c2])
                  clear c1 c2
                  go_wp2_with fail
                  go_ret
                  exact ⟨by rw [HV.out, HD.out]; rfl, hb3⟩
              · have q1 := bsEq_false c1
                have HD := Lib.hid (show decide (some (v, u) = some (old, root)) = false by simp [c1])
                clear c1
                go_wp2_with fail
                go_ret
                exact ⟨by rw [HV.out, HD.out]; rfl, hb3⟩

end Go.Proofs.YtagcpjokajcdiaaDoor
