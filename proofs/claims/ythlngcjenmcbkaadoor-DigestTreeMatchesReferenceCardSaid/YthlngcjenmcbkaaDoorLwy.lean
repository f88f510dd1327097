/-
  Layer 2: the law's helper 'way'.
-/
import Derived.Test.YthlngcjenmcbkaaDoorLac
import Derived.Test.YthlngcjenmcbkaaDoorOwa
namespace Go.Proofs.YthlngcjenmcbkaaDoor
open Go.RowKit Bs

/-- new strings, and a value -/
def GivesW (l : Strs) (v : List UInt8) (w : World) (e : Ending) (w' : World) : Prop := ∃ u, e = .returned (.tuple #[u, .string (bs v)]) ∧ OwnS w' w.heap.size u l ∧ Below w.heap.size w w'
theorem way_nil (n i : Nat) (s : List UInt8) : Tr.way dig n i s [] = [0 :: s] := by unfold Tr.way; rfl
theorem way_cons (n i : Nat) (s x : List UInt8) (p : Strs) : Tr.way dig n i s (x :: p) = if n ≤ 1 then [0 :: s]
    else if i < Tr.lft n then (1 :: ((Tr.val dig (Tr.lft n) i s p).getD [] ++ x)) :: Tr.way dig (Tr.lft n) i s p
    else (1 :: (x ++ (Tr.val dig (n - Tr.lft n) (i - Tr.lft n) s p).getD [])) :: Tr.way dig (n - Tr.lft n) (i - Tr.lft n) s p := by
  conv => lhs; unfold Tr.way
theorem way_length (n i : Nat) (s : List UInt8) (p : Strs) : (Tr.way dig n i s p).length ≤ p.length + 1 := by
  induction p generalizing n i with
  | nil => rw [way_nil]; simp
  | cons x p ih =>
    rw [way_cons]
    split
    · simp
    · split
      · simpa using ih _ _
      · simpa using ih _ _
theorem val_len32 {n i : Nat} {s v : List UInt8} {p : Strs} (h : Tr.val dig n i s p = some v) : v.length = 32 := Tr.val_length dig dig_len n i s p v h

set_option maxRecDepth 100000 in
set_option maxHeartbeats 1000000 in
theorem way_at (N : Nat) : ∀ (p : Strs) (a : Option Addr) (np c n i : Nat) (s v : List UInt8) (w : World), np ≤ N → IsL w a np c p → (∀ x ∈ p, x.length = 32) → np ≤ 1000 → s.length ≤ 60 → 1 ≤ n → n ≤ 9223372036854775807 → i < n →
    Tr.val dig n i s p.reverse = some v → KAt w →
    Calls Tryd.prog 34 #[.int .i64 (n : Int), .int .i64 (i : Int), .string (bs s), .slice a np c] w (GivesW (Tr.way dig n i s p.reverse) v w) := by
  induction N with
  | zero =>
    intro p a np c n i s v w hN hL hp hbig hs h1 h2 hi hv hK
    obtain rfl : np = 0 := by omega
    obtain rfl : p = [] := List.length_eq_zero_iff.1 hL.len
    rw [show ([] : Strs).reverse = [] from rfl] at hv ⊢
    rw [way_nil]
    rw [val_nil] at hv
    by_cases e1 : n = 1
    · subst e1
      rw [if_pos rfl] at hv
      obtain rfl := Option.some.inj hv
      have q1 : (⟨#[0]⟩ : ByteArray) ++ bs s = bs (0 :: s) := bs_append [0] s
      have hz := bs_size s
      have hl := fun W hk => Leaf_any s W hk (by omega)
      clear hL hp hv
      unfold Tr.leaf
      go_enter Tryd.func34, Tryd.ntmps34
      go_wp2_with fail
      have hb1 : Below w.heap.size w (w.alloc (.cells #[.string (bs (0 :: s))] 9)) := (Below.refl _ w).alloc (Nat.le_refl _) _
      have ho := OwnS.lit w w.heap.size (0 :: s) (Nat.le_refl _)
      have HO := Lib.hid ho
      clear ho
      refine (hl _ (hK.below hb1)).mono ?_
      rintro e w2 ⟨rfl, hb2⟩
      have HO2 := Lib.hid (HO.out.later hb2)
      have hb3 := below_on hb1 hb2 hb1.size
      clear hb1 hb2 HO
      go_wp2_with fail
      go_ret2
      exact ⟨_, rfl, HO2.out, hb3⟩
    · rw [if_neg e1] at hv; cases hv
  | succ N ih =>
    intro p a np c n i s v w hN hL hp hbig hs h1 h2 hi hv hK
    rcases Nat.eq_zero_or_pos np with h0 | h0
    · exact ih p a np c n i s v w (by omega) hL hp hbig hs h1 h2 hi hv hK
    · obtain ⟨m, rfl⟩ : ∃ m, np = m + 1 := ⟨np - 1, by omega⟩
      obtain ⟨q, x, rfl, hq⟩ := snoc_of hL.len
      rw [show (q ++ [x]).reverse = x :: q.reverse by simp] at hv ⊢
      rw [way_cons]
      rw [val_cons] at hv
      have e1 : n ≠ 1 := fun e => by rw [if_pos e] at hv; cases hv
      have e2 : ¬ n ≤ 1 := by omega
      rw [if_neg e1] at hv
      rw [if_neg e2]
      have hcm := Nat.le_trans hL.cap hL.max
      have hc := hL.cap
      have hm := hL.max
      unfold maxLen at hm
      obtain ⟨g, off, rfl, hpt⟩ := hL.at (by omega)
      have hcell := hpt m (by simp; omega)
      rw [show (q ++ [x]).getD m [] = x by rw [List.getD_eq_getElem?_getD, List.getElem?_append_right (by omega), hq]; simp] at hcell
      have hk := Tr.lft_spec (n := n) (by omega)
      obtain ⟨k, hkk⟩ : ∃ k, Tr.lft n = k := ⟨_, rfl⟩
      have hfp := fun W => left_any n W (by omega) h2
      rw [hkk] at hk hv ⊢
      simp only [hkk] at hfp
      have hx32 : x.length = 32 := hp x (by simp)
      have hp' : ∀ y ∈ q, y.length = 32 := fun y hy => hp y (by simp [hy])
      have hLi := hL.init
      have HFP := Lib.hid hfp
      have j1 : ¬ ((n : Int) ≤ 1) := by omega
      have j2 : (((m : Nat) : Int) + 1 == 0) = false := by rw [beq_eq_false_iff_ne]; omega
      have j3 : ((m : Int) + 1) - 1 = (m : Int) := by omega
      have j4 : (m : Int) < ((m : Int) + 1) := by omega
      have j5 : (m : Int) ≤ (c : Int) := by omega
      have j6 : (0 : Int) ≤ (m : Int) := by omega
      by_cases hik : i < k
      · rw [if_pos hik] at hv ⊢
        rw [Option.map_eq_some_iff] at hv
        obtain ⟨v', hv', hnode⟩ := hv
        have hv32 := val_len32 hv'
        rw [hv']
        rw [show (some v').getD [] = v' from rfl]
        have hif : (i : Int) < (k : Int) := by omega
        have iV : ∀ W, Below w.heap.size w W → Calls Tryd.prog 34 #[.int .i64 (k : Int), .int .i64 (i : Int), .string (bs s), .slice (some ⟨g, off, none⟩) m c] W (GivesW (Tr.way dig k i s q.reverse) v' W) := fun W hb =>
          ih q (some ⟨g, off, none⟩) m c k i s v' W (by omega) (hLi.later hb) hp' (by omega) hs (by omega) (by omega) hik hv' (hK.below hb)
        have hll := way_length k i s q.reverse
        rw [List.length_reverse, hq] at hll
        obtain ⟨L2, hL2⟩ : ∃ L2, Tr.way dig k i s q.reverse = L2 := ⟨_, rfl⟩
        rw [hL2] at iV hll ⊢
        have q1 : (⟨#[1]⟩ : ByteArray) ++ bs v' = bs (1 :: v') := bs_append [1] v'
        have q2 : bs (1 :: v') ++ bs x = bs (1 :: (v' ++ x)) := bs_append (1 :: v') x
        have z1 := bs_size v'
        have z2 := bs_size x
        have z3 : (bs (1 :: v')).size = v'.length + 1 := bs_size (1 :: v')
        have IV := Lib.hid iV
        have HN := Lib.hid hnode
        clear hL hp hq ih iV hfp hp' hLi hL2 e1 e2 hpt hv' hkk hnode
        go_enter Tryd.func34, Tryd.ntmps34
        go_wp2_with fail
        refine (HFP.out _).mono ?_
        rintro e w1 ⟨rfl, rfl⟩
        go_wp2_with fail
        refine (IV.out _ (Below.refl _ _)).mono ?_
        rintro e w2 ⟨u, rfl, ho, hb2⟩
        have HO := Lib.hid ho
        clear ho
        have hsz := hb2.size
        go_wp2_with (at_builtin; refine wpList_pushAllS rfl _ _ rfl w.heap.size _ [1 :: (v' ++ x)] rfl (OwnS.lit w2 w.heap.size (1 :: (v' ++ x)) hsz) w.heap.size _ L2 rfl (HO.out.alloc _) (by simp; omega) (by simp; omega) ?_)
        intro u3 w3 ho3 hb3
        have HO3 := Lib.hid ho3
        have hb4 : Below w.heap.size w w3 := (hb2.alloc hsz (.cells #[.string (bs (1 :: (v' ++ x)))] 9)).trans hb3
        clear ho3 hb3 hb2 HO
        go_wp2_with fail
        refine (Node_any v' x _ (hK.below hb4) (by omega) (by omega)).mono ?_
        rintro e w4 ⟨rfl, hb5⟩
        have HO4 := Lib.hid (HO3.out.later hb5)
        go_wp2_with fail
        go_ret2
        exact ⟨_, by rw [← HN.out]; rfl, HO4.out, below_on hb4 hb5 hb4.size⟩
      · rw [if_neg hik] at hv ⊢
        rw [Option.map_eq_some_iff] at hv
        obtain ⟨v', hv', hnode⟩ := hv
        have hv32 := val_len32 hv'
        rw [hv']
        rw [show (some v').getD [] = v' from rfl]
        have hif : ¬ (i : Int) < (k : Int) := by omega
        have iV : ∀ W, Below w.heap.size w W → Calls Tryd.prog 34 #[.int .i64 ((n : Int) - (k : Int)), .int .i64 ((i : Int) - (k : Int)), .string (bs s), .slice (some ⟨g, off, none⟩) m c] W (GivesW (Tr.way dig (n - k) (i - k) s q.reverse) v' W) := fun W hb => by
          rw [show (n : Int) - (k : Int) = ((n - k : Nat) : Int) by omega, show (i : Int) - (k : Int) = ((i - k : Nat) : Int) by omega]
          exact ih q (some ⟨g, off, none⟩) m c (n - k) (i - k) s v' W (by omega) (hLi.later hb) hp' (by omega) hs (by omega) (by omega) (by omega) hv' (hK.below hb)
        have hll := way_length (n - k) (i - k) s q.reverse
        rw [List.length_reverse, hq] at hll
        obtain ⟨L2, hL2⟩ : ∃ L2, Tr.way dig (n - k) (i - k) s q.reverse = L2 := ⟨_, rfl⟩
        rw [hL2] at iV hll ⊢
        have q1 : (⟨#[1]⟩ : ByteArray) ++ bs x = bs (1 :: x) := bs_append [1] x
        have q2 : bs (1 :: x) ++ bs v' = bs (1 :: (x ++ v')) := bs_append (1 :: x) v'
        have z1 := bs_size v'
        have z2 := bs_size x
        have z3 : (bs (1 :: x)).size = x.length + 1 := bs_size (1 :: x)
        have IV := Lib.hid iV
        have HN := Lib.hid hnode
        clear hL hp hq ih iV hfp hp' hLi hL2 e1 e2 hpt hv' hkk hnode
        go_enter Tryd.func34, Tryd.ntmps34
        go_wp2_with fail
        refine (HFP.out _).mono ?_
        rintro e w1 ⟨rfl, rfl⟩
        go_wp2_with fail
        refine (IV.out _ (Below.refl _ _)).mono ?_
        rintro e w2 ⟨u, rfl, ho, hb2⟩
        have HO := Lib.hid ho
        clear ho
        have hsz := hb2.size
        go_wp2_with (at_builtin; refine wpList_pushAllS rfl _ _ rfl w.heap.size _ [1 :: (x ++ v')] rfl (OwnS.lit w2 w.heap.size (1 :: (x ++ v')) hsz) w.heap.size _ L2 rfl (HO.out.alloc _) (by simp; omega) (by simp; omega) ?_)
        intro u3 w3 ho3 hb3
        have HO3 := Lib.hid ho3
        have hb4 : Below w.heap.size w w3 := (hb2.alloc hsz (.cells #[.string (bs (1 :: (x ++ v')))] 9)).trans hb3
        clear ho3 hb3 hb2 HO
        go_wp2_with fail
        refine (Node_any x v' _ (hK.below hb4) (by omega) (by omega)).mono ?_
        rintro e w4 ⟨rfl, hb5⟩
        have HO4 := Lib.hid (HO3.out.later hb5)
        go_wp2_with fail
        go_ret2
        exact ⟨_, by rw [← HN.out]; rfl, HO4.out, below_on hb4 hb5 hb4.size⟩

end Go.Proofs.YthlngcjenmcbkaaDoor
