/-
  Layer 2: the law's helper 'sides'.
-/
import Derived.Test.YthlngcjenmcbkaaDoorLwy
namespace Go.Proofs.YthlngcjenmcbkaaDoor
open Go.RowKit Bs

theorem side_nil (m n : Nat) (old : List UInt8) (b : Bool) : Tr.side dig m n old b [] = [] := by unfold Tr.side; rfl
theorem side_cons (m n : Nat) (old x : List UInt8) (b : Bool) (p : Strs) : Tr.side dig m n old b (x :: p) = if n ≤ m then []
    else if m ≤ Tr.lft n then (1 :: (((Tr.two dig m (Tr.lft n) old b p).getD ([], [])).2 ++ x)) :: Tr.side dig m (Tr.lft n) old b p
    else (1 :: (x ++ ((Tr.two dig (m - Tr.lft n) (n - Tr.lft n) old false p).getD ([], [])).2)) :: Tr.side dig (m - Tr.lft n) (n - Tr.lft n) old false p := by
  conv => lhs; unfold Tr.side
theorem side_length (m n : Nat) (old : List UInt8) (b : Bool) (p : Strs) : (Tr.side dig m n old b p).length ≤ p.length := by
  induction p generalizing m n b with
  | nil => rw [side_nil]; simp
  | cons x p ih =>
    rw [side_cons]
    split
    · simp
    · split
      · simpa using ih _ _ _
      · simpa using ih _ _ _
theorem two_len32 {m n : Nat} {old : List UInt8} {b : Bool} {p : Strs} {o v : List UInt8} (ho : old.length = 32) (hp : ∀ x ∈ p, x.length = 32) (h : Tr.two dig m n old b p = some (o, v)) : v.length = 32 :=
  Tr.two_length dig dig_len m n old b p ho hp (o, v) h
theorem side_lens (p : Strs) (m n : Nat) (old : List UInt8) (b : Bool) (ho : old.length = 32) (hp : ∀ x ∈ p, x.length = 32) : ∀ y ∈ Tr.side dig m n old b p, y.length ≤ 900000 := by
  induction p generalizing m n b with
  | nil => intro y hy; rw [side_nil] at hy; simp at hy
  | cons x p ih =>
    intro y hy
    have hx := hp x (by simp)
    have hp' : ∀ z ∈ p, z.length = 32 := fun z hz => hp z (by simp [hz])
    have hg : ∀ m n b, (((Tr.two dig m n old b p).getD ([], [])).2).length ≤ 32 := fun m n b => by
      cases h : Tr.two dig m n old b p with
      | none => simp
      | some v => obtain ⟨o, v⟩ := v; rw [show (some (o, v)).getD ([], []) = (o, v) from rfl]; rw [two_len32 ho hp' h]; omega
    rw [side_cons] at hy
    split at hy
    · simp at hy
    · split at hy
      · rcases List.mem_cons.1 hy with rfl | hy
        · have := hg m (Tr.lft n) b
          simp only [List.length_cons, List.length_append]; omega
        · exact ih _ _ _ hp' y hy
      · rcases List.mem_cons.1 hy with rfl | hy
        · have := hg (m - Tr.lft n) (n - Tr.lft n) false
          simp only [List.length_cons, List.length_append]; omega
        · exact ih _ _ _ hp' y hy

set_option maxRecDepth 100000 in
set_option maxHeartbeats 1000000 in
theorem sides_at (N : Nat) : ∀ (p : Strs) (a : Option Addr) (np c m n : Nat) (old : List UInt8) (b : Bool) (o v : List UInt8) (w : World), np ≤ N → IsL w a np c p → (∀ x ∈ p, x.length = 32) → np ≤ 1000 → old.length = 32 → 1 ≤ m → m ≤ n → n ≤ 9223372036854775807 →
    Tr.two dig m n old b p.reverse = some (o, v) → KAt w →
    Calls Tryd.prog 37 #[.string (bs old), .int .i64 (m : Int), .int .i64 (n : Int), .slice a np c, .bool b] w (GivesW (Tr.side dig m n old b p.reverse) v w) := by
  induction N with
  | zero =>
    intro p a np c m n old b o v w hN hL hp hbig hold h1 hmn h2 hv hK
    obtain rfl : np = 0 := by omega
    obtain rfl : p = [] := List.length_eq_zero_iff.1 hL.len
    rw [show ([] : Strs).reverse = [] from rfl] at hv ⊢
    rw [side_nil]
    rw [two_nil] at hv
    by_cases e1 : m = n ∧ b = true
    · rw [if_pos e1] at hv
      obtain ⟨rfl, rfl⟩ := e1
      obtain ⟨rfl, rfl⟩ := Prod.mk.inj (Option.some.inj hv)
      clear hL hp hv
      go_enter Tryd.func37, Tryd.ntmps37
      go_wp2_with fail
      go_ret2
      exact ⟨_, rfl, OwnS.nil _ _, Below.refl _ _⟩
    · rw [if_neg e1] at hv; cases hv
  | succ N ih =>
    intro p a np c m n old b o v w hN hL hp hbig hold h1 hmn h2 hv hK
    rcases Nat.eq_zero_or_pos np with h0 | h0
    · exact ih p a np c m n old b o v w (by omega) hL hp hbig hold h1 hmn h2 hv hK
    · obtain ⟨t, rfl⟩ : ∃ t, np = t + 1 := ⟨np - 1, by omega⟩
      obtain ⟨q, x, rfl, hq⟩ := snoc_of hL.len
      rw [show (q ++ [x]).reverse = x :: q.reverse by simp] at hv ⊢
      rw [side_cons]
      rw [two_cons] at hv
      have hcm := Nat.le_trans hL.cap hL.max
      have hc := hL.cap
      have hm := hL.max
      unfold maxLen at hm
      obtain ⟨g, off, rfl, hpt⟩ := hL.at (by omega)
      have hcell := hpt t (by simp; omega)
      rw [show (q ++ [x]).getD t [] = x by rw [List.getD_eq_getElem?_getD, List.getElem?_append_right (by omega), hq]; simp] at hcell
      have hx32 : x.length = 32 := hp x (by simp)
      have hp' : ∀ y ∈ q, y.length = 32 := fun y hy => hp y (by simp [hy])
      have hLi := hL.init
      by_cases e1 : m = n
      · rw [if_pos e1] at hv
        subst e1
        rw [if_pos (Nat.le_refl _)]
        by_cases e2 : b = false ∧ q.reverse = []
        · rw [if_pos e2] at hv
          obtain ⟨rfl, e3⟩ := e2
          obtain ⟨rfl, rfl⟩ := Prod.mk.inj (Option.some.inj hv)
          obtain rfl : q = [] := by simpa using e3
          obtain rfl : t = 0 := by simpa using hq.symm
          rw [Nat.add_zero] at hcell
          clear hL hp hv hpt hLi ih e3 hp' hq
          go_enter Tryd.func37, Tryd.ntmps37
          go_wp2_with fail
          go_quiet (fail)
          go_wp2_with fail
          go_ret2
          exact ⟨_, rfl, OwnS.nil _ _, below_drewN (Below.refl _ _) nq⟩
        · rw [if_neg e2] at hv; cases hv
      · have e2 : ¬ n ≤ m := by omega
        have e3 : ¬ ((n : Int) ≤ (m : Int)) := by omega
        rw [if_neg e1] at hv
        rw [if_neg e2]
        have hk := Tr.lft_spec (n := n) (by omega)
        obtain ⟨k, hkk⟩ : ∃ k, Tr.lft n = k := ⟨_, rfl⟩
        have hfp := fun W => left_any n W (by omega) h2
        rw [hkk] at hk hv ⊢
        simp only [hkk] at hfp
        have HFP := Lib.hid hfp
        have j2 : (((t : Nat) : Int) + 1 == 0) = false := by rw [beq_eq_false_iff_ne]; omega
        have j3 : ((t : Int) + 1) - 1 = (t : Int) := by omega
        have j4 : (t : Int) < ((t : Int) + 1) := by omega
        have j5 : (t : Int) ≤ (c : Int) := by omega
        have j6 : (0 : Int) ≤ (t : Int) := by omega
        by_cases hik : m ≤ k
        · rw [if_pos hik] at hv ⊢
          rw [Option.map_eq_some_iff] at hv
          obtain ⟨⟨o1, v'⟩, hv', hnode⟩ := hv
          have hv32 := two_len32 hold (fun z hz => hp' z (List.mem_reverse.1 hz)) hv'
          rw [hv']
          rw [show ((some (o1, v')).getD (([] : List UInt8), ([] : List UInt8))).2 = v' from rfl]
          have hnode2 := (Prod.mk.inj hnode).2
          have hif : (m : Int) ≤ (k : Int) := by omega
          have iV : ∀ W, Below w.heap.size w W → Calls Tryd.prog 37 #[.string (bs old), .int .i64 (m : Int), .int .i64 (k : Int), .slice (some ⟨g, off, none⟩) t c, .bool b] W (GivesW (Tr.side dig m k old b q.reverse) v' W) := fun W hb =>
            ih q (some ⟨g, off, none⟩) t c m k old b o1 v' W (by omega) (hLi.later hb) hp' (by omega) hold h1 hik (by omega) hv' (hK.below hb)
          have hll := side_length m k old b q.reverse
          rw [List.length_reverse, hq] at hll
          obtain ⟨L2, hL2⟩ : ∃ L2, Tr.side dig m k old b q.reverse = L2 := ⟨_, rfl⟩
          rw [hL2] at iV hll ⊢
          have q1 : (⟨#[1]⟩ : ByteArray) ++ bs v' = bs (1 :: v') := bs_append [1] v'
          have q2 : bs (1 :: v') ++ bs x = bs (1 :: (v' ++ x)) := bs_append (1 :: v') x
          have z1 := bs_size v'
          have z2 := bs_size x
          have z3 : (bs (1 :: v')).size = v'.length + 1 := bs_size (1 :: v')
          have IV := Lib.hid iV
          have HN := Lib.hid hnode2
          clear hL hp hq ih iV hfp hp' hLi hL2 e1 e2 hpt hv' hkk hnode hnode2
          go_enter Tryd.func37, Tryd.ntmps37
          go_wp2_with fail
          refine (HFP.out _).mono ?_
          rintro e w1 ⟨rfl, rfl⟩
          go_wp2_with fail
          refine (IV.out _ (Below.refl _ _)).mono ?_
          rintro e w2 ⟨u, rfl, ho, hb2⟩
          have HO := Lib.hid ho
          clear ho
          have hsz := hb2.size
          go_wp2_with (at_builtin; refine wpList_pushAllS rfl _ _ rfl w.heap.size _ [1 :: (v' ++ x)] rfl (OwnS.lit w2 w.heap.size (1 :: (v' ++ x)) hsz) w.heap.size _ L2 rfl (HO.out.alloc _) (by simp; omega) (by simp; omega) ?_)
          intro u3 w3 ho3 hb3
          have HO3 := Lib.hid ho3
          have hb4 : Below w.heap.size w w3 := (hb2.alloc hsz (.cells #[.string (bs (1 :: (v' ++ x)))] 9)).trans hb3
          clear ho3 hb3 hb2 HO
          go_wp2_with fail
          refine (Node_any v' x _ (hK.below hb4) (by omega) (by omega)).mono ?_
          rintro e w4 ⟨rfl, hb5⟩
          have HO4 := Lib.hid (HO3.out.later hb5)
          go_wp2_with fail
          go_ret2
          exact ⟨_, by rw [← HN.out]; rfl, HO4.out, below_on hb4 hb5 hb4.size⟩
        · rw [if_neg hik] at hv ⊢
          rw [Option.map_eq_some_iff] at hv
          obtain ⟨⟨o1, v'⟩, hv', hnode⟩ := hv
          have hv32 := two_len32 hold (fun z hz => hp' z (List.mem_reverse.1 hz)) hv'
          rw [hv']
          rw [show ((some (o1, v')).getD (([] : List UInt8), ([] : List UInt8))).2 = v' from rfl]
          have hnode2 := (Prod.mk.inj hnode).2
          have hif : ¬ ((m : Int) ≤ (k : Int)) := by omega
          have iV : ∀ W, Below w.heap.size w W → Calls Tryd.prog 37 #[.string (bs old), .int .i64 ((m : Int) - (k : Int)), .int .i64 ((n : Int) - (k : Int)), .slice (some ⟨g, off, none⟩) t c, .bool false] W (GivesW (Tr.side dig (m - k) (n - k) old false q.reverse) v' W) := fun W hb => by
            rw [show (m : Int) - (k : Int) = ((m - k : Nat) : Int) by omega, show (n : Int) - (k : Int) = ((n - k : Nat) : Int) by omega]
            exact ih q (some ⟨g, off, none⟩) t c (m - k) (n - k) old false o1 v' W (by omega) (hLi.later hb) hp' (by omega) hold (by omega) (by omega) (by omega) hv' (hK.below hb)
          have hll := side_length (m - k) (n - k) old false q.reverse
          rw [List.length_reverse, hq] at hll
          obtain ⟨L2, hL2⟩ : ∃ L2, Tr.side dig (m - k) (n - k) old false q.reverse = L2 := ⟨_, rfl⟩
          rw [hL2] at iV hll ⊢
          have q1 : (⟨#[1]⟩ : ByteArray) ++ bs x = bs (1 :: x) := bs_append [1] x
          have q2 : bs (1 :: x) ++ bs v' = bs (1 :: (x ++ v')) := bs_append (1 :: x) v'
          have z1 := bs_size v'
          have z2 := bs_size x
          have z3 : (bs (1 :: x)).size = x.length + 1 := bs_size (1 :: x)
          have IV := Lib.hid iV
          have HN := Lib.hid hnode2
          clear hL hp hq ih iV hfp hp' hLi hL2 e1 e2 hpt hv' hkk hnode hnode2
          go_enter Tryd.func37, Tryd.ntmps37
          go_wp2_with fail
          refine (HFP.out _).mono ?_
          rintro e w1 ⟨rfl, rfl⟩
          go_wp2_with fail
          refine (IV.out _ (Below.refl _ _)).mono ?_
          rintro e w2 ⟨u, rfl, ho, hb2⟩
          have HO := Lib.hid ho
          clear ho
          have hsz := hb2.size
          go_wp2_with (at_builtin; refine wpList_pushAllS rfl _ _ rfl w.heap.size _ [1 :: (x ++ v')] rfl (OwnS.lit w2 w.heap.size (1 :: (x ++ v')) hsz) w.heap.size _ L2 rfl (HO.out.alloc _) (by simp; omega) (by simp; omega) ?_)
          intro u3 w3 ho3 hb3
          have HO3 := Lib.hid ho3
          have hb4 : Below w.heap.size w w3 := (hb2.alloc hsz (.cells #[.string (bs (1 :: (x ++ v')))] 9)).trans hb3
          clear ho3 hb3 hb2 HO
          go_wp2_with fail
          refine (Node_any x v' _ (hK.below hb4) (by omega) (by omega)).mono ?_
          rintro e w4 ⟨rfl, hb5⟩
          have HO4 := Lib.hid (HO3.out.later hb5)
          go_wp2_with fail
          go_ret2
          exact ⟨_, by rw [← HN.out]; rfl, HO4.out, below_on hb4 hb5 hb4.size⟩

end Go.Proofs.YthlngcjenmcbkaaDoor
