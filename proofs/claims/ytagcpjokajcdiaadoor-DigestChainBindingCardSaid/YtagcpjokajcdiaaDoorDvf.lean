/-
  Package digest: areDigests, withoutLast, value, Verify.
-/
import Derived.Test.YtagcpjokajcdiaaDoorDpp
namespace Go.Proofs.YtagcpjokajcdiaaDoor
open Go.RowKit Bs

/-- all of them have 32 bytes -/
def digB (l : Strs) : Bool := l.all fun s => s.length == 32
theorem digB_true {l : Strs} (h : digB l = true) : ∀ s ∈ l, s.length = 32 := fun s hs => by
  have := List.all_eq_true.1 h s hs
  simpa using this
theorem digB_of {l : Strs} (h : ∀ s ∈ l, s.length = 32) : digB l = true := List.all_eq_true.2 fun s hs => by simpa using h s hs
theorem digB_false {l : Strs} (i : Nat) (hi : i < l.length) (h : (l.getD i []).length ≠ 32) : digB l = false := by
  rw [Bool.eq_false_iff]
  intro h2
  exact h (digB_true h2 _ (getD_mem l i hi))

set_option maxHeartbeats 400000 in
theorem areDigests_any (l : Strs) (a : Option Addr) (n c : Nat) (w : World) (hL : IsL w a n c l) (hs : ∀ s ∈ l, s.length ≤ maxLen) :
    Calls Tryd.prog 23 #[.slice a n c] w fun e w' => e = .returned (.bool (digB l)) ∧ w = w' := by
  have hn : n ≤ maxLen := Nat.le_trans hL.cap hL.max
  unfold maxLen at hn hs
  rcases Nat.eq_zero_or_pos n with h0 | h0
  · subst h0
    obtain rfl : l = [] := List.length_eq_zero_iff.1 hL.len
    rw [show digB [] = true from rfl]
    clear hs hL
    go_enter Tryd.func23, Tryd.ntmps23
    go_wp2_with fail
    go_loop [7] (fun i => i = .int .i64 0) (fun _ => 0)
    case atStart => exact rfl
    case round =>
      subst hrel
      go_wp2_with fail
      go_ret
      exact ⟨rfl, rfl⟩
  · obtain ⟨g, off, rfl, hp⟩ := hL.at h0
    have HL := Lib.hid hL.len
    have HS := Lib.hid hs
    clear hL hs
    go_enter Tryd.func23, Tryd.ntmps23
    go_wp2_with fail
    go_loop [7] (fun i => ∃ j : Nat, j ≤ n ∧ i = .int .i64 j ∧ Hid (∀ q, q < j → (l.getD q []).length = 32)) (fun i => n - (intOf i).toNat)
    case atStart => exact ⟨0, by omega, rfl, Lib.hid fun q hq => by omega⟩
    case round =>
      obtain ⟨j, hj, rfl, hall⟩ := hrel
      rcases Nat.lt_or_ge j n with hjn | hjn
      · have hcell := hp j (by rw [HL.out]; exact hjn)
        have hsz := bs_size (l.getD j [])
        have hsl := HS.out _ (getD_mem l j (by rw [HL.out]; exact hjn))
        obtain ⟨x, hx⟩ : ∃ x, l.getD j [] = x := ⟨_, rfl⟩
        rw [hx] at hcell hsz hsl
        have HX := Lib.hid hx
        clear hx hp
        by_cases h32 : x.length = 32
        · rw [h32] at hsz
          have H32 := Lib.hid h32
          clear h32
          go_wp2_with fail
          go_round
          case rel => exact ⟨j + 1, by omega, by go_num, Lib.hid fun q hq => by
            rcases Nat.lt_or_ge q j with h | h
            · exact hall.out q h
            · obtain rfl : q = j := by omega
              rw [HX.out]; exact H32.out⟩
          case measure => simp [intOf]; omega
        · have hf := digB_false (l := l) j (by rw [HL.out]; exact hjn) (by rw [HX.out]; exact h32)
          have hne : (((x.length : Nat) : Int) != 32) = true := by rw [bne_iff_ne]; omega
          have HF := Lib.hid hf
          clear h32 hf
          go_wp2_with fail
          go_ret
          exact ⟨by rw [HF.out]; rfl, rfl⟩
      · obtain rfl : n = j := by omega
        have ht : digB l = true := digB_of fun s hs => by
          obtain ⟨q, hq, rfl⟩ := List.getElem_of_mem hs
          rw [← getD_eq l q hq]; exact hall.out q (by rw [← HL.out]; exact hq)
        have HT := Lib.hid ht
        clear ht hp
        go_wp2_with fail
        go_ret
        exact ⟨by rw [HT.out]; rfl, rfl⟩

theorem withoutLast_any (q : Strs) (x : List UInt8) (a : Option Addr) (n c : Nat) (w : World) (hL : IsL w a (n + 1) c (q ++ [x])) :
    Calls Tryd.prog 29 #[.slice a (n + 1) c] w fun e w' => e = .returned (.tuple #[.slice a n c, .string (bs x)]) ∧ ∃ k, w' = w.drewN k := by
  have hn : n + 1 ≤ maxLen := Nat.le_trans hL.cap hL.max
  have hq : q.length = n := by have := hL.len; simp at this; exact this
  have hc := hL.cap
  unfold maxLen at hn
  obtain ⟨g, off, rfl, hp⟩ := hL.at (by omega)
  have hcell := hp n (by simp; omega)
  rw [show (q ++ [x]).getD n [] = x by rw [List.getD_eq_getElem?_getD, List.getElem?_append_right (by omega), hq]; simp] at hcell
  have hm := hL.max
  unfold maxLen at hm
  have j1 : (0 : Int) ≤ (n : Int) := by omega
  have j2 : (n : Int) < ((n : Int) + 1) := by omega
  have j3 : (n : Int) ≤ (c : Int) := by omega
  have j4 : ((n : Int) + 1) - 1 = (n : Int) := by omega
  clear hp hL hq
  go_enter Tryd.func29, Tryd.ntmps29
  go_wp2_with fail
  go_quiet (fail)
  go_wp2_with fail
  go_ret2
  exact ⟨rfl, _, rfl⟩

/-- a value that may be there, and whether it is -/
def GivesV (o : Option (List UInt8)) (w : World) (e : Ending) (w' : World) : Prop :=
  ∃ v : List UInt8, v.length ≤ 32 ∧ (∀ u, o = some u → v = u) ∧ e = .returned (.tuple #[.string (bs v), .bool o.isSome]) ∧ Below w.heap.size w w'
theorem snoc_of {l : Strs} {n : Nat} (h : l.length = n + 1) : ∃ q x, l = q ++ [x] ∧ q.length = n := by
  have hne : l ≠ [] := by intro e; rw [e] at h; simp at h
  refine ⟨l.dropLast, l.getLast hne, (List.dropLast_concat_getLast hne).symm, by rw [List.length_dropLast]; omega⟩
theorem IsL.init {W : World} {a : Option Addr} {n c : Nat} {q : Strs} {x : List UInt8} (h : IsL W a (n + 1) c (q ++ [x])) : IsL W a n c q := by
  have hq : q.length = n := by have := h.len; simp at this; exact this
  obtain ⟨g, off, rfl, hp⟩ := h.at (by omega)
  have := hp.take n
  rw [List.take_append_of_le_length (by omega), List.take_of_length_le (by omega)] at this
  exact ⟨hq, by have := h.cap; omega, h.max, .inr ⟨g, off, rfl, this⟩⟩
theorem IsL.drewN {W : World} {a : Option Addr} {n c : Nat} {l : Strs} (h : IsL W a n c l) (k : Nat) : IsL (W.drewN k) a n c l := ⟨h.len, h.cap, h.max, h.row⟩
theorem KAt.drewN {w : World} (h : KAt w) (k : Nat) : KAt (w.drewN k) := h
theorem val_nil (n i : Nat) (s : List UInt8) : Tr.val dig n i s [] = if n = 1 then some (Tr.leaf dig s) else none := by unfold Tr.val; rfl
theorem val_cons (n i : Nat) (s x : List UInt8) (p : Strs) : Tr.val dig n i s (x :: p) = if n = 1 then none else if i < Tr.lft n then (Tr.val dig (Tr.lft n) i s p).map (fun v => Tr.node dig v x) else (Tr.val dig (n - Tr.lft n) (i - Tr.lft n) s p).map (fun v => Tr.node dig x v) := by
  conv => lhs; unfold Tr.val

set_option maxRecDepth 100000 in
set_option maxHeartbeats 1000000 in
theorem value_at (N : Nat) : ∀ (p : Strs) (a : Option Addr) (np c n i : Nat) (s : List UInt8) (w : World), np ≤ N → IsL w a np c p → (∀ x ∈ p, x.length = 32) → 1 ≤ n → n ≤ 9223372036854775807 → i < n → KAt w →
    Calls Tryd.prog 24 #[.int .i64 (n : Int), .int .i64 (i : Int), .string (bs (dig (0 :: s))), .slice a np c] w (GivesV (Tr.val dig n i s p.reverse) w) := by
  induction N with
  | zero =>
    intro p a np c n i s w hN hL hs h1 h2 hi hK
    obtain rfl : np = 0 := by omega
    obtain rfl : p = [] := List.length_eq_zero_iff.1 hL.len
    have hv := val_nil n i s
    rw [show ([] : Strs).reverse = [] from rfl, hv]
    have hl := dig_length (0 :: s)
    by_cases e1 : n = 1
    · subst e1
      rw [if_pos rfl]
      unfold Tr.leaf
      have HL := Lib.hid hl
      clear hL hs hv hl
      go_enter Tryd.func24, Tryd.ntmps24
      go_wp2_with fail
      go_ret2
      exact ⟨_, Nat.le_of_eq HL.out, (fun u h => by cases h; rfl), rfl, Below.refl _ _⟩
    · rw [if_neg e1]
      have e2 : ((n : Int) == 1) = false := by rw [beq_eq_false_iff_ne]; omega
      clear hL hs hv hl e1
      go_enter Tryd.func24, Tryd.ntmps24
      go_wp2_with fail
      go_ret2
      exact ⟨[], by simp, (fun u h => by cases h), rfl, Below.refl _ _⟩
  | succ N ih =>
    intro p a np c n i s w hN hL hs h1 h2 hi hK
    rcases Nat.eq_zero_or_pos np with h0 | h0
    · exact ih p a np c n i s w (by omega) hL hs h1 h2 hi hK
    · obtain ⟨m, rfl⟩ : ∃ m, np = m + 1 := ⟨np - 1, by omega⟩
      have hm := Nat.le_trans hL.cap hL.max
      unfold maxLen at hm
      obtain ⟨q, x, rfl, hq⟩ := snoc_of hL.len
      have hv := val_cons n i s x q.reverse
      rw [show (q ++ [x]).reverse = x :: q.reverse by simp, hv]
      have hl := dig_length (0 :: s)
      by_cases e1 : n = 1
      · subst e1
        rw [if_pos rfl]
        have HL := Lib.hid hl
        have e3 : (((m : Nat) : Int) + 1 == 0) = false := by rw [beq_eq_false_iff_ne]; omega
        clear hL hs hv hl ih
        go_enter Tryd.func24, Tryd.ntmps24
        go_wp2_with fail
        go_ret2
        exact ⟨_, Nat.le_of_eq HL.out, (fun u h => by cases h), rfl, Below.refl _ _⟩
      · rw [if_neg e1]
        have e2 : ((n : Int) == 1) = false := by rw [beq_eq_false_iff_ne]; omega
        have e3 : (((m : Nat) : Int) + 1 == 0) = false := by rw [beq_eq_false_iff_ne]; omega
        have hwl := withoutLast_any q x a m c w hL
        have hk := Tr.lft_spec (n := n) (by omega)
        obtain ⟨k, hkk⟩ : ∃ k, Tr.lft n = k := ⟨_, rfl⟩
        have hfp := fun W => firstPart_any n W (by omega) h2
        rw [hkk] at hk ⊢
        simp only [hkk] at hfp
        have hx32 : x.length = 32 := hs x (by simp)
        have hs' : ∀ y ∈ q, y.length = 32 := fun y hy => hs y (by simp [hy])
        have hLi := hL.init
        have HFP := Lib.hid hfp
        have HX := Lib.hid hx32
        by_cases hik : i < k
        · rw [if_pos hik]
          have hif : (i : Int) < (k : Int) := by omega
          have iV : ∀ W, Below w.heap.size w W → Calls Tryd.prog 24 #[.int .i64 (k : Int), .int .i64 (i : Int), .string (bs (dig (0 :: s))), .slice a m c] W (GivesV (Tr.val dig k i s q.reverse) W) := fun W hb =>
            ih q a m c k i s W (by omega) (hLi.later hb) hs' (by omega) (by omega) hik (hK.below hb)
          obtain ⟨o, ho⟩ : ∃ o, Tr.val dig k i s q.reverse = o := ⟨_, rfl⟩
          rw [ho] at iV ⊢
          have IV := Lib.hid iV
          clear hL hs hv hl ih iV ho hfp hx32 hs' hLi e1
          go_enter Tryd.func24, Tryd.ntmps24
          go_wp2_with fail
          refine hwl.mono ?_
          rintro e w1 ⟨rfl, kk, rfl⟩
          go_wp2_with fail
          refine (HFP.out _).mono ?_
          rintro e w1 ⟨rfl, rfl⟩
          go_wp2_with fail
          refine (IV.out _ (below_drewN (Below.refl _ _) _)).mono ?_
          rintro e w2 ⟨v, hv32, hvu, rfl, hb2⟩
          have HVU := Lib.hid hvu
          clear hvu
          go_wp2_with fail
          have hb3 : Below w.heap.size w w2 := (below_drewN (Below.refl w.heap.size w) kk).trans hb2
          refine (Node_any v x _ (hK.below hb3) (by omega) (by have := HX.out; omega)).mono ?_
          rintro e w3 ⟨rfl, hb4⟩
          go_wp2_with fail
          go_ret2
          exact ⟨dig (1 :: (v ++ x)), Nat.le_of_eq (dig_length _), (fun u h => by rw [Option.map_eq_some_iff] at h; obtain ⟨y, hy, rfl⟩ := h; rw [HVU.out y hy]; rfl), by rw [Option.isSome_map]; rfl, below_on hb3 hb4 hb3.size⟩
        · rw [if_neg hik]
          have hif : ¬ (i : Int) < (k : Int) := by omega
          have iV : ∀ W, Below w.heap.size w W → Calls Tryd.prog 24 #[.int .i64 ((n : Int) - (k : Int)), .int .i64 ((i : Int) - (k : Int)), .string (bs (dig (0 :: s))), .slice a m c] W (GivesV (Tr.val dig (n - k) (i - k) s q.reverse) W) := fun W hb => by
            rw [show (n : Int) - (k : Int) = ((n - k : Nat) : Int) by omega, show (i : Int) - (k : Int) = ((i - k : Nat) : Int) by omega]
            exact ih q a m c (n - k) (i - k) s W (by omega) (hLi.later hb) hs' (by omega) (by omega) (by omega) (hK.below hb)
          obtain ⟨o, ho⟩ : ∃ o, Tr.val dig (n - k) (i - k) s q.reverse = o := ⟨_, rfl⟩
          rw [ho] at iV ⊢
          have IV := Lib.hid iV
          clear hL hs hv hl ih iV ho hfp hx32 hs' hLi e1
          go_enter Tryd.func24, Tryd.ntmps24
          go_wp2_with fail
          refine hwl.mono ?_
          rintro e w1 ⟨rfl, kk, rfl⟩
          go_wp2_with fail
          refine (HFP.out _).mono ?_
          rintro e w1 ⟨rfl, rfl⟩
          go_wp2_with fail
          refine (IV.out _ (below_drewN (Below.refl _ _) _)).mono ?_
          rintro e w2 ⟨v, hv32, hvu, rfl, hb2⟩
          have HVU := Lib.hid hvu
          clear hvu
          go_wp2_with fail
          have hb3 : Below w.heap.size w w2 := (below_drewN (Below.refl w.heap.size w) kk).trans hb2
          refine (Node_any x v _ (hK.below hb3) (by have := HX.out; omega) (by omega)).mono ?_
          rintro e w3 ⟨rfl, hb4⟩
          go_wp2_with fail
          go_ret2
          exact ⟨dig (1 :: (x ++ v)), Nat.le_of_eq (dig_length _), (fun u h => by rw [Option.map_eq_some_iff] at h; obtain ⟨y, hy, rfl⟩ := h; rw [HVU.out y hy]; rfl), by rw [Option.isSome_map]; rfl, below_on hb3 hb4 hb3.size⟩

end Go.Proofs.YtagcpjokajcdiaaDoor
