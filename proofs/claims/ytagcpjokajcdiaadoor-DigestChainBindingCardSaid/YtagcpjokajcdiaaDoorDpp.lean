/-
  Package digest: Proof, part, Extension.
-/
import Derived.Test.YtagcpjokajcdiaaDoorDpt
import Derived.Laws.OwnMore
namespace Go.Proofs.YtagcpjokajcdiaaDoor
open Go.RowKit Bs

/-- a slice of new memory that holds the strings l, and an error -/
def GivesP (l : Strs) (err : Int) (w : World) (e : Ending) (w' : World) : Prop := ∃ v, e = .returned (.tuple #[v, .int .i64 err]) ∧ OwnS w' w.heap.size v l ∧ Below w.heap.size w w'
theorem OwnS.lit (W : World) (base : Nat) (A : List UInt8) (hb : base ≤ W.heap.size) : OwnS (W.alloc (.cells #[.string (bs A)] 9)) base (.slice (some ⟨W.heap.size, 0, none⟩) 1 1) [A] :=
  ⟨World.ownsRow_lit W #[.string (bs A)] 1 hb (by unfold maxLen; omega) rfl⟩

theorem Proof_in (l : Strs) (g off n c i : Nat) (w : World) (hl : l.length = n) (hi : i < n) (hc : n ≤ c) (hm : c ≤ maxLen) (hbig : n ≤ 1000000) (hs : ∀ s ∈ l, s.length ≤ 100000) (hp : PartsAt w g off l) (hK : KAt w) :
    Calls Tryd.prog 10 #[.slice (some ⟨g, off, none⟩) n c, .int .i64 (i : Int)] w (GivesP (Tr.prf dig l i).reverse 0 w) := by
  have h := path_at n l g off n c i w (Nat.le_refl _) hl (by omega) hi hc hm hbig hs hp hK
  obtain ⟨P, hP⟩ : ∃ P, (Tr.prf dig l i).reverse = P := ⟨_, rfl⟩
  rw [hP] at h ⊢
  have H := Lib.hid h
  clear h hP hp hs hl
  go_enter Tryd.func10, Tryd.ntmps10
  go_wp2_with fail
  refine H.out.mono ?_
  rintro e w1 ⟨v, rfl, ho, hb⟩
  have HO := Lib.hid ho
  clear ho
  go_wp2_with fail
  go_ret2
  exact ⟨v, rfl, HO.out, hb⟩
theorem Proof_out (a : Option Addr) (n c : Nat) (i : Int) (w : World) (_hn : n ≤ maxLen) (h1 : -9223372036854775808 ≤ i) (h2 : i ≤ 9223372036854775807) (h : i < 0 ∨ (n : Int) ≤ i) :
    Calls Tryd.prog 10 #[.slice a n c, .int .i64 i] w (GivesP [] 2 w) := by
  unfold maxLen at _hn
  by_cases h0 : i < 0
  · clear h
    go_enter Tryd.func10, Tryd.ntmps10
    go_wp2_with fail
    go_ret2
    exact ⟨_, rfl, OwnS.nil _ _, Below.refl _ _⟩
  · have h3 : (n : Int) ≤ i := by omega
    clear h
    go_enter Tryd.func10, Tryd.ntmps10
    go_wp2_with fail
    go_ret2
    exact ⟨_, rfl, OwnS.nil _ _, Below.refl _ _⟩

set_option maxRecDepth 100000 in
set_option maxHeartbeats 1000000 in
theorem dpart_at (N : Nat) : ∀ (l : Strs) (g off n c m : Nat) (b : Bool) (w : World), n ≤ N → l.length = n → 1 ≤ m → m ≤ n → n ≤ c → c ≤ maxLen → n ≤ 1000000 → (∀ s ∈ l, s.length ≤ 100000) → PartsAt w g off l → KAt w →
    Calls Tryd.prog 19 #[.slice (some ⟨g, off, none⟩) n c, .int .i64 (m : Int), .bool b] w (GivesL (prt l m b).reverse w) := by
  induction N with
  | zero => intro l g off n c m b w h1 h2 h3; omega
  | succ N ih =>
    intro l g off n c m b w hN hl h1 hmn hc hm hbig hs hp hK
    unfold maxLen at hm
    by_cases he : m = n
    · have hpr := prt_all l m b h1 (by omega)
      subst he
      cases b with
      | true =>
        rw [hpr, if_pos rfl]
        clear hN ih hpr hp hs hl
        go_enter Tryd.func19, Tryd.ntmps19
        go_wp2_with fail
        go_ret
        exact ⟨_, rfl, OwnS.nil _ _, Below.refl _ _⟩
      | false =>
        rw [hpr, if_neg (by decide)]
        have hr := Root_at m l g off m c w (Nat.le_refl _) hl h1 hc (by unfold maxLen; omega) hbig hs hp hK
        obtain ⟨A, hA⟩ : ∃ A, Tr.root dig l = A := ⟨_, rfl⟩
        rw [hA] at hr ⊢
        have HR := Lib.hid hr
        clear hN ih hpr hp hs hl hr hA
        go_enter Tryd.func19, Tryd.ntmps19
        go_wp2_with fail
        refine HR.out.mono ?_
        rintro e w1 ⟨rfl, hb⟩
        go_wp2_with fail
        go_ret
        exact ⟨_, rfl, OwnS.lit w1 _ A hb.size, hb.alloc hb.size _⟩
    · have hk := Tr.lft_spec (n := n) (by omega)
      have hpm := prt_more l m b h1 (by omega)
      have hpl : (prt l m b).length ≤ 63 + 1 := Tr.partF_length dig l.length 63 l m b (by omega) h1 (by omega)
      rw [hl] at hpm
      obtain ⟨k, hkk⟩ : ∃ k, Tr.lft n = k := ⟨_, rfl⟩
      have hfp := firstPart_any n w (by omega) (by omega)
      rw [hkk] at hk hpm hfp
      have ck : k ≠ c := by omega
      have ck2 : c ≠ k := by omega
      have i1 : (0 : Int) ≤ (k : Int) := by omega
      have i2 : (k : Int) ≤ (n : Int) := by omega
      have i3 : (k : Int) ≤ (c : Int) := by omega
      have i4 : (n : Int) ≤ (c : Int) := by omega
      have e1 : ((m : Int) == (n : Int)) = false := by rw [beq_eq_false_iff_ne]; omega
      by_cases hik : m ≤ k
      · rw [if_pos hik] at hpm
        obtain ⟨A, hA⟩ : ∃ A, Tr.root dig (l.drop k) = A := ⟨_, rfl⟩
        obtain ⟨P, hP⟩ : ∃ P, (prt (l.take k) m b).reverse = P := ⟨_, rfl⟩
        have iP : ∀ W, Below w.heap.size w W → Calls Tryd.prog 19 #[.slice (some ⟨g, off, none⟩) k c, .int .i64 (m : Int), .bool b] W (GivesL P W) := fun W hb => by
          rw [← hP]
          exact ih (l.take k) g off k c m b W (by omega) (by rw [List.length_take]; omega) h1 hik (by omega) (by unfold maxLen; omega) (by omega) (fun s h => hs s (List.mem_of_mem_take h)) ((hp.later hb).take k) (hK.below hb)
        have iR : ∀ W, Below w.heap.size w W → Calls Tryd.prog 12 #[.slice (some ⟨g, off + k, none⟩) (n - k) (c - k)] W fun e w' => e = .returned (.string (bs A)) ∧ Below W.heap.size W w' := fun W hb => by
          rw [← hA]
          exact Root_at n (l.drop k) g (off + k) (n - k) (c - k) W (by omega) (by rw [List.length_drop]; omega) (by omega) (by omega) (by unfold maxLen; omega) (by omega) (fun s h => hs s (List.mem_of_mem_drop h)) ((hp.later hb).drop k) (hK.below hb)
        have hR : (prt l m b).reverse = P ++ [A] := by rw [hpm, hA, List.reverse_cons, hP]
        have hPl : P.length ≤ 2000000 := by rw [hpm, List.length_cons] at hpl; rw [← hP, List.length_reverse]; omega
        rw [hR]
        have IP := Lib.hid iP
        have IR := Lib.hid iR
        have hif : (m : Int) ≤ (k : Int) := by omega
        clear hN ih hpm hpl hA hP iP iR hR hp hs hkk hl
        go_enter Tryd.func19, Tryd.ntmps19
        go_wp2_with fail
        refine hfp.mono ?_
        rintro e w1 ⟨rfl, rfl⟩
        go_wp2_with fail
        go_region_held3 (fun _ => True) (trivial)
          (first
            | (go_at_call 19; (with_reducible refine (IP.out _ (Below.refl _ _).drew).mono ?_); rintro e wA ⟨v, rfl, oA0, bA0⟩; have bA := below_undrew bA0; have oA : OwnS wA w.heap.size v P := oA0)
            | (go_at_call 12; (with_reducible refine (IR.out _ bA).mono ?_); rintro e wB ⟨rfl, bB0⟩; have bB := below_on bA bB0 bA.size; have oB := oA.later bB0; have sB := bB.size)
            | (refine step_pushS (by rfl) _ _ (by rfl) w.heap.size v P (by rfl) (oB.alloc _) ⟨wB.heap.size, 0, none⟩ 1 A (by rfl) (fresh_cell wB _ _) hPl (le_alloc sB _) ?_; intro v1 wC oC bC))
        all_goals
          have bD := (bB.alloc sB (.cells #[.string (bs A)] 9)).trans bC
          have HO := Lib.hid oC
          clear oA0 oA oB oC
          go_wp2_with fail
          go_ret
          exact ⟨_, rfl, HO.out, bD⟩
      · rw [if_neg hik] at hpm
        obtain ⟨A, hA⟩ : ∃ A, Tr.root dig (l.take k) = A := ⟨_, rfl⟩
        obtain ⟨P, hP⟩ : ∃ P, (prt (l.drop k) (m - k) false).reverse = P := ⟨_, rfl⟩
        have iP : ∀ W, Below w.heap.size w W → Calls Tryd.prog 19 #[.slice (some ⟨g, off + k, none⟩) (n - k) (c - k), .int .i64 ((m : Int) - (k : Int)), .bool false] W (GivesL P W) := fun W hb => by
          rw [← hP, show (m : Int) - (k : Int) = ((m - k : Nat) : Int) by omega]
          exact ih (l.drop k) g (off + k) (n - k) (c - k) (m - k) false W (by omega) (by rw [List.length_drop]; omega) (by omega) (by omega) (by omega) (by unfold maxLen; omega) (by omega) (fun s h => hs s (List.mem_of_mem_drop h)) ((hp.later hb).drop k) (hK.below hb)
        have iR : ∀ W, Below w.heap.size w W → Calls Tryd.prog 12 #[.slice (some ⟨g, off, none⟩) k c] W fun e w' => e = .returned (.string (bs A)) ∧ Below W.heap.size W w' := fun W hb => by
          rw [← hA]
          exact Root_at n (l.take k) g off k c W (by omega) (by rw [List.length_take]; omega) (by omega) (by omega) (by unfold maxLen; omega) (by omega) (fun s h => hs s (List.mem_of_mem_take h)) ((hp.later hb).take k) (hK.below hb)
        have hR : (prt l m b).reverse = P ++ [A] := by rw [hpm, hA, List.reverse_cons, hP]
        have hPl : P.length ≤ 2000000 := by rw [hpm, List.length_cons] at hpl; rw [← hP, List.length_reverse]; omega
        rw [hR]
        have IP := Lib.hid iP
        have IR := Lib.hid iR
        have hif : ¬ (m : Int) ≤ (k : Int) := by omega
        have wr1 : IntKind.i64.wrap ((m : Int) - (k : Int)) = (m : Int) - (k : Int) := by rw [IntKind.wrap_i64]; omega
        clear hN ih hpm hpl hA hP iP iR hR hp hs hkk hl
        go_enter Tryd.func19, Tryd.ntmps19
        go_wp2_with fail
        refine hfp.mono ?_
        rintro e w1 ⟨rfl, rfl⟩
        go_wp2_with fail
        go_region_held3 (fun _ => True) (trivial)
          (first
            | (go_at_call 19; (with_reducible refine (IP.out _ (Below.refl _ _).drew).mono ?_); rintro e wA ⟨v, rfl, oA0, bA0⟩; have bA := below_undrew bA0; have oA : OwnS wA w.heap.size v P := oA0)
            | (go_at_call 12; (with_reducible refine (IR.out _ bA).mono ?_); rintro e wB ⟨rfl, bB0⟩; have bB := below_on bA bB0 bA.size; have oB := oA.later bB0; have sB := bB.size)
            | (refine step_pushS (by rfl) _ _ (by rfl) w.heap.size v P (by rfl) (oB.alloc _) ⟨wB.heap.size, 0, none⟩ 1 A (by rfl) (fresh_cell wB _ _) hPl (le_alloc sB _) ?_; intro v1 wC oC bC))
        all_goals
          have bD := (bB.alloc sB (.cells #[.string (bs A)] 9)).trans bC
          have HO := Lib.hid oC
          clear oA0 oA oB oC
          go_wp2_with fail
          go_ret
          exact ⟨_, rfl, HO.out, bD⟩

/-- what Extension gives -/
def ext (l : Strs) (m : Nat) : Strs := if m = 0 then [] else (prt l m true).reverse
theorem Extension_in (l : Strs) (a : Option Addr) (n c m : Nat) (w : World) (hL : IsL w a n c l) (hmn : m ≤ n) (hbig : n ≤ 1000000) (hs : ∀ s ∈ l, s.length ≤ 100000) (hK : KAt w) :
    Calls Tryd.prog 11 #[.slice a n c, .int .i64 (m : Int)] w (GivesP (ext l m) 0 w) := by
  unfold ext
  by_cases h0 : m = 0
  · rw [if_pos h0]
    subst h0
    clear hL hs
    go_enter Tryd.func11, Tryd.ntmps11
    go_wp2_with fail
    go_ret2
    exact ⟨_, rfl, OwnS.nil _ _, Below.refl _ _⟩
  · obtain ⟨g, off, rfl, hp⟩ := hL.at (by omega)
    have h := dpart_at n l g off n c m true w (Nat.le_refl _) hL.len (by omega) hmn hL.cap hL.max hbig hs hp hK
    rw [if_neg h0]
    obtain ⟨P, hP⟩ : ∃ P, (prt l m true).reverse = P := ⟨_, rfl⟩
    rw [hP] at h ⊢
    have H := Lib.hid h
    have h1 : 1 ≤ m := by omega
    have e0 : ((m : Int) == 0) = false := by rw [beq_eq_false_iff_ne]; omega
    clear h hP hp hs hL h0
    go_enter Tryd.func11, Tryd.ntmps11
    go_wp2_with fail
    refine H.out.mono ?_
    rintro e w1 ⟨v, rfl, ho, hb⟩
    have HO := Lib.hid ho
    clear ho
    go_wp2_with fail
    go_ret2
    exact ⟨v, rfl, HO.out, hb⟩
theorem Extension_out (a : Option Addr) (n c : Nat) (m : Int) (w : World) (_hn : n ≤ maxLen) (h1 : -9223372036854775808 ≤ m) (h2 : m ≤ 9223372036854775807) (h : m < 0 ∨ (n : Int) < m) :
    Calls Tryd.prog 11 #[.slice a n c, .int .i64 m] w (GivesP [] 2 w) := by
  unfold maxLen at _hn
  by_cases h0 : m < 0
  · clear h
    go_enter Tryd.func11, Tryd.ntmps11
    go_wp2_with fail
    go_ret2
    exact ⟨_, rfl, OwnS.nil _ _, Below.refl _ _⟩
  · have h3 : (n : Int) < m := by omega
    clear h
    go_enter Tryd.func11, Tryd.ntmps11
    go_wp2_with fail
    go_ret2
    exact ⟨_, rfl, OwnS.nil _ _, Below.refl _ _⟩

end Go.Proofs.YtagcpjokajcdiaaDoor
