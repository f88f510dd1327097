/-
  Layer 6: Lagrange's weights.
-/
import Derived.Test.YtajfmhiejipaoaaDoorErb
namespace Go.Proofs.YtajfmhiejipaoaaDoor
open Go.RowKit Bs Ef

/-- elements as numbers -/
abbrev gl (l : List G) : List Nat := l.map Fin.val
theorem gl_lt (l : List G) : ∀ x ∈ gl l, x < 256 := by
  intro x hx
  obtain ⟨g, -, rfl⟩ := List.mem_map.1 hx
  exact g.2
theorem gl_at (l : List G) (i : Nat) (h : i < l.length) : (gl l).getD i 0 = (l[i]).val := by
  rw [List.getD_eq_getElem?_getD, List.getElem?_map, List.getElem?_eq_getElem h]
  rfl
theorem lw_snoc (p x w : G) (l : List G) (q : G) : lw p x w (l ++ [q]) = if q ≠ p then mu (lw p x w l) (qu (ga x q) (ga p q)) else lw p x w l := by
  induction l generalizing w with
  | nil => rfl
  | cons a l ih => rw [List.cons_append, lw, ih]; rfl
theorem product_w (g : Nat) (a b : G) (w : World) (hF : FldAt w g) :
    Calls Tryd.prog 61 #[.int .u8 (a.val : Nat), .int .u8 (b.val : Nat), .pointer (some ⟨g, 0, none⟩), .pointer (some ⟨g + 1, 0, none⟩)] w fun e w' => e = .returned (.int .u8 ((mu a b).val : Nat)) ∧ ∃ m, w' = w.drewN m := product_q g a.val b.val a.2 b.2 w hF
theorem quotient_w (g : Nat) (a b : G) (w : World) (hF : FldAt w g) :
    Calls Tryd.prog 62 #[.int .u8 (a.val : Nat), .int .u8 (b.val : Nat), .pointer (some ⟨g, 0, none⟩), .pointer (some ⟨g + 1, 0, none⟩)] w fun e w' => e = .returned (.int .u8 ((qu a b).val : Nat)) ∧ ∃ m, w' = w.drewN m := quotient_q g a.val b.val a.2 b.2 w hF
theorem xor_g (a b : G) : bits .xor .u8 (a.val : Nat) (b.val : Nat) = ((ga a b).val : Nat) := xor_b a.val b.val a.2 b.2
theorem FldAt.drewN {W : World} {g : Nat} (h : FldAt W g) (q : Nat) : FldAt (W.drewN q) g := ⟨h.p.drewN q, h.l.drewN q⟩

set_option maxRecDepth 100000 in
set_option maxHeartbeats 2000000 in
theorem weight1_any (p x : G) (pts : List G) (g gp off n c b1 b2 b3 : Nat) (w : World) (hF : FldAt w g) (hn : pts.length = n) (hn2 : n ≤ 100) (hP : Nums w gp off n .u8 (gl pts)) (hc : n ≤ c)
    (h1 : w.cell? ⟨b1, 0, none⟩ = some (.slice (some ⟨gp, off, none⟩) n c)) (h2 : w.cell? ⟨b2, 0, none⟩ = some (fprod g)) (h3 : w.cell? ⟨b2, 1, none⟩ = some (fquot g)) (h4 : w.cell? ⟨b3, 0, none⟩ = some (.int .u8 (x.val : Nat))) :
    Calls Tryd.prog 79 #[.int .u8 (p.val : Nat), .pointer (some ⟨b1, 0, none⟩), .pointer (some ⟨b2, 0, none⟩), .pointer (some ⟨b3, 0, none⟩)] w fun e w' => e = .returned (.int .u8 ((lw p x o1 pts).val : Nat)) ∧ ∃ m, w' = w.drewN m := by
  unfold fprod at h2
  unfold fquot at h3
  have HF := Lib.hid hF
  go_enter Tryd.func79, Tryd.ntmps79
  go_wp2_with fail
  go_loopw [6, 11] (fun v i wr => ∃ j : Nat, j ≤ n ∧ v = .int .u8 ((lw p x o1 (pts.take j)).val : Nat) ∧ i = .int .i64 j ∧ ∃ m, wr = w.drewN m) (fun _ i _ => n - (intOf i).toNat)
  case atStart => exact ⟨0, Nat.zero_le _, rfl, rfl, 0, rfl⟩
  case round =>
    obtain ⟨j, hj, rfl, rfl, m, rfl⟩ := hrel
    rcases Nat.lt_or_ge j n with h | h
    · have hq := (hP.drewN m).cell j h
      rw [gl_at _ _ (by omega)] at hq
      have hsn : lw p x o1 (pts.take (j + 1)) = if pts[j]'(by omega) ≠ p then mu (lw p x o1 (pts.take j)) (qu (ga x (pts[j]'(by omega))) (ga p (pts[j]'(by omega)))) else lw p x o1 (pts.take j) := by
        rw [← lw_snoc, List.take_succ_eq_append_getElem (by omega)]
      obtain ⟨q, hqq⟩ : ∃ q : G, pts[j]'(by omega) = q := ⟨_, rfl⟩
      rw [hqq] at hq hsn
      clear hqq
      obtain ⟨v, hv⟩ : ∃ v : G, lw p x o1 (pts.take j) = v := ⟨_, rfl⟩
      rw [hv] at hsn ⊢
      clear hv
      have k1 : (w.drewN m).cell? ⟨b2, 0, none⟩ = _ := h2
      have k2 : (w.drewN m).cell? ⟨b2, 1, none⟩ = _ := h3
      have k3 : (w.drewN m).cell? ⟨b3, 0, none⟩ = _ := h4
      by_cases he : q = p
      · subst he
        rw [if_neg (fun h => h rfl)] at hsn
        have HS := Lib.hid hsn
        clear hsn
        go_wp2_with fail
        go_roundw
        case rel => exact ⟨j + 1, h, by rw [HS.out], by go_num, m, rfl⟩
        case measure => simp [intOf]; omega
      · rw [if_pos he] at hsn
        have HS := Lib.hid hsn
        have e0 : ((q.val : Int) == (p.val : Int)) = false := beq_false_of_ne (fun h => he (Fin.ext (by omega)))
        have e1 : ((q.val : Int) != (p.val : Int)) = true := by rw [bne, e0]; rfl
        have x1 := xor_g x q
        have x2 := xor_g p q
        obtain ⟨W, hW⟩ : ∃ W, w.drewN m = W := ⟨_, rfl⟩
        have hFW : FldAt W g := by rw [← hW]; exact HF.out.drewN m
        rw [hW] at hq k1 k2 k3 ⊢
        have HW := Lib.hid hW
        clear hsn he hW
        go_wp2_with fail
        go_quiet (first
          | (go_at_call 62; exact Calls.quiet_of (quotient_w _ _ _ _ (hFW.drewN _)))
          | (go_at_call 61; exact Calls.quiet_of (product_w _ _ _ _ (hFW.drewN _))))
        go_wp2_with fail
        go_roundw
        case rel => exact ⟨j + 1, h, by rw [HS.out], by go_num, m + nq, by rw [← HW.out, World.drewN_drewN]⟩
        case measure => simp [intOf]; omega
    · obtain rfl : j = n := by omega
      rw [List.take_of_length_le (by omega)]
      go_wp2_with fail
      go_ret
      exact ⟨rfl, m, rfl⟩

end Go.Proofs.YtajfmhiejipaoaaDoor
