/-
  Layer 2: the law's helper 'collide'.
-/
import Derived.Test.YtagcpjokajcdiaaDoorLac
namespace Go.Proofs.YtagcpjokajcdiaaDoor
open Go.RowKit Bs

set_option maxRecDepth 100000 in
set_option maxHeartbeats 1000000 in
theorem collide_any (A B : Strs) (a b : Option Addr) (na ca nb cb : Nat) (w : World) (hA : IsL w a na ca A) (hB : IsL w b nb cb B) (hsA : ∀ x ∈ A, x.length ≤ 900000) (hsB : ∀ x ∈ B, x.length ≤ 900000)
    (hit : Tr.Hit dig A B) (hK : KAt w) :
    Calls Tryd.prog 9 #[.slice a na ca, .slice b nb cb] w fun e w' => e = .returned (.bool true) ∧ Below w.heap.size w w' := by
  obtain ⟨i, x0, y0, h1, h2, hne, heq⟩ := hit
  have i1 : i < na := by have := (List.getElem?_eq_some_iff.1 h1).1; rw [hA.len] at this; exact this
  have i2 : i < nb := by have := (List.getElem?_eq_some_iff.1 h2).1; rw [hB.len] at this; exact this
  have hma := Nat.le_trans hA.cap hA.max
  have hmb := Nat.le_trans hB.cap hB.max
  unfold maxLen at hma hmb
  obtain ⟨g1, o1, rfl, p1⟩ := hA.at (by omega)
  obtain ⟨g2, o2, rfl, p2⟩ := hB.at (by omega)
  have lA := hA.len
  have lB := hB.len
  have l1 : g1 < w.heap.size := p1.lt (by omega)
  have l2 : g2 < w.heap.size := p2.lt (by omega)
  have P1 := Lib.hid p1
  have P2 := Lib.hid p2
  have H1 := Lib.hid h1
  have H2 := Lib.hid h2
  have SA := Lib.hid hsA
  have SB := Lib.hid hsB
  have NE := Lib.hid hne
  have EQ := Lib.hid heq
  clear p1 p2 h1 h2 hsA hsB hne heq hA hB
  go_enter Tryd.func9, Tryd.ntmps9
  go_wp2_with fail
  go_loopw [5] (fun q wr => ∃ j : Nat, j ≤ i ∧ q = .int .i64 j ∧ Below w.heap.size w wr) (fun q _ => i - (intOf q).toNat)
  case atStart => exact ⟨0, by omega, rfl, Below.refl _ _⟩
  case round =>
    obtain ⟨j, hj, rfl, hw⟩ := hrel
    have j1 : (j : Int) < (na : Int) := by omega
    have j2 : (j : Int) < (nb : Int) := by omega
    have c1 := P1.out.later hw j (by omega)
    have c2 := P2.out.later hw j (by omega)
    obtain ⟨x, hx⟩ : ∃ x, A.getD j [] = x := ⟨_, rfl⟩
    obtain ⟨y, hy⟩ : ∃ y, B.getD j [] = y := ⟨_, rfl⟩
    have lx : x.length ≤ 900000 := by rw [← hx]; exact SA.out _ (getD_mem A j (by omega))
    have ly : y.length ≤ 900000 := by rw [← hy]; exact SB.out _ (getD_mem B j (by omega))
    rw [hx] at c1
    rw [hy] at c2
    have HX := Lib.hid hx
    have HY := Lib.hid hy
    clear hx hy
    have e0 : j = i → x = x0 ∧ y = y0 := fun e => by
      subst e
      have a1 := H1.out
      have a2 := H2.out
      rw [List.getElem?_eq_getElem (by omega)] at a1 a2
      exact ⟨by rw [← HX.out, getD_eq A j (by omega)]; exact Option.some.inj a1, by rw [← HY.out, getD_eq B j (by omega)]; exact Option.some.inj a2⟩
    have E0 := Lib.hid e0
    clear e0
    by_cases hxy : x = y
    · have hjn : j ≠ i := fun e => by obtain ⟨r1, r2⟩ := E0.out e; exact NE.out (by rw [← r1, ← r2, hxy])
      have hq := bsEq_true hxy
      clear hxy
      go_wp2_with fail
      go_quiet (fail)
      go_wp2_with fail
      go_roundw
      case rel => exact ⟨j + 1, by omega, by go_num, below_drewN hw nq⟩
      case measure => simp [intOf]; omega
    · have hq := bsEq_false hxy
      have iX : ∀ W, Below w.heap.size w W → Calls Tryd.prog 8 #[.string (bs x)] W fun e w' => e = .returned (.string (bs (dig x))) ∧ Below W.heap.size W w' := fun W hb => Sum_any x W (hK.below hb) lx
      have iY : ∀ W, Below w.heap.size w W → Calls Tryd.prog 8 #[.string (bs y)] W fun e w' => e = .returned (.string (bs (dig y))) ∧ Below W.heap.size W w' := fun W hb => Sum_any y W (hK.below hb) ly
      by_cases hd : dig x = dig y
      · have hr := bsEq_true hd
        obtain ⟨dx, hdx⟩ : ∃ d, dig x = d := ⟨_, rfl⟩
        obtain ⟨dy, hdy⟩ : ∃ d, dig y = d := ⟨_, rfl⟩
        rw [hdx, hdy] at hr
        rw [hdx] at iX
        rw [hdy] at iY
        have IX := Lib.hid iX
        have IY := Lib.hid iY
        clear iX iY hd hdx hdy hxy
        go_wp2_with fail
        go_region_held3 (fun w' => w'.cell? ⟨g1, o1 + j, none⟩ = some (.string (bs x)) ∧ w'.cell? ⟨g2, o2 + j, none⟩ = some (.string (bs y))) (go_keep)
          (first
            | (go_at_call 8; (with_reducible refine (IX.out _ (off_on hw)).mono ?_); rintro e wA ⟨rfl, bA0⟩; have bA := below_on hw (below_undrew bA0) hw.size; have kA1 := P1.out.later bA j (by omega); have kA2 := P2.out.later bA j (by omega); rw [HX.out] at kA1; rw [HY.out] at kA2)
            | (go_at_call 8; (with_reducible refine (IY.out _ bA).mono ?_); rintro e wB ⟨rfl, bB0⟩; have bB := below_on bA bB0 bA.size; have kB1 := P1.out.later bB j (by omega); have kB2 := P2.out.later bB j (by omega); rw [HX.out] at kB1; rw [HY.out] at kB2))
        all_goals
          go_wp2_with fail
          go_ret
          exact ⟨rfl, bB⟩
      · have hjn : j ≠ i := fun e => by obtain ⟨r1, r2⟩ := E0.out e; exact hd (by rw [r1, r2]; exact EQ.out)
        have hr := bsEq_false hd
        obtain ⟨dx, hdx⟩ : ∃ d, dig x = d := ⟨_, rfl⟩
        obtain ⟨dy, hdy⟩ : ∃ d, dig y = d := ⟨_, rfl⟩
        rw [hdx, hdy] at hr
        rw [hdx] at iX
        rw [hdy] at iY
        have IX := Lib.hid iX
        have IY := Lib.hid iY
        clear iX iY hd hdx hdy hxy
        go_wp2_with fail
        go_region_held3 (fun w' => w'.cell? ⟨g1, o1 + j, none⟩ = some (.string (bs x)) ∧ w'.cell? ⟨g2, o2 + j, none⟩ = some (.string (bs y))) (go_keep)
          (first
            | (go_at_call 8; (with_reducible refine (IX.out _ (off_on hw)).mono ?_); rintro e wA ⟨rfl, bA0⟩; have bA := below_on hw (below_undrew bA0) hw.size; have kA1 := P1.out.later bA j (by omega); have kA2 := P2.out.later bA j (by omega); rw [HX.out] at kA1; rw [HY.out] at kA2)
            | (go_at_call 8; (with_reducible refine (IY.out _ bA).mono ?_); rintro e wB ⟨rfl, bB0⟩; have bB := below_on bA bB0 bA.size; have kB1 := P1.out.later bB j (by omega); have kB2 := P2.out.later bB j (by omega); rw [HX.out] at kB1; rw [HY.out] at kB2))
        all_goals
          go_wp2_with fail
          go_roundw
          case rel => exact ⟨j + 1, by omega, by go_num, bB⟩
          case measure => simp [intOf]; omega

end Go.Proofs.YtagcpjokajcdiaaDoor
