/-
  Layer 2: the law's helper 'heads'; the reference's Same.
-/
import Derived.Test.YtagcpjokajcdiaaDoorLwy
import Derived.Laws.MakeOwn
namespace Go.Proofs.YtagcpjokajcdiaaDoor
open Go.RowKit Bs

def zs32 : List Nat := List.replicate 32 0
theorem mk32 (w : World) : (Instr.makeSlice 29 (.int .i64 32) (.int .i64 32)).run Tryd.prog w = .ok (.slice (some ⟨w.heap.size, 0, none⟩) 32 32) (w.alloc (.cells (iv .u8 zs32).toArray 5)) := by
  obtain ⟨i0, hi, hz0, hz1, hz2⟩ := info_parts Tryd.infoU8
  have h := run_makeSlice (P := Tryd.prog) w 29 5 i0 (.int .u8 0) Tryd.underlying29 hi hz0 .i64 .i64 32 32 (by omega) (by omega) (by rw [hz1]; decide) (by rw [hz2]; decide) (by omega)
  rw [h, hz1, show madeCells (Value.int .u8 0).cells (Int.toNat 32 * 1) = (iv .u8 zs32).toArray from by kernel_rfl]
  rfl
theorem cv32 (w : World) : (convert 29 9 (.slice (some ⟨w.heap.size, 0, none⟩) 32 32)).run Tryd.prog (w.alloc (.cells (iv .u8 zs32).toArray 5)) = .ok (.string (bs Tr.zero32)) (w.alloc (.cells (iv .u8 zs32).toArray 5)) :=
  arr_str (c := 32) (Arr.new w 5 .u8 zs32) rfl (by intro b hb; rw [List.eq_of_mem_replicate hb]; omega)

set_option maxRecDepth 100000 in
set_option maxHeartbeats 1000000 in
theorem heads_any (L : Strs) (a : Option Addr) (n c : Nat) (w : World) (hL : IsL w a n c L) (hn : n ≤ 1000) (hs : ∀ x ∈ L, x.length ≤ 60) (hK : KAt w) :
    Calls Tryd.prog 6 #[.slice a n c] w (GivesW (Tr.hds dig L.reverse) (Tr.hd dig L.reverse) w) := by
  have hmk := mk32
  have hcv := cv32
  obtain ⟨W1, hW1⟩ : ∃ W, w.alloc (.cells (iv .u8 zs32).toArray 5) = W := ⟨_, rfl⟩
  have hb1 : Below w.heap.size w W1 := by rw [← hW1]; exact (Below.refl _ w).alloc (Nat.le_refl _) _
  have hmk1 := hmk w
  have hcv1 := hcv w
  rw [hW1] at hmk1 hcv1
  clear hmk hcv hW1
  have HL := Lib.hid hL
  have HS := Lib.hid hs
  have hz0 : Tr.hd dig [] = Tr.zero32 := rfl
  clear hL hs
  go_enter Tryd.func6, Tryd.ntmps6
  go_wp2_with fail
  go_loopw [4, 5, 6] (fun h v i wr => ∃ j : Nat, j ≤ n ∧ i = .int .i64 j ∧ h = .string (bs (Tr.hd dig (L.take j).reverse)) ∧ OwnS wr w.heap.size v (Tr.hds dig (L.take j).reverse) ∧ Below w.heap.size w wr) (fun _ _ i _ => n - (intOf i).toNat)
  case atStart => exact ⟨0, by omega, rfl, by rw [List.take_zero]; rfl, OwnS.nil _ _, hb1⟩
  case round =>
    obtain ⟨j, hj, rfl, rfl, hown, hw⟩ := hrel
    have hwsz := hw.size
    rcases Nat.lt_or_ge j n with hjn | hjn
    · obtain ⟨g, off, rfl, hp⟩ := HL.out.at (by omega)
      have hll := HL.out.len
      have hcell := hp.later hw j (by omega)
      have hx60 := HS.out (L.getD j []) (getD_mem L j (by omega))
      have htk : (L.take (j + 1)).reverse = L.getD j [] :: (L.take j).reverse := by
        rw [List.take_succ_eq_append_getElem (by omega), getD_eq L j (by omega)]; simp
      have hh32 := Tr.hd_length dig dig_len (L.take j).reverse
      have hhl := Tr.hds_length dig (L.take j).reverse
      rw [List.length_reverse, List.length_take] at hhl
      have e1 : Tr.hd dig (L.take (j + 1)).reverse = dig (2 :: (Tr.hd dig (L.take j).reverse ++ L.getD j [])) := by rw [htk]; rfl
      have e2 : Tr.hds dig (L.take (j + 1)).reverse = (2 :: (Tr.hd dig (L.take j).reverse ++ L.getD j [])) :: Tr.hds dig (L.take j).reverse := by rw [htk]; rfl
      obtain ⟨x, hx⟩ : ∃ x, L.getD j [] = x := ⟨_, rfl⟩
      obtain ⟨H, hH⟩ : ∃ H, Tr.hd dig (L.take j).reverse = H := ⟨_, rfl⟩
      obtain ⟨D, hD⟩ : ∃ D, Tr.hds dig (L.take j).reverse = D := ⟨_, rfl⟩
      rw [hx] at hcell hx60 e1 e2
      rw [hH] at hh32 e1 e2 ⊢
      rw [hD] at hhl hown e2
      have E1 := Lib.hid e1
      have E2 := Lib.hid e2
      have HO := Lib.hid hown
      have HP := Lib.hid hp
      have HX := Lib.hid hx
      have q1 : (⟨#[2]⟩ : ByteArray) ++ bs H = bs (2 :: H) := bs_append [2] H
      have q2 : bs (2 :: H) ++ bs x = bs (2 :: (H ++ x)) := bs_append (2 :: H) x
      have z1 := bs_size H
      have z2 := bs_size x
      have z3 : (bs (2 :: H)).size = H.length + 1 := bs_size (2 :: H)
      have i1 : (j : Int) < (n : Int) := by omega
      have hln : j < L.length := by omega
      clear e1 e2 hown hp htk hx hH hD hll
      go_wp2_with (at_builtin; refine wpList_pushAllS rfl _ _ rfl w.heap.size _ [2 :: (H ++ x)] rfl (OwnS.lit wr w.heap.size (2 :: (H ++ x)) hwsz) w.heap.size _ D rfl (HO.out.alloc _) (by simp; omega) (by simp; omega) ?_)
      intro u3 w3 ho3 hb3
      have HO3 := Lib.hid ho3
      have hb4 : Below w.heap.size w w3 := (hw.alloc hwsz (.cells #[.string (bs (2 :: (H ++ x)))] 9)).trans hb3
      have hc3 := HP.out.later hb4 j hln
      rw [HX.out] at hc3
      clear ho3 hb3 hcell HO
      go_wp2_with fail
      refine (Chain_any H x _ (hK.below hb4) (by omega) (by omega)).mono ?_
      rintro e w4 ⟨rfl, hb5⟩
      have HO4 := Lib.hid (HO3.out.later hb5)
      clear HO3
      go_wp2_with fail
      go_roundw
      case rel => exact ⟨j + 1, by omega, by go_num, by rw [E1.out], by rw [E2.out]; exact HO4.out, below_on hb4 hb5 hb4.size⟩
      case measure => simp [intOf]; omega
    · obtain rfl : n = j := by omega
      rw [List.take_of_length_le (by rw [HL.out.len]; exact Nat.le_refl _)] at hown ⊢
      have HO := Lib.hid hown
      clear hown
      obtain ⟨H, hH⟩ : ∃ H, Tr.hd dig L.reverse = H := ⟨_, rfl⟩
      rw [hH]
      have HH := Lib.hid hH
      clear hH
      go_wp2_with fail
      go_ret2
      exact ⟨_, by rw [HH.out]; rfl, HO.out, hw⟩

set_option maxRecDepth 100000 in
set_option maxHeartbeats 1000000 in
theorem Same_any (A B : Strs) (a b : Option Addr) (na ca nb cb : Nat) (w : World) (hA : IsL w a na ca A) (hB : IsL w b nb cb B) :
    Calls Tryd.prog 7 #[.slice a na ca, .slice b nb cb] w fun e w' => e = .returned (.bool (decide (A = B))) ∧ Below w.heap.size w w' := by
  have hma := Nat.le_trans hA.cap hA.max
  have hmb := Nat.le_trans hB.cap hB.max
  unfold maxLen at hma hmb
  have lA := hA.len
  have lB := hB.len
  by_cases hl : na = nb
  · subst hl
    have HA := Lib.hid hA
    have HB := Lib.hid hB
    have LA := Lib.hid lA
    have LB := Lib.hid lB
    clear hA hB lA lB
    go_enter Tryd.func7, Tryd.ntmps7
    go_wp2_with fail
    go_loopw [5] (fun q wr => ∃ j : Nat, j ≤ na ∧ q = .int .i64 j ∧ Hid (A.take j = B.take j) ∧ Below w.heap.size w wr) (fun q _ => na - (intOf q).toNat)
    case atStart => exact ⟨0, by omega, rfl, Lib.hid rfl, Below.refl _ _⟩
    case round =>
      obtain ⟨j, hj, rfl, hpre, hw⟩ := hrel
      rcases Nat.lt_or_ge j na with hjn | hjn
      · obtain ⟨g1, o1, rfl, p1⟩ := HA.out.at (by omega)
        obtain ⟨g2, o2, rfl, p2⟩ := HB.out.at (by omega)
        have j1 : (j : Int) < (na : Int) := by omega
        have c1 := p1.later hw j (by rw [LA.out]; exact hjn)
        have c2 := p2.later hw j (by rw [LB.out]; exact hjn)
        obtain ⟨x, hx⟩ : ∃ x, A.getD j [] = x := ⟨_, rfl⟩
        obtain ⟨y, hy⟩ : ∃ y, B.getD j [] = y := ⟨_, rfl⟩
        rw [hx] at c1
        rw [hy] at c2
        have HX := Lib.hid hx
        have HY := Lib.hid hy
        clear p1 p2 hx hy
        by_cases hxy : x = y
        · have hq := bsEq_true hxy
          have hnx := Lib.hid (show A.take (j + 1) = B.take (j + 1) by
            have s1 := LA.out
            have s2 := LB.out
            rw [List.take_succ_eq_append_getElem (by omega), List.take_succ_eq_append_getElem (by omega), hpre.out, ← getD_eq A j (by omega), ← getD_eq B j (by omega), HX.out, HY.out, hxy])
          clear hxy
          go_wp2_with fail
          go_quiet (fail)
          go_wp2_with fail
          go_roundw
          case rel => exact ⟨j + 1, by omega, by go_num, hnx, below_drewN hw nq⟩
          case measure => simp [intOf]; omega
        · have hq := bsEq_false hxy
          have hne := Lib.hid (show decide (A = B) = false by
            rw [decide_eq_false_iff_not]; intro e; subst e; exact hxy (HX.out.symm.trans HY.out))
          clear hxy
          go_wp2_with fail
          go_quiet (fail)
          go_wp2_with fail
          go_ret
          exact ⟨by rw [hne.out]; rfl, below_drewN hw nq⟩
      · obtain rfl : na = j := by omega
        have heq := Lib.hid (show decide (A = B) = true by
          rw [decide_eq_true_eq]
          have := hpre.out
          rw [List.take_of_length_le (by rw [LA.out]; exact Nat.le_refl _), List.take_of_length_le (by rw [LB.out]; exact Nat.le_refl _)] at this
          exact this)
        go_wp2_with fail
        go_ret
        exact ⟨by rw [heq.out]; rfl, hw⟩
  · have hne : decide (A = B) = false := by
      rw [decide_eq_false_iff_not]; intro e; subst e; exact hl (lA.symm.trans lB)
    rw [hne]
    have e1 : ((na : Int) != (nb : Int)) = true := by rw [bne_iff_ne]; omega
    have e2 : ((na : Int) == (nb : Int)) = false := by rw [beq_eq_false_iff_ne]; omega
    clear hA hB lA lB hne
    go_enter Tryd.func7, Tryd.ntmps7
    go_wp2_with fail
    go_ret
    exact ⟨rfl, Below.refl _ _⟩

end Go.Proofs.YtagcpjokajcdiaaDoor
