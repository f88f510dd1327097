/-
  The law DigestChainBinding: the walk.
-/
import Derived.Test.YtagcpjokajcdiaaDoorLhd
import Derived.Test.YtagcpjokajcdiaaDoorLcg
import Derived.Deep.DeepCutAuto
namespace Go.Proofs.YtagcpjokajcdiaaDoor
open Go.RowKit Bs

theorem hds_lens (r : Strs) (hr : ∀ x ∈ r, x.length ≤ 60) : ∀ y ∈ Tr.hds dig r, y.length ≤ 900000 := by
  induction r with
  | nil => intro y hy; simp [Tr.hds] at hy
  | cons x r ih =>
    intro y hy
    have e : Tr.hds dig (x :: r) = (2 :: (Tr.hd dig r ++ x)) :: Tr.hds dig r := rfl
    rw [e] at hy
    rcases List.mem_cons.1 hy with rfl | hy
    · have h1 := Tr.hd_length dig dig_len r
      have h2 := hr x (by simp)
      simp only [List.length_cons, List.length_append]; omega
    · exact ih (fun z hz => hr z (by simp [hz])) y hy
theorem arr_cv {W : World} {g : Nat} (h : Arr W g 5 .u8 zs32) : (convert 29 9 (.slice (some ⟨g, 0, none⟩) 32 32)).run Tryd.prog W = .ok (.string (bs Tr.zero32)) W :=
  arr_str (c := 32) h rfl (by intro b hb; rw [List.eq_of_mem_replicate hb]; omega)
/-- what the binding of heads says, with the lists in their order -/
theorem heads_bind {A B : Strs} {na nb : Nat} (hna : A.length = na) (hnb : B.length = nb) (hne : A ≠ B) (hh : Tr.hd dig A.reverse = Tr.hd dig B.reverse) :
    (na = nb → Tr.Hit dig (Tr.hds dig A.reverse) (Tr.hds dig B.reverse)) ∧
    (na < nb → Tr.Hit dig (Tr.hds dig A.reverse) (Tr.hds dig B.reverse) ∨ dig ((Tr.hds dig B.reverse).getD na []) = Tr.zero32) ∧
    (nb < na → Tr.Hit dig (Tr.hds dig A.reverse) (Tr.hds dig B.reverse) ∨ dig ((Tr.hds dig A.reverse).getD nb []) = Tr.zero32) := by
  have h := Tr.binds_head dig dig_len A.reverse B.reverse (fun e => hne (by rw [← List.reverse_reverse A, e, List.reverse_reverse])) hh
  rw [List.length_reverse, List.length_reverse, hna, hnb] at h
  refine ⟨fun e => ?_, fun e => ?_, fun e => ?_⟩
  · rcases h with h | ⟨h, _⟩
    · exact h
    · exact absurd e h
  · rcases h with h | ⟨_, z, h1, h2⟩
    · exact .inl h
    · rw [if_pos e, show min na nb = na by omega] at h1
      right; rw [List.getD_eq_getElem?_getD, h1]; exact h2
  · rcases h with h | ⟨_, z, h1, h2⟩
    · exact .inl h
    · rw [if_neg (by omega), show min na nb = nb by omega] at h1
      right; rw [List.getD_eq_getElem?_getD, h1]; exact h2

set_option maxRecDepth 100000 in
set_option maxHeartbeats 8000000 in
theorem ChainBinding_any (a1 a2 : Option Addr) (n1 c1 n2 c2 : Nat) (ss1 ss2 : List ByteArray) (w : World) (hS1 : Fr.IsStrs w a1 n1 ss1) (hS2 : Fr.IsStrs w a2 n2 ss2) (h : KAt w) :
    Calls Tryd.prog 3 #[.slice a1 n1 c1, .slice a2 n2 c2] w fun e w' => e = .returned (.bool true) ∧ Below w.heap.size w w' := by
  have iF : ∀ W, Below w.heap.size w W → Calls Tryd.prog 5 #[.slice a1 n1 c1, .int .i64 20] W (GivesL (fewL ss1 20) W) := fun W hb => few_any a1 n1 c1 20 ss1 W (IsStrs_below hS1 hb) (by omega)
  have iG : ∀ W, Below w.heap.size w W → Calls Tryd.prog 5 #[.slice a2 n2 c2, .int .i64 20] W (GivesL (fewL ss2 20) W) := fun W hb => few_any a2 n2 c2 20 ss2 W (IsStrs_below hS2 hb) (by omega)
  have hPl : (fewL ss1 20).length ≤ 20 := by rw [fewL_length]; omega
  have hQl : (fewL ss2 20).length ≤ 20 := by rw [fewL_length]; omega
  have hPs : ∀ x ∈ fewL ss1 20, x.length ≤ 60 := fewL_short
  have hQs : ∀ x ∈ fewL ss2 20, x.length ≤ 60 := fewL_short
  obtain ⟨A, hA⟩ : ∃ L, fewL ss1 20 = L := ⟨_, rfl⟩
  obtain ⟨B, hB⟩ : ∃ L, fewL ss2 20 = L := ⟨_, rfl⟩
  rw [hA] at iF hPl hPs
  rw [hB] at iG hQl hQs
  obtain ⟨na, hna⟩ : ∃ n, A.length = n := ⟨_, rfl⟩
  obtain ⟨nb, hnb⟩ : ∃ n, B.length = n := ⟨_, rfl⟩
  rw [hna] at hPl
  rw [hnb] at hQl
  have hXl := Tr.hds_length dig A.reverse
  have hYl := Tr.hds_length dig B.reverse
  rw [List.length_reverse, hna] at hXl
  rw [List.length_reverse, hnb] at hYl
  have hXs := hds_lens A.reverse (fun x hx => hPs x (List.mem_reverse.1 hx))
  have hYs := hds_lens B.reverse (fun x hx => hQs x (List.mem_reverse.1 hx))
  have hH1 := Tr.hd_length dig dig_len A.reverse
  have hH2 := Tr.hd_length dig dig_len B.reverse
  have hbind := fun hne hh => heads_bind (A := A) (B := B) hna hnb hne hh
  have heqH : A = B → Tr.hd dig A.reverse = Tr.hd dig B.reverse := fun e => by rw [e]
  have iX : ∀ W a c, Below w.heap.size w W → IsL W a na c A → Calls Tryd.prog 6 #[.slice a na c] W (GivesW (Tr.hds dig A.reverse) (Tr.hd dig A.reverse) W) := fun W a c hb hL => heads_any A a na c W hL (by omega) hPs (h.below hb)
  have iY : ∀ W a c, Below w.heap.size w W → IsL W a nb c B → Calls Tryd.prog 6 #[.slice a nb c] W (GivesW (Tr.hds dig B.reverse) (Tr.hd dig B.reverse) W) := fun W a c hb hL => heads_any B a nb c W hL (by omega) hQs (h.below hb)
  obtain ⟨X, hX⟩ : ∃ X, Tr.hds dig A.reverse = X := ⟨_, rfl⟩
  obtain ⟨Y, hY⟩ : ∃ Y, Tr.hds dig B.reverse = Y := ⟨_, rfl⟩
  obtain ⟨H1, hHe1⟩ : ∃ X, Tr.hd dig A.reverse = X := ⟨_, rfl⟩
  obtain ⟨H2, hHe2⟩ : ∃ X, Tr.hd dig B.reverse = X := ⟨_, rfl⟩
  rw [hX] at hXl hXs hbind iX
  rw [hY] at hYl hYs hbind iY
  rw [hHe1] at hH1 hbind heqH iX
  rw [hHe2] at hH2 hbind heqH iY
  have hsz1 := bs_size H1
  have hsz2 := bs_size H2
  rw [hH1] at hsz1
  rw [hH2] at hsz2
  have IF := Lib.hid iF
  have IG := Lib.hid iG
  have IX := Lib.hid iX
  have IY := Lib.hid iY
  have XL := Lib.hid hXl
  have YL := Lib.hid hYl
  have XS := Lib.hid hXs
  have YS := Lib.hid hYs
  have BIND := Lib.hid hbind
  have EQH := Lib.hid heqH
  have NA := Lib.hid hna
  have NB := Lib.hid hnb
  clear iF iG iX iY hA hB hX hY hHe1 hHe2 hS1 hS2 hXl hYl hXs hYs hbind heqH hna hnb hPs hQs hH1 hH2
  go_enter Tryd.func3, Tryd.ntmps3
  go_wp2_with fail
  refine (sane_any _ h).mono ?_
  rintro e w1 ⟨rfl, B1⟩
  go_wp2_with fail
  refine (IF.out _ B1).mono ?_
  rintro e w2 ⟨v, rfl, ho, b2⟩
  have B2 := below_on B1 b2 B1.size; clear b2 B1
  obtain ⟨a, c, rfl, hi0, -⟩ := ho.is
  rw [NA.out] at hi0 ⊢
  have HI0 := Lib.hid hi0
  clear hi0 ho
  go_wp2_with fail
  refine (IG.out _ B2).mono ?_
  rintro e w3 ⟨v, rfl, ho, b3⟩
  have HI1 := Lib.hid (HI0.out.later b3)
  have B3 := below_on B2 b3 B2.size; clear b3 B2
  obtain ⟨a', c', rfl, hj0, -⟩ := ho.is
  rw [NB.out] at hj0 ⊢
  have HJ1 := Lib.hid hj0
  clear hj0 ho HI0
  go_wp2_with fail
  refine (IX.out _ _ _ B3 HI1.out).mono ?_
  rintro e w4 ⟨u, rfl, ho, b4⟩
  obtain ⟨a6, c6, rfl, hi6, -⟩ := ho.is
  rw [XL.out] at hi6 ⊢
  have HX4 := Lib.hid hi6
  have HI4 := Lib.hid (HI1.out.later b4)
  have HJ4 := Lib.hid (HJ1.out.later b4)
  have B4 := below_on B3 b4 B3.size
  clear hi6 ho HI1 HJ1 b4 B3
  go_wp2_with fail
  refine (IY.out _ _ _ B4 HJ4.out).mono ?_
  rintro e w5 ⟨u, rfl, ho, b5⟩
  obtain ⟨a7, c7, rfl, hi7, -⟩ := ho.is
  rw [YL.out] at hi7 ⊢
  have HY5 := Lib.hid hi7
  have HX5 := Lib.hid (HX4.out.later b5)
  have HI5 := Lib.hid (HI4.out.later b5)
  have HJ5 := Lib.hid (HJ4.out.later b5)
  have B5 := below_on B4 b5 B4.size
  clear hi7 ho HI4 HJ4 HX4 b5 B4
  go_wp2_with fail
  refine (Same_any A B a a' na c nb c' _ HI5.out HJ5.out).mono ?_
  rintro e w6 ⟨rfl, b6⟩
  have HY6 := Lib.hid (HY5.out.later b6)
  have HX6 := Lib.hid (HX5.out.later b6)
  have B6 := below_on B5 b6 B5.size
  clear HI5 HJ5 HX5 HY5 b6 B5
  by_cases hAB : A = B
  · have hq := bsEq_true (EQH.out hAB)
    rw [decide_eq_true hAB]
    clear hAB
    go_wp2_with fail
    go_ret
    exact ⟨rfl, B6⟩
  · rw [decide_eq_false hAB]
    by_cases hHH : H1 = H2
    · have hq := bsEq_true hHH
      obtain ⟨f1, f2, f3⟩ := BIND.out hAB hHH
      have F1 := Lib.hid f1
      have F2 := Lib.hid f2
      have F3 := Lib.hid f3
      have hmk := mk32
      have hcv := cv32
      clear f1 f2 f3 hAB hHH BIND EQH
      rcases Nat.lt_trichotomy na nb with hlt | heq | hgt
      · have F := Lib.hid (F2.out hlt)
        have hmin := fun w ts t => min_run (P := Tryd.prog) na nb na (by omega) (nb : Int) rfl w ts t
        have k1 : ((na : Int) != (nb : Int)) = true := by rw [bne_iff_ne]; omega
        have k2 : ((na : Int) == (nb : Int)) = false := by rw [beq_eq_false_iff_ne]; omega
        have k3 : (na : Int) < (nb : Int) := by omega
        have k4 : (na : Int) < (nb : Int) := by omega
        obtain ⟨g, off, rfl, hp⟩ := HY6.out.at (by omega)
        have hc := hp na (by rw [YL.out]; omega)
        have hzl := YS.out (Y.getD na []) (getD_mem Y na (by rw [YL.out]; omega))
        obtain ⟨z, hz⟩ : ∃ z, Y.getD na [] = z := ⟨_, rfl⟩
        rw [hz] at hc hzl F
        have lg := hp.lt (by rw [YL.out]; omega)
        have iZ : ∀ W, Below w6.heap.size w6 W → Calls Tryd.prog 8 #[.string (bs z)] W fun e w' => e = .returned (.string (bs (dig z))) ∧ Below W.heap.size W w' := fun W hb => Sum_any z W (h.below (below_on B6 hb B6.size)) hzl
        obtain ⟨d, hd⟩ : ∃ d, dig z = d := ⟨_, rfl⟩
        obtain ⟨Z, hZ⟩ : ∃ Z : Bool, ((bs d).toList == (bs Tr.zero32).toList) = Z := ⟨_, rfl⟩
        have hFZ : Tr.Hit dig X Y ∨ Z = true := F.out.imp id (fun e => by rw [← hZ]; exact bsEq_true (hd.symm.trans e))
        rw [hd] at iZ
        have IZ := Lib.hid iZ
        have FZ := Lib.hid hFZ
        clear hp hz iZ hd F hFZ hzl IF IG IX IY NA NB F1 F2 F3
        have hcvD : (convert 29 9 (.slice (some ⟨w6.heap.size, 0, none⟩) 32 32)).run Tryd.prog ((w6.alloc (.cells (iv .u8 zs32).toArray 5)).drew) = .ok (.string (bs Tr.zero32)) ((w6.alloc (.cells (iv .u8 zs32).toArray 5)).drew) := arr_cv ((Arr.new w6 5 .u8 zs32).later ((Below.refl _ _).drew))
        have hbD : Below w6.heap.size w6 ((w6.alloc (.cells (iv .u8 zs32).toArray 5)).drew) := ((Below.refl _ w6).alloc (Nat.le_refl _) _).drew
        go_upto_region 14 with fail
        clear hsz1 hsz2 hq k2
        go_cut [12] (fun v wx => v = .bool Z ∧ Below w6.heap.size w6 wx)
        case first =>
          clear HX6 HY6 XS YS XL YL FZ
          have arrD : Arr ((w6.alloc (.cells (iv .u8 zs32).toArray 5)).drew) w6.heap.size 5 .u8 zs32 := (Arr.new w6 5 .u8 zs32).later ((Below.refl _ _).drew)
          have ARRD := Lib.hid arrD
          clear arrD
          refine wp_region_held_drew (S := fun w' => w'.cell? ⟨g, off + na, none⟩ = some (.string (bs z))) (by kernel_rfl) ?hS (fun hHeld => ?_)
          case hS => exact hc
          refine wpAnyH_take (i := 0) (oi := _) (v := ?v1) rfl (by kernel_rfl) (by kernel_rfl) (by kernel_rfl) (fun _ _ _ h => h) (Or.inl ⟨by rfl, ?hy1⟩) (by assumption) ?rest1
          case hy1 => (intro w' hSw; (try dsimp only at hSw); go_simp; try with_reducible rfl)
          try simp only [List.getElem_toArray, List.getElem_cons_succ, List.getElem_cons_zero, Act.put, List.setIfInBounds_toArray, List.set_cons_zero, List.set_cons_succ]
          refine wpAnyH_take (i := 1) (oi := _) (v := ?v2) rfl (by kernel_rfl) (by kernel_rfl) (by kernel_rfl) (fun _ _ _ h => h) (Or.inl ⟨by rfl, ?hy2⟩) (by assumption) ?rest2
          case hy2 => (intro w' hSw; (try dsimp only at hSw); go_simp; try with_reducible rfl)
          try simp only [List.getElem_toArray, List.getElem_cons_succ, List.getElem_cons_zero, Act.put, List.setIfInBounds_toArray, List.set_cons_zero, List.set_cons_succ]
          refine wpAnyH_take (i := 2) (oi := _) (v := ?v3) rfl (by kernel_rfl) (by kernel_rfl) (by kernel_rfl) (fun _ _ _ h => h) (Or.inl ⟨by rfl, ?hy3⟩) (by assumption) ?rest3
          case hy3 => (intro w' hSw; (try dsimp only at hSw); go_simp; try with_reducible rfl)
          try simp only [List.getElem_toArray, List.getElem_cons_succ, List.getElem_cons_zero, Act.put, List.setIfInBounds_toArray, List.set_cons_zero, List.set_cons_succ]
          refine wpAnyH_take (i := 3) (oi := _) (v := ?v4) rfl (by kernel_rfl) (by kernel_rfl) (by kernel_rfl) (fun _ _ _ h => h) (Or.inl ⟨by rfl, ?hy4⟩) (by assumption) ?rest4
          case hy4 => (intro w' hSw; (try dsimp only at hSw); go_simp; try with_reducible rfl)
          try simp only [List.getElem_toArray, List.getElem_cons_succ, List.getElem_cons_zero, Act.put, List.setIfInBounds_toArray, List.set_cons_zero, List.set_cons_succ]
          refine wpAnyH_take (i := 4) (oi := _) (v := ?v5) rfl (by kernel_rfl) (by kernel_rfl) (by kernel_rfl) (fun _ _ _ h => h) (Or.inl ⟨by rfl, ?hy5⟩) (by assumption) ?rest5
          case hy5 => (intro w' hSw; (try dsimp only at hSw); go_simp; try with_reducible rfl)
          try simp only [List.getElem_toArray, List.getElem_cons_succ, List.getElem_cons_zero, Act.put, List.setIfInBounds_toArray, List.set_cons_zero, List.set_cons_succ]
          refine wpAnyH_take (i := 5) (oi := _) (v := ?v6) rfl (by kernel_rfl) (by kernel_rfl) (by kernel_rfl) (fun _ _ _ h => h) (Or.inl ⟨by rfl, ?hy6⟩) (by assumption) ?rest6
          case hy6 => (intro w' hSw; (try dsimp only at hSw); go_simp; try with_reducible rfl)
          try simp only [List.getElem_toArray, List.getElem_cons_succ, List.getElem_cons_zero, Act.put, List.setIfInBounds_toArray, List.set_cons_zero, List.set_cons_succ]
          refine wpAnyH_take (i := 6) (oi := _) (v := ?v7) rfl (by kernel_rfl) (by kernel_rfl) (by kernel_rfl) (fun _ _ _ h => h) (Or.inl ⟨by rfl, ?hy7⟩) (by assumption) ?rest7
          case hy7 => (intro w' hSw; (try dsimp only at hSw); go_simp; try with_reducible rfl)
          try simp only [List.getElem_toArray, List.getElem_cons_succ, List.getElem_cons_zero, Act.put, List.setIfInBounds_toArray, List.set_cons_zero, List.set_cons_succ]
          refine wpAnyH_take (i := 7) (oi := _) (v := ?v8) rfl (by kernel_rfl) (by kernel_rfl) (by kernel_rfl) (fun _ _ _ h => h) (Or.inl ⟨by rfl, ?hy8⟩) (by assumption) ?rest8
          case hy8 => (intro w' hSw; (try dsimp only at hSw); go_simp; try with_reducible rfl)
          try simp only [List.getElem_toArray, List.getElem_cons_succ, List.getElem_cons_zero, Act.put, List.setIfInBounds_toArray, List.set_cons_zero, List.set_cons_succ]
          refine wpAnyH_take (i := 8) (oi := _) (v := ?v9) rfl (by kernel_rfl) (by kernel_rfl) (by kernel_rfl) (fun _ _ _ h => h) (Or.inl ⟨by rfl, ?hy9⟩) (by assumption) ?rest9
          case hy9 => (intro w' hSw; (try dsimp only at hSw); go_simp; try with_reducible rfl)
          try simp only [List.getElem_toArray, List.getElem_cons_succ, List.getElem_cons_zero, Act.put, List.setIfInBounds_toArray, List.set_cons_zero, List.set_cons_succ]
          refine wpAnyH_take (i := 9) (oi := _) (v := ?v10) rfl (by kernel_rfl) (by kernel_rfl) (by kernel_rfl) (fun _ _ _ h => h) (Or.inl ⟨by rfl, ?hy10⟩) (by assumption) ?rest10
          case hy10 => (intro w' hSw; (try dsimp only at hSw); go_simp; try with_reducible rfl)
          try simp only [List.getElem_toArray, List.getElem_cons_succ, List.getElem_cons_zero, Act.put, List.setIfInBounds_toArray, List.set_cons_zero, List.set_cons_succ]
          refine wpAnyH_take (i := 10) (oi := _) (v := ?v11) rfl (by kernel_rfl) (by kernel_rfl) (by kernel_rfl) (fun _ _ _ h => h) (Or.inl ⟨by rfl, ?hy11⟩) (by assumption) ?rest11
          case hy11 => (intro w' hSw; (try dsimp only at hSw); go_simp; try with_reducible rfl)
          try simp only [List.getElem_toArray, List.getElem_cons_succ, List.getElem_cons_zero, Act.put, List.setIfInBounds_toArray, List.set_cons_zero, List.set_cons_succ]
          refine wpAnyH_take (i := 11) (oi := _) (v := ?v12) rfl (by kernel_rfl) (by kernel_rfl) (by kernel_rfl) (fun _ _ _ h => h) (Or.inl ⟨by rfl, ?hy12⟩) (by assumption) ?rest12
          case hy12 => (intro w' hSw; (try dsimp only at hSw); go_simp; try with_reducible rfl)
          try simp only [List.getElem_toArray, List.getElem_cons_succ, List.getElem_cons_zero, Act.put, List.setIfInBounds_toArray, List.set_cons_zero, List.set_cons_succ]
          refine wpAnyH_take (i := 12) (oi := _) (v := ?v13) rfl (by kernel_rfl) (by kernel_rfl) (by kernel_rfl) (fun _ _ _ h => h) (Or.inl ⟨by rfl, ?hy13⟩) (by assumption) ?rest13
          case hy13 => (intro w' hSw; (try dsimp only at hSw); go_simp; try with_reducible rfl)
          try simp only [List.getElem_toArray, List.getElem_cons_succ, List.getElem_cons_zero, Act.put, List.setIfInBounds_toArray, List.set_cons_zero, List.set_cons_succ]
          refine wpAnyH_take (i := 13) (oi := _) (v := ?v14) rfl (by kernel_rfl) (by kernel_rfl) (by kernel_rfl) (fun _ _ _ h => h) (Or.inl ⟨by rfl, ?hy14⟩) (by assumption) ?rest14
          case hy14 => (intro w' hSw; (try dsimp only at hSw); go_simp; try with_reducible rfl)
          try simp only [List.getElem_toArray, List.getElem_cons_succ, List.getElem_cons_zero, Act.put, List.setIfInBounds_toArray, List.set_cons_zero, List.set_cons_succ]
          refine wpAnyH_ready (rs := [14, 15]) (by kernel_rfl) (by simp) ?_
          refine AllReadyH.cons (o := _) rfl (fun K hK => ?_) ?_
          · try simp only [List.getElem_toArray, List.getElem_cons_succ, List.getElem_cons_zero, Act.put, List.setIfInBounds_toArray, List.set_cons_zero, List.set_cons_succ]
            go_simp
            refine (IZ.out _ (Below.refl _ _).drew).mono ?_
            rintro e wA ⟨rfl, bA0⟩
            have bA := below_undrew bA0
            have bB := bA.alloc bA.size (.cells (iv .u8 zs32).toArray 5)
            go_wp2_with fail
            refine hK.out _ _ ((bA.cell (p := ⟨g, off + na, none⟩) lg).trans hc) (fun hHeld => ?_)
            clear hK K
            try simp only [List.getElem_toArray, List.getElem_cons_succ, List.getElem_cons_zero, Act.put, List.setIfInBounds_toArray, List.set_cons_zero, List.set_cons_succ]
            refine wpAnyH_ready (rs := [15]) (by kernel_rfl) (by simp) ?_
            refine AllReadyH.cons (o := _) rfl (fun K hK => ?_) ?_
            · try simp only [List.getElem_toArray, List.getElem_cons_succ, List.getElem_cons_zero, Act.put, List.setIfInBounds_toArray, List.set_cons_zero, List.set_cons_succ]
              go_simp
              refine hK.out _ _ ((bB.cell (p := ⟨g, off + na, none⟩) lg).trans hc) (fun hHeld => ?_)
              clear hK K
              try simp only [List.getElem_toArray, List.getElem_cons_succ, List.getElem_cons_zero, Act.put, List.setIfInBounds_toArray, List.set_cons_zero, List.set_cons_succ]
              refine wpAnyH_ready (rs := [16]) (by kernel_rfl) (by simp) ?_
              refine AllReadyH.cons (o := _) rfl (fun K hK => ?_) ?_
              · try simp only [List.getElem_toArray, List.getElem_cons_succ, List.getElem_cons_zero, Act.put, List.setIfInBounds_toArray, List.set_cons_zero, List.set_cons_succ]
                go_simp
                refine hK.out _ _ ((bB.cell (p := ⟨g, off + na, none⟩) lg).trans hc) (fun hHeld => ?_)
                clear hK K
                try simp only [List.getElem_toArray, List.getElem_cons_succ, List.getElem_cons_zero, Act.put, List.setIfInBounds_toArray, List.set_cons_zero, List.set_cons_succ]
                refine wpAnyH_take (i := 17) (oi := _) (v := ?v15) rfl (by kernel_rfl) (by kernel_rfl) (by kernel_rfl) (fun _ _ _ h => h) (Or.inl ⟨by rfl, ?hy15⟩) (by assumption) ?rest15
                case hy15 => (intro w' hSw; (try dsimp only at hSw); go_simp; try with_reducible rfl)
                try simp only [List.getElem_toArray, List.getElem_cons_succ, List.getElem_cons_zero, Act.put, List.setIfInBounds_toArray, List.set_cons_zero, List.set_cons_succ]
                refine wpAnyH_take (i := 18) (oi := _) (v := ?v16) rfl (by kernel_rfl) (by kernel_rfl) (by kernel_rfl) (fun _ _ _ h => h) (Or.inl ⟨by rfl, ?hy16⟩) (by assumption) ?rest16
                case hy16 => (intro w' hSw; (try dsimp only at hSw); go_simp; try with_reducible rfl)
                try simp only [List.getElem_toArray, List.getElem_cons_succ, List.getElem_cons_zero, Act.put, List.setIfInBounds_toArray, List.set_cons_zero, List.set_cons_succ]
                refine wpAnyH_take (i := 19) (oi := _) (v := ?v17) rfl (by kernel_rfl) (by kernel_rfl) (by kernel_rfl) (fun _ _ _ h => h) (Or.inl ⟨by rfl, ?hy17⟩) (by assumption) ?rest17
                case hy17 => (intro w' hSw; (try dsimp only at hSw); go_simp; try with_reducible rfl)
                try simp only [List.getElem_toArray, List.getElem_cons_succ, List.getElem_cons_zero, Act.put, List.setIfInBounds_toArray, List.set_cons_zero, List.set_cons_succ]
                refine wpAnyH_done (by kernel_rfl) ?_ _
                go_wp2_with fail
                go_meet
                exact ⟨rfl, bB⟩
              · exact AllReadyH.nil
            · exact AllReadyH.nil
          · refine AllReadyH.cons (o := _) rfl (fun K hK => ?_) ?_
            · try simp only [List.getElem_toArray, List.getElem_cons_succ, List.getElem_cons_zero, Act.put, List.setIfInBounds_toArray, List.set_cons_zero, List.set_cons_succ]
              go_simp
              refine hK.out _ _ ((hbD.cell (p := ⟨g, off + na, none⟩) lg).trans hc) (fun hHeld => ?_)
              clear hK K
              try simp only [List.getElem_toArray, List.getElem_cons_succ, List.getElem_cons_zero, Act.put, List.setIfInBounds_toArray, List.set_cons_zero, List.set_cons_succ]
              refine wpAnyH_ready (rs := [14, 16]) (by kernel_rfl) (by simp) ?_
              refine AllReadyH.cons (o := _) rfl (fun K hK => ?_) ?_
              · try simp only [List.getElem_toArray, List.getElem_cons_succ, List.getElem_cons_zero, Act.put, List.setIfInBounds_toArray, List.set_cons_zero, List.set_cons_succ]
                go_simp
                refine (IZ.out _ hbD).mono ?_
                rintro e wA ⟨rfl, bA0⟩
                have bB := below_on hbD bA0 hbD.size
                have hcvA := arr_cv (ARRD.out.later bA0)
                go_wp2_with fail
                refine hK.out _ _ ((bB.cell (p := ⟨g, off + na, none⟩) lg).trans hc) (fun hHeld => ?_)
                clear hK K
                try simp only [List.getElem_toArray, List.getElem_cons_succ, List.getElem_cons_zero, Act.put, List.setIfInBounds_toArray, List.set_cons_zero, List.set_cons_succ]
                refine wpAnyH_ready (rs := [16]) (by kernel_rfl) (by simp) ?_
                refine AllReadyH.cons (o := _) rfl (fun K hK => ?_) ?_
                · try simp only [List.getElem_toArray, List.getElem_cons_succ, List.getElem_cons_zero, Act.put, List.setIfInBounds_toArray, List.set_cons_zero, List.set_cons_succ]
                  go_simp
                  refine hK.out _ _ ((bB.cell (p := ⟨g, off + na, none⟩) lg).trans hc) (fun hHeld => ?_)
                  clear hK K
                  try simp only [List.getElem_toArray, List.getElem_cons_succ, List.getElem_cons_zero, Act.put, List.setIfInBounds_toArray, List.set_cons_zero, List.set_cons_succ]
                  refine wpAnyH_take (i := 17) (oi := _) (v := ?v18) rfl (by kernel_rfl) (by kernel_rfl) (by kernel_rfl) (fun _ _ _ h => h) (Or.inl ⟨by rfl, ?hy18⟩) (by assumption) ?rest18
                  case hy18 => (intro w' hSw; (try dsimp only at hSw); go_simp; try with_reducible rfl)
                  try simp only [List.getElem_toArray, List.getElem_cons_succ, List.getElem_cons_zero, Act.put, List.setIfInBounds_toArray, List.set_cons_zero, List.set_cons_succ]
                  refine wpAnyH_take (i := 18) (oi := _) (v := ?v19) rfl (by kernel_rfl) (by kernel_rfl) (by kernel_rfl) (fun _ _ _ h => h) (Or.inl ⟨by rfl, ?hy19⟩) (by assumption) ?rest19
                  case hy19 => (intro w' hSw; (try dsimp only at hSw); go_simp; try with_reducible rfl)
                  try simp only [List.getElem_toArray, List.getElem_cons_succ, List.getElem_cons_zero, Act.put, List.setIfInBounds_toArray, List.set_cons_zero, List.set_cons_succ]
                  refine wpAnyH_take (i := 19) (oi := _) (v := ?v20) rfl (by kernel_rfl) (by kernel_rfl) (by kernel_rfl) (fun _ _ _ h => h) (Or.inl ⟨by rfl, ?hy20⟩) (by assumption) ?rest20
                  case hy20 => (intro w' hSw; (try dsimp only at hSw); go_simp; try with_reducible rfl)
                  try simp only [List.getElem_toArray, List.getElem_cons_succ, List.getElem_cons_zero, Act.put, List.setIfInBounds_toArray, List.set_cons_zero, List.set_cons_succ]
                  refine wpAnyH_done (by kernel_rfl) ?_ _
                  go_wp2_with fail
                  go_meet
                  exact ⟨rfl, bB⟩
                · exact AllReadyH.nil
              · refine AllReadyH.cons (o := _) rfl (fun K hK => ?_) ?_
                · try simp only [List.getElem_toArray, List.getElem_cons_succ, List.getElem_cons_zero, Act.put, List.setIfInBounds_toArray, List.set_cons_zero, List.set_cons_succ]
                  go_simp
                  refine hK.out _ _ ((hbD.cell (p := ⟨g, off + na, none⟩) lg).trans hc) (fun hHeld => ?_)
                  clear hK K
                  try simp only [List.getElem_toArray, List.getElem_cons_succ, List.getElem_cons_zero, Act.put, List.setIfInBounds_toArray, List.set_cons_zero, List.set_cons_succ]
                  refine wpAnyH_ready (rs := [14]) (by kernel_rfl) (by simp) ?_
                  refine AllReadyH.cons (o := _) rfl (fun K hK => ?_) ?_
                  · try simp only [List.getElem_toArray, List.getElem_cons_succ, List.getElem_cons_zero, Act.put, List.setIfInBounds_toArray, List.set_cons_zero, List.set_cons_succ]
                    go_simp
                    refine (IZ.out _ hbD).mono ?_
                    rintro e wA ⟨rfl, bA0⟩
                    have bB := below_on hbD bA0 hbD.size
                    go_wp2_with fail
                    refine hK.out _ _ ((bB.cell (p := ⟨g, off + na, none⟩) lg).trans hc) (fun hHeld => ?_)
                    clear hK K
                    try simp only [List.getElem_toArray, List.getElem_cons_succ, List.getElem_cons_zero, Act.put, List.setIfInBounds_toArray, List.set_cons_zero, List.set_cons_succ]
                    refine wpAnyH_take (i := 17) (oi := _) (v := ?v21) rfl (by kernel_rfl) (by kernel_rfl) (by kernel_rfl) (fun _ _ _ h => h) (Or.inl ⟨by rfl, ?hy21⟩) (by assumption) ?rest21
                    case hy21 => (intro w' hSw; (try dsimp only at hSw); go_simp; try with_reducible rfl)
                    try simp only [List.getElem_toArray, List.getElem_cons_succ, List.getElem_cons_zero, Act.put, List.setIfInBounds_toArray, List.set_cons_zero, List.set_cons_succ]
                    refine wpAnyH_take (i := 18) (oi := _) (v := ?v22) rfl (by kernel_rfl) (by kernel_rfl) (by kernel_rfl) (fun _ _ _ h => h) (Or.inl ⟨by rfl, ?hy22⟩) (by assumption) ?rest22
                    case hy22 => (intro w' hSw; (try dsimp only at hSw); go_simp; try with_reducible rfl)
                    try simp only [List.getElem_toArray, List.getElem_cons_succ, List.getElem_cons_zero, Act.put, List.setIfInBounds_toArray, List.set_cons_zero, List.set_cons_succ]
                    refine wpAnyH_take (i := 19) (oi := _) (v := ?v23) rfl (by kernel_rfl) (by kernel_rfl) (by kernel_rfl) (fun _ _ _ h => h) (Or.inl ⟨by rfl, ?hy23⟩) (by assumption) ?rest23
                    case hy23 => (intro w' hSw; (try dsimp only at hSw); go_simp; try with_reducible rfl)
                    try simp only [List.getElem_toArray, List.getElem_cons_succ, List.getElem_cons_zero, Act.put, List.setIfInBounds_toArray, List.set_cons_zero, List.set_cons_succ]
                    refine wpAnyH_done (by kernel_rfl) ?_ _
                    go_wp2_with fail
                    go_meet
                    exact ⟨rfl, bB⟩
                  · exact AllReadyH.nil
                · exact AllReadyH.nil
            · exact AllReadyH.nil
        case rest =>
          obtain ⟨rfl, bB⟩ := hcut
          go_wp2_with fail
          refine (collide_gen X Y _ _ na _ nb _ _ (HX6.out.later bB) (HY6.out.later bB) XS.out YS.out (h.below (below_on B6 bB B6.size))).mono ?_
          rintro e w8 ⟨⟨r, rfl, hr⟩, b8⟩
          have BB := below_on (below_on B6 bB B6.size) b8 (Nat.le_trans B6.size bB.size)
          cases r with
          | true =>
            clear hr
            go_wp2_with fail
            go_ret
            exact ⟨rfl, BB⟩
          | false =>
            have hZ2 : Z = true := FZ.out.resolve_left (fun e => by have := hr e; cases this)
            subst hZ2
            clear hr
            go_wp2_with fail
            go_ret
            exact ⟨rfl, BB⟩
      · subst heq
        have F := Lib.hid (F1.out rfl)
        go_wp2_with fail
        go_quiet (fail)
        go_wp2_with fail
        have bQ := below_drewN (Below.refl w6.heap.size w6) nq
        refine (collide_gen X Y a6 a7 na c6 na c7 _ (HX6.out.drewN nq) (HY6.out.drewN nq) XS.out YS.out (h.below (below_drewN B6 nq))).mono ?_
        rintro e w8 ⟨⟨r, rfl, hr⟩, b8⟩
        have hr2 := hr F.out
        subst hr2
        clear hr
        have BB := below_on (below_drewN B6 nq) b8 B6.size
        go_wp2_with fail
        go_ret
        exact ⟨rfl, BB⟩
      · have F := Lib.hid (F3.out hgt)
        have hmin := fun w ts t => min_run (P := Tryd.prog) na nb nb (by omega) (nb : Int) rfl w ts t
        have k1 : ((na : Int) != (nb : Int)) = true := by rw [bne_iff_ne]; omega
        have k2 : ((na : Int) == (nb : Int)) = false := by rw [beq_eq_false_iff_ne]; omega
        have k3 : (nb : Int) < (na : Int) := by omega
        have k4 : ¬ ((na : Int) < (nb : Int)) := by omega
        obtain ⟨g, off, rfl, hp⟩ := HX6.out.at (by omega)
        have hc := hp nb (by rw [XL.out]; omega)
        have hzl := XS.out (X.getD nb []) (getD_mem X nb (by rw [XL.out]; omega))
        obtain ⟨z, hz⟩ : ∃ z, X.getD nb [] = z := ⟨_, rfl⟩
        rw [hz] at hc hzl F
        have lg := hp.lt (by rw [XL.out]; omega)
        have iZ : ∀ W, Below w6.heap.size w6 W → Calls Tryd.prog 8 #[.string (bs z)] W fun e w' => e = .returned (.string (bs (dig z))) ∧ Below W.heap.size W w' := fun W hb => Sum_any z W (h.below (below_on B6 hb B6.size)) hzl
        obtain ⟨d, hd⟩ : ∃ d, dig z = d := ⟨_, rfl⟩
        obtain ⟨Z, hZ⟩ : ∃ Z : Bool, ((bs d).toList == (bs Tr.zero32).toList) = Z := ⟨_, rfl⟩
        have hFZ : Tr.Hit dig X Y ∨ Z = true := F.out.imp id (fun e => by rw [← hZ]; exact bsEq_true (hd.symm.trans e))
        rw [hd] at iZ
        have IZ := Lib.hid iZ
        have FZ := Lib.hid hFZ
        clear hp hz iZ hd F hFZ hzl IF IG IX IY NA NB F1 F2 F3
        have hcvD : (convert 29 9 (.slice (some ⟨w6.heap.size, 0, none⟩) 32 32)).run Tryd.prog ((w6.alloc (.cells (iv .u8 zs32).toArray 5)).drew) = .ok (.string (bs Tr.zero32)) ((w6.alloc (.cells (iv .u8 zs32).toArray 5)).drew) := arr_cv ((Arr.new w6 5 .u8 zs32).later ((Below.refl _ _).drew))
        have hbD : Below w6.heap.size w6 ((w6.alloc (.cells (iv .u8 zs32).toArray 5)).drew) := ((Below.refl _ w6).alloc (Nat.le_refl _) _).drew
        go_upto_region 14 with fail
        clear hsz1 hsz2 hq k2
        go_cut [12] (fun v wx => v = .bool Z ∧ Below w6.heap.size w6 wx)
        case first =>
          clear HX6 HY6 XS YS XL YL FZ
          have arrD : Arr ((w6.alloc (.cells (iv .u8 zs32).toArray 5)).drew) w6.heap.size 5 .u8 zs32 := (Arr.new w6 5 .u8 zs32).later ((Below.refl _ _).drew)
          have ARRD := Lib.hid arrD
          clear arrD
          refine wp_region_held_drew (S := fun w' => w'.cell? ⟨g, off + nb, none⟩ = some (.string (bs z))) (by kernel_rfl) ?hS (fun hHeld => ?_)
          case hS => exact hc
          refine wpAnyH_take (i := 0) (oi := _) (v := ?v24) rfl (by kernel_rfl) (by kernel_rfl) (by kernel_rfl) (fun _ _ _ h => h) (Or.inl ⟨by rfl, ?hy24⟩) (by assumption) ?rest24
          case hy24 => (intro w' hSw; (try dsimp only at hSw); go_simp; try with_reducible rfl)
          try simp only [List.getElem_toArray, List.getElem_cons_succ, List.getElem_cons_zero, Act.put, List.setIfInBounds_toArray, List.set_cons_zero, List.set_cons_succ]
          refine wpAnyH_take (i := 1) (oi := _) (v := ?v25) rfl (by kernel_rfl) (by kernel_rfl) (by kernel_rfl) (fun _ _ _ h => h) (Or.inl ⟨by rfl, ?hy25⟩) (by assumption) ?rest25
          case hy25 => (intro w' hSw; (try dsimp only at hSw); go_simp; try with_reducible rfl)
          try simp only [List.getElem_toArray, List.getElem_cons_succ, List.getElem_cons_zero, Act.put, List.setIfInBounds_toArray, List.set_cons_zero, List.set_cons_succ]
          refine wpAnyH_take (i := 2) (oi := _) (v := ?v26) rfl (by kernel_rfl) (by kernel_rfl) (by kernel_rfl) (fun _ _ _ h => h) (Or.inl ⟨by rfl, ?hy26⟩) (by assumption) ?rest26
          case hy26 => (intro w' hSw; (try dsimp only at hSw); go_simp; try with_reducible rfl)
          try simp only [List.getElem_toArray, List.getElem_cons_succ, List.getElem_cons_zero, Act.put, List.setIfInBounds_toArray, List.set_cons_zero, List.set_cons_succ]
          refine wpAnyH_take (i := 3) (oi := _) (v := ?v27) rfl (by kernel_rfl) (by kernel_rfl) (by kernel_rfl) (fun _ _ _ h => h) (Or.inl ⟨by rfl, ?hy27⟩) (by assumption) ?rest27
          case hy27 => (intro w' hSw; (try dsimp only at hSw); go_simp; try with_reducible rfl)
          try simp only [List.getElem_toArray, List.getElem_cons_succ, List.getElem_cons_zero, Act.put, List.setIfInBounds_toArray, List.set_cons_zero, List.set_cons_succ]
          refine wpAnyH_take (i := 4) (oi := _) (v := ?v28) rfl (by kernel_rfl) (by kernel_rfl) (by kernel_rfl) (fun _ _ _ h => h) (Or.inl ⟨by rfl, ?hy28⟩) (by assumption) ?rest28
          case hy28 => (intro w' hSw; (try dsimp only at hSw); go_simp; try with_reducible rfl)
          try simp only [List.getElem_toArray, List.getElem_cons_succ, List.getElem_cons_zero, Act.put, List.setIfInBounds_toArray, List.set_cons_zero, List.set_cons_succ]
          refine wpAnyH_take (i := 5) (oi := _) (v := ?v29) rfl (by kernel_rfl) (by kernel_rfl) (by kernel_rfl) (fun _ _ _ h => h) (Or.inl ⟨by rfl, ?hy29⟩) (by assumption) ?rest29
          case hy29 => (intro w' hSw; (try dsimp only at hSw); go_simp; try with_reducible rfl)
          try simp only [List.getElem_toArray, List.getElem_cons_succ, List.getElem_cons_zero, Act.put, List.setIfInBounds_toArray, List.set_cons_zero, List.set_cons_succ]
          refine wpAnyH_take (i := 6) (oi := _) (v := ?v30) rfl (by kernel_rfl) (by kernel_rfl) (by kernel_rfl) (fun _ _ _ h => h) (Or.inl ⟨by rfl, ?hy30⟩) (by assumption) ?rest30
          case hy30 => (intro w' hSw; (try dsimp only at hSw); go_simp; try with_reducible rfl)
          try simp only [List.getElem_toArray, List.getElem_cons_succ, List.getElem_cons_zero, Act.put, List.setIfInBounds_toArray, List.set_cons_zero, List.set_cons_succ]
          refine wpAnyH_take (i := 7) (oi := _) (v := ?v31) rfl (by kernel_rfl) (by kernel_rfl) (by kernel_rfl) (fun _ _ _ h => h) (Or.inl ⟨by rfl, ?hy31⟩) (by assumption) ?rest31
          case hy31 => (intro w' hSw; (try dsimp only at hSw); go_simp; try with_reducible rfl)
          try simp only [List.getElem_toArray, List.getElem_cons_succ, List.getElem_cons_zero, Act.put, List.setIfInBounds_toArray, List.set_cons_zero, List.set_cons_succ]
          refine wpAnyH_take (i := 8) (oi := _) (v := ?v32) rfl (by kernel_rfl) (by kernel_rfl) (by kernel_rfl) (fun _ _ _ h => h) (Or.inl ⟨by rfl, ?hy32⟩) (by assumption) ?rest32
          case hy32 => (intro w' hSw; (try dsimp only at hSw); go_simp; try with_reducible rfl)
          try simp only [List.getElem_toArray, List.getElem_cons_succ, List.getElem_cons_zero, Act.put, List.setIfInBounds_toArray, List.set_cons_zero, List.set_cons_succ]
          refine wpAnyH_take (i := 9) (oi := _) (v := ?v33) rfl (by kernel_rfl) (by kernel_rfl) (by kernel_rfl) (fun _ _ _ h => h) (Or.inl ⟨by rfl, ?hy33⟩) (by assumption) ?rest33
          case hy33 => (intro w' hSw; (try dsimp only at hSw); go_simp; try with_reducible rfl)
          try simp only [List.getElem_toArray, List.getElem_cons_succ, List.getElem_cons_zero, Act.put, List.setIfInBounds_toArray, List.set_cons_zero, List.set_cons_succ]
          refine wpAnyH_take (i := 10) (oi := _) (v := ?v34) rfl (by kernel_rfl) (by kernel_rfl) (by kernel_rfl) (fun _ _ _ h => h) (Or.inl ⟨by rfl, ?hy34⟩) (by assumption) ?rest34
          case hy34 => (intro w' hSw; (try dsimp only at hSw); go_simp; try with_reducible rfl)
          try simp only [List.getElem_toArray, List.getElem_cons_succ, List.getElem_cons_zero, Act.put, List.setIfInBounds_toArray, List.set_cons_zero, List.set_cons_succ]
          refine wpAnyH_take (i := 11) (oi := _) (v := ?v35) rfl (by kernel_rfl) (by kernel_rfl) (by kernel_rfl) (fun _ _ _ h => h) (Or.inl ⟨by rfl, ?hy35⟩) (by assumption) ?rest35
          case hy35 => (intro w' hSw; (try dsimp only at hSw); go_simp; try with_reducible rfl)
          try simp only [List.getElem_toArray, List.getElem_cons_succ, List.getElem_cons_zero, Act.put, List.setIfInBounds_toArray, List.set_cons_zero, List.set_cons_succ]
          refine wpAnyH_take (i := 12) (oi := _) (v := ?v36) rfl (by kernel_rfl) (by kernel_rfl) (by kernel_rfl) (fun _ _ _ h => h) (Or.inl ⟨by rfl, ?hy36⟩) (by assumption) ?rest36
          case hy36 => (intro w' hSw; (try dsimp only at hSw); go_simp; try with_reducible rfl)
          try simp only [List.getElem_toArray, List.getElem_cons_succ, List.getElem_cons_zero, Act.put, List.setIfInBounds_toArray, List.set_cons_zero, List.set_cons_succ]
          refine wpAnyH_take (i := 13) (oi := _) (v := ?v37) rfl (by kernel_rfl) (by kernel_rfl) (by kernel_rfl) (fun _ _ _ h => h) (Or.inl ⟨by rfl, ?hy37⟩) (by assumption) ?rest37
          case hy37 => (intro w' hSw; (try dsimp only at hSw); go_simp; try with_reducible rfl)
          try simp only [List.getElem_toArray, List.getElem_cons_succ, List.getElem_cons_zero, Act.put, List.setIfInBounds_toArray, List.set_cons_zero, List.set_cons_succ]
          refine wpAnyH_ready (rs := [14, 15]) (by kernel_rfl) (by simp) ?_
          refine AllReadyH.cons (o := _) rfl (fun K hK => ?_) ?_
          · try simp only [List.getElem_toArray, List.getElem_cons_succ, List.getElem_cons_zero, Act.put, List.setIfInBounds_toArray, List.set_cons_zero, List.set_cons_succ]
            go_simp
            refine (IZ.out _ (Below.refl _ _).drew).mono ?_
            rintro e wA ⟨rfl, bA0⟩
            have bA := below_undrew bA0
            have bB := bA.alloc bA.size (.cells (iv .u8 zs32).toArray 5)
            go_wp2_with fail
            refine hK.out _ _ ((bA.cell (p := ⟨g, off + nb, none⟩) lg).trans hc) (fun hHeld => ?_)
            clear hK K
            try simp only [List.getElem_toArray, List.getElem_cons_succ, List.getElem_cons_zero, Act.put, List.setIfInBounds_toArray, List.set_cons_zero, List.set_cons_succ]
            refine wpAnyH_ready (rs := [15]) (by kernel_rfl) (by simp) ?_
            refine AllReadyH.cons (o := _) rfl (fun K hK => ?_) ?_
            · try simp only [List.getElem_toArray, List.getElem_cons_succ, List.getElem_cons_zero, Act.put, List.setIfInBounds_toArray, List.set_cons_zero, List.set_cons_succ]
              go_simp
              refine hK.out _ _ ((bB.cell (p := ⟨g, off + nb, none⟩) lg).trans hc) (fun hHeld => ?_)
              clear hK K
              try simp only [List.getElem_toArray, List.getElem_cons_succ, List.getElem_cons_zero, Act.put, List.setIfInBounds_toArray, List.set_cons_zero, List.set_cons_succ]
              refine wpAnyH_ready (rs := [16]) (by kernel_rfl) (by simp) ?_
              refine AllReadyH.cons (o := _) rfl (fun K hK => ?_) ?_
              · try simp only [List.getElem_toArray, List.getElem_cons_succ, List.getElem_cons_zero, Act.put, List.setIfInBounds_toArray, List.set_cons_zero, List.set_cons_succ]
                go_simp
                refine hK.out _ _ ((bB.cell (p := ⟨g, off + nb, none⟩) lg).trans hc) (fun hHeld => ?_)
                clear hK K
                try simp only [List.getElem_toArray, List.getElem_cons_succ, List.getElem_cons_zero, Act.put, List.setIfInBounds_toArray, List.set_cons_zero, List.set_cons_succ]
                refine wpAnyH_take (i := 17) (oi := _) (v := ?v38) rfl (by kernel_rfl) (by kernel_rfl) (by kernel_rfl) (fun _ _ _ h => h) (Or.inl ⟨by rfl, ?hy38⟩) (by assumption) ?rest38
                case hy38 => (intro w' hSw; (try dsimp only at hSw); go_simp; try with_reducible rfl)
                try simp only [List.getElem_toArray, List.getElem_cons_succ, List.getElem_cons_zero, Act.put, List.setIfInBounds_toArray, List.set_cons_zero, List.set_cons_succ]
                refine wpAnyH_take (i := 18) (oi := _) (v := ?v39) rfl (by kernel_rfl) (by kernel_rfl) (by kernel_rfl) (fun _ _ _ h => h) (Or.inl ⟨by rfl, ?hy39⟩) (by assumption) ?rest39
                case hy39 => (intro w' hSw; (try dsimp only at hSw); go_simp; try with_reducible rfl)
                try simp only [List.getElem_toArray, List.getElem_cons_succ, List.getElem_cons_zero, Act.put, List.setIfInBounds_toArray, List.set_cons_zero, List.set_cons_succ]
                refine wpAnyH_take (i := 19) (oi := _) (v := ?v40) rfl (by kernel_rfl) (by kernel_rfl) (by kernel_rfl) (fun _ _ _ h => h) (Or.inl ⟨by rfl, ?hy40⟩) (by assumption) ?rest40
                case hy40 => (intro w' hSw; (try dsimp only at hSw); go_simp; try with_reducible rfl)
                try simp only [List.getElem_toArray, List.getElem_cons_succ, List.getElem_cons_zero, Act.put, List.setIfInBounds_toArray, List.set_cons_zero, List.set_cons_succ]
                refine wpAnyH_done (by kernel_rfl) ?_ _
                go_wp2_with fail
                go_meet
                exact ⟨rfl, bB⟩
              · exact AllReadyH.nil
            · exact AllReadyH.nil
          · refine AllReadyH.cons (o := _) rfl (fun K hK => ?_) ?_
            · try simp only [List.getElem_toArray, List.getElem_cons_succ, List.getElem_cons_zero, Act.put, List.setIfInBounds_toArray, List.set_cons_zero, List.set_cons_succ]
              go_simp
              refine hK.out _ _ ((hbD.cell (p := ⟨g, off + nb, none⟩) lg).trans hc) (fun hHeld => ?_)
              clear hK K
              try simp only [List.getElem_toArray, List.getElem_cons_succ, List.getElem_cons_zero, Act.put, List.setIfInBounds_toArray, List.set_cons_zero, List.set_cons_succ]
              refine wpAnyH_ready (rs := [14, 16]) (by kernel_rfl) (by simp) ?_
              refine AllReadyH.cons (o := _) rfl (fun K hK => ?_) ?_
              · try simp only [List.getElem_toArray, List.getElem_cons_succ, List.getElem_cons_zero, Act.put, List.setIfInBounds_toArray, List.set_cons_zero, List.set_cons_succ]
                go_simp
                refine (IZ.out _ hbD).mono ?_
                rintro e wA ⟨rfl, bA0⟩
                have bB := below_on hbD bA0 hbD.size
                have hcvA := arr_cv (ARRD.out.later bA0)
                go_wp2_with fail
                refine hK.out _ _ ((bB.cell (p := ⟨g, off + nb, none⟩) lg).trans hc) (fun hHeld => ?_)
                clear hK K
                try simp only [List.getElem_toArray, List.getElem_cons_succ, List.getElem_cons_zero, Act.put, List.setIfInBounds_toArray, List.set_cons_zero, List.set_cons_succ]
                refine wpAnyH_ready (rs := [16]) (by kernel_rfl) (by simp) ?_
                refine AllReadyH.cons (o := _) rfl (fun K hK => ?_) ?_
                · try simp only [List.getElem_toArray, List.getElem_cons_succ, List.getElem_cons_zero, Act.put, List.setIfInBounds_toArray, List.set_cons_zero, List.set_cons_succ]
                  go_simp
                  refine hK.out _ _ ((bB.cell (p := ⟨g, off + nb, none⟩) lg).trans hc) (fun hHeld => ?_)
                  clear hK K
                  try simp only [List.getElem_toArray, List.getElem_cons_succ, List.getElem_cons_zero, Act.put, List.setIfInBounds_toArray, List.set_cons_zero, List.set_cons_succ]
                  refine wpAnyH_take (i := 17) (oi := _) (v := ?v41) rfl (by kernel_rfl) (by kernel_rfl) (by kernel_rfl) (fun _ _ _ h => h) (Or.inl ⟨by rfl, ?hy41⟩) (by assumption) ?rest41
                  case hy41 => (intro w' hSw; (try dsimp only at hSw); go_simp; try with_reducible rfl)
                  try simp only [List.getElem_toArray, List.getElem_cons_succ, List.getElem_cons_zero, Act.put, List.setIfInBounds_toArray, List.set_cons_zero, List.set_cons_succ]
                  refine wpAnyH_take (i := 18) (oi := _) (v := ?v42) rfl (by kernel_rfl) (by kernel_rfl) (by kernel_rfl) (fun _ _ _ h => h) (Or.inl ⟨by rfl, ?hy42⟩) (by assumption) ?rest42
                  case hy42 => (intro w' hSw; (try dsimp only at hSw); go_simp; try with_reducible rfl)
                  try simp only [List.getElem_toArray, List.getElem_cons_succ, List.getElem_cons_zero, Act.put, List.setIfInBounds_toArray, List.set_cons_zero, List.set_cons_succ]
                  refine wpAnyH_take (i := 19) (oi := _) (v := ?v43) rfl (by kernel_rfl) (by kernel_rfl) (by kernel_rfl) (fun _ _ _ h => h) (Or.inl ⟨by rfl, ?hy43⟩) (by assumption) ?rest43
                  case hy43 => (intro w' hSw; (try dsimp only at hSw); go_simp; try with_reducible rfl)
                  try simp only [List.getElem_toArray, List.getElem_cons_succ, List.getElem_cons_zero, Act.put, List.setIfInBounds_toArray, List.set_cons_zero, List.set_cons_succ]
                  refine wpAnyH_done (by kernel_rfl) ?_ _
                  go_wp2_with fail
                  go_meet
                  exact ⟨rfl, bB⟩
                · exact AllReadyH.nil
              · refine AllReadyH.cons (o := _) rfl (fun K hK => ?_) ?_
                · try simp only [List.getElem_toArray, List.getElem_cons_succ, List.getElem_cons_zero, Act.put, List.setIfInBounds_toArray, List.set_cons_zero, List.set_cons_succ]
                  go_simp
                  refine hK.out _ _ ((hbD.cell (p := ⟨g, off + nb, none⟩) lg).trans hc) (fun hHeld => ?_)
                  clear hK K
                  try simp only [List.getElem_toArray, List.getElem_cons_succ, List.getElem_cons_zero, Act.put, List.setIfInBounds_toArray, List.set_cons_zero, List.set_cons_succ]
                  refine wpAnyH_ready (rs := [14]) (by kernel_rfl) (by simp) ?_
                  refine AllReadyH.cons (o := _) rfl (fun K hK => ?_) ?_
                  · try simp only [List.getElem_toArray, List.getElem_cons_succ, List.getElem_cons_zero, Act.put, List.setIfInBounds_toArray, List.set_cons_zero, List.set_cons_succ]
                    go_simp
                    refine (IZ.out _ hbD).mono ?_
                    rintro e wA ⟨rfl, bA0⟩
                    have bB := below_on hbD bA0 hbD.size
                    go_wp2_with fail
                    refine hK.out _ _ ((bB.cell (p := ⟨g, off + nb, none⟩) lg).trans hc) (fun hHeld => ?_)
                    clear hK K
                    try simp only [List.getElem_toArray, List.getElem_cons_succ, List.getElem_cons_zero, Act.put, List.setIfInBounds_toArray, List.set_cons_zero, List.set_cons_succ]
                    refine wpAnyH_take (i := 17) (oi := _) (v := ?v44) rfl (by kernel_rfl) (by kernel_rfl) (by kernel_rfl) (fun _ _ _ h => h) (Or.inl ⟨by rfl, ?hy44⟩) (by assumption) ?rest44
                    case hy44 => (intro w' hSw; (try dsimp only at hSw); go_simp; try with_reducible rfl)
                    try simp only [List.getElem_toArray, List.getElem_cons_succ, List.getElem_cons_zero, Act.put, List.setIfInBounds_toArray, List.set_cons_zero, List.set_cons_succ]
                    refine wpAnyH_take (i := 18) (oi := _) (v := ?v45) rfl (by kernel_rfl) (by kernel_rfl) (by kernel_rfl) (fun _ _ _ h => h) (Or.inl ⟨by rfl, ?hy45⟩) (by assumption) ?rest45
                    case hy45 => (intro w' hSw; (try dsimp only at hSw); go_simp; try with_reducible rfl)
                    try simp only [List.getElem_toArray, List.getElem_cons_succ, List.getElem_cons_zero, Act.put, List.setIfInBounds_toArray, List.set_cons_zero, List.set_cons_succ]
                    refine wpAnyH_take (i := 19) (oi := _) (v := ?v46) rfl (by kernel_rfl) (by kernel_rfl) (by kernel_rfl) (fun _ _ _ h => h) (Or.inl ⟨by rfl, ?hy46⟩) (by assumption) ?rest46
                    case hy46 => (intro w' hSw; (try dsimp only at hSw); go_simp; try with_reducible rfl)
                    try simp only [List.getElem_toArray, List.getElem_cons_succ, List.getElem_cons_zero, Act.put, List.setIfInBounds_toArray, List.set_cons_zero, List.set_cons_succ]
                    refine wpAnyH_done (by kernel_rfl) ?_ _
                    go_wp2_with fail
                    go_meet
                    exact ⟨rfl, bB⟩
                  · exact AllReadyH.nil
                · exact AllReadyH.nil
            · exact AllReadyH.nil
        case rest =>
          obtain ⟨rfl, bB⟩ := hcut
          go_wp2_with fail
          refine (collide_gen X Y _ _ na _ nb _ _ (HX6.out.later bB) (HY6.out.later bB) XS.out YS.out (h.below (below_on B6 bB B6.size))).mono ?_
          rintro e w8 ⟨⟨r, rfl, hr⟩, b8⟩
          have BB := below_on (below_on B6 bB B6.size) b8 (Nat.le_trans B6.size bB.size)
          cases r with
          | true =>
            clear hr
            go_wp2_with fail
            go_ret
            exact ⟨rfl, BB⟩
          | false =>
            have hZ2 : Z = true := FZ.out.resolve_left (fun e => by have := hr e; cases this)
            subst hZ2
            clear hr
            go_wp2_with fail
            go_ret
            exact ⟨rfl, BB⟩
    · have hq := bsEq_false hHH
      clear hAB hHH
      go_wp2_with fail
      go_ret
      exact ⟨rfl, B6⟩

end Go.Proofs.YtagcpjokajcdiaaDoor
