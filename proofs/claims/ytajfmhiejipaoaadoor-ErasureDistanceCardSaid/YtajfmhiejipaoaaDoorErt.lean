/-
  ErasureDistance: for every two strings, byte and three integers, and in every memory in which the table of SHA-256 holds its numbers, the law returns true.
-/
import Derived.Test.YtajfmhiejipaoaaDoorErs
namespace Go.Proofs.YtajfmhiejipaoaaDoor
open Go.RowKit Bs Ef

/-- a list of two strings -/
structure Tys (W : World) (g : Nat) (a b : ByteArray) : Prop where
  row : W.heap[g]? = some (.cells #[.string a, .string b] 9 (0, 0))
theorem Tys.lt {W : World} {g : Nat} {a b : ByteArray} (h : Tys W g a b) : g < W.heap.size := (Array.getElem?_eq_some_iff.1 h.row).1
theorem Tys.later {W W' : World} {g : Nat} {a b : ByteArray} (h : Tys W g a b) (hb : Below W.heap.size W W') : Tys W' g a b := ⟨(hb.block _ h.lt).trans h.row⟩
theorem Tys.new (W : World) (a b : ByteArray) : Tys (W.alloc (.cells #[.string a, .string b] 9)) W.heap.size a b := ⟨heap_alloc_new _ _⟩
theorem Tys.cells {W : World} {g : Nat} {a b : ByteArray} (h : Tys W g a b) : W.cell? ⟨g, 0, none⟩ = some (.string a) ∧ W.cell? ⟨g, 1, none⟩ = some (.string b) :=
  ⟨by rw [cell_of_row _ _ 0 _ _ _ h.row]; rfl, by rw [cell_of_row _ _ 1 _ _ _ h.row]; rfl⟩
/-- how many of the first k chunks are equal -/
def cntL (E F : List (Int × ByteArray)) (k : Nat) : Nat := ((List.range k).filter (fun i => decide (E[i]? = F[i]?))).length
theorem cntL_succ (E F : List (Int × ByteArray)) (k : Nat) : cntL E F (k + 1) = cntL E F k + (if E[k]? = F[k]? then 1 else 0) := by
  unfold cntL
  rw [List.range_succ, List.filter_append, List.length_append]
  by_cases h : E[k]? = F[k]? <;> simp [h]
theorem cntL_le (E F : List (Int × ByteArray)) (k : Nat) : cntL E F k ≤ k := by
  have := List.length_filter_le (fun i => decide (E[i]? = F[i]?)) (List.range k)
  rw [List.length_range] at this; exact this
theorem tl_ne {A B : List UInt8} (h : A ≠ B) : (Bs.bs A).toList ≠ (Bs.bs B).toList := by rw [bs_toList, bs_toList]; exact h

set_option maxRecDepth 100000 in
set_option maxHeartbeats 16000000 in
theorem ErasureDistance_any (s other : ByteArray) (at_ b : Int) (a0 b0 : Int) (hat0 : -9223372036854775808 ≤ at_) (hat1 : at_ ≤ 9223372036854775807) (hbb0 : 0 ≤ b) (hbb1 : b ≤ 255) (ha0 : -9223372036854775808 ≤ a0) (ha1 : a0 ≤ 9223372036854775807) (hb0 : -9223372036854775808 ≤ b0) (hb1 : b0 ≤ 9223372036854775807) (w : World) (hT : KAt w) :
    Calls Tryd.prog 6 #[.string s, .string other, .int .i64 at_, .int .u8 b, .int .i64 a0, .int .i64 b0] w fun e w' => e = .returned (.bool true) ∧ Below w.heap.size w w' := by
  obtain ⟨m0, t, ⟨m0a, m0b⟩, x0, l0, e0, -⟩ := cut_string s 200
  have r0 := fun w ts ty => min_run (P := Tryd.prog) s.size 200 m0 e0 200 rfl w ts ty
  obtain ⟨m1, o, ⟨m1a, m1b⟩, y0, k0, f0, -⟩ := cut_string other 200
  have r1 := fun w ts ty => min_run (P := Tryd.prog) other.size 200 m1 f0 200 rfl w ts ty
  obtain ⟨need, count, n1, n8, nc, c16, PR⟩ := params_any a0 b0 ha0 ha1 hb0 hb1
  have ht : t.length ≤ 200 := by omega
  have ho : o.length ≤ 200 := by omega
  have hEnc := fun (W : World) (u : List UInt8) (hu : u.length ≤ 200) => (show Calls Tryd.prog 20 #[.string (Bs.bs u), .int .i64 (need : Int), .int .i64 (count : Int)] W fun e w' => ∃ gv, W.heap.size ≤ gv ∧ e = .returned (.tuple #[.slice (some ⟨gv, 0, none⟩) count count, .int .i64 0]) ∧ CkRow w' gv (encL u need count) ∧ Below W.heap.size W w' from Encode_ok u need count n1 nc c16 (by omega) W)
  obtain ⟨S0, hS0⟩ : ∃ S, Bs.bs t = S := ⟨_, rfl⟩
  have hsz : S0.size = t.length := by rw [← hS0, Bs.bs_size]
  have hE0 := hEnc
  rw [hS0] at x0
  have HE := Lib.hid hEnc
  have HE0 := Lib.hid (fun (W : World) => by have h := hE0 W t ht; rw [hS0] at h; exact h)
  have HS := Lib.hid esane_any
  replace PR := Lib.hid PR
  have HB := Lib.hid (Below.refl w.heap.size w)
  have HT := Lib.hid hS0
  clear hEnc hE0 ha0 ha1 hb0 hb1 e0 f0 hS0
  go_enter Tryd.func6, Tryd.ntmps6
  go_upto_region 7 with (first
    | (go_at_call 11; (with_reducible refine (HS.out _ (hT.below HB.out)).mono ?_); rintro e w0 ⟨rfl, hB⟩; replace HB := Lib.hid (below_on HB.out hB HB.out.size); clear hB)
    | (go_at_call 19; (with_reducible refine (PR.out _).mono ?_); rintro e ww ⟨rfl, hww⟩; rw [hww]; clear hww ww)
    | (go_at_call 20; (with_reducible refine (HE0.out _).mono ?_); rintro e w1 ⟨ge, hge, rfl, hR, hB⟩; replace HB := Lib.hid (below_on HB.out hB HB.out.size); clear hB))
  have HR := Lib.hid hR
  clear hR HE0 HS PR
  go_upto_if 52 with (fail)
  go_cut [17] (fun V wx => ∃ v : List UInt8, v.length ≤ 200 ∧ V = .string (Bs.bs v) ∧ CkRow wx ge (encL t need count) ∧ Below w.heap.size w wx)
  case first =>
    rcases Nat.eq_zero_or_pos t.length with h0 | h0
    · have g0 : decide (0 < (S0.size : Int)) = false := decide_eq_false (by omega)
      have g1 : decide (0 < S0.size) = false := decide_eq_false (by omega)
      go_wp2_with fail
      go_meet
      exact ⟨t, ht, by rw [HT.out], HR.out, HB.out⟩
    · have g0 : decide (0 < (S0.size : Int)) = true := decide_eq_true (by omega)
      have g1 : decide (0 < S0.size) = true := decide_eq_true (by omega)
      obtain ⟨k, hk, PK⟩ := epick_any at_ hat0 hat1 t.length (m0 : Int) (by omega) h0
      replace PK := Lib.hid PK
      go_upto_region 9 with (go_at_call 26; (with_reducible refine (PK.out _).mono ?_); rintro e ww ⟨rfl, hww⟩; rw [hww]; clear hww ww)
      have hw1 : IntKind.i64.wrap ((k : Int) + 1) = ((k + 1 : Nat) : Int) := by rw [IntKind.wrap_i64]; omega
      obtain ⟨k1, hk1⟩ : ∃ k1, k + 1 = k1 := ⟨_, rfl⟩
      rw [hk1] at hw1
      have hk2 : (k : Int) + 1 = (k1 : Int) := by omega
      obtain ⟨bn, rfl⟩ : ∃ bn : Nat, b = (bn : Int) := ⟨b.toNat, by omega⟩
      have hsd : (Bs.bs t).data.toList = t := rfl
      have x1 : S0.extract 0 k = Bs.bs (t.take k) := by rw [← HT.out, Bs.bs_extract, List.drop_zero, Nat.sub_zero]
      have x2 : S0.extract k1 S0.size = Bs.bs (t.drop k1) := by rw [← HT.out, Bs.bs_extract, Bs.bs_size, List.take_of_length_le (by rw [List.length_drop]; omega)]
      have hAB : (Bs.bs (t.take k) ++ Bs.bs [UInt8.ofNat bn]) ++ Bs.bs (t.drop k1) = Bs.bs (t.take k ++ [UInt8.ofNat bn] ++ t.drop k1) := by rw [Bs.bs_append, Bs.bs_append]
      have hvl : (t.take k ++ [UInt8.ofNat bn] ++ t.drop k1).length ≤ 200 := by simp; omega
      have z1 : (Bs.bs (t.take k)).size = k := by rw [Bs.bs_size, List.length_take]; omega
      have z2 : (Bs.bs [UInt8.ofNat bn]).size = 1 := rfl
      have z4 : (Bs.bs (t.take k) ++ Bs.bs [UInt8.ofNat bn]).size = k1 := by rw [Bs.bs_append, Bs.bs_size]; simp; omega
      have z3 : (Bs.bs (t.drop k1)).size = S0.size - k1 := by rw [Bs.bs_size, List.length_drop]; omega
      obtain ⟨A, hA⟩ : ∃ A, Bs.bs (t.take k) = A := ⟨_, rfl⟩
      obtain ⟨D, hD⟩ : ∃ D, Bs.bs (t.drop k1) = D := ⟨_, rfl⟩
      have hcv : (convert 48 9 (.slice (some ⟨w1.heap.size, 0, none⟩) 1 1)).run Tryd.prog (w1.alloc (.cells #[.int .u8 (bn : Int)] 5)).drew = .ok (.string (Bs.bs [UInt8.ofNat bn])) (w1.alloc (.cells #[.int .u8 (bn : Int)] 5)).drew :=
        arr_strE (l := [(⟨bn, by omega⟩ : G)]) (c := 1) (Arr.drew (Arr.new w1 5 .u8 [bn])) rfl
      obtain ⟨B, hB⟩ : ∃ B, Bs.bs [UInt8.ofNat bn] = B := ⟨_, rfl⟩
      rw [hA] at x1 hAB z1 z4
      rw [hD] at x2 hAB z3
      rw [hB] at hAB z2 z4 hcv
      have HV := Lib.hid (And.intro hAB hvl)
      clear hAB hvl hA hD hB hsd hk1
      go_wp2_with fail
      have b1 : (0 : Int) ≤ (k : Int) := by omega
      have b2 : (k : Int) ≤ (S0.size : Int) := by omega
      have b3 : (0 : Int) ≤ (k1 : Int) := by omega
      have b4 : (k1 : Int) ≤ (S0.size : Int) := by omega
      have b5 : k ≤ S0.size := by omega
      have b6 : k1 ≤ S0.size := by omega
      have hw2 : IntKind.i64.wrap (k1 : Int) = (k1 : Int) := by rw [IntKind.wrap_i64]; omega
      have f1 : ¬ 9223372036854775807 < A.size + B.size := by omega
      have f3 : ¬ 9223372036854775807 < (A ++ B).size + D.size := by omega
      have f4 : ¬ 9223372036854775807 < A.size + B.size + D.size := by omega
      clear hsz l0 m0a m0b h0 hk ht z1 z2 z3 z4
      go_region_with (fail)
      all_goals
        go_wp2_with fail
        go_meet
        exact ⟨t.take k ++ [UInt8.ofNat bn] ++ t.drop k1, HV.out.2, by rw [← HV.out.1], HR.out.later (((Below.refl _ _).alloc (Nat.le_refl _) _).drew), (HB.out.alloc HB.out.size _).drew⟩
  case rest =>
    obtain ⟨v, hvl, rfl, hrr, hbb⟩ := hcut
    clear HR HB
    have HR := Lib.hid hrr
    have HB := Lib.hid hbb
    clear hrr hbb x0 r0 r1 y0 k0 l0 hsz hat0 hat1 hbb0 hbb1
    obtain ⟨E, hE⟩ : ∃ E, encL t need count = E := ⟨_, rfl⟩
    have hEl : E.length = count := by rw [← hE]; exact encL_len t need count
    have hEi : ∀ i (h : i < E.length), (E[i]).1 = (i : Int) ∧ (E[i]).2.size = mOf t need := fun i h => by
      subst hE; exact ⟨by rw [encL_get t need count i h], encL_size t need count i h⟩
    rw [hE] at HR
    have HEI := Lib.hid hEi
    have HEE := Lib.hid hE
    clear hE hEi
    go_wp2_with fail
    go_loopw [73] (fun q wr => ∃ i : Nat, i ≤ 2 ∧ q = .int .i64 i ∧ Tys wr wc.heap.size (Bs.bs o) (Bs.bs v) ∧ CkRow wr ge E ∧ Below w.heap.size w wr) (fun q _ => 2 - (intOf q).toNat)
    case atStart => exact ⟨0, Nat.zero_le _, rfl, Tys.new wc _ _, HR.out.later ((Below.refl _ _).alloc (Nat.le_refl _) _), HB.out.alloc HB.out.size _⟩
    case round =>
      clear HR HB
      obtain ⟨i, hi, rfl, hty, hrr, hbb⟩ := hrel
      have HR := Lib.hid hrr
      have HB := Lib.hid hbb
      have HY := Lib.hid hty
      clear hrr hbb hty
      have hcase : i = 2 ∨ i < 2 := by omega
      rcases hcase with rfl | hi2
      · go_wp2_with fail
        go_ret
        exact ⟨rfl, HB.out⟩
      · obtain ⟨u, hu, hcu⟩ : ∃ u : List UInt8, u.length ≤ 200 ∧ wr.cell? ⟨wc.heap.size, i, none⟩ = some (.string (Bs.bs u)) := by
          have hc2 : i = 0 ∨ i = 1 := by omega
          rcases hc2 with rfl | rfl
          · exact ⟨o, ho, HY.out.cells.1⟩
          · exact ⟨v, hvl, HY.out.cells.2⟩
        have HEu := fun (W : World) => HE.out W u hu
        obtain ⟨U, hU⟩ : ∃ U, Bs.bs u = U := ⟨_, rfl⟩
        rw [hU] at hcu HEu
        obtain ⟨F, hF⟩ : ∃ F, encL u need count = F := ⟨_, rfl⟩
        have hFl : F.length = count := by rw [← hF]; exact encL_len u need count
        have hFi : ∀ i (h : i < F.length), (F[i]).1 = (i : Int) ∧ (F[i]).2.size = mOf u need := fun i h => by
          subst hF; exact ⟨by rw [encL_get u need count i h], encL_size u need count i h⟩
        rw [hF] at HEu
        have HFI := Lib.hid hFi
        have HFF := Lib.hid hF
        have HU := Lib.hid hU
        have HEu := Lib.hid HEu
        clear hF hU hFi
        have hi0 : decide (i < 2) = true := decide_eq_true hi2
        go_upto_region 16 with (go_at_call 20; (with_reducible refine (HEu.out _).mono ?_); rintro e w3 ⟨gf, hgf, rfl, hFr, hB⟩; have HFR := Lib.hid hFr; have HY3 := Lib.hid (HY.out.later hB); have HR3 := Lib.hid (HR.out.later hB); have HB3 := Lib.hid (below_on HB.out hB HB.out.size); clear hFr hB)
        obtain ⟨ea, eb⟩ := HR3.out.cell 0 (by omega)
        obtain ⟨fa, fb⟩ := HFR.out.cell 0 (by omega)
        obtain ⟨X0, hX0⟩ : ∃ X, (E[0]'(by omega)).2 = X := ⟨_, rfl⟩
        obtain ⟨Y0, hY0⟩ : ∃ X, (F[0]'(by omega)).2 = X := ⟨_, rfl⟩
        have zX := (HEI.out 0 (by omega)).2
        have zY := (HFI.out 0 (by omega)).2
        rw [hX0] at eb zX
        rw [hY0] at fb zY
        rw [Nat.zero_mul] at eb fb
        clear ea fa hX0 hY0
        have hcz : 0 < count := by omega
        have hcz1 : decide (0 < count) = true := decide_eq_true hcz
        have hcz2 : (0 : Int) < (count : Int) := by omega
        by_cases hut : u = t
        · subst hut
          obtain rfl : U = S0 := by rw [← HU.out, ← HT.out]
          go_quiet (fail)
          go_wp2_with fail
          go_roundw
          case rel => exact ⟨i + 1, hi2, by go_num, HY3.out.later (below_drewN (Below.refl _ _) _), HR3.out.later (below_drewN (Below.refl _ _) _), below_drewN HB3.out _⟩
          case measure => simp [intOf]; omega
        · have hne : ¬ U.toList = S0.toList := fun h => hut (by rw [← HU.out, ← HT.out, bs_toList, bs_toList] at h; exact h)
          have hne1 : (U.toList == S0.toList) = false := beq_false_of_ne hne
          have hne2 : decide (U.toList = S0.toList) = false := decide_eq_false hne
          by_cases hm : mOf t need = mOf u need
          · rw [← hm] at zY
            obtain ⟨m, hme⟩ : ∃ m, mOf t need = m := ⟨_, rfl⟩
            have zX' : X0.size = m := by rw [zX, hme]
            have zY' : Y0.size = m := by rw [zY, hme]
            clear zX zY hme
            go_quiet (fail)
            go_wp2_with fail
            have HM := Lib.hid (And.intro hm hut)
            clear hm hut
            go_loopw [23, 24] (fun c j wx => ∃ k n : Nat, k ≤ count ∧ j = .int .i64 k ∧ c = .int .i64 n ∧ n = cntL E F k ∧ Below w3.heap.size w3 wx) (fun _ j _ => count - (intOf j).toNat)
            case atStart => exact ⟨0, 0, Nat.zero_le _, rfl, rfl, rfl, below_drewN (Below.refl _ _) _⟩
            case round =>
              obtain ⟨k, n, hk, rfl, rfl, hn, hbx⟩ := hrel
              have HX := Lib.hid hbx
              have HN := Lib.hid hn
              clear hbx hn eb fb
              rcases Nat.lt_or_ge k count with hkc | hkc
              · obtain ⟨e1, e2⟩ := (HR3.out.later HX.out).cell k (by omega)
                obtain ⟨f1, f2⟩ := (HFR.out.later HX.out).cell k (by omega)
                have ke := (HEI.out k (by omega)).1
                have kf := (HFI.out k (by omega)).1
                rw [ke] at e1
                rw [kf] at f1
                obtain ⟨X, hX⟩ : ∃ X, (E[k]'(by omega)).2 = X := ⟨_, rfl⟩
                obtain ⟨Y, hY⟩ : ∃ X, (F[k]'(by omega)).2 = X := ⟨_, rfl⟩
                rw [hX] at e2
                rw [hY] at f2
                have hEk : E[k]? = some ((k : Int), X) := by rw [List.getElem?_eq_getElem (by omega), ← ke, ← hX]
                have hFk : F[k]? = some ((k : Int), Y) := by rw [List.getElem?_eq_getElem (by omega), ← kf, ← hY]
                have hs := cntL_succ E F k
                have hc1 := cntL_le E F k
                rw [hEk, hFk, ← HN.out] at hs
                rw [← HN.out] at hc1
                clear ke kf hX hY hEk hFk
                have hkc1 : decide (k < count) = true := decide_eq_true hkc
                by_cases heq : X = Y
                · subst heq
                  rw [if_pos rfl] at hs
                  have HS2 := Lib.hid hs
                  clear hs
                  go_upto_region 21 with (fail)
                  go_region_held3 (fun w' => w'.cell? ⟨ge, k * 2, none⟩ = some (.int .i64 (k : Int)) ∧ w'.cell? ⟨ge, k * 2 + 1, none⟩ = some (.string X) ∧ w'.cell? ⟨gf, k * 2, none⟩ = some (.int .i64 (k : Int)) ∧ w'.cell? ⟨gf, k * 2 + 1, none⟩ = some (.string X)) (first | exact ⟨e1, e2, f1, f2⟩ | go_keep) (fail)
                  go_wp2_with fail
                  go_roundw
                  case rel => exact ⟨k + 1, n + 1, hkc, by go_num, by go_num, HS2.out.symm, HX.out.drew⟩
                  case measure => simp [intOf]; omega
                · have hne3 : ¬ X.toList = Y.toList := fun h => heq (by rw [toList_eq, toList_eq] at h; rw [← bs_bytes Y, ← bs_bytes X, h])
                  have hne4 : (X.toList == Y.toList) = false := beq_false_of_ne hne3
                  have hne5 : decide (X.toList = Y.toList) = false := decide_eq_false hne3
                  rw [if_neg (fun h => heq (Prod.mk.inj (Option.some.inj h)).2)] at hs
                  have HS2 := Lib.hid hs
                  clear hs heq
                  go_upto_region 21 with (fail)
                  go_region_held3 (fun w' => w'.cell? ⟨ge, k * 2, none⟩ = some (.int .i64 (k : Int)) ∧ w'.cell? ⟨ge, k * 2 + 1, none⟩ = some (.string X) ∧ w'.cell? ⟨gf, k * 2, none⟩ = some (.int .i64 (k : Int)) ∧ w'.cell? ⟨gf, k * 2 + 1, none⟩ = some (.string Y)) (first | exact ⟨e1, e2, f1, f2⟩ | go_keep) (fail)
                  go_wp2_with fail
                  go_roundw
                  case rel => exact ⟨k + 1, n, hkc, by go_num, by go_num, HS2.out.symm, HX.out.drew⟩
                  case measure => simp [intOf]; omega
              · obtain rfl : k = count := by omega
                have hd := enc_dist (s := t) (u := u) n1 (by omega) c16 (by omega) (by omega) HM.out.1 (Ne.symm HM.out.2)
                rw [HEE.out, HFF.out] at hd
                have hd2 : n < need := by rw [HN.out]; exact hd
                have hd3 : decide (need ≤ n) = false := decide_eq_false (by omega)
                clear hd
                go_wp2_with fail
                go_roundw
                case rel => exact ⟨i + 1, hi2, by go_num, HY3.out.later HX.out, HR3.out.later HX.out, below_on HB3.out HX.out HB3.out.size⟩
                case measure => simp [intOf]; omega
          · have hmd : decide (X0.size = Y0.size) = false := decide_eq_false (by omega)
            have hmd1 : ((X0.size : Int) == (Y0.size : Int)) = false := beq_false_of_ne (by omega)
            have hmd2 : ¬ (X0.size : Int) = (Y0.size : Int) := by omega
            have hmd3 : ¬ X0.size = Y0.size := by omega
            clear zX zY hm
            go_quiet (fail)
            go_wp2_with fail
            go_roundw
            case rel => exact ⟨i + 1, hi2, by go_num, HY3.out.later (below_drewN (Below.refl _ _) _), HR3.out.later (below_drewN (Below.refl _ _) _), below_drewN HB3.out _⟩
            case measure => simp [intOf]; omega

end Go.Proofs.YtajfmhiejipaoaaDoor
