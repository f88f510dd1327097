/-
  PackRepeats: for every rows of integers and two integers the law returns true.
-/
import Derived.Test.YtnploljhikljfaaPlb
import Derived.Deep.Cut
namespace Go.Proofs.Ytnploljhikljfaa
open Go.RowKit Bs Pk

/-- n bytes with a period of d -/
def rep (M : List Nat) (d n : Nat) : List Nat := (List.range n).map (fun i => M.getD (i % d) 0)
theorem rep_len (M : List Nat) (d n : Nat) : (rep M d n).length = n := by simp [rep]
theorem rep_succ (M : List Nat) (d n : Nat) : rep M d (n + 1) = rep M d n ++ [M.getD (n % d) 0] := by simp [rep, List.range_succ]
theorem rep_lt (M : List Nat) (hM : ∀ x ∈ M, x < 256) (d n : Nat) : ∀ x ∈ rep M d n, x < 256 := by
  intro x hx
  simp only [rep, List.mem_map] at hx
  obtain ⟨i, _, rfl⟩ := hx
  rw [List.getD_eq_getElem?_getD]
  cases h : M[i % d]? with
  | none => simp
  | some y => simpa using hM y (List.mem_of_getElem? h)
theorem rep_get (M : List Nat) (d n i : Nat) (hi : i < n) : (rep M d n).getD i 0 = M.getD (i % d) 0 := by simp [rep, List.getD_eq_getElem?_getD, hi]
theorem rep_period (M : List Nat) (d n : Nat) (i : Nat) (h1 : d ≤ i) (h2 : i < (rep M d n).length) : (rep M d n).getD i 0 = (rep M d n).getD (i - d) 0 := by
  rw [rep_len] at h2
  rw [rep_get M d n i h2, rep_get M d n (i - d) (by omega), Nat.mod_eq_sub_mod h1]

theorem own_shpe {W : World} {base : Nat} {t : TypeId} {k : IntKind} {v : Value} {l : List Nat} (h : Bs.Own W base t k v l) : ∃ av cv, v = .slice av l.length cv := own_shp h
set_option maxRecDepth 100000 in
set_option maxHeartbeats 4000000 in
theorem PackRepeats_any (a : Option Addr) (n c : Nat) (pe len : Int) (p0 : -9223372036854775808 ≤ pe) (p1 : pe ≤ 9223372036854775807) (l0 : -9223372036854775808 ≤ len) (l1 : len ≤ 9223372036854775807) (w : World) (hR : IsRows3 w a n) :
    Calls Try.prog 7 #[.slice a n c, .int .i64 pe, .int .i64 len] w fun e w' => e = .returned (.bool true) ∧ Below w.heap.size w w' := by
  have HS := Lib.hid psane_any
  have HR := Lib.hid hR
  have HM := Lib.hid (fun W (h : IsRows3 W a n) => Made_any a n c W h)
  have HRW : Hid (∀ W, Below w.heap.size w W → IsRows3 W a n) := Lib.hid (fun W hb => by
    refine ⟨hR.1, hR.2.imp id ?_⟩
    rintro ⟨b, off, rfl, h⟩
    refine ⟨b, off, rfl, fun i j hi hj => ?_⟩
    obtain ⟨z, hz, hzb⟩ := h i j hi hj
    exact ⟨z, (hb.cell (p := ⟨b, off + i * 3 + j, none⟩) (block_lt_of_cell hz)).trans hz, hzb⟩)
  obtain ⟨i0, hi, hz0, hz1, hz2⟩ := infoB_parts
  obtain ⟨nn, hnn, PL⟩ := ppick_any len l0 l1 1501 1501 rfl (by omega)
  replace PL := Lib.hid PL
  have HB := Lib.hid (Below.refl w.heap.size w)
  clear hR
  go_enter Try.func7, Try.ntmps7
  go_upto_region 3 with (first
    | (go_at_call 10; (with_reducible refine (HS.out _).mono ?_); rintro e w1 ⟨rfl, hB⟩; replace HB := Lib.hid (below_on HB.out hB HB.out.size); clear hB)
    | (go_at_call 12; (with_reducible refine (HM.out _ (HRW.out _ HB.out)).mono ?_); rintro e w2 ⟨t1, ht1, rfl, hB⟩; replace HB := Lib.hid (below_on HB.out hB HB.out.size); clear hB; have z1 : ¬ 9223372036854775807 < (bs t1).size + (⟨#[120]⟩ : ByteArray).size := (by have h := bs_size t1; have h2 : (⟨#[120]⟩ : ByteArray).size = 1 := rfl; omega)))
  have hcat : bs t1 ++ (⟨#[120]⟩ : ByteArray) = bs (t1 ++ [120]) := bs_append t1 [120]
  rw [hcat]
  clear hcat z1
  have hTl : (t1 ++ [120]).length = t1.length + 1 := by simp
  obtain ⟨T, hT⟩ : ∃ T, t1 ++ [120] = T := ⟨_, rfl⟩
  rw [hT] at hTl ⊢
  obtain ⟨L, hL⟩ : ∃ L, T.length = L := ⟨_, rfl⟩
  have hL1 : 1 ≤ L := by omega
  have hsz : (bs T).size = L := by rw [bs_size, hL]
  obtain ⟨m, hm⟩ : ∃ m, min L 200 = m := ⟨_, rfl⟩
  have r0 := fun w ts ty => min_run (P := Try.prog) L 200 m hm.symm 200 rfl w ts ty
  obtain ⟨k, hk, PK⟩ := ppick_any pe p0 p1 m (m : Int) rfl (by omega)
  replace PK := Lib.hid PK
  have hw1 : IntKind.i64.wrap (1 + (k : Int)) = ((k + 1 : Nat) : Int) := by rw [IntKind.wrap_i64]; omega
  obtain ⟨d, hd⟩ : ∃ d, k + 1 = d := ⟨_, rfl⟩
  rw [hd] at hw1
  have hd1 : 1 ≤ d := by omega
  have hd2 : d ≤ 200 := by omega
  have hd3 : d ≤ L := by omega
  have HG : Hid (∀ r (hr : r < L), (bs T)[r]'(by rw [hsz]; exact hr) = T[r]'(by rw [hL]; exact hr)) := Lib.hid (fun r hr => rfl)
  obtain ⟨S, hS⟩ : ∃ S, bs T = S := ⟨_, rfl⟩
  have HIX : Hid (∀ r, r < L → ∀ W, (Instr.index 9 (.string S) (.int .i64 (r : Int))).run Try.prog W = .ok (.int .u8 (((nb T).getD r 0 : Nat) : Int)) W) := Lib.hid (fun r hr W => by
    subst hS
    rw [run_index_string (h := Try.underlying9), dif_pos (by rw [hsz]; omega)]
    congr 3
    have e : (nb T).getD r 0 = (T[r]'(by rw [hL]; exact hr)).toNat := by
      unfold nb
      rw [List.getD_eq_getElem?_getD, List.getElem?_map, List.getElem?_eq_getElem (by rw [hL]; exact hr)]; rfl
    rw [e]
    rfl)
  rw [hS] at hsz ⊢
  have HN6 := Lib.hid (nb_lt T)
  have hws := HB.out.size
  clear HG hS hT hTl hm hd HR HM HRW ht1 hL
  go_wp2_with (first
    | (go_at_call 14; (with_reducible refine (PK.out _).mono ?_); rintro e ww ⟨rfl, hww⟩; rw [hww]; clear hww ww)
    | (go_at_call 14; (with_reducible refine (PL.out _).mono ?_); rintro e ww ⟨rfl, hww⟩; rw [hww]; clear hww ww))
  go_loopw [11, 12] (fun v i wr => ∃ j : Nat, j ≤ nn ∧ i = .int .i64 j ∧ Bs.Own wr w.heap.size 5 .u8 v (rep (nb T) d j) ∧ Below w.heap.size w wr) (fun _ i _ => nn - (intOf i).toNat)
  case atStart => exact ⟨0, Nat.zero_le _, rfl, Bs.Own.nil _ _ _ _, HB.out⟩
  case round =>
    clear HB hws
    obtain ⟨j, hj, rfl, hown, hB⟩ := hrel
    rcases Nat.lt_or_ge j nn with g1 | g1
    · have d1 : decide ((j : Int) < (nn : Int)) = true := decide_eq_true (by omega)
      have hm0 : ((d : Int) == 0) = false := beq_false_of_ne (by omega)
      have hm1 : decide ((d : Int) = 0) = false := decide_eq_false (by omega)
      have ht : (j : Int).tmod (d : Int) = ((j % d : Nat) : Int) := (Int.ofNat_tmod j d).symm
      have hrd : j % d < d := Nat.mod_lt _ (by omega)
      have hix := HIX.out (j % d) (by omega)
      obtain ⟨r, hr⟩ : ∃ r, j % d = r := ⟨_, rfl⟩
      have HX := Lib.hid (rep_succ (nb T) d j)
      have hw4 : IntKind.i64.wrap (r : Int) = (r : Int) := by rw [IntKind.wrap_i64]; omega
      rw [hr] at ht hrd hix HX
      obtain ⟨x, hx⟩ : ∃ x, (nb T).getD r 0 = x := ⟨_, rfl⟩
      rw [hx] at hix HX
      have hcl := rep_len (nb T) d j
      obtain ⟨C, hC⟩ : ∃ C, rep (nb T) d j = C := ⟨_, rfl⟩
      rw [hC] at hown HX hcl
      have hCl : C.length ≤ 1600 := by omega
      have HOW := Lib.hid hown
      have HB := Lib.hid hB
      have HN1 : Hid (Nums (wr.alloc (Obj.cells #[Value.int .u8 (x : Int)] 5)) wr.heap.size 0 1 .u8 [x]) := Lib.hid (by
        have := Nums.fresh (W := wr) (t := 5) (k := .u8) [x] 1 rfl
        exact this)
      have hws := hB.size
      clear hr hx hC hcl hown hB
      go_wp2_with (refine wpList_pushN rfl _ _ 29 rfl w.heap.size 5 i0 (.int .u8 0) 1 Try.underlying29 hi hz0 hz1 hz2 rfl (by omega) .u8 _ C rfl (HOW.out.alloc _) wr.heap.size 0 1 1 [x] rfl HN1.out rfl (by omega) (by rw [World.size_alloc]; omega) ?_)
      intro v' w4 hown4 hB4
      rw [← HX.out] at hown4
      go_wp2_with fail
      go_roundw
      case rel => exact ⟨j + 1, by omega, by go_num, hown4, (HB.out.alloc hws _).trans hB4⟩
      case measure => simp [intOf]; omega
    · obtain rfl : j = nn := by omega
      have d1 : decide ((j : Int) < (j : Int)) = false := decide_eq_false (by omega)
      have hL256 := rep_lt (nb T) HN6.out d j
      have hLl := rep_len (nb T) d j
      have hbd := enc_period (rep (nb T) d j) d hd1 (by omega) (rep_period (nb T) d j)
      obtain ⟨R, hR⟩ : ∃ R, rep (nb T) d j = R := ⟨_, rfl⟩
      rw [hR] at hown hL256 hLl hbd
      obtain ⟨av, cv, rfl⟩ := own_shp hown
      have hcv := conv_own hown hL256
      have EN := fun W => Encode_ok (ub R) (by rw [ub_length1]; omega) W
      rw [nb_ub hL256] at EN
      have hsC : (bs (ub (enc R))).size = (enc R).length := by rw [bs_size, ub_length1]
      obtain ⟨U, hU⟩ : ∃ U, bs (ub R) = U := ⟨_, rfl⟩
      obtain ⟨C, hC⟩ : ∃ C, bs (ub (enc R)) = C := ⟨_, rfl⟩
      rw [hU] at hcv EN
      rw [hC] at EN hsC
      have HE := Lib.hid EN
      have HB := Lib.hid hB
      obtain ⟨mc, hmc⟩ : ∃ mc, (enc R).length = mc := ⟨_, rfl⟩
      rw [hmc] at hsC hbd
      rw [hLl] at hbd
      have hq1 : (d : Int).tdiv 128 = ((d / 128 : Nat) : Int) := (Int.ofNat_tdiv d 128).symm
      have hq2 : (j : Int).tdiv 131 = ((j / 131 : Nat) : Int) := (Int.ofNat_tdiv j 131).symm
      obtain ⟨e1, he1⟩ : ∃ e1, d / 128 = e1 := ⟨_, rfl⟩
      obtain ⟨e2, he2⟩ : ∃ e2, j / 131 = e2 := ⟨_, rfl⟩
      have he1b : e1 ≤ 2 := by omega
      have he2b : e2 ≤ 12 := by omega
      rw [he1] at hq1 hbd
      rw [he2] at hq2 hbd
      have hw1 : IntKind.i64.wrap (e1 : Int) = (e1 : Int) := by rw [IntKind.wrap_i64]; omega
      have hw2 : IntKind.i64.wrap (e2 : Int) = (e2 : Int) := by rw [IntKind.wrap_i64]; omega
      have hw3 : IntKind.i64.wrap ((d : Int) + (e1 : Int)) = ((d + e1 : Nat) : Int) := by rw [IntKind.wrap_i64]; omega
      have hw4 : IntKind.i64.wrap (2 * (e2 : Int)) = ((2 * e2 : Nat) : Int) := by rw [IntKind.wrap_i64]; omega
      obtain ⟨f1, hf1⟩ : ∃ f1, d + e1 = f1 := ⟨_, rfl⟩
      obtain ⟨f2, hf2⟩ : ∃ f2, 2 * e2 = f2 := ⟨_, rfl⟩
      rw [hf1] at hw3 hbd
      rw [hf2] at hw4 hbd
      have hw5 : IntKind.i64.wrap ((f1 : Int) + (f2 : Int)) = ((f1 + f2 : Nat) : Int) := by rw [IntKind.wrap_i64]; omega
      obtain ⟨f3, hf3⟩ : ∃ f3, f1 + f2 = f3 := ⟨_, rfl⟩
      rw [hf3] at hw5 hbd
      have hw6 : IntKind.i64.wrap ((f3 : Int) + 8) = ((f3 + 8 : Nat) : Int) := by rw [IntKind.wrap_i64]; omega
      obtain ⟨f4, hf4⟩ : ∃ f4, f3 + 8 = f4 := ⟨_, rfl⟩
      rw [hf4] at hw6 hbd
      have d2 : decide ((mc : Int) ≤ (f4 : Int)) = true := decide_eq_true (by omega)
      have d2' : decide (mc ≤ f4) = true := decide_eq_true hbd
      clear hown hB hU hC EN hmc he1 he2 hf1 hf2 hf3 hf4 hR hLl hL256 HIX HN6 PK PL
      go_wp2_with (go_at_call 15; (with_reducible refine (HE.out _).mono ?_); rintro e w3 ⟨rfl, hB3⟩)
      go_ret
      exact ⟨rfl, below_on HB.out hB3 HB.out.size⟩

end Go.Proofs.Ytnploljhikljfaa
