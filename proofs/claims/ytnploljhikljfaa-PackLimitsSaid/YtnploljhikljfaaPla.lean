/-
  PackLimits: for every byte and integer the law returns true.
-/
import Derived.Test.YtnploljhikljfaaPwi
import Derived.Test.YtnploljhikljfaaPmb
import Derived.Deep.Cut
namespace Go.Proofs.Ytnploljhikljfaa
open Go.RowKit Bs Pk

theorem max4 (k : Nat) (w : World) (ts : Array TypeId) (t : TypeId) (m : Nat) (hm : max k 4 = m) : (Builtin.max_ ts t #[.int .i64 (k : Int), .int .i64 4]).run Try.prog w = .ok (.int .i64 (m : Int)) w := by
  rw [run_max_int2]
  congr 2
  subst hm
  split <;> omega
theorem ub_length (l : List Nat) : (ub l).length = l.length := by simp [ub]

set_option maxRecDepth 100000 in
set_option maxHeartbeats 4000000 in
theorem PackLimits_any (b len : Int) (b0 : 0 ≤ b) (b1 : b ≤ 255) (l0 : -9223372036854775808 ≤ len) (l1 : len ≤ 9223372036854775807) (w : World) :
    Calls Try.prog 4 #[.int .u8 b, .int .i64 len] w fun e w' => e = .returned (.bool true) ∧ Below w.heap.size w w' := by
  obtain ⟨bn, rfl⟩ : ∃ bn : Nat, b = (bn : Int) := ⟨b.toNat, by omega⟩
  obtain ⟨k, hk, PK⟩ := ppick_any len l0 l1 201 201 rfl (by omega)
  replace PK := Lib.hid PK
  have hw1 : IntKind.i64.wrap (4000 + (k : Int)) = ((4000 + k : Nat) : Int) := by rw [IntKind.wrap_i64]; omega
  obtain ⟨n, hn⟩ : ∃ n, 4000 + k = n := ⟨_, rfl⟩
  rw [hn] at hw1
  have hn1 : 4000 ≤ n := by omega
  have hn2 : n ≤ 4200 := by omega
  obtain ⟨i0, hi, hz0, hz1, hz2⟩ := infoB_parts
  obtain ⟨zW, hzW⟩ : ∃ f : World → World, ∀ W, W.alloc (.cells (iv .u8 (List.replicate n 0)).toArray 5) = f W := ⟨_, fun _ => rfl⟩
  have hmk : ∀ W : World, (Instr.makeSlice 29 (.int .i64 (n : Int)) (.int .i64 (n : Int))).run Try.prog W = .ok (.slice (some ⟨W.heap.size, 0, none⟩) n n) (zW W) := fun W => by
    rw [← hzW]; exact mkB W n (by omega)
  have hzA := Lib.hid (fun W : World => (show Arr (zW W) W.heap.size 5 .u8 (List.replicate n 0) ∧ Below W.heap.size W (zW W) from by rw [← hzW]; exact ⟨Arr.new W _ _ _, (Below.refl _ _).alloc (Nat.le_refl _) _⟩))
  have HS := Lib.hid psane_any
  have HB := Lib.hid (Below.refl w.heap.size w)
  clear hzW hn hk
  go_enter Try.func4, Try.ntmps4
  go_upto_region 4 with (first
    | (go_at_call 10; (with_reducible refine (HS.out _).mono ?_); rintro e w1 ⟨rfl, hB⟩; replace HB := Lib.hid (below_on HB.out hB HB.out.size); clear hB)
    | (go_at_call 14; (with_reducible refine (PK.out _).mono ?_); rintro e ww ⟨rfl, hww⟩; rw [hww]; clear hww ww))
  obtain ⟨hA0, hB0⟩ := hzA.out w1
  obtain ⟨gs, hgs⟩ : ∃ gs, w1.heap.size = gs := ⟨_, rfl⟩
  rw [hgs] at hA0 hB0 ⊢
  have hBs := HB.out.size
  replace HB := Lib.hid (HB.out.trans (hB0.mono (by omega)))
  obtain ⟨W2, hW2⟩ : ∃ W2, zW w1 = W2 := ⟨_, rfl⟩
  rw [hW2] at hA0 HB ⊢
  have hgw : w.heap.size ≤ gs := by omega
  clear hW2 hB0 hmk hzA hgs hBs
  go_wp2_with fail
  go_loopw [8] (fun i wr => ∃ (j : Nat), j ≤ n ∧ i = .int .i64 j ∧ Arr wr gs 5 .u8 (List.replicate j bn ++ List.replicate (n - j) 0) ∧ Below w.heap.size w wr) (fun i _ => n - (intOf i).toNat)
  case atStart => exact ⟨0, Nat.zero_le _, rfl, by simpa using hA0, HB.out⟩
  case round =>
    clear hA0 HB
    obtain ⟨j, hj, rfl, hA, hB⟩ := hrel
    rcases Nat.lt_or_ge j n with g1 | g1
    · have d1 : decide ((j : Int) < (n : Int)) = true := decide_eq_true (by omega)
      have hll : (List.replicate j bn ++ List.replicate (n - j) 0).length = n := by simp; omega
      have cj := hA.get j (by rw [hll]; exact g1)
      have fj := hA.free j
      have sj := hA.lt
      have hA2 := hA.set j (bn : Int) bn rfl
      have e : (List.replicate j bn ++ List.replicate (n - j) 0).set j bn = List.replicate (j + 1) bn ++ List.replicate (n - (j + 1)) 0 := by
        apply List.ext_getElem
        · simp; omega
        · intro i h1 h2
          simp only [List.length_set, hll] at h1
          rw [List.getElem_set]
          by_cases hji : j = i
          · subst hji
            rw [if_pos rfl, List.getElem_append_left (by simp), List.getElem_replicate]
          · rw [if_neg hji]
            rcases Nat.lt_or_ge i j with h | h
            · rw [List.getElem_append_left (by simpa using h), List.getElem_append_left (by simp; omega), List.getElem_replicate, List.getElem_replicate]
            · rw [List.getElem_append_right (by simpa using h), List.getElem_append_right (by simp; omega), List.getElem_replicate, List.getElem_replicate]
      rw [e] at hA2
      have HA2 := Lib.hid hA2
      have HB2 := Lib.hid (hB.setCell (p := ⟨gs, j, none⟩) (by show w.heap.size ≤ gs; exact hgw) (.int .u8 (bn : Int)))
      have i1 : (0 : Int) ≤ (j : Int) := by omega
      have i2 : (j : Int) < (n : Int) := by omega
      clear e hA2 hA hB hll
      go_wp2_with fail
      go_roundw
      case rel => exact ⟨j + 1, by omega, by go_num, HA2.out, HB2.out⟩
      case measure => simp [intOf]; omega
    · obtain rfl : j = n := by omega
      have d1 : decide ((j : Int) < (j : Int)) = false := decide_eq_false (by omega)
      rw [Nat.sub_self, List.replicate_zero, List.append_nil] at hA
      have hR256 : ∀ x ∈ List.replicate j bn, x < 256 := fun x hx => by have := List.eq_of_mem_replicate hx; omega
      obtain ⟨R, hR⟩ : ∃ R, List.replicate j bn = R := ⟨_, rfl⟩
      have hRl : R.length = j := by rw [← hR]; simp
      rw [hR] at hA hR256
      have hcv := fun (W : World) (h : Arr W gs 5 .u8 R) => arr_str (c := j) h hRl hR256
      obtain ⟨S, hS⟩ : ∃ S, bs (ub R) = S := ⟨_, rfl⟩
      rw [hS] at hcv
      have HA := Lib.hid hA
      have HB := Lib.hid hB
      have hcv1 := hcv wr hA
      have HCV := Lib.hid hcv
      by_cases g2 : 4096 < j
      · have d2 : decide ((4096 : Int) < (j : Int)) = true := decide_eq_true (by omega)
        have EN := Lib.hid (fun W => (show Calls Try.prog 15 #[.string S] W fun e w' => e = .returned (.tuple #[.string ⟨#[]⟩, .int .i64 70]) ∧ w' = W from Encode_no S (by rw [← hS, bs_size, ub_length]; omega) W))
        clear hA hB hcv hS hR
        go_wp2_with (go_at_call 15; (with_reducible refine (EN.out _).mono ?_); rintro e ww ⟨rfl, hww⟩; rw [hww]; clear hww ww)
        have hW0 := HB.out.size
        have hown0 : Bs.Own (wr.alloc (Obj.cells #[Value.int .u8 0, Value.int .u8 (bn : Int)] 5)) wr.heap.size 5 .u8 (.slice (some ⟨wr.heap.size, 0, none⟩) 2 2) (spells [bn] (.run 0 1 :: cps [])) :=
          ⟨World.ownsRow_lit wr #[.int .u8 0, .int .u8 (bn : Int)] 2 (Nat.le_refl _) (by unfold maxLen; omega) rfl⟩
        have HB0 : Hid (Below w.heap.size w (wr.alloc (Obj.cells #[Value.int .u8 0, Value.int .u8 (bn : Int)] 5))) := Lib.hid (HB.out.alloc hW0 _)
        obtain ⟨w0, hw0⟩ : ∃ w0, wr.alloc (Obj.cells #[Value.int .u8 0, Value.int .u8 (bn : Int)] 5) = w0 := ⟨_, rfl⟩
        have hs0 : w0.heap.size = wr.heap.size + 1 := by rw [← hw0, World.size_alloc]
        obtain ⟨gb, hgb⟩ : ∃ gb, wr.heap.size = gb := ⟨_, rfl⟩
        rw [hw0] at HB0 hown0 ⊢
        rw [hgb] at hown0 hs0 hW0 ⊢
        rw [show ((j : Int) - 1) = ((j - 1 : Nat) : Int) by omega]
        clear hw0 hgb hcv1 HB HA HCV EN
        go_loopw [11, 12] (fun v i wx => ∃ (l : List Nat) (lf : Nat), i = .int .i64 lf ∧ Bs.Own wx gb 5 .u8 v (spells [bn] (.run 0 1 :: cps l)) ∧ (∀ m ∈ l, 4 ≤ m ∧ m ≤ 131) ∧ l.length + lf ≤ j ∧ j ≤ 1 + l.sum + lf ∧ Below w.heap.size w wx ∧ gb < wx.heap.size) (fun _ i _ => (intOf i).toNat)
        case atStart => exact ⟨[], j - 1, rfl, hown0, by simp, by simp, by simp; omega, HB0.out, by omega⟩
        case round =>
          clear hown0 HB0
          obtain ⟨l, lf, rfl, hown, hl, hc1, hc2, hB, hgx⟩ := hrel
          rcases Nat.eq_zero_or_pos lf with rfl | hlf
          · have d3 : decide ((0 : Int) < ((0 : Nat) : Int)) = false := decide_eq_false (by omega)
            have hcl : (spells [bn] (.run 0 1 :: cps l)).length = 2 + 2 * l.length := by
              have : ∀ l : List Nat, (spells [bn] (cps l)).length = 2 * l.length := by
                intro l
                induction l with
                | nil => rfl
                | cons m l ih => rw [show cps (m :: l) = .copy m 1 :: cps l from rfl, spells_cons, List.length_append, copy_len, ih, List.length_cons]; omega
              rw [spells_cons, List.length_append, this]; rfl
            have h256 : ∀ x ∈ spells [bn] (.run 0 1 :: cps l), x < 256 := by
              intro x hx
              simp only [spells, cps, List.map_cons, List.map_map, List.flatten_cons, List.mem_append, List.mem_flatten, List.mem_map] at hx
              rcases hx with hx | ⟨y, ⟨m, hm, rfl⟩, hx⟩
              · simp [spell] at hx; omega
              · obtain ⟨h1, h2⟩ := hl m hm
                simp [spell] at hx; omega
            have hbad : ¬ good (spells [bn] (.run 0 1 :: cps l)) := fun h => by
              have := too_much bn l hl (by omega)
              have := h.1
              omega
            obtain ⟨C, hC⟩ : ∃ C, spells [bn] (.run 0 1 :: cps l) = C := ⟨_, rfl⟩
            rw [hC] at hcl h256 hbad hown
            have hne := fun W => (show Calls Try.prog 16 #[.string (bs (ub C))] W fun e w' => e = .returned (.tuple #[.string ⟨#[]⟩, .int .i64 70]) ∧ Below W.heap.size W w' from Decode_no (ub C) (by rw [ub_length, hcl]; omega) (by rw [nb_ub h256]; exact hbad) W)
            obtain ⟨g', cap', rfl, _⟩ := hown.cells (by omega)
            have hcv := conv_own hown h256
            obtain ⟨T, hT⟩ : ∃ T, bs (ub C) = T := ⟨_, rfl⟩
            rw [hT] at hcv hne
            have HNE := Lib.hid hne
            have HB := Lib.hid hB
            clear hne hbad h256 hown hC hT hl hB hcl
            go_wp2_with (go_at_call 16; (with_reducible refine (HNE.out _).mono ?_); rintro e w3 ⟨rfl, hB3⟩)
            go_ret
            exact ⟨rfl, below_on HB.out hB3 HB.out.size⟩
          · have d3 : decide ((0 : Int) < (lf : Int)) = true := decide_eq_true (by omega)
            obtain ⟨q, hq⟩ : ∃ q, min lf 131 = q := ⟨_, rfl⟩
            have r0 := fun w ts ty => min_run (P := Try.prog) lf 131 q hq.symm 131 rfl w ts ty
            obtain ⟨m, hm⟩ : ∃ m, max q 4 = m := ⟨_, rfl⟩
            have r1 := fun w ts ty => max4 q w ts ty m hm
            have hw2 : IntKind.i64.wrap (124 + (m : Int)) = ((124 + m : Nat) : Int) := by rw [IntKind.wrap_i64]; omega
            have hw3 : IntKind.u8.wrap ((124 + m : Nat) : Int) = ((124 + m : Nat) : Int) := by rw [IntKind.wrap_u8]; omega
            obtain ⟨c1, hc1'⟩ : ∃ c1, 124 + m = c1 := ⟨_, rfl⟩
            rw [hc1'] at hw2 hw3
            have hw4 : IntKind.i64.wrap ((lf : Int) - (q : Int)) = ((lf - q : Nat) : Int) := by rw [IntKind.wrap_i64]; omega
            obtain ⟨lf', hlf'⟩ : ∃ lf', lf - q = lf' := ⟨_, rfl⟩
            rw [hlf'] at hw4
            have hcl : (spells [bn] (.run 0 1 :: cps l)).length = 2 + 2 * l.length := by
              have : ∀ l : List Nat, (spells [bn] (cps l)).length = 2 * l.length := by
                intro l
                induction l with
                | nil => rfl
                | cons m l ih => rw [show cps (m :: l) = .copy m 1 :: cps l from rfl, spells_cons, List.length_append, copy_len, ih, List.length_cons]; omega
              rw [spells_cons, List.length_append, this]; rfl
            have HX := Lib.hid (show spells [bn] (.run 0 1 :: cps l) ++ [c1, 1] = spells [bn] (.run 0 1 :: cps (l ++ [m])) by rw [spells_cps, hc1'])
            have hq1 : 1 ≤ q := by omega
            have hm1 : 4 ≤ m ∧ m ≤ 131 ∧ q ≤ m := by omega
            have hlq : lf' + q = lf := by omega
            have HN2 : Hid (Nums (wr.alloc (Obj.cells #[Value.int .u8 (c1 : Int), Value.int .u8 1] 5)) wr.heap.size 0 2 .u8 [c1, 1]) := Lib.hid (by
              have := Nums.fresh (W := wr) (t := 5) (k := .u8) [c1, 1] 2 rfl
              exact this)
            obtain ⟨C, hC⟩ : ∃ C, spells [bn] (.run 0 1 :: cps l) = C := ⟨_, rfl⟩
            rw [hC] at hcl HX hown
            have HOW := Lib.hid hown
            have HB := Lib.hid hB
            have HL := Lib.hid hl
            clear hC hq hm hc1' hlf' hown hB hl
            go_wp2_with (refine wpList_pushN rfl _ _ 29 rfl gb 5 i0 (.int .u8 0) 1 Try.underlying29 hi hz0 hz1 hz2 rfl (by omega) .u8 _ C rfl (HOW.out.alloc _) wr.heap.size 0 2 2 [c1, 1] rfl HN2.out rfl (by omega) (by rw [World.size_alloc]; omega) ?_)
            intro v' w4 hown4 hB4
            rw [HX.out] at hown4
            go_wp2_with fail
            go_roundw
            case rel =>
              refine ⟨l ++ [m], lf', rfl, hown4, ?_, by simp; omega, by simp; omega, (HB.out.alloc HB.out.size _).trans (hB4.mono (by omega)), by have := hB4.size; rw [World.size_alloc] at this; omega⟩
              intro x hx
              simp only [List.mem_append, List.mem_singleton] at hx
              rcases hx with hx | rfl
              · exact HL.out x hx
              · omega
            case measure => simp [intOf]; omega
      · have d2 : decide ((4096 : Int) < (j : Int)) = false := decide_eq_false (by omega)
        have EN := Lib.hid (fun W => Encode_ok (ub R) (by rw [ub_length, hRl]; omega) W)
        have hgd : good (nb (ub (enc R))) := by
          rw [nb_ub (enc_lt R hR256)]
          exact good_enc R (by omega)
        have DE := Lib.hid (fun W => Decode_ok (ub (enc R)) hgd W)
        rw [nb_ub (enc_lt R hR256), whole_enc R (by omega), hS] at DE
        rw [nb_ub hR256, hS] at EN
        obtain ⟨T, hT⟩ : ∃ T, bs (ub (enc R)) = T := ⟨_, rfl⟩
        rw [hT] at EN DE
        clear hA hB hcv hS hR hT hgd
        go_wp2_with (first
          | (go_at_call 15; (with_reducible refine (EN.out _).mono ?_); rintro e w3 ⟨rfl, hB3⟩; have hA3 := HA.out.later hB3; replace HB := Lib.hid (below_on HB.out hB3 HB.out.size))
          | (go_at_call 16; (with_reducible refine (DE.out _).mono ?_); rintro e w4 ⟨rfl, hB4⟩; have hcv4 := HCV.out _ (hA3.later hB4); replace HB := Lib.hid (below_on HB.out hB4 HB.out.size)))
        go_ret
        exact ⟨rfl, HB.out⟩

end Go.Proofs.Ytnploljhikljfaa
