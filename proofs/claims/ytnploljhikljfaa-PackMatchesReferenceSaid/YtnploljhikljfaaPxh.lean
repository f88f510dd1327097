/-
  PackMatchesReference: for every string, rows, integer and byte the law returns true.
-/
import Derived.Test.YtnploljhikljfaaPxg
import Derived.Deep.DeepCutAuto
namespace Go.Proofs.Ytnploljhikljfaa
open Go.RowKit Bs Pk

set_option maxRecDepth 100000 in
set_option maxHeartbeats 8000000 in
theorem PackMatchesReference_any (s : ByteArray) (a : Option Addr) (n c : Nat) (a2 : Int) (l2 : -9223372036854775808 ≤ a2) (u2 : a2 ≤ 9223372036854775807) (b : Int) (l3 : 0 ≤ b) (u3 : b ≤ 255) (w : World) (hR : IsRows3 w a n) :
    Calls Try.prog 3 #[.string s, .slice a n c, .int .i64 a2, .int .u8 b] w fun e w' => e = .returned (.bool true) ∧ Below w.heap.size w w' := by
  obtain ⟨y, rfl⟩ : ∃ y : UInt8, b = (y.toNat : Int) := ⟨UInt8.ofNat b.toNat, by simp; omega⟩
  obtain ⟨t0, ht0, PC⟩ := pcut_any s
  have HS := Lib.hid psane_any
  replace PC := Lib.hid PC
  have HM := Lib.hid (fun W (h : IsRows3 W a n) => Made_any a n c W h)
  have HRW : Hid (∀ W, Below w.heap.size w W → IsRows3 W a n) := Lib.hid (fun W hb => by
    refine ⟨hR.1, hR.2.imp id ?_⟩
    rintro ⟨b, off, rfl, h⟩
    refine ⟨b, off, rfl, fun i j hi hj => ?_⟩
    obtain ⟨z, hz, hzb⟩ := h i j hi hj
    exact ⟨z, (hb.cell (p := ⟨b, off + i * 3 + j, none⟩) (block_lt_of_cell hz)).trans hz, hzb⟩)
  have HB := Lib.hid (Below.refl w.heap.size w)
  have HRE := Lib.hid (fun (u : List UInt8) (hu : u.length ≤ 600) W => refEncode_ok u (by omega) W)
  have HT0 := Lib.hid ht0
  clear hR ht0 l3 u3
  obtain ⟨S0, hS0⟩ : ∃ S, bs t0 = S := ⟨_, rfl⟩
  rw [hS0] at PC
  have HS0 := Lib.hid hS0
  clear hS0
  go_enter Try.func3, Try.ntmps3
  go_upto_region 5 with (first
    | (go_at_call 10; (with_reducible refine (HS.out _).mono ?_); rintro e w1 ⟨rfl, hB⟩; replace HB := Lib.hid (below_on HB.out hB HB.out.size); clear hB)
    | (go_at_call 11; (with_reducible refine (PC.out _).mono ?_); rintro e ww ⟨rfl, hww⟩; rw [hww]; clear hww ww)
    | (go_at_call 12; (with_reducible refine (HM.out _ (HRW.out _ HB.out)).mono ?_); rintro e w2 ⟨t2, ht2, rfl, hB⟩; replace HB := Lib.hid (below_on HB.out hB HB.out.size); clear hB)
    | (go_at_call 13; (with_reducible refine (HRE.out t2 ht2 _).mono ?_); rintro e w3 ⟨rfl, hB⟩; replace HB := Lib.hid (below_on HB.out hB HB.out.size); clear hB))
  obtain ⟨S1, hS1⟩ : ∃ S, bs t2 = S := ⟨_, rfl⟩
  have HS1 := Lib.hid hS1
  have HT2 := Lib.hid ht2
  have hE1 := (enc_bound (nb t2)).1
  rw [nb_length] at hE1
  have hEl2 : (ub (enc (nb t2))).length ≤ 700 := by rw [ub_length1]; omega
  obtain ⟨El, hEl⟩ : ∃ E, ub (enc (nb t2)) = E := ⟨_, rfl⟩
  rw [hEl] at hEl2
  rw [hS1, hEl]
  have hcv := bytes_run El
  have hsz := bs_size El
  obtain ⟨e0, he0⟩ : ∃ e, El.length = e := ⟨_, rfl⟩
  have HEL := Lib.hid he0
  rw [he0] at hcv hEl2 hsz
  obtain ⟨ES, hES⟩ : ∃ S, bs El = S := ⟨_, rfl⟩
  have HES := Lib.hid hES
  rw [hES] at hcv hsz ⊢
  clear hS1 ht2 hE1 hEl hES HS PC HM HRW HRE
  have hw5 := HB.out.size
  have hb4 : Below w.heap.size w (bW El w3) := HB.out.trans ((bW_below El w3).mono hw5)
  have hx4 := Bx.of El w3
  have HB4 := Lib.hid hb4
  have HX4 := Lib.hid hx4
  by_cases hz : e0 = 0
  · have dz : decide ((0 : Int) < (e0 : Int)) = false := decide_eq_false (by omega)
    have dz' : decide (0 < e0) = false := decide_eq_false (by omega)
    clear hb4 hx4 hz
    go_upto_region 8 with fail
    obtain ⟨W5, hW5⟩ : ∃ W, bW El w3 = W := ⟨_, rfl⟩
    obtain ⟨G, hG⟩ : ∃ G, w3.heap.size = G := ⟨_, rfl⟩
    obtain ⟨cb, hcb⟩ : ∃ c, bcap El w3 = c := ⟨_, rfl⟩
    rw [hW5] at HB4 HX4
    rw [hG] at HX4
    rw [hW5, hG, hcb]
    have hb5 := HB4.out
    obtain ⟨l5, hll⟩ : ∃ l, El = l := ⟨_, rfl⟩
    have hbx : Bx W5 G l5 := by rw [← hll]; exact HX4.out
    have hl5 : l5.length = e0 := by rw [← hll, he0]
    clear HB4 HX4 hW5 hG hcb hcv dz dz' hll he0 HB hw5
    have HB5 := Lib.hid hb5
    have HB5G := Lib.hid hbx.lt
    have HBX := Lib.hid hbx
    have HL5 := Lib.hid hl5
    have hL0 : Ls (W5.alloc (Obj.cells #[Value.string S0, Value.string S1] 9)) W5.heap.size [S0, S1] := ⟨heap_alloc_new _ _⟩
    have hB0 : Below w.heap.size w (W5.alloc (Obj.cells #[Value.string S0, Value.string S1] 9)) := hb5.alloc hb5.size _
    have hX0 : Bx (W5.alloc (Obj.cells #[Value.string S0, Value.string S1] 9)) G l5 := hbx.later ((Below.refl _ _).alloc (Nat.le_refl _) _)
    have HI0 := Lib.hid (And.intro hL0 (And.intro hX0 hB0))
    obtain ⟨g1, hg1⟩ : ∃ g, W5.heap.size = g := ⟨_, rfl⟩
    obtain ⟨W6, hW6⟩ : ∃ W, W5.alloc (Obj.cells #[Value.string S0, Value.string S1] 9) = W := ⟨_, rfl⟩
    rw [hW6, hg1] at HI0
    clear hb5 hbx hl5 hL0 hB0 hX0
    go_wp2_with fail
    clear hW6 hg1
    go_loopw [52] (fun i wr => ∃ k : Nat, k ≤ 2 ∧ i = .int .i64 k ∧ Ls wr g1 [S0, S1] ∧ Bx wr G l5 ∧ Below w.heap.size w wr) (fun i _ => 2 - (intOf i).toNat)
    case atStart => exact ⟨0, by omega, rfl, HI0.out⟩
    case round =>
      clear HI0
      obtain ⟨k, hk, rfl, hL, hX, hB⟩ := hrel
      rcases Nat.lt_or_ge k 2 with gk | gk
      · obtain ⟨u, hu, hcu⟩ : ∃ u : List UInt8, u.length ≤ 600 ∧ wr.cell? ⟨g1, k, none⟩ = some (.string (bs u)) := by
          have hc2 : k = 0 ∨ k = 1 := by omega
          rcases hc2 with rfl | rfl
          · exact ⟨t0, HT0.out, by rw [HS0.out]; exact hL.get 0 (by simp)⟩
          · exact ⟨t2, HT2.out, by rw [HS1.out]; exact hL.get 1 (by simp)⟩
        have dk : decide ((k : Int) < 2) = true := decide_eq_true (by omega)
        have dk' : decide (k < 2) = true := decide_eq_true gk
        have ik1 : (0 : Int) ≤ (k : Int) := by omega
        have ik2 : (k : Int) < 2 := by omega
        have EN := fun W => Encode_ok u (by omega) W
        have RN := fun W => refEncode_ok u (by omega) W
        have hwk : IntKind.i64.wrap ((k : Int) + 1) = ((k + 1 : Nat) : Int) := by rw [IntKind.wrap_i64]; omega
        obtain ⟨SU, hSU⟩ : ∃ S, bs u = S := ⟨_, rfl⟩
        obtain ⟨CU, hCU⟩ : ∃ C, bs (ub (enc (nb u))) = C := ⟨_, rfl⟩
        rw [hSU] at EN RN hcu
        rw [hCU] at EN RN
        have HEN := Lib.hid EN
        have HRN := Lib.hid RN
        have HI := Lib.hid (And.intro hL (And.intro hX hB))
        clear hSU hCU EN RN hL hX hB
        go_wp2_with (first
          | (go_at_call 15; (with_reducible refine (HEN.out _).mono ?_); rintro e w7 ⟨rfl, hB7⟩; replace HI := Lib.hid (And.intro (HI.out.1.later hB7) (And.intro (HI.out.2.1.later hB7) (below_on HI.out.2.2 hB7 HI.out.2.2.size))); clear hB7)
          | (go_at_call 13; (with_reducible refine (HRN.out _).mono ?_); rintro e w8 ⟨rfl, hB8⟩; replace HI := Lib.hid (And.intro (HI.out.1.later hB8) (And.intro (HI.out.2.1.later hB8) (below_on HI.out.2.2 hB8 HI.out.2.2.size))); clear hB8))
        go_roundw
        case rel => exact ⟨k + 1, by omega, by go_num, HI.out⟩
        case measure => simp [intOf]; omega
      · have dk : decide ((k : Int) < 2) = false := decide_eq_false (by omega)
        have dk' : decide (k < 2) = false := decide_eq_false (by omega)
        have HX := Lib.hid hX
        have HB := Lib.hid hB
        clear hL hX hB
        obtain ⟨W0, hW0⟩ : ∃ V, V = wr := ⟨_, rfl⟩
        subst hW0
        obtain ⟨k2, hk2, PK2⟩ := ppick_any a2 l2 u2 (e0 + 1) ((e0 + 1 : Nat) : Int) rfl (by omega)
        replace PK2 := Lib.hid PK2
        have hw9 : IntKind.i64.wrap ((e0 : Int) + 1) = ((e0 + 1 : Nat) : Int) := by rw [IntKind.wrap_i64]; omega
        have hhd : ∀ W, (Instr.sliceAt 9 (.string ES) none (some (.int .i64 (k2 : Int))) none).run Try.prog W = .ok (.string (bs (El.take k2))) W := by
          intro W
          rw [← HES.out]
          exact str_head El k2 (by rw [HEL.out]; omega) W
        obtain ⟨H2, hH2⟩ : ∃ H, bs (El.take k2) = H := ⟨_, rfl⟩
        rw [hH2] at hhd
        obtain ⟨T, hT⟩ : ∃ T, bs l5 = T := ⟨_, rfl⟩
        have HSC : Hid (∀ W, Below W0.heap.size W0 W → (convert 29 9 (.slice (some ⟨G, 0, none⟩) e0 cb)).run Try.prog W = .ok (.string T) W) := Lib.hid (fun W hb => by rw [← hT]; exact (HX.out.later hb).str e0 cb HL5.out)
        have hone := one_str W0 y
        obtain ⟨B1, hB1⟩ : ∃ B, bs [y] = B := ⟨_, rfl⟩
        rw [hB1] at hone
        have hcc : ¬ (9223372036854775807 < e0 + B1.size) := by rw [← hB1, bs_size]; simp; omega
        have hbS : Below W0.heap.size W0 W0 := Below.refl _ _
        have hb0 : Below W0.heap.size W0 W0.drew := (Below.refl _ _).drew
        have hb1 : Below W0.heap.size W0 (W0.alloc (.cells #[.int .u8 (y.toNat : Int)] 5)).drew := ((Below.refl _ W0).alloc (Nat.le_refl _) _).drew
        have hEy : ES ++ B1 = bs (El ++ [y]) := by rw [← HES.out, ← hB1, bs_append]
        have hLS : ∀ u ∈ [t0, El, l5, El.take k2, El ++ [y]], u.length ≤ 1000 := by
          intro u hu
          simp only [List.mem_cons, List.not_mem_nil, or_false] at hu
          have := HT0.out; have := HEL.out; have := HL5.out
          rcases hu with rfl | rfl | rfl | rfl | rfl
          · omega
          · omega
          · omega
          · rw [List.length_take]; omega
          · simp; omega
        have hmap : [S0, ES, T, H2, ES ++ B1] = [t0, El, l5, El.take k2, El ++ [y]].map bs := by simp [hEy, HS0.out, HES.out, hT, hH2]
        obtain ⟨L, hL⟩ : ∃ L, [t0, El, l5, El.take k2, El ++ [y]] = L := ⟨_, rfl⟩
        have hLl : L.length = 5 := by rw [← hL]; rfl
        rw [hL] at hLS hmap
        have hw0 := HB.out.size
        have hWF : ∀ WF, WF = ((W0.alloc (.cells #[.int .u8 (y.toNat : Int)] 5)).alloc (.cells #[.string S0, .string ES, .string T, .string H2, .string (ES ++ B1)] 9)).drew → Ls WF (W0.heap.size + 1) (L.map bs) ∧ Below w.heap.size w WF ∧ Below W0.heap.size W0 WF := by
          rintro WF rfl
          refine ⟨?_, ((HB.out.alloc hw0 _).alloc (by simp; omega) _).drew, (((Below.refl _ W0).alloc (Nat.le_refl _) _).alloc (by simp) _).drew⟩
          rw [← hmap]
          have := heap_alloc_new (W0.alloc (.cells #[.int .u8 (y.toNat : Int)] 5)) (.cells #[.string S0, .string ES, .string T, .string H2, .string (ES ++ B1)] 9)
          rw [World.size_alloc] at this
          exact ⟨this⟩
        have HWF := Lib.hid hWF
        have HLS := Lib.hid hLS
        have HLL := Lib.hid hLl
        clear hWF hLS hLl hmap hL hEy hB1 hT hH2
        go_upto_region 16 with fail
        go_cut [91, 92, 93] (fun v91 v92 v93 wx => v91 = .slice (some ⟨W0.heap.size + 1, 0, none⟩) 5 5 ∧ v92 = .int .i64 5 ∧ v93 = .int .i64 0 ∧ Ls wx (W0.heap.size + 1) (L.map bs) ∧ Below w.heap.size w wx)
        case first =>
          refine wp_region_held_drew (S := fun w' => (convert 29 9 (.slice (some ⟨G, 0, none⟩) e0 cb)).run Try.prog w' = .ok (.string T) w') (by kernel_rfl) ?hS (fun hHeld => ?_)
          case hS => exact HSC.out _ hb0
          refine wpAnyH_take (i := 0) (oi := _) (v := ?v3) rfl (by kernel_rfl) (by kernel_rfl) (by kernel_rfl) (fun _ _ _ h => h) (Or.inl ⟨by rfl, ?hy3⟩) (by assumption) ?rest3
          case hy3 => (intro w' hSw; (try dsimp only at hSw); go_simp; try with_reducible rfl)
          try simp only [List.getElem_toArray, List.getElem_cons_succ, List.getElem_cons_zero, Act.put, List.setIfInBounds_toArray, List.set_cons_zero, List.set_cons_succ]
          refine wpAnyH_take (i := 1) (oi := _) (v := ?v4) rfl (by kernel_rfl) (by kernel_rfl) (by kernel_rfl) (fun _ _ _ h => h) (Or.inl ⟨by rfl, ?hy4⟩) (by assumption) ?rest4
          case hy4 => (intro w' hSw; (try dsimp only at hSw); go_simp; try with_reducible rfl)
          try simp only [List.getElem_toArray, List.getElem_cons_succ, List.getElem_cons_zero, Act.put, List.setIfInBounds_toArray, List.set_cons_zero, List.set_cons_succ]
          refine wpAnyH_take (i := 2) (oi := _) (v := ?v5) rfl (by kernel_rfl) (by kernel_rfl) (by kernel_rfl) (fun _ _ _ h => h) (Or.inl ⟨by rfl, ?hy5⟩) (by assumption) ?rest5
          case hy5 => (intro w' hSw; (try dsimp only at hSw); go_simp; try with_reducible rfl)
          try simp only [List.getElem_toArray, List.getElem_cons_succ, List.getElem_cons_zero, Act.put, List.setIfInBounds_toArray, List.set_cons_zero, List.set_cons_succ]
          refine wpAnyH_take (i := 3) (oi := _) (v := ?v6) rfl (by kernel_rfl) (by kernel_rfl) (by kernel_rfl) (fun _ _ _ h => h) (Or.inl ⟨by rfl, ?hy6⟩) (by assumption) ?rest6
          case hy6 => (intro w' hSw; (try dsimp only at hSw); go_simp; try with_reducible rfl)
          try simp only [List.getElem_toArray, List.getElem_cons_succ, List.getElem_cons_zero, Act.put, List.setIfInBounds_toArray, List.set_cons_zero, List.set_cons_succ]
          refine wpAnyH_take (i := 4) (oi := _) (v := ?v7) rfl (by kernel_rfl) (by kernel_rfl) (by kernel_rfl) (fun _ _ _ h => h) (Or.inl ⟨by rfl, ?hy7⟩) (by assumption) ?rest7
          case hy7 => (intro w' hSw; (try dsimp only at hSw); go_simp; try with_reducible rfl)
          try simp only [List.getElem_toArray, List.getElem_cons_succ, List.getElem_cons_zero, Act.put, List.setIfInBounds_toArray, List.set_cons_zero, List.set_cons_succ]
          refine wpAnyH_take (i := 5) (oi := _) (v := ?v8) rfl (by kernel_rfl) (by kernel_rfl) (by kernel_rfl) (fun _ _ _ h => h) (Or.inl ⟨by rfl, ?hy8⟩) (by assumption) ?rest8
          case hy8 => (intro w' hSw; (try dsimp only at hSw); go_simp; try with_reducible rfl)
          try simp only [List.getElem_toArray, List.getElem_cons_succ, List.getElem_cons_zero, Act.put, List.setIfInBounds_toArray, List.set_cons_zero, List.set_cons_succ]
          refine wpAnyH_take (i := 6) (oi := _) (v := ?v9) rfl (by kernel_rfl) (by kernel_rfl) (by kernel_rfl) (fun _ _ _ h => h) (Or.inl ⟨by rfl, ?hy9⟩) (by assumption) ?rest9
          case hy9 => (intro w' hSw; (try dsimp only at hSw); go_simp; try with_reducible rfl)
          try simp only [List.getElem_toArray, List.getElem_cons_succ, List.getElem_cons_zero, Act.put, List.setIfInBounds_toArray, List.set_cons_zero, List.set_cons_succ]
          refine wpAnyH_take (i := 7) (oi := _) (v := ?v10) rfl (by kernel_rfl) (by kernel_rfl) (by kernel_rfl) (fun _ _ _ h => h) (Or.inl ⟨by rfl, ?hy10⟩) (by assumption) ?rest10
          case hy10 => (intro w' hSw; (try dsimp only at hSw); go_simp; try with_reducible rfl)
          try simp only [List.getElem_toArray, List.getElem_cons_succ, List.getElem_cons_zero, Act.put, List.setIfInBounds_toArray, List.set_cons_zero, List.set_cons_succ]
          refine wpAnyH_take (i := 8) (oi := _) (v := ?v11) rfl (by kernel_rfl) (by kernel_rfl) (by kernel_rfl) (fun _ _ _ h => h) (Or.inl ⟨by rfl, ?hy11⟩) (by assumption) ?rest11
          case hy11 => (intro w' hSw; (try dsimp only at hSw); go_simp; try with_reducible rfl)
          try simp only [List.getElem_toArray, List.getElem_cons_succ, List.getElem_cons_zero, Act.put, List.setIfInBounds_toArray, List.set_cons_zero, List.set_cons_succ]
          refine wpAnyH_take (i := 11) (oi := _) (v := ?v12) rfl (by kernel_rfl) (by kernel_rfl) (by kernel_rfl) (fun _ _ _ h => h) (Or.inl ⟨by rfl, ?hy12⟩) (by assumption) ?rest12
          case hy12 => (intro w' hSw; (try dsimp only at hSw); go_simp; try with_reducible rfl)
          try simp only [List.getElem_toArray, List.getElem_cons_succ, List.getElem_cons_zero, Act.put, List.setIfInBounds_toArray, List.set_cons_zero, List.set_cons_succ]
          refine wpAnyH_take (i := 12) (oi := _) (v := ?v13) rfl (by kernel_rfl) (by kernel_rfl) (by kernel_rfl) (fun _ _ _ h => h) (Or.inl ⟨by rfl, ?hy13⟩) (by assumption) ?rest13
          case hy13 => (intro w' hSw; (try dsimp only at hSw); go_simp; try with_reducible rfl)
          try simp only [List.getElem_toArray, List.getElem_cons_succ, List.getElem_cons_zero, Act.put, List.setIfInBounds_toArray, List.set_cons_zero, List.set_cons_succ]
          refine wpAnyH_take (i := 18) (oi := _) (v := ?v14) rfl (by kernel_rfl) (by kernel_rfl) (by kernel_rfl) (fun _ _ _ h => h) (Or.inl ⟨by rfl, ?hy14⟩) (by assumption) ?rest14
          case hy14 => (intro w' hSw; (try dsimp only at hSw); go_simp; try with_reducible rfl)
          try simp only [List.getElem_toArray, List.getElem_cons_succ, List.getElem_cons_zero, Act.put, List.setIfInBounds_toArray, List.set_cons_zero, List.set_cons_succ]
          refine wpAnyH_ready (rs := [9, 13]) (by kernel_rfl) (by simp) ?_
          refine AllReadyH.cons (o := _) rfl (fun K hK => ?_) ?_
          · try simp only [List.getElem_toArray, List.getElem_cons_succ, List.getElem_cons_zero, Act.put, List.setIfInBounds_toArray, List.set_cons_zero, List.set_cons_succ]
            go_simp
            refine (PK2.out _).mono ?_
            rintro e ww ⟨rfl, hww⟩
            rw [hww]
            clear hww ww
            go_wp2_with fail
            refine hK.out _ _ (HSC.out _ hb0) (fun hHeld => ?_)
            clear hK K
            try simp only [List.getElem_toArray, List.getElem_cons_succ, List.getElem_cons_zero, Act.put, List.setIfInBounds_toArray, List.set_cons_zero, List.set_cons_succ]
            refine wpAnyH_take (i := 10) (oi := _) (v := ?v15) rfl (by kernel_rfl) (by kernel_rfl) (by kernel_rfl) (fun _ _ _ h => h) (Or.inl ⟨by rfl, ?hy15⟩) (by assumption) ?rest15
            case hy15 => (intro w' hSw; (try dsimp only at hSw); go_simp; try with_reducible rfl)
            try simp only [List.getElem_toArray, List.getElem_cons_succ, List.getElem_cons_zero, Act.put, List.setIfInBounds_toArray, List.set_cons_zero, List.set_cons_succ]
            refine wpAnyH_ready (rs := [13]) (by kernel_rfl) (by simp) ?_
            refine AllReadyH.cons (o := _) rfl (fun K hK => ?_) ?_
            · try simp only [List.getElem_toArray, List.getElem_cons_succ, List.getElem_cons_zero, Act.put, List.setIfInBounds_toArray, List.set_cons_zero, List.set_cons_succ]
              go_simp
              refine hK.out _ _ (HSC.out _ hb1) (fun hHeld => ?_)
              clear hK K
              try simp only [List.getElem_toArray, List.getElem_cons_succ, List.getElem_cons_zero, Act.put, List.setIfInBounds_toArray, List.set_cons_zero, List.set_cons_succ]
              refine wpAnyH_ready (rs := [14]) (by kernel_rfl) (by simp) ?_
              refine AllReadyH.cons (o := _) rfl (fun K hK => ?_) ?_
              · try simp only [List.getElem_toArray, List.getElem_cons_succ, List.getElem_cons_zero, Act.put, List.setIfInBounds_toArray, List.set_cons_zero, List.set_cons_succ]
                go_simp
                refine hK.out _ _ (HSC.out _ hb1) (fun hHeld => ?_)
                clear hK K
                try simp only [List.getElem_toArray, List.getElem_cons_succ, List.getElem_cons_zero, Act.put, List.setIfInBounds_toArray, List.set_cons_zero, List.set_cons_succ]
                refine wpAnyH_take (i := 15) (oi := _) (v := ?v16) rfl (by kernel_rfl) (by kernel_rfl) (by kernel_rfl) (fun _ _ _ h => h) (Or.inl ⟨by rfl, ?hy16⟩) (by assumption) ?rest16
                case hy16 => (intro w' hSw; (try dsimp only at hSw); go_simp; try with_reducible rfl)
                try simp only [List.getElem_toArray, List.getElem_cons_succ, List.getElem_cons_zero, Act.put, List.setIfInBounds_toArray, List.set_cons_zero, List.set_cons_succ]
                refine wpAnyH_ready (rs := [16]) (by kernel_rfl) (by simp) ?_
                refine AllReadyH.cons (o := _) rfl (fun K hK => ?_) ?_
                · try simp only [List.getElem_toArray, List.getElem_cons_succ, List.getElem_cons_zero, Act.put, List.setIfInBounds_toArray, List.set_cons_zero, List.set_cons_succ]
                  go_simp
                  refine hK.out _ _ (HSC.out _ (HWF.out _ rfl).2.2) (fun hHeld => ?_)
                  clear hK K
                  try simp only [List.getElem_toArray, List.getElem_cons_succ, List.getElem_cons_zero, Act.put, List.setIfInBounds_toArray, List.set_cons_zero, List.set_cons_succ]
                  refine wpAnyH_take (i := 17) (oi := _) (v := ?v17) rfl (by kernel_rfl) (by kernel_rfl) (by kernel_rfl) (fun _ _ _ h => h) (Or.inl ⟨by rfl, ?hy17⟩) (by assumption) ?rest17
                  case hy17 => (intro w' hSw; (try dsimp only at hSw); go_simp; try with_reducible rfl)
                  try simp only [List.getElem_toArray, List.getElem_cons_succ, List.getElem_cons_zero, Act.put, List.setIfInBounds_toArray, List.set_cons_zero, List.set_cons_succ]
                  refine wpAnyH_done (by kernel_rfl) ?_ _
                  go_wp2_with fail
                  go_meet
                  exact ⟨rfl, rfl, rfl, (HWF.out _ rfl).1, (HWF.out _ rfl).2.1⟩
                · exact AllReadyH.nil
              · exact AllReadyH.nil
            · exact AllReadyH.nil
          · refine AllReadyH.cons (o := _) rfl (fun K hK => ?_) ?_
            · try simp only [List.getElem_toArray, List.getElem_cons_succ, List.getElem_cons_zero, Act.put, List.setIfInBounds_toArray, List.set_cons_zero, List.set_cons_succ]
              go_simp
              refine hK.out _ _ (HSC.out _ hb1) (fun hHeld => ?_)
              clear hK K
              try simp only [List.getElem_toArray, List.getElem_cons_succ, List.getElem_cons_zero, Act.put, List.setIfInBounds_toArray, List.set_cons_zero, List.set_cons_succ]
              refine wpAnyH_ready (rs := [9, 14]) (by kernel_rfl) (by simp) ?_
              refine AllReadyH.cons (o := _) rfl (fun K hK => ?_) ?_
              · try simp only [List.getElem_toArray, List.getElem_cons_succ, List.getElem_cons_zero, Act.put, List.setIfInBounds_toArray, List.set_cons_zero, List.set_cons_succ]
                go_simp
                refine (PK2.out _).mono ?_
                rintro e ww ⟨rfl, hww⟩
                rw [hww]
                clear hww ww
                go_wp2_with fail
                refine hK.out _ _ (HSC.out _ hb1) (fun hHeld => ?_)
                clear hK K
                try simp only [List.getElem_toArray, List.getElem_cons_succ, List.getElem_cons_zero, Act.put, List.setIfInBounds_toArray, List.set_cons_zero, List.set_cons_succ]
                refine wpAnyH_take (i := 10) (oi := _) (v := ?v18) rfl (by kernel_rfl) (by kernel_rfl) (by kernel_rfl) (fun _ _ _ h => h) (Or.inl ⟨by rfl, ?hy18⟩) (by assumption) ?rest18
                case hy18 => (intro w' hSw; (try dsimp only at hSw); go_simp; try with_reducible rfl)
                try simp only [List.getElem_toArray, List.getElem_cons_succ, List.getElem_cons_zero, Act.put, List.setIfInBounds_toArray, List.set_cons_zero, List.set_cons_succ]
                refine wpAnyH_ready (rs := [14]) (by kernel_rfl) (by simp) ?_
                refine AllReadyH.cons (o := _) rfl (fun K hK => ?_) ?_
                · try simp only [List.getElem_toArray, List.getElem_cons_succ, List.getElem_cons_zero, Act.put, List.setIfInBounds_toArray, List.set_cons_zero, List.set_cons_succ]
                  go_simp
                  refine hK.out _ _ (HSC.out _ hb1) (fun hHeld => ?_)
                  clear hK K
                  try simp only [List.getElem_toArray, List.getElem_cons_succ, List.getElem_cons_zero, Act.put, List.setIfInBounds_toArray, List.set_cons_zero, List.set_cons_succ]
                  refine wpAnyH_take (i := 15) (oi := _) (v := ?v19) rfl (by kernel_rfl) (by kernel_rfl) (by kernel_rfl) (fun _ _ _ h => h) (Or.inl ⟨by rfl, ?hy19⟩) (by assumption) ?rest19
                  case hy19 => (intro w' hSw; (try dsimp only at hSw); go_simp; try with_reducible rfl)
                  try simp only [List.getElem_toArray, List.getElem_cons_succ, List.getElem_cons_zero, Act.put, List.setIfInBounds_toArray, List.set_cons_zero, List.set_cons_succ]
                  refine wpAnyH_ready (rs := [16]) (by kernel_rfl) (by simp) ?_
                  refine AllReadyH.cons (o := _) rfl (fun K hK => ?_) ?_
                  · try simp only [List.getElem_toArray, List.getElem_cons_succ, List.getElem_cons_zero, Act.put, List.setIfInBounds_toArray, List.set_cons_zero, List.set_cons_succ]
                    go_simp
                    refine hK.out _ _ (HSC.out _ (HWF.out _ rfl).2.2) (fun hHeld => ?_)
                    clear hK K
                    try simp only [List.getElem_toArray, List.getElem_cons_succ, List.getElem_cons_zero, Act.put, List.setIfInBounds_toArray, List.set_cons_zero, List.set_cons_succ]
                    refine wpAnyH_take (i := 17) (oi := _) (v := ?v20) rfl (by kernel_rfl) (by kernel_rfl) (by kernel_rfl) (fun _ _ _ h => h) (Or.inl ⟨by rfl, ?hy20⟩) (by assumption) ?rest20
                    case hy20 => (intro w' hSw; (try dsimp only at hSw); go_simp; try with_reducible rfl)
                    try simp only [List.getElem_toArray, List.getElem_cons_succ, List.getElem_cons_zero, Act.put, List.setIfInBounds_toArray, List.set_cons_zero, List.set_cons_succ]
                    refine wpAnyH_done (by kernel_rfl) ?_ _
                    go_wp2_with fail
                    go_meet
                    exact ⟨rfl, rfl, rfl, (HWF.out _ rfl).1, (HWF.out _ rfl).2.1⟩
                  · exact AllReadyH.nil
                · exact AllReadyH.nil
              · refine AllReadyH.cons (o := _) rfl (fun K hK => ?_) ?_
                · try simp only [List.getElem_toArray, List.getElem_cons_succ, List.getElem_cons_zero, Act.put, List.setIfInBounds_toArray, List.set_cons_zero, List.set_cons_succ]
                  go_simp
                  refine hK.out _ _ (HSC.out _ hb1) (fun hHeld => ?_)
                  clear hK K
                  try simp only [List.getElem_toArray, List.getElem_cons_succ, List.getElem_cons_zero, Act.put, List.setIfInBounds_toArray, List.set_cons_zero, List.set_cons_succ]
                  refine wpAnyH_take (i := 15) (oi := _) (v := ?v21) rfl (by kernel_rfl) (by kernel_rfl) (by kernel_rfl) (fun _ _ _ h => h) (Or.inl ⟨by rfl, ?hy21⟩) (by assumption) ?rest21
                  case hy21 => (intro w' hSw; (try dsimp only at hSw); go_simp; try with_reducible rfl)
                  try simp only [List.getElem_toArray, List.getElem_cons_succ, List.getElem_cons_zero, Act.put, List.setIfInBounds_toArray, List.set_cons_zero, List.set_cons_succ]
                  refine wpAnyH_ready (rs := [9]) (by kernel_rfl) (by simp) ?_
                  refine AllReadyH.cons (o := _) rfl (fun K hK => ?_) ?_
                  · try simp only [List.getElem_toArray, List.getElem_cons_succ, List.getElem_cons_zero, Act.put, List.setIfInBounds_toArray, List.set_cons_zero, List.set_cons_succ]
                    go_simp
                    refine (PK2.out _).mono ?_
                    rintro e ww ⟨rfl, hww⟩
                    rw [hww]
                    clear hww ww
                    go_wp2_with fail
                    refine hK.out _ _ (HSC.out _ hb1) (fun hHeld => ?_)
                    clear hK K
                    try simp only [List.getElem_toArray, List.getElem_cons_succ, List.getElem_cons_zero, Act.put, List.setIfInBounds_toArray, List.set_cons_zero, List.set_cons_succ]
                    refine wpAnyH_take (i := 10) (oi := _) (v := ?v22) rfl (by kernel_rfl) (by kernel_rfl) (by kernel_rfl) (fun _ _ _ h => h) (Or.inl ⟨by rfl, ?hy22⟩) (by assumption) ?rest22
                    case hy22 => (intro w' hSw; (try dsimp only at hSw); go_simp; try with_reducible rfl)
                    try simp only [List.getElem_toArray, List.getElem_cons_succ, List.getElem_cons_zero, Act.put, List.setIfInBounds_toArray, List.set_cons_zero, List.set_cons_succ]
                    refine wpAnyH_ready (rs := [16]) (by kernel_rfl) (by simp) ?_
                    refine AllReadyH.cons (o := _) rfl (fun K hK => ?_) ?_
                    · try simp only [List.getElem_toArray, List.getElem_cons_succ, List.getElem_cons_zero, Act.put, List.setIfInBounds_toArray, List.set_cons_zero, List.set_cons_succ]
                      go_simp
                      refine hK.out _ _ (HSC.out _ (HWF.out _ rfl).2.2) (fun hHeld => ?_)
                      clear hK K
                      try simp only [List.getElem_toArray, List.getElem_cons_succ, List.getElem_cons_zero, Act.put, List.setIfInBounds_toArray, List.set_cons_zero, List.set_cons_succ]
                      refine wpAnyH_take (i := 17) (oi := _) (v := ?v23) rfl (by kernel_rfl) (by kernel_rfl) (by kernel_rfl) (fun _ _ _ h => h) (Or.inl ⟨by rfl, ?hy23⟩) (by assumption) ?rest23
                      case hy23 => (intro w' hSw; (try dsimp only at hSw); go_simp; try with_reducible rfl)
                      try simp only [List.getElem_toArray, List.getElem_cons_succ, List.getElem_cons_zero, Act.put, List.setIfInBounds_toArray, List.set_cons_zero, List.set_cons_succ]
                      refine wpAnyH_done (by kernel_rfl) ?_ _
                      go_wp2_with fail
                      go_meet
                      exact ⟨rfl, rfl, rfl, (HWF.out _ rfl).1, (HWF.out _ rfl).2.1⟩
                    · exact AllReadyH.nil
                  · exact AllReadyH.nil
                · exact AllReadyH.nil
            · exact AllReadyH.nil
        case rest =>
          obtain ⟨rfl, rfl, rfl, hL9, hB9⟩ := hcut
          have HI9 := Lib.hid (And.intro hL9 hB9)
          clear hL9 hB9 HSC HWF hone hhd PK2 hbS hb0 hb1 HX HB
          obtain ⟨g2, hg2⟩ : ∃ g, W0.heap.size + 1 = g := ⟨_, rfl⟩
          rw [hg2] at HI9 ⊢
          clear hg2
          go_wp2_with fail
          go_loopw [93] (fun i wr => ∃ k : Nat, k ≤ 5 ∧ i = .int .i64 k ∧ Ls wr g2 (L.map bs) ∧ Below w.heap.size w wr) (fun i _ => 5 - (intOf i).toNat)
          case atStart => exact ⟨0, by omega, rfl, HI9.out⟩
          case round =>
            clear HI9
            obtain ⟨k, hk, rfl, hL, hB⟩ := hrel
            rcases Nat.lt_or_ge k 5 with gk | gk
            · have hkL : k < L.length := by rw [HLL.out]; exact gk
              have hul := HLS.out _ (List.getElem_mem hkL)
              have hcu : wr.cell? ⟨g2, k, none⟩ = some (.string (bs L[k])) := by
                have := hL.get k (by simpa using hkL)
                simpa using this
              obtain ⟨u, hu⟩ : ∃ u, L[k] = u := ⟨_, rfl⟩
              rw [hu] at hul hcu
              have dk : decide ((k : Int) < 5) = true := decide_eq_true (by omega)
              have dk' : decide (k < 5) = true := decide_eq_true gk
              have ik1 : (0 : Int) ≤ (k : Int) := by omega
              have ik2 : (k : Int) < 5 := by omega
              have hwk : IntKind.i64.wrap ((k : Int) + 1) = ((k + 1 : Nat) : Int) := by rw [IntKind.wrap_i64]; omega
              obtain ⟨SU, hSU⟩ : ∃ S, bs u = S := ⟨_, rfl⟩
              rw [hSU] at hcu
              have HI := Lib.hid (And.intro hL hB)
              by_cases hg : good (nb u)
              · have EN := fun W => Decode_ok u hg W
                have RN := fun W => refDecode_ok u hg W
                obtain ⟨CU, hCU⟩ : ∃ C, bs (ub (whole (nb u))) = C := ⟨_, rfl⟩
                rw [hSU, hCU] at EN RN
                have HEN := Lib.hid EN
                have HRN := Lib.hid RN
                clear hSU hCU EN RN hL hB hu hg
                go_wp2_with (first
                  | (go_at_call 16; (with_reducible refine (HEN.out _).mono ?_); rintro e w7 ⟨rfl, hB7⟩; replace HI := Lib.hid (And.intro (HI.out.1.later hB7) (below_on HI.out.2 hB7 HI.out.2.size)); clear hB7)
                  | (go_at_call 17; (with_reducible refine (HRN.out _).mono ?_); rintro e w8 ⟨rfl, hB8⟩; replace HI := Lib.hid (And.intro (HI.out.1.later hB8) (below_on HI.out.2 hB8 HI.out.2.size)); clear hB8))
                go_roundw
                case rel => exact ⟨k + 1, by omega, by go_num, HI.out⟩
                case measure => simp [intOf]; omega
              · have EN := fun W => Decode_no u (by omega) hg W
                have RN := fun W => refDecode_no u (by omega) hg W
                rw [hSU] at EN RN
                have HEN := Lib.hid EN
                have HRN := Lib.hid RN
                clear hSU EN RN hL hB hu hg
                go_wp2_with (first
                  | (go_at_call 16; (with_reducible refine (HEN.out _).mono ?_); rintro e w7 ⟨rfl, hB7⟩; replace HI := Lib.hid (And.intro (HI.out.1.later hB7) (below_on HI.out.2 hB7 HI.out.2.size)); clear hB7)
                  | (go_at_call 17; (with_reducible refine (HRN.out _).mono ?_); rintro e w8 ⟨rfl, hB8⟩; replace HI := Lib.hid (And.intro (HI.out.1.later hB8) (below_on HI.out.2 hB8 HI.out.2.size)); clear hB8))
                go_roundw
                case rel => exact ⟨k + 1, by omega, by go_num, HI.out⟩
                case measure => simp [intOf]; omega
            · obtain rfl : k = 5 := by omega
              have HB := Lib.hid hB
              clear hL hB
              go_wp2_with fail
              go_ret
              exact ⟨rfl, HB.out⟩
  · have dz : decide ((0 : Int) < (e0 : Int)) = true := decide_eq_true (by omega)
    have dz' : decide (0 < e0) = true := decide_eq_true (by omega)
    obtain ⟨k1, hk1, PK1⟩ := ppick_any a2 l2 u2 e0 (e0 : Int) rfl (by omega)
    replace PK1 := Lib.hid PK1
    have hgc := hx4.cell k1 (by omega)
    have hgf := hx4.free k1 (by omega)
    have i1 : (0 : Int) ≤ (k1 : Int) := by omega
    have i2 : (k1 : Int) < (e0 : Int) := by omega
    have HX5 := Lib.hid (hx4.set k1 (by omega) y)
    have HB5' := Lib.hid (hb4.setCell (p := ⟨w3.heap.size, k1, none⟩) hw5 (.int .u8 (y.toNat : Int)))
    clear hb4 hx4 HX4 HB4
    go_upto_region 8 with (go_at_call 14; (with_reducible refine (PK1.out _).mono ?_); rintro e ww ⟨rfl, hww⟩; rw [hww]; clear hww ww)
    obtain ⟨W5, hW5⟩ : ∃ W, (bW El w3).setCell ⟨w3.heap.size, k1, none⟩ (.int .u8 (y.toNat : Int)) = W := ⟨_, rfl⟩
    rw [hW5] at HB5' HX5
    rw [hW5]
    obtain ⟨G, hG⟩ : ∃ G, w3.heap.size = G := ⟨_, rfl⟩
    obtain ⟨cb, hcb⟩ : ∃ c, bcap El w3 = c := ⟨_, rfl⟩
    rw [hG] at HX5
    rw [hG, hcb]
    have hb5 := HB5'.out
    obtain ⟨l5, hll⟩ : ∃ l, El.set k1 y = l := ⟨_, rfl⟩
    have hbx : Bx W5 G l5 := by rw [← hll]; exact HX5.out
    have hl5 : l5.length = e0 := by rw [← hll, List.length_set, he0]
    clear HB5' HX5 hW5 hG hcb hcv dz dz' hll he0 HB hz hw5 hgc hgf i1 i2 hk1 PK1
    have HB5 := Lib.hid hb5
    have HB5G := Lib.hid hbx.lt
    have HBX := Lib.hid hbx
    have HL5 := Lib.hid hl5
    have hL0 : Ls (W5.alloc (Obj.cells #[Value.string S0, Value.string S1] 9)) W5.heap.size [S0, S1] := ⟨heap_alloc_new _ _⟩
    have hB0 : Below w.heap.size w (W5.alloc (Obj.cells #[Value.string S0, Value.string S1] 9)) := hb5.alloc hb5.size _
    have hX0 : Bx (W5.alloc (Obj.cells #[Value.string S0, Value.string S1] 9)) G l5 := hbx.later ((Below.refl _ _).alloc (Nat.le_refl _) _)
    have HI0 := Lib.hid (And.intro hL0 (And.intro hX0 hB0))
    obtain ⟨g1, hg1⟩ : ∃ g, W5.heap.size = g := ⟨_, rfl⟩
    obtain ⟨W6, hW6⟩ : ∃ W, W5.alloc (Obj.cells #[Value.string S0, Value.string S1] 9) = W := ⟨_, rfl⟩
    rw [hW6, hg1] at HI0
    clear hb5 hbx hl5 hL0 hB0 hX0
    go_wp2_with fail
    clear hW6 hg1
    go_loopw [52] (fun i wr => ∃ k : Nat, k ≤ 2 ∧ i = .int .i64 k ∧ Ls wr g1 [S0, S1] ∧ Bx wr G l5 ∧ Below w.heap.size w wr) (fun i _ => 2 - (intOf i).toNat)
    case atStart => exact ⟨0, by omega, rfl, HI0.out⟩
    case round =>
      clear HI0
      obtain ⟨k, hk, rfl, hL, hX, hB⟩ := hrel
      rcases Nat.lt_or_ge k 2 with gk | gk
      · obtain ⟨u, hu, hcu⟩ : ∃ u : List UInt8, u.length ≤ 600 ∧ wr.cell? ⟨g1, k, none⟩ = some (.string (bs u)) := by
          have hc2 : k = 0 ∨ k = 1 := by omega
          rcases hc2 with rfl | rfl
          · exact ⟨t0, HT0.out, by rw [HS0.out]; exact hL.get 0 (by simp)⟩
          · exact ⟨t2, HT2.out, by rw [HS1.out]; exact hL.get 1 (by simp)⟩
        have dk : decide ((k : Int) < 2) = true := decide_eq_true (by omega)
        have dk' : decide (k < 2) = true := decide_eq_true gk
        have ik1 : (0 : Int) ≤ (k : Int) := by omega
        have ik2 : (k : Int) < 2 := by omega
        have EN := fun W => Encode_ok u (by omega) W
        have RN := fun W => refEncode_ok u (by omega) W
        have hwk : IntKind.i64.wrap ((k : Int) + 1) = ((k + 1 : Nat) : Int) := by rw [IntKind.wrap_i64]; omega
        obtain ⟨SU, hSU⟩ : ∃ S, bs u = S := ⟨_, rfl⟩
        obtain ⟨CU, hCU⟩ : ∃ C, bs (ub (enc (nb u))) = C := ⟨_, rfl⟩
        rw [hSU] at EN RN hcu
        rw [hCU] at EN RN
        have HEN := Lib.hid EN
        have HRN := Lib.hid RN
        have HI := Lib.hid (And.intro hL (And.intro hX hB))
        clear hSU hCU EN RN hL hX hB
        go_wp2_with (first
          | (go_at_call 15; (with_reducible refine (HEN.out _).mono ?_); rintro e w7 ⟨rfl, hB7⟩; replace HI := Lib.hid (And.intro (HI.out.1.later hB7) (And.intro (HI.out.2.1.later hB7) (below_on HI.out.2.2 hB7 HI.out.2.2.size))); clear hB7)
          | (go_at_call 13; (with_reducible refine (HRN.out _).mono ?_); rintro e w8 ⟨rfl, hB8⟩; replace HI := Lib.hid (And.intro (HI.out.1.later hB8) (And.intro (HI.out.2.1.later hB8) (below_on HI.out.2.2 hB8 HI.out.2.2.size))); clear hB8))
        go_roundw
        case rel => exact ⟨k + 1, by omega, by go_num, HI.out⟩
        case measure => simp [intOf]; omega
      · have dk : decide ((k : Int) < 2) = false := decide_eq_false (by omega)
        have dk' : decide (k < 2) = false := decide_eq_false (by omega)
        have HX := Lib.hid hX
        have HB := Lib.hid hB
        clear hL hX hB
        obtain ⟨W0, hW0⟩ : ∃ V, V = wr := ⟨_, rfl⟩
        subst hW0
        obtain ⟨k2, hk2, PK2⟩ := ppick_any a2 l2 u2 (e0 + 1) ((e0 + 1 : Nat) : Int) rfl (by omega)
        replace PK2 := Lib.hid PK2
        have hw9 : IntKind.i64.wrap ((e0 : Int) + 1) = ((e0 + 1 : Nat) : Int) := by rw [IntKind.wrap_i64]; omega
        have hhd : ∀ W, (Instr.sliceAt 9 (.string ES) none (some (.int .i64 (k2 : Int))) none).run Try.prog W = .ok (.string (bs (El.take k2))) W := by
          intro W
          rw [← HES.out]
          exact str_head El k2 (by rw [HEL.out]; omega) W
        obtain ⟨H2, hH2⟩ : ∃ H, bs (El.take k2) = H := ⟨_, rfl⟩
        rw [hH2] at hhd
        obtain ⟨T, hT⟩ : ∃ T, bs l5 = T := ⟨_, rfl⟩
        have HSC : Hid (∀ W, Below W0.heap.size W0 W → (convert 29 9 (.slice (some ⟨G, 0, none⟩) e0 cb)).run Try.prog W = .ok (.string T) W) := Lib.hid (fun W hb => by rw [← hT]; exact (HX.out.later hb).str e0 cb HL5.out)
        have hone := one_str W0 y
        obtain ⟨B1, hB1⟩ : ∃ B, bs [y] = B := ⟨_, rfl⟩
        rw [hB1] at hone
        have hcc : ¬ (9223372036854775807 < e0 + B1.size) := by rw [← hB1, bs_size]; simp; omega
        have hbS : Below W0.heap.size W0 W0 := Below.refl _ _
        have hb0 : Below W0.heap.size W0 W0.drew := (Below.refl _ _).drew
        have hb1 : Below W0.heap.size W0 (W0.alloc (.cells #[.int .u8 (y.toNat : Int)] 5)).drew := ((Below.refl _ W0).alloc (Nat.le_refl _) _).drew
        have hEy : ES ++ B1 = bs (El ++ [y]) := by rw [← HES.out, ← hB1, bs_append]
        have hLS : ∀ u ∈ [t0, El, l5, El.take k2, El ++ [y]], u.length ≤ 1000 := by
          intro u hu
          simp only [List.mem_cons, List.not_mem_nil, or_false] at hu
          have := HT0.out; have := HEL.out; have := HL5.out
          rcases hu with rfl | rfl | rfl | rfl | rfl
          · omega
          · omega
          · omega
          · rw [List.length_take]; omega
          · simp; omega
        have hmap : [S0, ES, T, H2, ES ++ B1] = [t0, El, l5, El.take k2, El ++ [y]].map bs := by simp [hEy, HS0.out, HES.out, hT, hH2]
        obtain ⟨L, hL⟩ : ∃ L, [t0, El, l5, El.take k2, El ++ [y]] = L := ⟨_, rfl⟩
        have hLl : L.length = 5 := by rw [← hL]; rfl
        rw [hL] at hLS hmap
        have hw0 := HB.out.size
        have hWF : ∀ WF, WF = ((W0.alloc (.cells #[.int .u8 (y.toNat : Int)] 5)).alloc (.cells #[.string S0, .string ES, .string T, .string H2, .string (ES ++ B1)] 9)).drew → Ls WF (W0.heap.size + 1) (L.map bs) ∧ Below w.heap.size w WF ∧ Below W0.heap.size W0 WF := by
          rintro WF rfl
          refine ⟨?_, ((HB.out.alloc hw0 _).alloc (by simp; omega) _).drew, (((Below.refl _ W0).alloc (Nat.le_refl _) _).alloc (by simp) _).drew⟩
          rw [← hmap]
          have := heap_alloc_new (W0.alloc (.cells #[.int .u8 (y.toNat : Int)] 5)) (.cells #[.string S0, .string ES, .string T, .string H2, .string (ES ++ B1)] 9)
          rw [World.size_alloc] at this
          exact ⟨this⟩
        have HWF := Lib.hid hWF
        have HLS := Lib.hid hLS
        have HLL := Lib.hid hLl
        clear hWF hLS hLl hmap hL hEy hB1 hT hH2
        go_upto_region 16 with fail
        go_cut [91, 92, 93] (fun v91 v92 v93 wx => v91 = .slice (some ⟨W0.heap.size + 1, 0, none⟩) 5 5 ∧ v92 = .int .i64 5 ∧ v93 = .int .i64 0 ∧ Ls wx (W0.heap.size + 1) (L.map bs) ∧ Below w.heap.size w wx)
        case first =>
          refine wp_region_held_drew (S := fun w' => (convert 29 9 (.slice (some ⟨G, 0, none⟩) e0 cb)).run Try.prog w' = .ok (.string T) w') (by kernel_rfl) ?hS (fun hHeld => ?_)
          case hS => exact HSC.out _ hb0
          refine wpAnyH_take (i := 0) (oi := _) (v := ?v3b) rfl (by kernel_rfl) (by kernel_rfl) (by kernel_rfl) (fun _ _ _ h => h) (Or.inl ⟨by rfl, ?hy3b⟩) (by assumption) ?rest3b
          case hy3b => (intro w' hSw; (try dsimp only at hSw); go_simp; try with_reducible rfl)
          try simp only [List.getElem_toArray, List.getElem_cons_succ, List.getElem_cons_zero, Act.put, List.setIfInBounds_toArray, List.set_cons_zero, List.set_cons_succ]
          refine wpAnyH_take (i := 1) (oi := _) (v := ?v4b) rfl (by kernel_rfl) (by kernel_rfl) (by kernel_rfl) (fun _ _ _ h => h) (Or.inl ⟨by rfl, ?hy4b⟩) (by assumption) ?rest4b
          case hy4b => (intro w' hSw; (try dsimp only at hSw); go_simp; try with_reducible rfl)
          try simp only [List.getElem_toArray, List.getElem_cons_succ, List.getElem_cons_zero, Act.put, List.setIfInBounds_toArray, List.set_cons_zero, List.set_cons_succ]
          refine wpAnyH_take (i := 2) (oi := _) (v := ?v5b) rfl (by kernel_rfl) (by kernel_rfl) (by kernel_rfl) (fun _ _ _ h => h) (Or.inl ⟨by rfl, ?hy5b⟩) (by assumption) ?rest5b
          case hy5b => (intro w' hSw; (try dsimp only at hSw); go_simp; try with_reducible rfl)
          try simp only [List.getElem_toArray, List.getElem_cons_succ, List.getElem_cons_zero, Act.put, List.setIfInBounds_toArray, List.set_cons_zero, List.set_cons_succ]
          refine wpAnyH_take (i := 3) (oi := _) (v := ?v6b) rfl (by kernel_rfl) (by kernel_rfl) (by kernel_rfl) (fun _ _ _ h => h) (Or.inl ⟨by rfl, ?hy6b⟩) (by assumption) ?rest6b
          case hy6b => (intro w' hSw; (try dsimp only at hSw); go_simp; try with_reducible rfl)
          try simp only [List.getElem_toArray, List.getElem_cons_succ, List.getElem_cons_zero, Act.put, List.setIfInBounds_toArray, List.set_cons_zero, List.set_cons_succ]
          refine wpAnyH_take (i := 4) (oi := _) (v := ?v7b) rfl (by kernel_rfl) (by kernel_rfl) (by kernel_rfl) (fun _ _ _ h => h) (Or.inl ⟨by rfl, ?hy7b⟩) (by assumption) ?rest7b
          case hy7b => (intro w' hSw; (try dsimp only at hSw); go_simp; try with_reducible rfl)
          try simp only [List.getElem_toArray, List.getElem_cons_succ, List.getElem_cons_zero, Act.put, List.setIfInBounds_toArray, List.set_cons_zero, List.set_cons_succ]
          refine wpAnyH_take (i := 5) (oi := _) (v := ?v8b) rfl (by kernel_rfl) (by kernel_rfl) (by kernel_rfl) (fun _ _ _ h => h) (Or.inl ⟨by rfl, ?hy8b⟩) (by assumption) ?rest8b
          case hy8b => (intro w' hSw; (try dsimp only at hSw); go_simp; try with_reducible rfl)
          try simp only [List.getElem_toArray, List.getElem_cons_succ, List.getElem_cons_zero, Act.put, List.setIfInBounds_toArray, List.set_cons_zero, List.set_cons_succ]
          refine wpAnyH_take (i := 6) (oi := _) (v := ?v9b) rfl (by kernel_rfl) (by kernel_rfl) (by kernel_rfl) (fun _ _ _ h => h) (Or.inl ⟨by rfl, ?hy9b⟩) (by assumption) ?rest9b
          case hy9b => (intro w' hSw; (try dsimp only at hSw); go_simp; try with_reducible rfl)
          try simp only [List.getElem_toArray, List.getElem_cons_succ, List.getElem_cons_zero, Act.put, List.setIfInBounds_toArray, List.set_cons_zero, List.set_cons_succ]
          refine wpAnyH_take (i := 7) (oi := _) (v := ?v10b) rfl (by kernel_rfl) (by kernel_rfl) (by kernel_rfl) (fun _ _ _ h => h) (Or.inl ⟨by rfl, ?hy10b⟩) (by assumption) ?rest10b
          case hy10b => (intro w' hSw; (try dsimp only at hSw); go_simp; try with_reducible rfl)
          try simp only [List.getElem_toArray, List.getElem_cons_succ, List.getElem_cons_zero, Act.put, List.setIfInBounds_toArray, List.set_cons_zero, List.set_cons_succ]
          refine wpAnyH_take (i := 8) (oi := _) (v := ?v11b) rfl (by kernel_rfl) (by kernel_rfl) (by kernel_rfl) (fun _ _ _ h => h) (Or.inl ⟨by rfl, ?hy11b⟩) (by assumption) ?rest11b
          case hy11b => (intro w' hSw; (try dsimp only at hSw); go_simp; try with_reducible rfl)
          try simp only [List.getElem_toArray, List.getElem_cons_succ, List.getElem_cons_zero, Act.put, List.setIfInBounds_toArray, List.set_cons_zero, List.set_cons_succ]
          refine wpAnyH_take (i := 11) (oi := _) (v := ?v12b) rfl (by kernel_rfl) (by kernel_rfl) (by kernel_rfl) (fun _ _ _ h => h) (Or.inl ⟨by rfl, ?hy12b⟩) (by assumption) ?rest12b
          case hy12b => (intro w' hSw; (try dsimp only at hSw); go_simp; try with_reducible rfl)
          try simp only [List.getElem_toArray, List.getElem_cons_succ, List.getElem_cons_zero, Act.put, List.setIfInBounds_toArray, List.set_cons_zero, List.set_cons_succ]
          refine wpAnyH_take (i := 12) (oi := _) (v := ?v13b) rfl (by kernel_rfl) (by kernel_rfl) (by kernel_rfl) (fun _ _ _ h => h) (Or.inl ⟨by rfl, ?hy13b⟩) (by assumption) ?rest13b
          case hy13b => (intro w' hSw; (try dsimp only at hSw); go_simp; try with_reducible rfl)
          try simp only [List.getElem_toArray, List.getElem_cons_succ, List.getElem_cons_zero, Act.put, List.setIfInBounds_toArray, List.set_cons_zero, List.set_cons_succ]
          refine wpAnyH_take (i := 18) (oi := _) (v := ?v14b) rfl (by kernel_rfl) (by kernel_rfl) (by kernel_rfl) (fun _ _ _ h => h) (Or.inl ⟨by rfl, ?hy14b⟩) (by assumption) ?rest14b
          case hy14b => (intro w' hSw; (try dsimp only at hSw); go_simp; try with_reducible rfl)
          try simp only [List.getElem_toArray, List.getElem_cons_succ, List.getElem_cons_zero, Act.put, List.setIfInBounds_toArray, List.set_cons_zero, List.set_cons_succ]
          refine wpAnyH_ready (rs := [9, 13]) (by kernel_rfl) (by simp) ?_
          refine AllReadyH.cons (o := _) rfl (fun K hK => ?_) ?_
          · try simp only [List.getElem_toArray, List.getElem_cons_succ, List.getElem_cons_zero, Act.put, List.setIfInBounds_toArray, List.set_cons_zero, List.set_cons_succ]
            go_simp
            refine (PK2.out _).mono ?_
            rintro e ww ⟨rfl, hww⟩
            rw [hww]
            clear hww ww
            go_wp2_with fail
            refine hK.out _ _ (HSC.out _ hb0) (fun hHeld => ?_)
            clear hK K
            try simp only [List.getElem_toArray, List.getElem_cons_succ, List.getElem_cons_zero, Act.put, List.setIfInBounds_toArray, List.set_cons_zero, List.set_cons_succ]
            refine wpAnyH_take (i := 10) (oi := _) (v := ?v15b) rfl (by kernel_rfl) (by kernel_rfl) (by kernel_rfl) (fun _ _ _ h => h) (Or.inl ⟨by rfl, ?hy15b⟩) (by assumption) ?rest15b
            case hy15b => (intro w' hSw; (try dsimp only at hSw); go_simp; try with_reducible rfl)
            try simp only [List.getElem_toArray, List.getElem_cons_succ, List.getElem_cons_zero, Act.put, List.setIfInBounds_toArray, List.set_cons_zero, List.set_cons_succ]
            refine wpAnyH_ready (rs := [13]) (by kernel_rfl) (by simp) ?_
            refine AllReadyH.cons (o := _) rfl (fun K hK => ?_) ?_
            · try simp only [List.getElem_toArray, List.getElem_cons_succ, List.getElem_cons_zero, Act.put, List.setIfInBounds_toArray, List.set_cons_zero, List.set_cons_succ]
              go_simp
              refine hK.out _ _ (HSC.out _ hb1) (fun hHeld => ?_)
              clear hK K
              try simp only [List.getElem_toArray, List.getElem_cons_succ, List.getElem_cons_zero, Act.put, List.setIfInBounds_toArray, List.set_cons_zero, List.set_cons_succ]
              refine wpAnyH_ready (rs := [14]) (by kernel_rfl) (by simp) ?_
              refine AllReadyH.cons (o := _) rfl (fun K hK => ?_) ?_
              · try simp only [List.getElem_toArray, List.getElem_cons_succ, List.getElem_cons_zero, Act.put, List.setIfInBounds_toArray, List.set_cons_zero, List.set_cons_succ]
                go_simp
                refine hK.out _ _ (HSC.out _ hb1) (fun hHeld => ?_)
                clear hK K
                try simp only [List.getElem_toArray, List.getElem_cons_succ, List.getElem_cons_zero, Act.put, List.setIfInBounds_toArray, List.set_cons_zero, List.set_cons_succ]
                refine wpAnyH_take (i := 15) (oi := _) (v := ?v16b) rfl (by kernel_rfl) (by kernel_rfl) (by kernel_rfl) (fun _ _ _ h => h) (Or.inl ⟨by rfl, ?hy16b⟩) (by assumption) ?rest16b
                case hy16b => (intro w' hSw; (try dsimp only at hSw); go_simp; try with_reducible rfl)
                try simp only [List.getElem_toArray, List.getElem_cons_succ, List.getElem_cons_zero, Act.put, List.setIfInBounds_toArray, List.set_cons_zero, List.set_cons_succ]
                refine wpAnyH_ready (rs := [16]) (by kernel_rfl) (by simp) ?_
                refine AllReadyH.cons (o := _) rfl (fun K hK => ?_) ?_
                · try simp only [List.getElem_toArray, List.getElem_cons_succ, List.getElem_cons_zero, Act.put, List.setIfInBounds_toArray, List.set_cons_zero, List.set_cons_succ]
                  go_simp
                  refine hK.out _ _ (HSC.out _ (HWF.out _ rfl).2.2) (fun hHeld => ?_)
                  clear hK K
                  try simp only [List.getElem_toArray, List.getElem_cons_succ, List.getElem_cons_zero, Act.put, List.setIfInBounds_toArray, List.set_cons_zero, List.set_cons_succ]
                  refine wpAnyH_take (i := 17) (oi := _) (v := ?v17b) rfl (by kernel_rfl) (by kernel_rfl) (by kernel_rfl) (fun _ _ _ h => h) (Or.inl ⟨by rfl, ?hy17b⟩) (by assumption) ?rest17b
                  case hy17b => (intro w' hSw; (try dsimp only at hSw); go_simp; try with_reducible rfl)
                  try simp only [List.getElem_toArray, List.getElem_cons_succ, List.getElem_cons_zero, Act.put, List.setIfInBounds_toArray, List.set_cons_zero, List.set_cons_succ]
                  refine wpAnyH_done (by kernel_rfl) ?_ _
                  go_wp2_with fail
                  go_meet
                  exact ⟨rfl, rfl, rfl, (HWF.out _ rfl).1, (HWF.out _ rfl).2.1⟩
                · exact AllReadyH.nil
              · exact AllReadyH.nil
            · exact AllReadyH.nil
          · refine AllReadyH.cons (o := _) rfl (fun K hK => ?_) ?_
            · try simp only [List.getElem_toArray, List.getElem_cons_succ, List.getElem_cons_zero, Act.put, List.setIfInBounds_toArray, List.set_cons_zero, List.set_cons_succ]
              go_simp
              refine hK.out _ _ (HSC.out _ hb1) (fun hHeld => ?_)
              clear hK K
              try simp only [List.getElem_toArray, List.getElem_cons_succ, List.getElem_cons_zero, Act.put, List.setIfInBounds_toArray, List.set_cons_zero, List.set_cons_succ]
              refine wpAnyH_ready (rs := [9, 14]) (by kernel_rfl) (by simp) ?_
              refine AllReadyH.cons (o := _) rfl (fun K hK => ?_) ?_
              · try simp only [List.getElem_toArray, List.getElem_cons_succ, List.getElem_cons_zero, Act.put, List.setIfInBounds_toArray, List.set_cons_zero, List.set_cons_succ]
                go_simp
                refine (PK2.out _).mono ?_
                rintro e ww ⟨rfl, hww⟩
                rw [hww]
                clear hww ww
                go_wp2_with fail
                refine hK.out _ _ (HSC.out _ hb1) (fun hHeld => ?_)
                clear hK K
                try simp only [List.getElem_toArray, List.getElem_cons_succ, List.getElem_cons_zero, Act.put, List.setIfInBounds_toArray, List.set_cons_zero, List.set_cons_succ]
                refine wpAnyH_take (i := 10) (oi := _) (v := ?v18b) rfl (by kernel_rfl) (by kernel_rfl) (by kernel_rfl) (fun _ _ _ h => h) (Or.inl ⟨by rfl, ?hy18b⟩) (by assumption) ?rest18b
                case hy18b => (intro w' hSw; (try dsimp only at hSw); go_simp; try with_reducible rfl)
                try simp only [List.getElem_toArray, List.getElem_cons_succ, List.getElem_cons_zero, Act.put, List.setIfInBounds_toArray, List.set_cons_zero, List.set_cons_succ]
                refine wpAnyH_ready (rs := [14]) (by kernel_rfl) (by simp) ?_
                refine AllReadyH.cons (o := _) rfl (fun K hK => ?_) ?_
                · try simp only [List.getElem_toArray, List.getElem_cons_succ, List.getElem_cons_zero, Act.put, List.setIfInBounds_toArray, List.set_cons_zero, List.set_cons_succ]
                  go_simp
                  refine hK.out _ _ (HSC.out _ hb1) (fun hHeld => ?_)
                  clear hK K
                  try simp only [List.getElem_toArray, List.getElem_cons_succ, List.getElem_cons_zero, Act.put, List.setIfInBounds_toArray, List.set_cons_zero, List.set_cons_succ]
                  refine wpAnyH_take (i := 15) (oi := _) (v := ?v19b) rfl (by kernel_rfl) (by kernel_rfl) (by kernel_rfl) (fun _ _ _ h => h) (Or.inl ⟨by rfl, ?hy19b⟩) (by assumption) ?rest19b
                  case hy19b => (intro w' hSw; (try dsimp only at hSw); go_simp; try with_reducible rfl)
                  try simp only [List.getElem_toArray, List.getElem_cons_succ, List.getElem_cons_zero, Act.put, List.setIfInBounds_toArray, List.set_cons_zero, List.set_cons_succ]
                  refine wpAnyH_ready (rs := [16]) (by kernel_rfl) (by simp) ?_
                  refine AllReadyH.cons (o := _) rfl (fun K hK => ?_) ?_
                  · try simp only [List.getElem_toArray, List.getElem_cons_succ, List.getElem_cons_zero, Act.put, List.setIfInBounds_toArray, List.set_cons_zero, List.set_cons_succ]
                    go_simp
                    refine hK.out _ _ (HSC.out _ (HWF.out _ rfl).2.2) (fun hHeld => ?_)
                    clear hK K
                    try simp only [List.getElem_toArray, List.getElem_cons_succ, List.getElem_cons_zero, Act.put, List.setIfInBounds_toArray, List.set_cons_zero, List.set_cons_succ]
                    refine wpAnyH_take (i := 17) (oi := _) (v := ?v20b) rfl (by kernel_rfl) (by kernel_rfl) (by kernel_rfl) (fun _ _ _ h => h) (Or.inl ⟨by rfl, ?hy20b⟩) (by assumption) ?rest20b
                    case hy20b => (intro w' hSw; (try dsimp only at hSw); go_simp; try with_reducible rfl)
                    try simp only [List.getElem_toArray, List.getElem_cons_succ, List.getElem_cons_zero, Act.put, List.setIfInBounds_toArray, List.set_cons_zero, List.set_cons_succ]
                    refine wpAnyH_done (by kernel_rfl) ?_ _
                    go_wp2_with fail
                    go_meet
                    exact ⟨rfl, rfl, rfl, (HWF.out _ rfl).1, (HWF.out _ rfl).2.1⟩
                  · exact AllReadyH.nil
                · exact AllReadyH.nil
              · refine AllReadyH.cons (o := _) rfl (fun K hK => ?_) ?_
                · try simp only [List.getElem_toArray, List.getElem_cons_succ, List.getElem_cons_zero, Act.put, List.setIfInBounds_toArray, List.set_cons_zero, List.set_cons_succ]
                  go_simp
                  refine hK.out _ _ (HSC.out _ hb1) (fun hHeld => ?_)
                  clear hK K
                  try simp only [List.getElem_toArray, List.getElem_cons_succ, List.getElem_cons_zero, Act.put, List.setIfInBounds_toArray, List.set_cons_zero, List.set_cons_succ]
                  refine wpAnyH_take (i := 15) (oi := _) (v := ?v21b) rfl (by kernel_rfl) (by kernel_rfl) (by kernel_rfl) (fun _ _ _ h => h) (Or.inl ⟨by rfl, ?hy21b⟩) (by assumption) ?rest21b
                  case hy21b => (intro w' hSw; (try dsimp only at hSw); go_simp; try with_reducible rfl)
                  try simp only [List.getElem_toArray, List.getElem_cons_succ, List.getElem_cons_zero, Act.put, List.setIfInBounds_toArray, List.set_cons_zero, List.set_cons_succ]
                  refine wpAnyH_ready (rs := [9]) (by kernel_rfl) (by simp) ?_
                  refine AllReadyH.cons (o := _) rfl (fun K hK => ?_) ?_
                  · try simp only [List.getElem_toArray, List.getElem_cons_succ, List.getElem_cons_zero, Act.put, List.setIfInBounds_toArray, List.set_cons_zero, List.set_cons_succ]
                    go_simp
                    refine (PK2.out _).mono ?_
                    rintro e ww ⟨rfl, hww⟩
                    rw [hww]
                    clear hww ww
                    go_wp2_with fail
                    refine hK.out _ _ (HSC.out _ hb1) (fun hHeld => ?_)
                    clear hK K
                    try simp only [List.getElem_toArray, List.getElem_cons_succ, List.getElem_cons_zero, Act.put, List.setIfInBounds_toArray, List.set_cons_zero, List.set_cons_succ]
                    refine wpAnyH_take (i := 10) (oi := _) (v := ?v22b) rfl (by kernel_rfl) (by kernel_rfl) (by kernel_rfl) (fun _ _ _ h => h) (Or.inl ⟨by rfl, ?hy22b⟩) (by assumption) ?rest22b
                    case hy22b => (intro w' hSw; (try dsimp only at hSw); go_simp; try with_reducible rfl)
                    try simp only [List.getElem_toArray, List.getElem_cons_succ, List.getElem_cons_zero, Act.put, List.setIfInBounds_toArray, List.set_cons_zero, List.set_cons_succ]
                    refine wpAnyH_ready (rs := [16]) (by kernel_rfl) (by simp) ?_
                    refine AllReadyH.cons (o := _) rfl (fun K hK => ?_) ?_
                    · try simp only [List.getElem_toArray, List.getElem_cons_succ, List.getElem_cons_zero, Act.put, List.setIfInBounds_toArray, List.set_cons_zero, List.set_cons_succ]
                      go_simp
                      refine hK.out _ _ (HSC.out _ (HWF.out _ rfl).2.2) (fun hHeld => ?_)
                      clear hK K
                      try simp only [List.getElem_toArray, List.getElem_cons_succ, List.getElem_cons_zero, Act.put, List.setIfInBounds_toArray, List.set_cons_zero, List.set_cons_succ]
                      refine wpAnyH_take (i := 17) (oi := _) (v := ?v23b) rfl (by kernel_rfl) (by kernel_rfl) (by kernel_rfl) (fun _ _ _ h => h) (Or.inl ⟨by rfl, ?hy23b⟩) (by assumption) ?rest23b
                      case hy23b => (intro w' hSw; (try dsimp only at hSw); go_simp; try with_reducible rfl)
                      try simp only [List.getElem_toArray, List.getElem_cons_succ, List.getElem_cons_zero, Act.put, List.setIfInBounds_toArray, List.set_cons_zero, List.set_cons_succ]
                      refine wpAnyH_done (by kernel_rfl) ?_ _
                      go_wp2_with fail
                      go_meet
                      exact ⟨rfl, rfl, rfl, (HWF.out _ rfl).1, (HWF.out _ rfl).2.1⟩
                    · exact AllReadyH.nil
                  · exact AllReadyH.nil
                · exact AllReadyH.nil
            · exact AllReadyH.nil
        case rest =>
          obtain ⟨rfl, rfl, rfl, hL9, hB9⟩ := hcut
          have HI9 := Lib.hid (And.intro hL9 hB9)
          clear hL9 hB9 HSC HWF hone hhd PK2 hbS hb0 hb1 HX HB
          obtain ⟨g2, hg2⟩ : ∃ g, W0.heap.size + 1 = g := ⟨_, rfl⟩
          rw [hg2] at HI9 ⊢
          clear hg2
          go_wp2_with fail
          go_loopw [93] (fun i wr => ∃ k : Nat, k ≤ 5 ∧ i = .int .i64 k ∧ Ls wr g2 (L.map bs) ∧ Below w.heap.size w wr) (fun i _ => 5 - (intOf i).toNat)
          case atStart => exact ⟨0, by omega, rfl, HI9.out⟩
          case round =>
            clear HI9
            obtain ⟨k, hk, rfl, hL, hB⟩ := hrel
            rcases Nat.lt_or_ge k 5 with gk | gk
            · have hkL : k < L.length := by rw [HLL.out]; exact gk
              have hul := HLS.out _ (List.getElem_mem hkL)
              have hcu : wr.cell? ⟨g2, k, none⟩ = some (.string (bs L[k])) := by
                have := hL.get k (by simpa using hkL)
                simpa using this
              obtain ⟨u, hu⟩ : ∃ u, L[k] = u := ⟨_, rfl⟩
              rw [hu] at hul hcu
              have dk : decide ((k : Int) < 5) = true := decide_eq_true (by omega)
              have dk' : decide (k < 5) = true := decide_eq_true gk
              have ik1 : (0 : Int) ≤ (k : Int) := by omega
              have ik2 : (k : Int) < 5 := by omega
              have hwk : IntKind.i64.wrap ((k : Int) + 1) = ((k + 1 : Nat) : Int) := by rw [IntKind.wrap_i64]; omega
              obtain ⟨SU, hSU⟩ : ∃ S, bs u = S := ⟨_, rfl⟩
              rw [hSU] at hcu
              have HI := Lib.hid (And.intro hL hB)
              by_cases hg : good (nb u)
              · have EN := fun W => Decode_ok u hg W
                have RN := fun W => refDecode_ok u hg W
                obtain ⟨CU, hCU⟩ : ∃ C, bs (ub (whole (nb u))) = C := ⟨_, rfl⟩
                rw [hSU, hCU] at EN RN
                have HEN := Lib.hid EN
                have HRN := Lib.hid RN
                clear hSU hCU EN RN hL hB hu hg
                go_wp2_with (first
                  | (go_at_call 16; (with_reducible refine (HEN.out _).mono ?_); rintro e w7 ⟨rfl, hB7⟩; replace HI := Lib.hid (And.intro (HI.out.1.later hB7) (below_on HI.out.2 hB7 HI.out.2.size)); clear hB7)
                  | (go_at_call 17; (with_reducible refine (HRN.out _).mono ?_); rintro e w8 ⟨rfl, hB8⟩; replace HI := Lib.hid (And.intro (HI.out.1.later hB8) (below_on HI.out.2 hB8 HI.out.2.size)); clear hB8))
                go_roundw
                case rel => exact ⟨k + 1, by omega, by go_num, HI.out⟩
                case measure => simp [intOf]; omega
              · have EN := fun W => Decode_no u (by omega) hg W
                have RN := fun W => refDecode_no u (by omega) hg W
                rw [hSU] at EN RN
                have HEN := Lib.hid EN
                have HRN := Lib.hid RN
                clear hSU EN RN hL hB hu hg
                go_wp2_with (first
                  | (go_at_call 16; (with_reducible refine (HEN.out _).mono ?_); rintro e w7 ⟨rfl, hB7⟩; replace HI := Lib.hid (And.intro (HI.out.1.later hB7) (below_on HI.out.2 hB7 HI.out.2.size)); clear hB7)
                  | (go_at_call 17; (with_reducible refine (HRN.out _).mono ?_); rintro e w8 ⟨rfl, hB8⟩; replace HI := Lib.hid (And.intro (HI.out.1.later hB8) (below_on HI.out.2 hB8 HI.out.2.size)); clear hB8))
                go_roundw
                case rel => exact ⟨k + 1, by omega, by go_num, HI.out⟩
                case measure => simp [intOf]; omega
            · obtain rfl : k = 5 := by omega
              have HB := Lib.hid hB
              clear hL hB
              go_wp2_with fail
              go_ret
              exact ⟨rfl, HB.out⟩

end Go.Proofs.Ytnploljhikljfaa
