/-
  Put together by program out of these texts, in this order: Qcm, Ihk, Qsn.
-/
import Derived.Test.YtjkklgpbblkhaaaGreatDoorZCaRFd11
import Derived.ScopeJumps
import Derived.WalkMore
import Derived.Test.YtjkklgpbblkhaaaGreatDoorZCaRFd09
import Derived.Test.YtjkklgpbblkhaaaGreatDoorZCaRFd12

/-
  Layer 4: the order of fractions.
-/
namespace Go.Proofs.YtjkklgpbblkhaaaGreatDoor
open Go.RowKit Bs Ig Qq

/-- a scope with a jump back to a label: what is shown of a pass serves the first one too -/
theorem wp_scope_back {P : Program} {a : Act} {w : World} {Q : Exit → Act → World → Prop} {c rest : Code} (l : Nat) (J : Act → World → Prop) (μ : Act → World → Nat) (hf : findLabel c l = some (Code.seq Code.skip rest))
    (pass : ∀ a w, J a w → rest.wp P (Exit.jump l (fun a' w' => J a' w' ∧ μ a' w' < μ a w) Q) a w)
    (first : (∀ a w, J a w → rest.wp P (Exit.jump l J Q) a w) → c.wp P (Exit.jump l J Q) a w) : (Code.scope c).wp P Q a w :=
  wp_scope_jumps l J μ hf (first fun a w h => Code.wp_mono (fun e a w hq => by
    cases e with
    | goto l' => exact ⟨hq.1, hq.2.1⟩
    | _ => exact hq) (pass a w h)) (fun a w h => wp_seq (wp_skip (pass a w h)))
theorem jump_ret {l : Nat} {J : Act → World → Prop} {Q : Exit → Act → World → Prop} {a : Act} {w : World} (h : Q .ret a w) : Exit.jump l J Q .ret a w := h
/-- the denominator in a box -/
noncomputable def denAt (W : World) (g : Nat) : Nat := match W.cell? ⟨g, 1, none⟩ with
  | some (.string s) => ((rd s).getD 0).toNat
  | _ => 0
theorem denAt_is {W : World} {g : Nat} {a : ByteArray} {d : Int} (h : IsB W g a (bs (Lib.itoa d))) (hd : d.natAbs < big) : denAt W g = d.toNat := by
  unfold denAt
  rw [h.c1]
  simp only [rd_some hd, Option.getD_some]
theorem eq0_T (z : Int) : ((bs (Lib.itoa z)).toList == [48]) = decide (z = 0) := by
  rw [bs_toList]
  by_cases h : z = 0
  · subst h
    rw [show Lib.itoa 0 = [48] from by rw [show (0 : Int) = ((0 : Nat) : Int) from rfl, itoa_nat, dec_small (by omega)]; rfl]; rfl
  · rw [decide_eq_false h]; exact itoa_zero z h
theorem cmpZ_sign (x y : Int) : cmpZ x y = Int.sign (x - y) := by
  unfold cmpZ
  rcases Int.lt_trichotomy x y with h | h | h
  · rw [if_pos h, Int.sign_eq_neg_one_of_neg (by omega)]
  · rw [if_neg (by omega), if_neg (by omega), h, Int.sub_self]; rfl
  · rw [if_neg (by omega), if_pos h, Int.sign_eq_one_of_pos (by omega)]

/-- where a pass of the comparison stands -/
structure Cm (w W : World) (R : Int) (x y : Int × Int) : Prop where
  px : 0 < x.2
  py : 0 < y.2
  b1 : x.1.natAbs < big
  b2 : x.2.natAbs < big
  b3 : y.1.natAbs < big
  b4 : y.2.natAbs < big
  val : cmpF x y = R
  r0 : IsB W w.heap.size (bs (Lib.itoa x.1)) (bs (Lib.itoa x.2))
  r1 : IsB W (w.heap.size + 1) (bs (Lib.itoa y.1)) (bs (Lib.itoa y.2))
  below : Below w.heap.size w W

set_option maxRecDepth 100000 in
set_option maxHeartbeats 8000000 in
theorem compare_x (a b c d : ByteArray) (x y : Int × Int) (w : World) (ht : TabP w) (h1 : validB a b = true) (h2 : validB c d = true) (R : Int)
    (hst : ∀ W, IsB W w.heap.size a b → IsB W (w.heap.size + 1) c d → Below w.heap.size w W → Cm w W R x y) :
    Calls Tryz.prog 20 #[.agg #[.string a, .string b], .agg #[.string c, .string d]] w fun e w' => e = .returned (.int .i64 R) ∧ Below w.heap.size w w' := by
  go_enter Tryz.func20, Tryz.ntmps20
  go_wp2_with fail
  refine wp_scope_back 0 (fun a' W => ∃ (x y : Int × Int) (u5 u6 u7 u8 u9 u10 u11 u12 u13 u14 u15 u16 u17 u18 u19 u20 u21 u22 u23 u24 u25 u26 u27 u28 u29 u30 u31 u32 u33 u34 u35 u36 u37 u38 u39 u40 u41 u42 u43 u44 u45 u46 u47 u48 u49 u50 u51 u52 u53 u54 u55 u56 u57 u58 u59 u60 : Value), a' = { tmps := #[.agg #[.string a, .string b], .agg #[.string c, .string d], .pointer (some ⟨w.heap.size, 0, none⟩), .pointer (some ⟨w.heap.size + 1, 0, none⟩), .int .i64 0, u5, u6, u7, u8, u9, u10, u11, u12, u13, u14, u15, u16, u17, u18, u19, u20, u21, u22, u23, u24, u25, u26, u27, u28, u29, u30, u31, u32, u33, u34, u35, u36, u37, u38, u39, u40, u41, u42, u43, u44, u45, u46, u47, u48, u49, u50, u51, u52, u53, u54, u55, u56, u57, u58, u59, u60], defers := [] } ∧ Cm w W R x y) (fun _ W => denAt W w.heap.size + denAt W (w.heap.size + 1)) rfl ?_ ?_
  · rintro a' W ⟨x, y, u5, u6, u7, u8, u9, u10, u11, u12, u13, u14, u15, u16, u17, u18, u19, u20, u21, u22, u23, u24, u25, u26, u27, u28, u29, u30, u31, u32, u33, u34, u35, u36, u37, u38, u39, u40, u41, u42, u43, u44, u45, u46, u47, u48, u49, u50, u51, u52, u53, u54, u55, u56, u57, u58, u59, u60, rfl, hc⟩
    have HT := Lib.hid (ht.later hc.below)
    have HC := Lib.hid hc
    have hD1 := fun (W' : World) (hb : Below W.heap.size W W') => Div_any x.1 x.2 hc.b1 hc.b2 (by have := hc.px; omega) W' (HT.out.later hb)
    have hD2 := fun (W' : World) (hb : Below W.heap.size W W') => Div_any y.1 y.2 hc.b3 hc.b4 (by have := hc.py; omega) W' (HT.out.later hb)
    obtain ⟨_, l1, m1⟩ := div_pos (n := x.1) hc.px
    obtain ⟨_, l2, m2⟩ := div_pos (n := y.1) hc.py
    have hq1 : (x.1 / x.2).natAbs < big := Nat.lt_of_le_of_lt (Int.natAbs_ediv_le_natAbs _ _) hc.b1
    have hq2 : (y.1 / y.2).natAbs < big := Nat.lt_of_le_of_lt (Int.natAbs_ediv_le_natAbs _ _) hc.b3
    have hr1 : (x.1 % x.2).natAbs < big := by have := hc.b2; omega
    have hr2 : (y.1 % y.2).natAbs < big := by have := hc.b4; omega
    have hK1 := fun (W' : World) => Compare_any (x.1 / x.2) (y.1 / y.2) hq1 hq2 W'
    have hK2 := fun (W' : World) => Compare_any (x.1 % x.2) (y.1 % y.2) hr1 hr2 W'
    have z1 := eq0_T (x.1 % x.2)
    have z2 := eq0_T (y.1 % y.2)
    have r0 := hc.r0
    have r1 := hc.r1
    obtain ⟨X1, hX1⟩ : ∃ X, bs (Lib.itoa x.1) = X := ⟨_, rfl⟩
    obtain ⟨X2, hX2⟩ : ∃ X, bs (Lib.itoa x.2) = X := ⟨_, rfl⟩
    obtain ⟨Y1, hY1⟩ : ∃ X, bs (Lib.itoa y.1) = X := ⟨_, rfl⟩
    obtain ⟨Y2, hY2⟩ : ∃ X, bs (Lib.itoa y.2) = X := ⟨_, rfl⟩
    obtain ⟨P1, hP1⟩ : ∃ X, bs (Lib.itoa (x.1 / x.2)) = X := ⟨_, rfl⟩
    obtain ⟨P2, hP2⟩ : ∃ X, bs (Lib.itoa (y.1 / y.2)) = X := ⟨_, rfl⟩
    obtain ⟨S1, hS1⟩ : ∃ X, bs (Lib.itoa (x.1 % x.2)) = X := ⟨_, rfl⟩
    obtain ⟨S2, hS2⟩ : ∃ X, bs (Lib.itoa (y.1 % y.2)) = X := ⟨_, rfl⟩
    rw [hX1, hX2] at r0
    rw [hY1, hY2] at r1
    rw [hX1, hX2, hP1, hS1] at hD1
    rw [hY1, hY2, hP2, hS2] at hD2
    rw [hP1, hP2] at hK1
    rw [hS1, hS2] at hK2
    rw [hS1] at z1
    rw [hS2] at z2
    have HD1 := Lib.hid hD1
    have HD2 := Lib.hid hD2
    have HK1 := Lib.hid hK1
    have HK2 := Lib.hid hK2
    have HE := Lib.hid (And.intro (And.intro hY2 hS2) (And.intro hX2 hS1))
    have HL := Lib.hid (And.intro (And.intro l1 m1) (And.intro l2 m2))
    have HQ := Lib.hid (And.intro hr1 hr2)
    have k0 := r0.c0
    have k1 := r0.c1
    have BW : Below W.heap.size W W := Below.refl _ _
    clear hD1 hD2 hK1 hK2 hX1 hX2 hY1 hY2 hP1 hP2 hS1 hS2 l1 m1 l2 m2 hq1 hq2 hr1 hr2 hst
    rcases Int.lt_trichotomy (x.1 / x.2) (y.1 / y.2) with hq | hq | hq
    · have hR : R = -1 := by rw [← hc.val]; exact cross_lt hc.px hc.py hq
      have e1 : cmpZ (x.1 / x.2) (y.1 / y.2) = -1 := if_pos hq
      rw [e1] at HK1
      subst hR
      clear hc hq e1 z1 z2
      go_wp2_with (first
        | (go_at_call 50; (with_reducible refine (HD1.out _ BW).mono ?_); rintro e w1 ⟨rfl, B1⟩; have s0 := r0.later B1 r0.lt; have s1 := r1.later B1 r1.lt; have k2 := s1.c0; have k3 := s1.c1)
        | (go_at_call 50; (with_reducible refine (HD2.out _ B1).mono ?_); rintro e w2 ⟨rfl, B2⟩; have B12 := below_on B1 B2 B1.size)
        | (go_at_call 51; (with_reducible refine (HK1.out _).mono ?_); rintro e w3 ⟨rfl, B3⟩; have B13 := below_on B12 B3 B12.size))
      exact jump_ret (bodyPost_ret (results_tmp rfl _ _ _) rfl ⟨rfl, below_on HC.out.below B13 HC.out.below.size⟩)
    · have e1 : cmpZ (x.1 / x.2) (y.1 / y.2) = 0 := by unfold cmpZ; rw [if_neg (by omega), if_neg (by omega)]
      rw [e1] at HK1
      have hnx : x.1 % x.2 ≠ 0 → y.1 % y.2 ≠ 0 → ∀ W', IsB W' w.heap.size Y2 S2 → IsB W' (w.heap.size + 1) X2 S1 → Below w.heap.size w W' → Cm w W' R (y.2, y.1 % y.2) (x.2, x.1 % x.2) ∧ denAt W' w.heap.size + denAt W' (w.heap.size + 1) < denAt W w.heap.size + denAt W (w.heap.size + 1) := by
        intro hx hy W' i0 i1 hb
        obtain ⟨⟨hY2, hS2⟩, hX2, hS1⟩ := HE.out
        obtain ⟨⟨l1, m1⟩, l2, m2⟩ := HL.out
        obtain ⟨hr1, hr2⟩ := HQ.out
        rw [← hY2, ← hS2] at i0
        rw [← hX2, ← hS1] at i1
        refine ⟨⟨by show 0 < y.1 % y.2; omega, by show 0 < x.1 % x.2; omega, hc.b4, hr2, hc.b2, hr1, ?_, i0, i1, hb⟩, ?_⟩
        · rw [← hc.val]; exact (cross_next hc.px hc.py hq).symm
        · rw [denAt_is i0 hr2, denAt_is i1 hr1, denAt_is hc.r0 hc.b2, denAt_is hc.r1 hc.b4]
          omega
      have Hnx := Lib.hid hnx
      obtain ⟨v1, hv1⟩ : ∃ v, decide (x.1 % x.2 = 0) = v := ⟨_, rfl⟩
      obtain ⟨v2, hv2⟩ : ∃ v, decide (y.1 % y.2 = 0) = v := ⟨_, rfl⟩
      rw [hv1] at z1
      rw [hv2] at z2
      have hz : (v1 = true ∨ v2 = true) → cmpZ (x.1 % x.2) (y.1 % y.2) = R := by
        intro h
        rw [cmpZ_sign, ← hc.val]
        refine (cross_zero hc.px hc.py hq ?_).symm
        rcases h with h | h
        · left; rw [h] at hv1; exact of_decide_eq_true hv1
        · right; rw [h] at hv2; exact of_decide_eq_true hv2
      have Hv := Lib.hid (And.intro hv1 hv2)
      have Hz := Lib.hid hz
      clear hc hq e1 hnx hz hv1 hv2
      cases v1 with
      | true =>
        rw [Hz.out (.inl rfl)] at HK2
        clear z2
        go_wp2_with (first
          | (go_at_call 50; (with_reducible refine (HD1.out _ BW).mono ?_); rintro e w1 ⟨rfl, B1⟩; have s0 := r0.later B1 r0.lt; have s1 := r1.later B1 r1.lt; have k2 := s1.c0; have k3 := s1.c1)
          | (go_at_call 50; (with_reducible refine (HD2.out _ B1).mono ?_); rintro e w2 ⟨rfl, B2⟩; have B12 := below_on B1 B2 B1.size; have t0 := s0.later B2 s0.lt; have t1 := s1.later B2 s1.lt)
          | (go_at_call 51; (with_reducible refine (HK1.out _).mono ?_); rintro e w3 ⟨rfl, B3⟩; have B13 := below_on B12 B3 B12.size; have p0 := t0.later B3 t0.lt; have p1 := t1.later B3 t1.lt; have n0 := p0.c1; have n1 := p1.c1; have n2 := p0.f0; have n3 := p0.f1; have n4 := p0.c0; have n5 := p1.c0; have n6 := p1.f0; have n7 := p1.f1)
          | (go_at_call 51; (with_reducible refine (HK2.out _).mono ?_); rintro e w4 ⟨rfl, B4⟩; have B14 := below_on B13 B4 B13.size))
        exact jump_ret (bodyPost_ret (results_tmp rfl _ _ _) rfl ⟨rfl, below_on HC.out.below B14 HC.out.below.size⟩)
      | false =>
        cases v2 with
        | true =>
          rw [Hz.out (.inr rfl)] at HK2
          go_wp2_with (first
            | (go_at_call 50; (with_reducible refine (HD1.out _ BW).mono ?_); rintro e w1 ⟨rfl, B1⟩; have s0 := r0.later B1 r0.lt; have s1 := r1.later B1 r1.lt; have k2 := s1.c0; have k3 := s1.c1)
            | (go_at_call 50; (with_reducible refine (HD2.out _ B1).mono ?_); rintro e w2 ⟨rfl, B2⟩; have B12 := below_on B1 B2 B1.size; have t0 := s0.later B2 s0.lt; have t1 := s1.later B2 s1.lt)
            | (go_at_call 51; (with_reducible refine (HK1.out _).mono ?_); rintro e w3 ⟨rfl, B3⟩; have B13 := below_on B12 B3 B12.size; have p0 := t0.later B3 t0.lt; have p1 := t1.later B3 t1.lt; have n0 := p0.c1; have n1 := p1.c1; have n2 := p0.f0; have n3 := p0.f1; have n4 := p0.c0; have n5 := p1.c0; have n6 := p1.f0; have n7 := p1.f1)
            | (go_at_call 51; (with_reducible refine (HK2.out _).mono ?_); rintro e w4 ⟨rfl, B4⟩; have B14 := below_on B13 B4 B13.size))
          exact jump_ret (bodyPost_ret (results_tmp rfl _ _ _) rfl ⟨rfl, below_on HC.out.below B14 HC.out.below.size⟩)
        | false =>
          go_wp2_with (first
            | (go_at_call 50; (with_reducible refine (HD1.out _ BW).mono ?_); rintro e w1 ⟨rfl, B1⟩; have s0 := r0.later B1 r0.lt; have s1 := r1.later B1 r1.lt; have k2 := s1.c0; have k3 := s1.c1)
            | (go_at_call 50; (with_reducible refine (HD2.out _ B1).mono ?_); rintro e w2 ⟨rfl, B2⟩; have B12 := below_on B1 B2 B1.size; have t0 := s0.later B2 s0.lt; have t1 := s1.later B2 s1.lt)
            | (go_at_call 51; (with_reducible refine (HK1.out _).mono ?_); rintro e w3 ⟨rfl, B3⟩; have B13 := below_on B12 B3 B12.size; have p0 := t0.later B3 t0.lt; have p1 := t1.later B3 t1.lt; have n0 := p0.c1; have n1 := p1.c1; have n2 := p0.f0; have n3 := p0.f1; have n4 := p0.c0; have n5 := p1.c0; have n6 := p1.f0; have n7 := p1.f1)
            | (go_at_call 51; (with_reducible refine (HK2.out _).mono ?_); rintro e w4 ⟨rfl, B4⟩; have B14 := below_on B13 B4 B13.size))
          have i0 : IsB _ w.heap.size Y2 S2 := far_strs (two_strs p0 Y2 S2) (Nat.succ_ne_self _) X2 S1
          have i1 : IsB _ (w.heap.size + 1) X2 S1 := two_strs (far_strs p1 (Nat.succ_ne_self _).symm Y2 S2) X2 S1
          obtain ⟨hC, hM⟩ := Hnx.out (of_decide_eq_false Hv.out.1) (of_decide_eq_false Hv.out.2) _ i0 i1 (fin1 (two_strs p1 X2 S1 |> fun _ => far_strs p1 (Nat.succ_ne_self _).symm Y2 S2) (fin1 p0 (below_on HC.out.below B13 HC.out.below.size) (Nat.le_refl _) Y2 S2) (by omega) X2 S1)
          first | exact wp_goto ⟨rfl, ⟨_, _, _, _, _, _, _, _, _, _, _, _, _, _, _, _, _, _, _, _, _, _, _, _, _, _, _, _, _, _, _, _, _, _, _, _, _, _, _, _, _, _, _, _, _, _, _, _, _, _, _, _, _, _, _, _, _, _, rfl, hC⟩, hM⟩ | exact wp_goto ⟨rfl, ⟨⟨_, _, _, _, _, _, _, _, _, _, _, _, _, _, _, _, _, _, _, _, _, _, _, _, _, _, _, _, _, _, _, _, _, _, _, _, _, _, _, _, _, _, _, _, _, _, _, _, _, _, _, _, _, _, _, _, rfl⟩, _, _, _, _, hC⟩, hM⟩
    · have hR : R = 1 := by rw [← hc.val]; exact cross_gt hc.px hc.py hq
      have e1 : cmpZ (x.1 / x.2) (y.1 / y.2) = 1 := by unfold cmpZ; rw [if_neg (by omega), if_pos hq]
      rw [e1] at HK1
      subst hR
      clear hc hq e1 z1 z2
      go_wp2_with (first
        | (go_at_call 50; (with_reducible refine (HD1.out _ BW).mono ?_); rintro e w1 ⟨rfl, B1⟩; have s0 := r0.later B1 r0.lt; have s1 := r1.later B1 r1.lt; have k2 := s1.c0; have k3 := s1.c1)
        | (go_at_call 50; (with_reducible refine (HD2.out _ B1).mono ?_); rintro e w2 ⟨rfl, B2⟩; have B12 := below_on B1 B2 B1.size)
        | (go_at_call 51; (with_reducible refine (HK1.out _).mono ?_); rintro e w3 ⟨rfl, B3⟩; have B13 := below_on B12 B3 B12.size))
      exact jump_ret (bodyPost_ret (results_tmp rfl _ _ _) rfl ⟨rfl, below_on HC.out.below B13 HC.out.below.size⟩)
  · intro hP
    obtain ⟨W0, hW0, hB, r0, r1⟩ : ∃ W, W = ((w.alloc (.cells #[.string a, .string b] 23)).alloc (.cells #[.string c, .string d] 23)) ∧ Below w.heap.size w W ∧ IsB W w.heap.size a b ∧ IsB W (w.heap.size + 1) c d :=
      ⟨_, rfl, ((Below.refl _ w).alloc (Nat.le_refl _) _).alloc (by simp) _, (IsB.new w a b).alloc _, IsB.new' _ _ _ _ (by simp)⟩
    rw [← hW0]
    have HP := Lib.hid hP
    have HV1 := Lib.hid (fun (W : World) (hb : Below w.heap.size w W) => by have h := qValid_any a b W (ht.later hb); rw [h1] at h; exact h)
    have HV2 := Lib.hid (fun (W : World) (hb : Below w.heap.size w W) => by have h := qValid_any c d W (ht.later hb); rw [h2] at h; exact h)
    have HS := Lib.hid hst
    have k0 := r0.c0
    have k1 := r0.c1
    clear hP hst hW0 ht
    go_wp2_with (first
      | (go_at_call 29; (with_reducible refine (HV2.out _ hw1).mono ?_); rintro e w2 ⟨rfl, B2⟩; have hw2 := below_on hw1 B2 hw1.size; have t0 := s0.later B2 s0.lt; have t1 := s1.later B2 s1.lt)
      | (go_at_call 29; (with_reducible refine (HV1.out _ hB).mono ?_); rintro e w1 ⟨rfl, B1⟩; have hw1 := below_on hB B1 hB.size; have s0 := r0.later B1 r0.lt; have s1 := r1.later B1 r1.lt; have k2 := s1.c0; have k3 := s1.c1))
    go_step3
    rename_i hK
    exact hK _ _ (HP.out _ _ ⟨x, y, _, _, _, _, _, _, _, _, _, _, _, _, _, _, _, _, _, _, _, _, _, _, _, _, _, _, _, _, _, _, _, _, _, _, _, _, _, _, _, _, _, _, _, _, _, _, _, _, _, _, _, _, _, _, _, _, rfl, HS.out _ t0 t1 hw2⟩)

end Go.Proofs.YtjkklgpbblkhaaaGreatDoor

/-
  Layer 3: the fixed examples.
-/
namespace Go.Proofs.YtjkklgpbblkhaaaGreatDoor
open Go.RowKit Bs Ig

theorem lit_pos (l : List UInt8) (n : Nat) (hn : num l = n) (hd : ∀ c ∈ l, isDig c) (h0 : 49 ≤ (l.headD 0).toNat) : Lib.itoa (n : Int) = l := by
  cases l with
  | nil => exact absurd h0 (by decide)
  | cons c r => rw [itoa_nat, ← hn]; exact dec_num _ hd c r rfl h0
theorem lit_neg (l : List UInt8) (n : Nat) (hn : num l = n) (hd : ∀ c ∈ l, isDig c) (h0 : 49 ≤ (l.headD 0).toNat) : Lib.itoa (-(n : Int)) = 45 :: l := by
  have h := lit_pos l n hn hd h0
  rw [itoa_nat] at h
  cases l with
  | nil => exact absurd h0 (by decide)
  | cons c r =>
    have hp : 0 < n := by
      rw [← hn, num_cons]
      have : 0 < 10 ^ r.length := Nat.pow_pos (by omega)
      have := Nat.mul_le_mul_right (10 ^ r.length) (show 1 ≤ c.toNat - 48 by simp at h0; omega)
      omega
    rw [itoa_neg _ hp, h]
theorem small_big (n : Int) (h : n.natAbs < 100000000) : n.natAbs < big := Nat.lt_trans h (by decide +kernel)
theorem small_bb (n : Nat) (h : n < 100000000) : n < big * big := Nat.lt_trans h (by decide +kernel)
theorem txt_small (n : Int) (h : n.natAbs < 100000000) : txt n = Lib.itoa n := if_pos (small_big n h)
theorem err_small (n : Int) (h : n.natAbs < 100000000) : err n = 0 := if_pos (small_big n h)
theorem no_007 : ¬ IsI [48, 48, 55] := by
  rw [isI_iff]
  rintro (h | ⟨_, _, h, _⟩)
  · exact absurd h (by decide)
  · exact h rfl
theorem no_m0 : ¬ IsI [45, 48] := by
  rw [isI_iff]
  rintro (h | ⟨_, _, h, _⟩)
  · exact absurd h (by decide)
  · exact h rfl
theorem no_e : ¬ IsI [] := by
  rw [isI_iff]
  rintro (h | ⟨h, _⟩)
  · exact absurd h (by decide)
  · exact absurd h (by decide)
theorem lit_999 : Lib.itoa 999 = [57, 57, 57] := lit_pos [57, 57, 57] 999 rfl (by decide) (by decide)
theorem lit_1 : Lib.itoa 1 = [49] := lit_pos [49] 1 rfl (by decide) (by decide)
theorem lit_1000 : Lib.itoa 1000 = [49, 48, 48, 48] := lit_pos [49, 48, 48, 48] 1000 rfl (by decide) (by decide)
theorem lit_m999 : Lib.itoa (-999) = [45, 57, 57, 57] := lit_neg [57, 57, 57] 999 rfl (by decide) (by decide)
theorem lit_m12 : Lib.itoa (-12) = [45, 49, 50] := lit_neg [49, 50] 12 rfl (by decide) (by decide)
theorem lit_12 : Lib.itoa 12 = [49, 50] := lit_pos [49, 50] 12 rfl (by decide) (by decide)
theorem lit_m144 : Lib.itoa (-144) = [45, 49, 52, 52] := lit_neg [49, 52, 52] 144 rfl (by decide) (by decide)
theorem lit_m7 : Lib.itoa (-7) = [45, 55] := lit_neg [55] 7 rfl (by decide) (by decide)
theorem lit_2 : Lib.itoa 2 = [50] := lit_pos [50] 2 rfl (by decide) (by decide)
theorem lit_m4 : Lib.itoa (-4) = [45, 52] := lit_neg [52] 4 rfl (by decide) (by decide)
theorem lit_m2 : Lib.itoa (-2) = [45, 50] := lit_neg [50] 2 rfl (by decide) (by decide)
theorem lit_4 : Lib.itoa 4 = [52] := lit_pos [52] 4 rfl (by decide) (by decide)
theorem lit_m18 : Lib.itoa (-18) = [45, 49, 56] := lit_neg [49, 56] 18 rfl (by decide) (by decide)
theorem lit_6 : Lib.itoa 6 = [54] := lit_pos [54] 6 rfl (by decide) (by decide)
theorem lit_99 : Lib.itoa 99 = [57, 57] := lit_pos [57, 57] 99 rfl (by decide) (by decide)
theorem lit_9 : Lib.itoa 9 = [57] := lit_pos [57] 9 rfl (by decide) (by decide)
theorem lit_m1 : Lib.itoa (-1) = [45, 49] := lit_neg [49] 1 rfl (by decide) (by decide)
theorem lit_m8 : Lib.itoa (-8) = [45, 56] := lit_neg [56] 8 rfl (by decide) (by decide)
theorem s_add (w : World) (ht : TabP w) : Calls Tryz.prog 67 #[.string ⟨#[57, 57, 57]⟩, .string ⟨#[49]⟩] w fun e w' => e = .returned (.tuple #[.string ⟨#[49, 48, 48, 48]⟩, .int .i64 0]) ∧ Below w.heap.size w w' := by
  have h := Add_any (999) (1) (small_big _ (by decide)) (small_big _ (by decide)) (small_bb _ (by decide)) w ht
  rw [show ((999 : Int) + (1)) = (1000 : Int) by decide, txt_small _ (by decide), err_small _ (by decide), lit_999, lit_1, lit_1000] at h
  exact h
theorem s_sub (w : World) (ht : TabP w) : Calls Tryz.prog 72 #[.string ⟨#[49]⟩, .string ⟨#[49, 48, 48, 48]⟩] w fun e w' => e = .returned (.tuple #[.string ⟨#[45, 57, 57, 57]⟩, .int .i64 0]) ∧ Below w.heap.size w w' := by
  have h := Sub_any (1) (1000) (small_big _ (by decide)) (small_big _ (by decide)) (small_bb _ (by decide)) w ht
  rw [show ((1 : Int) - (1000)) = (-999 : Int) by decide, txt_small _ (by decide), err_small _ (by decide), lit_1, lit_1000, lit_m999] at h
  exact h
theorem s_mul (w : World) (ht : TabP w) : Calls Tryz.prog 70 #[.string ⟨#[45, 49, 50]⟩, .string ⟨#[49, 50]⟩] w fun e w' => e = .returned (.tuple #[.string ⟨#[45, 49, 52, 52]⟩, .int .i64 0]) ∧ Below w.heap.size w w' := by
  have h := Mul_any (-12) (12) (small_big _ (by decide)) (small_big _ (by decide)) (small_bb _ (by decide)) w ht
  rw [show ((-12 : Int) * (12)) = (-144 : Int) by decide, txt_small _ (by decide), err_small _ (by decide), lit_m12, lit_12, lit_m144] at h
  exact h
theorem s_gcd (w : World) (ht : TabP w) : Calls Tryz.prog 63 #[.string ⟨#[49, 50]⟩, .string ⟨#[45, 49, 56]⟩] w fun e w' => e = .returned (.tuple #[.string ⟨#[54]⟩, .int .i64 0]) ∧ Below w.heap.size w w' := by
  have h := Gcd_any (12) (-18) (small_big _ (by decide)) (small_big _ (by decide)) (small_bb _ (by decide)) w ht
  rw [show ((Int.gcd (12) (-18) : Nat) : Int) = (6 : Int) by decide, txt_small _ (by decide), err_small _ (by decide), lit_12, lit_m18, lit_6] at h
  exact h
theorem s_div1 (w : World) (ht : TabP w) : Calls Tryz.prog 50 #[.string ⟨#[45, 55]⟩, .string ⟨#[50]⟩] w fun e w' => e = .returned (.tuple #[.string ⟨#[45, 52]⟩, .string ⟨#[49]⟩, .int .i64 0]) ∧ Below w.heap.size w w' := by
  have h := Div_any (-7) (2) (small_big _ (by decide)) (small_big _ (by decide)) (by decide) w ht
  rw [show ((-7 : Int) / (2)) = (-4 : Int) by decide, show ((-7 : Int) % (2)) = (1 : Int) by decide, lit_m7, lit_2, lit_m4, lit_1] at h
  exact h
theorem s_div2 (w : World) (ht : TabP w) : Calls Tryz.prog 50 #[.string ⟨#[45, 55]⟩, .string ⟨#[45, 50]⟩] w fun e w' => e = .returned (.tuple #[.string ⟨#[52]⟩, .string ⟨#[49]⟩, .int .i64 0]) ∧ Below w.heap.size w w' := by
  have h := Div_any (-7) (-2) (small_big _ (by decide)) (small_big _ (by decide)) (by decide) w ht
  rw [show ((-7 : Int) / (-2)) = (4 : Int) by decide, show ((-7 : Int) % (-2)) = (1 : Int) by decide, lit_m7, lit_m2, lit_4, lit_1] at h
  exact h
theorem s_addn (w : World) : Calls Tryz.prog 67 #[.string ⟨#[48, 48, 55]⟩, .string ⟨#[49]⟩] w fun e w' => e = .returned (.tuple #[.string ⟨#[]⟩, .int .i64 30]) ∧ Below w.heap.size w w' := Add_no [48, 48, 55] no_007 ⟨#[49]⟩ w
theorem s_v1 (w : World) : Calls Tryz.prog 78 #[.string ⟨#[45, 55]⟩] w fun e w' => e = .returned (.bool true) ∧ w' = w := by
  have h := Valid_yes (-7) (small_big _ (by decide)) w
  rw [lit_m7] at h
  exact h
theorem s_v2 (w : World) : Calls Tryz.prog 78 #[.string ⟨#[45, 48]⟩] w fun e w' => e = .returned (.bool false) ∧ w' = w := Valid_no [45, 48] no_m0 w
theorem s_v3 (w : World) : Calls Tryz.prog 78 #[.string ⟨#[]⟩] w fun e w' => e = .returned (.bool false) ∧ w' = w := Valid_no [] no_e w
theorem s_cmp (w : World) : Calls Tryz.prog 51 #[.string ⟨#[45, 56]⟩, .string ⟨#[45, 55]⟩] w fun e w' => e = .returned (.int .i64 (-1)) ∧ Below w.heap.size w w' := by
  have h := Compare_any (-8) (-7) (small_big _ (by decide)) (small_big _ (by decide)) w
  rw [lit_m8, lit_m7] at h
  exact h

end Go.Proofs.YtjkklgpbblkhaaaGreatDoor

/-
  Layer 4: what the laws' fixed examples answer.
-/
namespace Go.Proofs.YtjkklgpbblkhaaaGreatDoor
open Go.RowKit Bs Ig Qq

theorem T_m17 : T (-17) = ⟨#[45, 49, 55]⟩ := by unfold T; rw [show Lib.itoa (-17) = [45, 49, 55] from lit_neg [49, 55] 17 rfl (by decide) (by decide)]; rfl
theorem T_m5 : T (-5) = ⟨#[45, 53]⟩ := by unfold T; rw [show Lib.itoa (-5) = [45, 53] from lit_neg [53] 5 rfl (by decide) (by decide)]; rfl
theorem T_m4 : T (-4) = ⟨#[45, 52]⟩ := by unfold T; rw [show Lib.itoa (-4) = [45, 52] from lit_neg [52] 4 rfl (by decide) (by decide)]; rfl
theorem T_m3 : T (-3) = ⟨#[45, 51]⟩ := by unfold T; rw [show Lib.itoa (-3) = [45, 51] from lit_neg [51] 3 rfl (by decide) (by decide)]; rfl
theorem T_m2 : T (-2) = ⟨#[45, 50]⟩ := by unfold T; rw [show Lib.itoa (-2) = [45, 50] from lit_neg [50] 2 rfl (by decide) (by decide)]; rfl
theorem T_m1 : T (-1) = ⟨#[45, 49]⟩ := by unfold T; rw [show Lib.itoa (-1) = [45, 49] from lit_neg [49] 1 rfl (by decide) (by decide)]; rfl
theorem T_0 : T 0 = ⟨#[48]⟩ := T0
theorem T_1 : T 1 = ⟨#[49]⟩ := by unfold T; rw [show Lib.itoa 1 = [49] from lit_pos [49] 1 rfl (by decide) (by decide)]; rfl
theorem T_2 : T 2 = ⟨#[50]⟩ := by unfold T; rw [show Lib.itoa 2 = [50] from lit_pos [50] 2 rfl (by decide) (by decide)]; rfl
theorem T_3 : T 3 = ⟨#[51]⟩ := by unfold T; rw [show Lib.itoa 3 = [51] from lit_pos [51] 3 rfl (by decide) (by decide)]; rfl
theorem T_4 : T 4 = ⟨#[52]⟩ := by unfold T; rw [show Lib.itoa 4 = [52] from lit_pos [52] 4 rfl (by decide) (by decide)]; rfl
theorem T_5 : T 5 = ⟨#[53]⟩ := by unfold T; rw [show Lib.itoa 5 = [53] from lit_pos [53] 5 rfl (by decide) (by decide)]; rfl
theorem T_6 : T 6 = ⟨#[54]⟩ := by unfold T; rw [show Lib.itoa 6 = [54] from lit_pos [54] 6 rfl (by decide) (by decide)]; rfl
theorem T_17 : T 17 = ⟨#[49, 55]⟩ := by unfold T; rw [show Lib.itoa 17 = [49, 55] from lit_pos [49, 55] 17 rfl (by decide) (by decide)]; rfl
theorem T_50 : T 50 = ⟨#[53, 48]⟩ := by unfold T; rw [show Lib.itoa 50 = [53, 48] from lit_pos [53, 48] 50 rfl (by decide) (by decide)]; rfl
theorem T_33333 : T 33333 = ⟨#[51, 51, 51, 51, 51]⟩ := by unfold T; rw [show Lib.itoa 33333 = [51, 51, 51, 51, 51] from lit_pos [51, 51, 51, 51, 51] 33333 rfl (by decide) (by decide)]; rfl
theorem T_100000 : T 100000 = ⟨#[49, 48, 48, 48, 48, 48]⟩ := by unfold T; rw [show Lib.itoa 100000 = [49, 48, 48, 48, 48, 48] from lit_pos [49, 48, 48, 48, 48, 48] 100000 rfl (by decide) (by decide)]; rfl
theorem lt_bigQ (z : Int) (h : z.natAbs < 10000000000) : z.natAbs < big := Nat.lt_of_lt_of_le h big5_4
/-- a fraction of small numbers -/
theorem small_FV (n d : Int) (h1 : 0 < d) (h2 : Int.gcd n d = 1) (h3 : n.natAbs < 10000000000) (h4 : d.natAbs < 10000000000) : FV (n, d) := ⟨⟨h1, h2⟩, lt_bigQ n h3, lt_bigQ d h4⟩
theorem qcompare {p q : Int × Int} (hp : FV p) (hq : FV q) (w : World) (ht : TabP w) :
    Calls Tryz.prog 20 #[.agg #[.string (T p.1), .string (T p.2)], .agg #[.string (T q.1), .string (T q.2)]] w fun e w' => e = .returned (.int .i64 (cmpF p q)) ∧ Below w.heap.size w w' :=
  compare_x _ _ _ _ p q w ht (validB_T hp) (validB_T hq) _ fun _ r0 r1 hb => ⟨hp.pos, hq.pos, hp.b1, hp.b2, hq.b1, hq.b2, rfl, r0, r1, hb⟩

theorem q_of1 (w : World) (ht : TabP w) : Answers 31 #[.int .i64 6, .int .i64 (-4)] (⟨#[45, 51]⟩, ⟨#[50]⟩, 0) w := by
  have h := qOf_any 6 (-4) (by omega) (by omega) (by omega) (by omega) w ht
  rw [show makeQ (bs (Lib.itoa 6)) (bs (Lib.itoa (-4))) = okA (red 6 (-4)) from buildS_ok ((runS_ok (reduceS_T (lt_bigQ 6 (by decide)) (lt_bigQ (-4) (by decide)) (by decide))).trans rfl)] at h
  unfold okA at h
  rw [show red 6 (-4) = (-3, 2) by decide] at h
  simp only [T_m3, T_2] at h
  exact h
theorem q_of2 (w : World) (ht : TabP w) : Answers 31 #[.int .i64 0, .int .i64 (-5)] (⟨#[48]⟩, ⟨#[49]⟩, 0) w := by
  have h := qOf_any 0 (-5) (by omega) (by omega) (by omega) (by omega) w ht
  rw [show makeQ (bs (Lib.itoa 0)) (bs (Lib.itoa (-5))) = okA (red 0 (-5)) from buildS_ok ((runS_ok (reduceS_T (lt_bigQ 0 (by decide)) (lt_bigQ (-5) (by decide)) (by decide))).trans rfl)] at h
  unfold okA at h
  rw [show red 0 (-5) = (0, 1) by decide] at h
  simp only [T_0, T_1] at h
  exact h
theorem q_of3 (w : World) (ht : TabP w) : Answers 31 #[.int .i64 1, .int .i64 0] noA w := by
  have h := qOf_any 1 0 (by omega) (by omega) (by omega) (by omega) w ht
  rw [show makeQ (bs (Lib.itoa 1)) (bs (Lib.itoa 0)) = noA from buildS_no (runS_err (reduceS_0 _) (by decide)) (by decide)] at h
  exact h
theorem q_add (w : World) (ht : TabP w) : Answers 38 #[.agg #[.string ⟨#[49]⟩, .string ⟨#[50]⟩], .agg #[.string ⟨#[49]⟩, .string ⟨#[51]⟩]] (⟨#[53]⟩, ⟨#[54]⟩, 0) w := by
  have hp := small_FV (1) 2 (by decide) (by decide) (by decide) (by decide)
  have hq := small_FV (1) 3 (by decide) (by decide) (by decide) (by decide)
  have h := qAdd_any (T (1)) (T 2) (T (1)) (T 3) w ht
  rw [show addQ (T (1)) (T 2) (T (1)) (T 3) = okA (plus (1, 2) (1, 3)) from addQ_ok (p := (1, 2)) (q := (1, 3)) hp hq (lt_bigQ _ (by decide)) (lt_bigQ _ (by decide)) (lt_bigQ _ (by decide)) (lt_bigQ _ (by decide))] at h
  unfold okA at h
  rw [show plus (1, 2) (1, 3) = (5, 6) by decide] at h
  simp only [T_1, T_2, T_3, T_5, T_6] at h
  exact h
theorem q_div1 (w : World) (ht : TabP w) : Answers 45 #[.agg #[.string ⟨#[49]⟩, .string ⟨#[50]⟩], .agg #[.string ⟨#[45, 49]⟩, .string ⟨#[52]⟩]] (⟨#[45, 50]⟩, ⟨#[49]⟩, 0) w := by
  have hp := small_FV (1) 2 (by decide) (by decide) (by decide) (by decide)
  have hq := small_FV (-1) 4 (by decide) (by decide) (by decide) (by decide)
  have h := qDiv_any (T (1)) (T 2) (T (-1)) (T 4) w ht
  rw [show divQ (T (1)) (T 2) (T (-1)) (T 4) = okA (over (1, 2) (-1, 4)) from divQ_ok (p := (1, 2)) (q := (-1, 4)) hp hq (by decide) (lt_bigQ _ (by decide)) (lt_bigQ _ (by decide))] at h
  unfold okA at h
  rw [show over (1, 2) (-1, 4) = (-2, 1) by decide] at h
  simp only [T_1, T_2, T_4, T_m1, T_m2] at h
  exact h
theorem q_div2 (w : World) (ht : TabP w) : Answers 45 #[.agg #[.string ⟨#[49]⟩, .string ⟨#[49]⟩], .agg #[.string ⟨#[48]⟩, .string ⟨#[49]⟩]] noA w := by
  have hp := small_FV (1) 1 (by decide) (by decide) (by decide) (by decide)
  have hq := small_FV (0) 1 (by decide) (by decide) (by decide) (by decide)
  have h := qDiv_any (T (1)) (T 1) (T (0)) (T 1) w ht
  rw [show divQ (T (1)) (T 1) (T (0)) (T 1) = noA from divQ_no (p := (1, 1)) (q := (0, 1)) hp hq (by simp)] at h
  simp only [T_0, T_1] at h
  exact h
theorem q_down (w : World) (ht : TabP w) : Answers 23 #[.agg #[.string ⟨#[45, 49]⟩, .string ⟨#[51]⟩], .int .i64 2] (⟨#[45, 49, 55]⟩, ⟨#[53, 48]⟩, 0) w := by
  have hp := small_FV (-1) 3 (by decide) (by decide) (by decide) (by decide)
  have h := qDown_any (T (-1)) (T 3) 2 w ht
  rw [show downQ (T (-1)) (T 3) 2 = okA (red (-34) 100) from (if_pos (by decide)).trans (roundQ_ok (p := (-1, 3)) hp (m := 2) (t := 100) (tq_T 2) (by decide) (lt_bigQ _ (by decide)) (lt_bigQ _ (by decide)) (floorS_T (lt_bigQ _ (by decide)) hp.b2 (by decide)) (lt_bigQ _ (by decide)))] at h
  unfold okA at h
  rw [show red (-34) 100 = (-17, 50) by decide] at h
  simp only [T_3, T_50, T_m1, T_m17] at h
  exact h
theorem q_up (w : World) (ht : TabP w) : Answers 25 #[.agg #[.string ⟨#[49]⟩, .string ⟨#[51]⟩], .int .i64 2] (⟨#[49, 55]⟩, ⟨#[53, 48]⟩, 0) w := by
  have hp := small_FV (1) 3 (by decide) (by decide) (by decide) (by decide)
  have h := qUp_any (T (1)) (T 3) 2 w ht
  rw [show upQ (T (1)) (T 3) 2 = okA (red (34) 100) from (if_pos (by decide)).trans (roundQ_ok (p := (1, 3)) hp (m := 2) (t := 100) (tq_T 2) (by decide) (lt_bigQ _ (by decide)) (lt_bigQ _ (by decide)) ((ceilS_T (lt_bigQ _ (by decide)) hp.b2 (by decide)).trans (wrS_ok (lt_bigQ _ (by decide)))) (lt_bigQ _ (by decide)))] at h
  unfold okA at h
  rw [show red (34) 100 = (17, 50) by decide] at h
  simp only [T_1, T_17, T_3, T_50] at h
  exact h
theorem val_s1 : validB ⟨#[45, 51]⟩ ⟨#[50]⟩ = true := by
  have h := validB_T (small_FV (-3) 2 (by decide) (by decide) (by decide) (by decide))
  simp only [T_m3, T_2] at h
  exact h
theorem val_s2 : validB ⟨#[54]⟩ ⟨#[52]⟩ = false := by
  unfold validB
  rw [← T_6, ← T_4, gcdS_T (lt_bigQ 6 (by decide)) (lt_bigQ 4 (by decide)), T_eq1]
  rfl
theorem val_s3 : validB ⟨#[]⟩ ⟨#[]⟩ = false := by
  unfold validB gcdS onS
  rw [show rd ⟨#[]⟩ = none from rd_no no_e]
  rfl
theorem pr_s1 : printQ ⟨#[45, 51]⟩ ⟨#[50]⟩ = ⟨#[45, 51, 47, 50]⟩ := by
  unfold printQ
  rw [if_pos val_s1, if_neg (by rw [show (⟨#[50]⟩ : ByteArray) = bs [50] from rfl, bs_toList]; decide)]
  rfl
theorem q_parse1 (w : World) (ht : TabP w) : Answers 34 #[.string ⟨#[45, 51, 47, 50]⟩] (⟨#[45, 51]⟩, ⟨#[50]⟩, 0) w := by
  have h := parse_any4 ⟨#[45, 51, 47, 50]⟩ (by decide) w ht
  have e : splitQ ⟨#[45, 51, 47, 50]⟩ = (⟨#[45, 51]⟩, ⟨#[50]⟩) := by decide +kernel
  rw [show parseQ ⟨#[45, 51, 47, 50]⟩ = (⟨#[45, 51]⟩, ⟨#[50]⟩, 0) from by unfold parseQ; rw [e]; exact (if_pos val_s1).trans (if_pos (by rw [pr_s1]; exact beq_self_eq_true _))] at h
  exact h
theorem q_parse2 (w : World) (ht : TabP w) : Answers 34 #[.string ⟨#[54, 47, 52]⟩] noA w := by
  have h := parse_any4 ⟨#[54, 47, 52]⟩ (by decide) w ht
  have e : splitQ ⟨#[54, 47, 52]⟩ = (⟨#[54]⟩, ⟨#[52]⟩) := by decide +kernel
  rw [show parseQ ⟨#[54, 47, 52]⟩ = noA from by unfold parseQ; rw [e]; exact if_neg (by rw [val_s2]; decide)] at h
  exact h
theorem q_print (w : World) (ht : TabP w) : Calls Tryz.prog 33 #[.agg #[.string ⟨#[45, 51]⟩, .string ⟨#[50]⟩]] w fun e w' => e = .returned (.string ⟨#[45, 51, 47, 50]⟩) ∧ Below w.heap.size w w' := by
  have h := qPrint_any ⟨#[45, 51]⟩ ⟨#[50]⟩ (by decide) (by decide) w ht
  rw [pr_s1] at h
  exact h
theorem q_cmp4 (w : World) (ht : TabP w) : Calls Tryz.prog 20 #[.agg #[.string ⟨#[49]⟩, .string ⟨#[51]⟩], .agg #[.string ⟨#[51, 51, 51, 51, 51]⟩, .string ⟨#[49, 48, 48, 48, 48, 48]⟩]] w fun e w' => e = .returned (.int .i64 1) ∧ Below w.heap.size w w' := by
  have h := qcompare (small_FV 1 3 (by decide) (by decide) (by decide) (by decide)) (small_FV 33333 100000 (by decide) (by decide) (by decide) (by decide)) w ht
  rw [show cmpF (1, 3) (33333, 100000) = 1 by decide] at h
  simp only [T_1, T_3, T_33333, T_100000] at h
  exact h
theorem q_val1 (w : World) (ht : TabP w) : Calls Tryz.prog 29 #[.agg #[.string ⟨#[45, 51]⟩, .string ⟨#[50]⟩]] w fun e w' => e = .returned (.bool true) ∧ Below w.heap.size w w' := by
  have h := qValid_any ⟨#[45, 51]⟩ ⟨#[50]⟩ w ht
  rw [val_s1] at h
  exact h
theorem q_val2 (w : World) (ht : TabP w) : Calls Tryz.prog 29 #[.agg #[.string ⟨#[]⟩, .string ⟨#[]⟩]] w fun e w' => e = .returned (.bool false) ∧ Below w.heap.size w w' := by
  have h := qValid_any ⟨#[]⟩ ⟨#[]⟩ w ht
  rw [val_s3] at h
  exact h

end Go.Proofs.YtjkklgpbblkhaaaGreatDoor
