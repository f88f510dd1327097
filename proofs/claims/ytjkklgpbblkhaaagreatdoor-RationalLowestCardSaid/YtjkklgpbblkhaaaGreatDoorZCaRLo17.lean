/-
  Put together by program out of these texts, in this order: Qpa, Qcm, Qsn.
-/
import Derived.Test.YtjkklgpbblkhaaaGreatDoorZCaRLo16
import Derived.Lib.IndexLaws
import Derived.ScopeJumps
import Derived.WalkMore
import Derived.Test.YtjkklgpbblkhaaaGreatDoorZCaRLo11

/-
  Layer 4: Parse.
-/
namespace Go.Proofs.YtjkklgpbblkhaaaGreatDoor
open Go.RowKit Bs Ig Qq

set_option maxRecDepth 100000 in
set_option maxHeartbeats 4000000 in
theorem cut_at (s : ByteArray) (k : Nat) (hk : k < s.size) (hs : s.size ≤ 9223372036854775806) (hi : Lib.indexByte s.data.toList 47 = (k : Int)) (w : World) :
    Calls Tryz.prog 65 #[.string s, .string ⟨#[47]⟩] w fun e w' => e = .returned (.tuple #[.string (s.extract 0 k), .string (s.extract (k + 1) s.size), .bool true]) ∧ Below w.heap.size w w' := by
  have HI := Lib.hid (fun (W : World) => (show Calls Tryz.prog 121 #[.string s, .string ⟨#[47]⟩] W fun e w' => e = .returned (.int .i64 (k : Int)) ∧ w' = W from by
    have h := Tryz.stringslite_Index_one s 47 W
    rw [hi] at h
    exact h))
  have HC := Lib.hid (fun (W : World) => (show Calls Tryz.prog 96 #[.string s, .string ⟨#[47]⟩] W fun e w' => e = .returned (.tuple #[.string (s.extract 0 k), .string (s.extract (k + 1) s.size), .bool true]) ∧ Below W.heap.size W w' from by
    have e1 : decide (0 ≤ (k : Int)) = true := decide_eq_true (by omega)
    have e2 : decide ((k : Int) ≤ (s.size : Int)) = true := decide_eq_true (by omega)
    have e3 : decide ((k : Int) + 1 ≤ (s.size : Int)) = true := decide_eq_true (by omega)
    clear hi
    go_enter Tryz.func96, Tryz.ntmps96
    go_wp2_with (go_at_call 121; (with_reducible refine (HI.out _).mono ?_); rintro e w1 ⟨rfl, rfl⟩)
    go_quiet (fail)
    go_wp2_with fail
    exact bodyPost_ret (results_tmp3 rfl _ _ _) rfl ⟨rfl, below_drewN (Below.refl _ _) _⟩))
  clear HI hi
  go_enter Tryz.func65, Tryz.ntmps65
  go_wp2_with (go_at_call 96; (with_reducible refine (HC.out _).mono ?_); rintro e w1 ⟨rfl, B1⟩)
  exact bodyPost_ret (results_tmp3 rfl _ _ _) rfl ⟨rfl, B1⟩

set_option maxRecDepth 100000 in
set_option maxHeartbeats 4000000 in
theorem cut_none (s : ByteArray) (hi : Lib.indexByte s.data.toList 47 = -1) (w : World) :
    Calls Tryz.prog 65 #[.string s, .string ⟨#[47]⟩] w fun e w' => e = .returned (.tuple #[.string s, .string ⟨#[]⟩, .bool false]) ∧ Below w.heap.size w w' := by
  have HI := Lib.hid (fun (W : World) => (show Calls Tryz.prog 121 #[.string s, .string ⟨#[47]⟩] W fun e w' => e = .returned (.int .i64 (-1)) ∧ w' = W from by
    have h := Tryz.stringslite_Index_one s 47 W
    rw [hi] at h
    exact h))
  have HC := Lib.hid (fun (W : World) => (show Calls Tryz.prog 96 #[.string s, .string ⟨#[47]⟩] W fun e w' => e = .returned (.tuple #[.string s, .string ⟨#[]⟩, .bool false]) ∧ Below W.heap.size W w' from by
    clear hi
    go_enter Tryz.func96, Tryz.ntmps96
    go_wp2_with (go_at_call 121; (with_reducible refine (HI.out _).mono ?_); rintro e w1 ⟨rfl, rfl⟩)
    exact bodyPost_ret (results_tmp3 rfl _ _ _) rfl ⟨rfl, Below.refl _ _⟩))
  clear HI hi
  go_enter Tryz.func65, Tryz.ntmps65
  go_wp2_with (go_at_call 96; (with_reducible refine (HC.out _).mono ?_); rintro e w1 ⟨rfl, B1⟩)
  exact bodyPost_ret (results_tmp3 rfl _ _ _) rfl ⟨rfl, B1⟩

/-- numerator and denominator of a text -/
def splitQ (s : ByteArray) : ByteArray × ByteArray := if 0 ≤ Lib.indexByte s.data.toList 47 then (s.extract 0 (Lib.indexByte s.data.toList 47).toNat, s.extract ((Lib.indexByte s.data.toList 47).toNat + 1) s.size) else (s, ⟨#[49]⟩)
noncomputable def parseQ (s : ByteArray) : ByteArray × ByteArray × Int := if validB (splitQ s).1 (splitQ s).2 = true then (if ((printQ (splitQ s).1 (splitQ s).2).toList == s.toList) = true then ((splitQ s).1, (splitQ s).2, 0) else noA) else noA

set_option maxRecDepth 100000 in
set_option maxHeartbeats 4000000 in
theorem parse_any4 (s : ByteArray) (hs : s.size ≤ 900) (w : World) (ht : TabP w) : Answers 34 #[.string s] (parseQ s) w := by
  unfold Answers parseQ
  obtain ⟨hB, r0⟩ := box0 w
  have hA := hB.alloc hB.size (.cells #[.string s, .string ⟨#[49]⟩] 23)
  have q0 := r0.alloc (.cells #[.string s, .string ⟨#[49]⟩] 23)
  have q1 : IsB ((w.alloc (.cells #[.string ⟨#[]⟩, .string ⟨#[]⟩] 23)).alloc (.cells #[.string s, .string ⟨#[49]⟩] 23)) (w.heap.size + 1) s ⟨#[49]⟩ := IsB.new' _ _ _ _ (by simp)
  have hsp : (Lib.indexByte s.data.toList 47 = -1 ∧ splitQ s = (s, ⟨#[49]⟩)) ∨ ∃ k : Nat, k < s.size ∧ Lib.indexByte s.data.toList 47 = k ∧ splitQ s = (s.extract 0 k, s.extract (k + 1) s.size) := by
    have hge := Lib.indexByte_ge s.data.toList 47
    unfold splitQ
    rcases Int.lt_or_le (Lib.indexByte s.data.toList 47) 0 with h | h
    · exact .inl ⟨by omega, if_neg (by omega)⟩
    · obtain ⟨k, hk⟩ : ∃ k : Nat, Lib.indexByte s.data.toList 47 = k := ⟨_, (Int.toNat_of_nonneg h).symm⟩
      refine .inr ⟨k, ?_, hk, ?_⟩
      · have h2 := (Lib.indexByte_some hk).1
        rcases Nat.lt_or_ge k s.size with h3 | h3
        · exact h3
        · rw [List.getElem?_eq_none (by show s.data.toList.length ≤ k; exact h3)] at h2; cases h2
      · rw [if_pos h, hk]; rfl
  obtain ⟨N, D, hND⟩ : ∃ N D, splitQ s = (N, D) := ⟨_, _, rfl⟩
  have hsz : N.size ≤ 1000 ∧ D.size ≤ 1000 := by
    rcases hsp with ⟨_, h⟩ | ⟨k, hk, _, h⟩
    · rw [hND] at h; cases h; exact ⟨by omega, by show 1 ≤ 1000; omega⟩
    · rw [hND] at h; cases h; rw [ByteArray.size_extract, ByteArray.size_extract]; omega
  have hV := fun (W : World) (hb : Below w.heap.size w W) => qValid_any N D W (ht.later hb)
  have hP := fun (W : World) (hb : Below w.heap.size w W) => qPrint_any N D hsz.1 hsz.2 W (ht.later hb)
  rw [hND] at hsp ⊢
  obtain ⟨v, hv⟩ : ∃ v, validB N D = v := ⟨_, rfl⟩
  obtain ⟨P, hPr⟩ : ∃ P, printQ N D = P := ⟨_, rfl⟩
  obtain ⟨x, hx⟩ : ∃ x, (P.toList == s.toList) = x := ⟨_, rfl⟩
  rw [hv] at hV
  rw [hPr] at hP
  simp only [hv, hPr, hx]
  have HV := Lib.hid hV
  have HP := Lib.hid hP
  have hbne : (P.toList != s.toList) = !x := by rw [bne, hx]
  have HA := Lib.hid hA
  have HQ := Lib.hid (And.intro q0 q1)
  clear hV hP hv hPr hND ht hsz hA
  rcases hsp with ⟨hi, hND⟩ | ⟨k, hk, hi, hND⟩
  · have HC := Lib.hid (fun (W : World) => cut_none s hi W)
    cases hND
    clear hi hs
    cases v with
    | false =>
      clear hx hbne
      go_enter Tryz.func34, Tryz.ntmps34
      go_wp2_with (first
        | (go_at_call 65; (with_reducible refine (HC.out _).mono ?_); rintro e w1 ⟨rfl, B1⟩; have hw1 := below_on HA.out B1 HA.out.size; have s0 := HQ.out.1.later B1 HQ.out.1.lt; have s1 := HQ.out.2.later B1 HQ.out.2.lt; have k0 := s1.c0; have k1 := s1.c1)
        | (go_at_call 29; (with_reducible refine (HV.out _ hw1).mono ?_); rintro e w2 ⟨rfl, B2⟩; have hw2 := below_on hw1 B2 hw1.size; have t0 := s0.later B2 s0.lt; have t1 := s1.later B2 s1.lt; have k2 := t1.c0; have k3 := t1.c1; have g1 := t0.f0; have g2 := t0.f1; have g3 := t0.c0; have g4 := t0.c1))
      exact bodyPost_ret (results_row_tmp rfl _ _ w.heap.size 23 #[.string ⟨#[]⟩, .string ⟨#[]⟩] _ _ rfl (two_strs t0 ⟨#[]⟩ ⟨#[]⟩) Tryz.underlying23 rfl (by kernel_rfl)) rfl ⟨rfl, fin1 t0 hw2 (by omega) _ _⟩
    | true =>
      cases x with
      | false =>
        go_enter Tryz.func34, Tryz.ntmps34
        go_wp2_with (first
          | (go_at_call 65; (with_reducible refine (HC.out _).mono ?_); rintro e w1 ⟨rfl, B1⟩; have hw1 := below_on HA.out B1 HA.out.size; have s0 := HQ.out.1.later B1 HQ.out.1.lt; have s1 := HQ.out.2.later B1 HQ.out.2.lt; have k0 := s1.c0; have k1 := s1.c1)
          | (go_at_call 29; (with_reducible refine (HV.out _ hw1).mono ?_); rintro e w2 ⟨rfl, B2⟩; have hw2 := below_on hw1 B2 hw1.size; have t0 := s0.later B2 s0.lt; have t1 := s1.later B2 s1.lt; have k2 := t1.c0; have k3 := t1.c1; have g1 := t0.f0; have g2 := t0.f1; have g3 := t0.c0; have g4 := t0.c1)
          | (go_at_call 33; (with_reducible refine (HP.out _ hw2).mono ?_); rintro e w3 ⟨rfl, B3⟩; have hw3 := below_on hw2 B3 hw2.size; have u0 := t0.later B3 t0.lt; have u1 := t1.later B3 t1.lt; have k4 := u1.c0; have k5 := u1.c1; clear g1 g2 g3 g4; have g1 := u0.f0; have g2 := u0.f1; have g3 := u0.c0; have g4 := u0.c1))
        exact bodyPost_ret (results_row_tmp rfl _ _ w.heap.size 23 #[.string ⟨#[]⟩, .string ⟨#[]⟩] _ _ rfl (two_strs u0 ⟨#[]⟩ ⟨#[]⟩) Tryz.underlying23 rfl (by kernel_rfl)) rfl ⟨rfl, fin1 u0 hw3 (by omega) _ _⟩
      | true =>
        go_enter Tryz.func34, Tryz.ntmps34
        go_wp2_with (first
          | (go_at_call 65; (with_reducible refine (HC.out _).mono ?_); rintro e w1 ⟨rfl, B1⟩; have hw1 := below_on HA.out B1 HA.out.size; have s0 := HQ.out.1.later B1 HQ.out.1.lt; have s1 := HQ.out.2.later B1 HQ.out.2.lt; have k0 := s1.c0; have k1 := s1.c1)
          | (go_at_call 29; (with_reducible refine (HV.out _ hw1).mono ?_); rintro e w2 ⟨rfl, B2⟩; have hw2 := below_on hw1 B2 hw1.size; have t0 := s0.later B2 s0.lt; have t1 := s1.later B2 s1.lt; have k2 := t1.c0; have k3 := t1.c1; have g1 := t0.f0; have g2 := t0.f1; have g3 := t0.c0; have g4 := t0.c1)
          | (go_at_call 33; (with_reducible refine (HP.out _ hw2).mono ?_); rintro e w3 ⟨rfl, B3⟩; have hw3 := below_on hw2 B3 hw2.size; have u0 := t0.later B3 t0.lt; have u1 := t1.later B3 t1.lt; have k4 := u1.c0; have k5 := u1.c1; clear g1 g2 g3 g4; have g1 := u0.f0; have g2 := u0.f1; have g3 := u0.c0; have g4 := u0.c1))
        exact bodyPost_ret (results_row_tmp rfl _ _ w.heap.size 23 #[.string s, .string ⟨#[49]⟩] _ _ rfl (two_strs u0 s ⟨#[49]⟩) Tryz.underlying23 rfl (by kernel_rfl)) rfl ⟨rfl, fin1 u0 hw3 (by omega) _ _⟩
  · have HC := Lib.hid (fun (W : World) => cut_at s k hk (by omega) hi W)
    obtain ⟨rfl, rfl⟩ := Prod.mk.inj hND
    generalize s.extract 0 k = N at *
    generalize s.extract (k + 1) s.size = D at *
    clear hi hs hk hND
    cases v with
    | false =>
      clear hx hbne
      go_enter Tryz.func34, Tryz.ntmps34
      go_wp2_with (first
        | (go_at_call 65; (with_reducible refine (HC.out _).mono ?_); rintro e w0 ⟨rfl, B1⟩; have hw0 := below_on HA.out B1 HA.out.size; have r0 := HQ.out.1.later B1 HQ.out.1.lt; have r1 := HQ.out.2.later B1 HQ.out.2.lt; have h0 := r1.c0; have h1 := r1.c1; have h2 := r1.f0; have h3 := r1.f1; have hw1 := fin1 r1 hw0 (Nat.le_succ _) N D; have s1 := two_strs r1 N D; have s0 := far_strs r0 (Nat.succ_ne_self _) N D; have k0 := s1.c0; have k1 := s1.c1)
        | (go_at_call 29; (with_reducible refine (HV.out _ hw1).mono ?_); rintro e w2 ⟨rfl, B2⟩; have hw2 := below_on hw1 B2 hw1.size; have t0 := s0.later B2 s0.lt; have t1 := s1.later B2 s1.lt; have k2 := t1.c0; have k3 := t1.c1; have g1 := t0.f0; have g2 := t0.f1; have g3 := t0.c0; have g4 := t0.c1))
      exact bodyPost_ret (results_row_tmp rfl _ _ w.heap.size 23 #[.string ⟨#[]⟩, .string ⟨#[]⟩] _ _ rfl (two_strs t0 ⟨#[]⟩ ⟨#[]⟩) Tryz.underlying23 rfl (by kernel_rfl)) rfl ⟨rfl, fin1 t0 hw2 (by omega) _ _⟩
    | true =>
      cases x with
      | false =>
        go_enter Tryz.func34, Tryz.ntmps34
        go_wp2_with (first
          | (go_at_call 65; (with_reducible refine (HC.out _).mono ?_); rintro e w0 ⟨rfl, B1⟩; have hw0 := below_on HA.out B1 HA.out.size; have r0 := HQ.out.1.later B1 HQ.out.1.lt; have r1 := HQ.out.2.later B1 HQ.out.2.lt; have h0 := r1.c0; have h1 := r1.c1; have h2 := r1.f0; have h3 := r1.f1; have hw1 := fin1 r1 hw0 (Nat.le_succ _) N D; have s1 := two_strs r1 N D; have s0 := far_strs r0 (Nat.succ_ne_self _) N D; have k0 := s1.c0; have k1 := s1.c1)
          | (go_at_call 29; (with_reducible refine (HV.out _ hw1).mono ?_); rintro e w2 ⟨rfl, B2⟩; have hw2 := below_on hw1 B2 hw1.size; have t0 := s0.later B2 s0.lt; have t1 := s1.later B2 s1.lt; have k2 := t1.c0; have k3 := t1.c1; have g1 := t0.f0; have g2 := t0.f1; have g3 := t0.c0; have g4 := t0.c1)
          | (go_at_call 33; (with_reducible refine (HP.out _ hw2).mono ?_); rintro e w3 ⟨rfl, B3⟩; have hw3 := below_on hw2 B3 hw2.size; have u0 := t0.later B3 t0.lt; have u1 := t1.later B3 t1.lt; have k4 := u1.c0; have k5 := u1.c1; clear g1 g2 g3 g4; have g1 := u0.f0; have g2 := u0.f1; have g3 := u0.c0; have g4 := u0.c1))
        exact bodyPost_ret (results_row_tmp rfl _ _ w.heap.size 23 #[.string ⟨#[]⟩, .string ⟨#[]⟩] _ _ rfl (two_strs u0 ⟨#[]⟩ ⟨#[]⟩) Tryz.underlying23 rfl (by kernel_rfl)) rfl ⟨rfl, fin1 u0 hw3 (by omega) _ _⟩
      | true =>
        go_enter Tryz.func34, Tryz.ntmps34
        go_wp2_with (first
          | (go_at_call 65; (with_reducible refine (HC.out _).mono ?_); rintro e w0 ⟨rfl, B1⟩; have hw0 := below_on HA.out B1 HA.out.size; have r0 := HQ.out.1.later B1 HQ.out.1.lt; have r1 := HQ.out.2.later B1 HQ.out.2.lt; have h0 := r1.c0; have h1 := r1.c1; have h2 := r1.f0; have h3 := r1.f1; have hw1 := fin1 r1 hw0 (Nat.le_succ _) N D; have s1 := two_strs r1 N D; have s0 := far_strs r0 (Nat.succ_ne_self _) N D; have k0 := s1.c0; have k1 := s1.c1)
          | (go_at_call 29; (with_reducible refine (HV.out _ hw1).mono ?_); rintro e w2 ⟨rfl, B2⟩; have hw2 := below_on hw1 B2 hw1.size; have t0 := s0.later B2 s0.lt; have t1 := s1.later B2 s1.lt; have k2 := t1.c0; have k3 := t1.c1; have g1 := t0.f0; have g2 := t0.f1; have g3 := t0.c0; have g4 := t0.c1)
          | (go_at_call 33; (with_reducible refine (HP.out _ hw2).mono ?_); rintro e w3 ⟨rfl, B3⟩; have hw3 := below_on hw2 B3 hw2.size; have u0 := t0.later B3 t0.lt; have u1 := t1.later B3 t1.lt; have k4 := u1.c0; have k5 := u1.c1; clear g1 g2 g3 g4; have g1 := u0.f0; have g2 := u0.f1; have g3 := u0.c0; have g4 := u0.c1))
        exact bodyPost_ret (results_row_tmp rfl _ _ w.heap.size 23 #[.string N, .string D] _ _ rfl (two_strs u0 N D) Tryz.underlying23 rfl (by kernel_rfl)) rfl ⟨rfl, fin1 u0 hw3 (by omega) _ _⟩

end Go.Proofs.YtjkklgpbblkhaaaGreatDoor

/-
  Layer 4: the order of fractions.
-/
namespace Go.Proofs.YtjkklgpbblkhaaaGreatDoor
open Go.RowKit Bs Ig Qq

/-- a scope with a jump back to a label: what is shown of a pass serves the first one too -/
theorem wp_scope_back {P : Program} {a : Act} {w : World} {Q : Exit → Act → World → Prop} {c rest : Code} (l : Nat) (J : Act → World → Prop) (μ : Act → World → Nat) (hf : findLabel c l = some (Code.seq Code.skip rest))
    (pass : ∀ a w, J a w → rest.wp P (Exit.jump l (fun a' w' => J a' w' ∧ μ a' w' < μ a w) Q) a w)
    (first : (∀ a w, J a w → rest.wp P (Exit.jump l J Q) a w) → c.wp P (Exit.jump l J Q) a w) : (Code.scope c).wp P Q a w :=
  wp_scope_jumps l J μ hf (first fun a w h => Code.wp_mono (fun e a w hq => by
    cases e with
    | goto l' => exact ⟨hq.1, hq.2.1⟩
    | _ => exact hq) (pass a w h)) (fun a w h => wp_seq (wp_skip (pass a w h)))
theorem jump_ret {l : Nat} {J : Act → World → Prop} {Q : Exit → Act → World → Prop} {a : Act} {w : World} (h : Q .ret a w) : Exit.jump l J Q .ret a w := h
/-- the denominator in a box -/
noncomputable def denAt (W : World) (g : Nat) : Nat := match W.cell? ⟨g, 1, none⟩ with
  | some (.string s) => ((rd s).getD 0).toNat
  | _ => 0
theorem denAt_is {W : World} {g : Nat} {a : ByteArray} {d : Int} (h : IsB W g a (bs (Lib.itoa d))) (hd : d.natAbs < big) : denAt W g = d.toNat := by
  unfold denAt
  rw [h.c1]
  simp only [rd_some hd, Option.getD_some]
theorem eq0_T (z : Int) : ((bs (Lib.itoa z)).toList == [48]) = decide (z = 0) := by
  rw [bs_toList]
  by_cases h : z = 0
  · subst h
    rw [show Lib.itoa 0 = [48] from by rw [show (0 : Int) = ((0 : Nat) : Int) from rfl, itoa_nat, dec_small (by omega)]; rfl]; rfl
  · rw [decide_eq_false h]; exact itoa_zero z h
theorem cmpZ_sign (x y : Int) : cmpZ x y = Int.sign (x - y) := by
  unfold cmpZ
  rcases Int.lt_trichotomy x y with h | h | h
  · rw [if_pos h, Int.sign_eq_neg_one_of_neg (by omega)]
  · rw [if_neg (by omega), if_neg (by omega), h, Int.sub_self]; rfl
  · rw [if_neg (by omega), if_pos h, Int.sign_eq_one_of_pos (by omega)]

/-- where a pass of the comparison stands -/
structure Cm (w W : World) (R : Int) (x y : Int × Int) : Prop where
  px : 0 < x.2
  py : 0 < y.2
  b1 : x.1.natAbs < big
  b2 : x.2.natAbs < big
  b3 : y.1.natAbs < big
  b4 : y.2.natAbs < big
  val : cmpF x y = R
  r0 : IsB W w.heap.size (bs (Lib.itoa x.1)) (bs (Lib.itoa x.2))
  r1 : IsB W (w.heap.size + 1) (bs (Lib.itoa y.1)) (bs (Lib.itoa y.2))
  below : Below w.heap.size w W

set_option maxRecDepth 100000 in
set_option maxHeartbeats 8000000 in
theorem compare_x (a b c d : ByteArray) (x y : Int × Int) (w : World) (ht : TabP w) (h1 : validB a b = true) (h2 : validB c d = true) (R : Int)
    (hst : ∀ W, IsB W w.heap.size a b → IsB W (w.heap.size + 1) c d → Below w.heap.size w W → Cm w W R x y) :
    Calls Tryz.prog 20 #[.agg #[.string a, .string b], .agg #[.string c, .string d]] w fun e w' => e = .returned (.int .i64 R) ∧ Below w.heap.size w w' := by
  go_enter Tryz.func20, Tryz.ntmps20
  go_wp2_with fail
  refine wp_scope_back 0 (fun a' W => ∃ (x y : Int × Int) (u5 u6 u7 u8 u9 u10 u11 u12 u13 u14 u15 u16 u17 u18 u19 u20 u21 u22 u23 u24 u25 u26 u27 u28 u29 u30 u31 u32 u33 u34 u35 u36 u37 u38 u39 u40 u41 u42 u43 u44 u45 u46 u47 u48 u49 u50 u51 u52 u53 u54 u55 u56 u57 u58 u59 u60 : Value), a' = { tmps := #[.agg #[.string a, .string b], .agg #[.string c, .string d], .pointer (some ⟨w.heap.size, 0, none⟩), .pointer (some ⟨w.heap.size + 1, 0, none⟩), .int .i64 0, u5, u6, u7, u8, u9, u10, u11, u12, u13, u14, u15, u16, u17, u18, u19, u20, u21, u22, u23, u24, u25, u26, u27, u28, u29, u30, u31, u32, u33, u34, u35, u36, u37, u38, u39, u40, u41, u42, u43, u44, u45, u46, u47, u48, u49, u50, u51, u52, u53, u54, u55, u56, u57, u58, u59, u60], defers := [] } ∧ Cm w W R x y) (fun _ W => denAt W w.heap.size + denAt W (w.heap.size + 1)) rfl ?_ ?_
  · rintro a' W ⟨x, y, u5, u6, u7, u8, u9, u10, u11, u12, u13, u14, u15, u16, u17, u18, u19, u20, u21, u22, u23, u24, u25, u26, u27, u28, u29, u30, u31, u32, u33, u34, u35, u36, u37, u38, u39, u40, u41, u42, u43, u44, u45, u46, u47, u48, u49, u50, u51, u52, u53, u54, u55, u56, u57, u58, u59, u60, rfl, hc⟩
    have HT := Lib.hid (ht.later hc.below)
    have HC := Lib.hid hc
    have hD1 := fun (W' : World) (hb : Below W.heap.size W W') => Div_any x.1 x.2 hc.b1 hc.b2 (by have := hc.px; omega) W' (HT.out.later hb)
    have hD2 := fun (W' : World) (hb : Below W.heap.size W W') => Div_any y.1 y.2 hc.b3 hc.b4 (by have := hc.py; omega) W' (HT.out.later hb)
    obtain ⟨_, l1, m1⟩ := div_pos (n := x.1) hc.px
    obtain ⟨_, l2, m2⟩ := div_pos (n := y.1) hc.py
    have hq1 : (x.1 / x.2).natAbs < big := Nat.lt_of_le_of_lt (Int.natAbs_ediv_le_natAbs _ _) hc.b1
    have hq2 : (y.1 / y.2).natAbs < big := Nat.lt_of_le_of_lt (Int.natAbs_ediv_le_natAbs _ _) hc.b3
    have hr1 : (x.1 % x.2).natAbs < big := by have := hc.b2; omega
    have hr2 : (y.1 % y.2).natAbs < big := by have := hc.b4; omega
    have hK1 := fun (W' : World) => Compare_any (x.1 / x.2) (y.1 / y.2) hq1 hq2 W'
    have hK2 := fun (W' : World) => Compare_any (x.1 % x.2) (y.1 % y.2) hr1 hr2 W'
    have z1 := eq0_T (x.1 % x.2)
    have z2 := eq0_T (y.1 % y.2)
    have r0 := hc.r0
    have r1 := hc.r1
    obtain ⟨X1, hX1⟩ : ∃ X, bs (Lib.itoa x.1) = X := ⟨_, rfl⟩
    obtain ⟨X2, hX2⟩ : ∃ X, bs (Lib.itoa x.2) = X := ⟨_, rfl⟩
    obtain ⟨Y1, hY1⟩ : ∃ X, bs (Lib.itoa y.1) = X := ⟨_, rfl⟩
    obtain ⟨Y2, hY2⟩ : ∃ X, bs (Lib.itoa y.2) = X := ⟨_, rfl⟩
    obtain ⟨P1, hP1⟩ : ∃ X, bs (Lib.itoa (x.1 / x.2)) = X := ⟨_, rfl⟩
    obtain ⟨P2, hP2⟩ : ∃ X, bs (Lib.itoa (y.1 / y.2)) = X := ⟨_, rfl⟩
    obtain ⟨S1, hS1⟩ : ∃ X, bs (Lib.itoa (x.1 % x.2)) = X := ⟨_, rfl⟩
    obtain ⟨S2, hS2⟩ : ∃ X, bs (Lib.itoa (y.1 % y.2)) = X := ⟨_, rfl⟩
    rw [hX1, hX2] at r0
    rw [hY1, hY2] at r1
    rw [hX1, hX2, hP1, hS1] at hD1
    rw [hY1, hY2, hP2, hS2] at hD2
    rw [hP1, hP2] at hK1
    rw [hS1, hS2] at hK2
    rw [hS1] at z1
    rw [hS2] at z2
    have HD1 := Lib.hid hD1
    have HD2 := Lib.hid hD2
    have HK1 := Lib.hid hK1
    have HK2 := Lib.hid hK2
    have HE := Lib.hid (And.intro (And.intro hY2 hS2) (And.intro hX2 hS1))
    have HL := Lib.hid (And.intro (And.intro l1 m1) (And.intro l2 m2))
    have HQ := Lib.hid (And.intro hr1 hr2)
    have k0 := r0.c0
    have k1 := r0.c1
    have BW : Below W.heap.size W W := Below.refl _ _
    clear hD1 hD2 hK1 hK2 hX1 hX2 hY1 hY2 hP1 hP2 hS1 hS2 l1 m1 l2 m2 hq1 hq2 hr1 hr2 hst
    rcases Int.lt_trichotomy (x.1 / x.2) (y.1 / y.2) with hq | hq | hq
    · have hR : R = -1 := by rw [← hc.val]; exact cross_lt hc.px hc.py hq
      have e1 : cmpZ (x.1 / x.2) (y.1 / y.2) = -1 := if_pos hq
      rw [e1] at HK1
      subst hR
      clear hc hq e1 z1 z2
      go_wp2_with (first
        | (go_at_call 50; (with_reducible refine (HD1.out _ BW).mono ?_); rintro e w1 ⟨rfl, B1⟩; have s0 := r0.later B1 r0.lt; have s1 := r1.later B1 r1.lt; have k2 := s1.c0; have k3 := s1.c1)
        | (go_at_call 50; (with_reducible refine (HD2.out _ B1).mono ?_); rintro e w2 ⟨rfl, B2⟩; have B12 := below_on B1 B2 B1.size)
        | (go_at_call 51; (with_reducible refine (HK1.out _).mono ?_); rintro e w3 ⟨rfl, B3⟩; have B13 := below_on B12 B3 B12.size))
      exact jump_ret (bodyPost_ret (results_tmp rfl _ _ _) rfl ⟨rfl, below_on HC.out.below B13 HC.out.below.size⟩)
    · have e1 : cmpZ (x.1 / x.2) (y.1 / y.2) = 0 := by unfold cmpZ; rw [if_neg (by omega), if_neg (by omega)]
      rw [e1] at HK1
      have hnx : x.1 % x.2 ≠ 0 → y.1 % y.2 ≠ 0 → ∀ W', IsB W' w.heap.size Y2 S2 → IsB W' (w.heap.size + 1) X2 S1 → Below w.heap.size w W' → Cm w W' R (y.2, y.1 % y.2) (x.2, x.1 % x.2) ∧ denAt W' w.heap.size + denAt W' (w.heap.size + 1) < denAt W w.heap.size + denAt W (w.heap.size + 1) := by
        intro hx hy W' i0 i1 hb
        obtain ⟨⟨hY2, hS2⟩, hX2, hS1⟩ := HE.out
        obtain ⟨⟨l1, m1⟩, l2, m2⟩ := HL.out
        obtain ⟨hr1, hr2⟩ := HQ.out
        rw [← hY2, ← hS2] at i0
        rw [← hX2, ← hS1] at i1
        refine ⟨⟨by show 0 < y.1 % y.2; omega, by show 0 < x.1 % x.2; omega, hc.b4, hr2, hc.b2, hr1, ?_, i0, i1, hb⟩, ?_⟩
        · rw [← hc.val]; exact (cross_next hc.px hc.py hq).symm
        · rw [denAt_is i0 hr2, denAt_is i1 hr1, denAt_is hc.r0 hc.b2, denAt_is hc.r1 hc.b4]
          omega
      have Hnx := Lib.hid hnx
      obtain ⟨v1, hv1⟩ : ∃ v, decide (x.1 % x.2 = 0) = v := ⟨_, rfl⟩
      obtain ⟨v2, hv2⟩ : ∃ v, decide (y.1 % y.2 = 0) = v := ⟨_, rfl⟩
      rw [hv1] at z1
      rw [hv2] at z2
      have hz : (v1 = true ∨ v2 = true) → cmpZ (x.1 % x.2) (y.1 % y.2) = R := by
        intro h
        rw [cmpZ_sign, ← hc.val]
        refine (cross_zero hc.px hc.py hq ?_).symm
        rcases h with h | h
        · left; rw [h] at hv1; exact of_decide_eq_true hv1
        · right; rw [h] at hv2; exact of_decide_eq_true hv2
      have Hv := Lib.hid (And.intro hv1 hv2)
      have Hz := Lib.hid hz
      clear hc hq e1 hnx hz hv1 hv2
      cases v1 with
      | true =>
        rw [Hz.out (.inl rfl)] at HK2
        clear z2
        go_wp2_with (first
          | (go_at_call 50; (with_reducible refine (HD1.out _ BW).mono ?_); rintro e w1 ⟨rfl, B1⟩; have s0 := r0.later B1 r0.lt; have s1 := r1.later B1 r1.lt; have k2 := s1.c0; have k3 := s1.c1)
          | (go_at_call 50; (with_reducible refine (HD2.out _ B1).mono ?_); rintro e w2 ⟨rfl, B2⟩; have B12 := below_on B1 B2 B1.size; have t0 := s0.later B2 s0.lt; have t1 := s1.later B2 s1.lt)
          | (go_at_call 51; (with_reducible refine (HK1.out _).mono ?_); rintro e w3 ⟨rfl, B3⟩; have B13 := below_on B12 B3 B12.size; have p0 := t0.later B3 t0.lt; have p1 := t1.later B3 t1.lt; have n0 := p0.c1; have n1 := p1.c1; have n2 := p0.f0; have n3 := p0.f1; have n4 := p0.c0; have n5 := p1.c0; have n6 := p1.f0; have n7 := p1.f1)
          | (go_at_call 51; (with_reducible refine (HK2.out _).mono ?_); rintro e w4 ⟨rfl, B4⟩; have B14 := below_on B13 B4 B13.size))
        exact jump_ret (bodyPost_ret (results_tmp rfl _ _ _) rfl ⟨rfl, below_on HC.out.below B14 HC.out.below.size⟩)
      | false =>
        cases v2 with
        | true =>
          rw [Hz.out (.inr rfl)] at HK2
          go_wp2_with (first
            | (go_at_call 50; (with_reducible refine (HD1.out _ BW).mono ?_); rintro e w1 ⟨rfl, B1⟩; have s0 := r0.later B1 r0.lt; have s1 := r1.later B1 r1.lt; have k2 := s1.c0; have k3 := s1.c1)
            | (go_at_call 50; (with_reducible refine (HD2.out _ B1).mono ?_); rintro e w2 ⟨rfl, B2⟩; have B12 := below_on B1 B2 B1.size; have t0 := s0.later B2 s0.lt; have t1 := s1.later B2 s1.lt)
            | (go_at_call 51; (with_reducible refine (HK1.out _).mono ?_); rintro e w3 ⟨rfl, B3⟩; have B13 := below_on B12 B3 B12.size; have p0 := t0.later B3 t0.lt; have p1 := t1.later B3 t1.lt; have n0 := p0.c1; have n1 := p1.c1; have n2 := p0.f0; have n3 := p0.f1; have n4 := p0.c0; have n5 := p1.c0; have n6 := p1.f0; have n7 := p1.f1)
            | (go_at_call 51; (with_reducible refine (HK2.out _).mono ?_); rintro e w4 ⟨rfl, B4⟩; have B14 := below_on B13 B4 B13.size))
          exact jump_ret (bodyPost_ret (results_tmp rfl _ _ _) rfl ⟨rfl, below_on HC.out.below B14 HC.out.below.size⟩)
        | false =>
          go_wp2_with (first
            | (go_at_call 50; (with_reducible refine (HD1.out _ BW).mono ?_); rintro e w1 ⟨rfl, B1⟩; have s0 := r0.later B1 r0.lt; have s1 := r1.later B1 r1.lt; have k2 := s1.c0; have k3 := s1.c1)
            | (go_at_call 50; (with_reducible refine (HD2.out _ B1).mono ?_); rintro e w2 ⟨rfl, B2⟩; have B12 := below_on B1 B2 B1.size; have t0 := s0.later B2 s0.lt; have t1 := s1.later B2 s1.lt)
            | (go_at_call 51; (with_reducible refine (HK1.out _).mono ?_); rintro e w3 ⟨rfl, B3⟩; have B13 := below_on B12 B3 B12.size; have p0 := t0.later B3 t0.lt; have p1 := t1.later B3 t1.lt; have n0 := p0.c1; have n1 := p1.c1; have n2 := p0.f0; have n3 := p0.f1; have n4 := p0.c0; have n5 := p1.c0; have n6 := p1.f0; have n7 := p1.f1)
            | (go_at_call 51; (with_reducible refine (HK2.out _).mono ?_); rintro e w4 ⟨rfl, B4⟩; have B14 := below_on B13 B4 B13.size))
          have i0 : IsB _ w.heap.size Y2 S2 := far_strs (two_strs p0 Y2 S2) (Nat.succ_ne_self _) X2 S1
          have i1 : IsB _ (w.heap.size + 1) X2 S1 := two_strs (far_strs p1 (Nat.succ_ne_self _).symm Y2 S2) X2 S1
          obtain ⟨hC, hM⟩ := Hnx.out (of_decide_eq_false Hv.out.1) (of_decide_eq_false Hv.out.2) _ i0 i1 (fin1 (two_strs p1 X2 S1 |> fun _ => far_strs p1 (Nat.succ_ne_self _).symm Y2 S2) (fin1 p0 (below_on HC.out.below B13 HC.out.below.size) (Nat.le_refl _) Y2 S2) (by omega) X2 S1)
          first | exact wp_goto ⟨rfl, ⟨_, _, _, _, _, _, _, _, _, _, _, _, _, _, _, _, _, _, _, _, _, _, _, _, _, _, _, _, _, _, _, _, _, _, _, _, _, _, _, _, _, _, _, _, _, _, _, _, _, _, _, _, _, _, _, _, _, _, rfl, hC⟩, hM⟩ | exact wp_goto ⟨rfl, ⟨⟨_, _, _, _, _, _, _, _, _, _, _, _, _, _, _, _, _, _, _, _, _, _, _, _, _, _, _, _, _, _, _, _, _, _, _, _, _, _, _, _, _, _, _, _, _, _, _, _, _, _, _, _, _, _, _, _, rfl⟩, _, _, _, _, hC⟩, hM⟩
    · have hR : R = 1 := by rw [← hc.val]; exact cross_gt hc.px hc.py hq
      have e1 : cmpZ (x.1 / x.2) (y.1 / y.2) = 1 := by unfold cmpZ; rw [if_neg (by omega), if_pos hq]
      rw [e1] at HK1
      subst hR
      clear hc hq e1 z1 z2
      go_wp2_with (first
        | (go_at_call 50; (with_reducible refine (HD1.out _ BW).mono ?_); rintro e w1 ⟨rfl, B1⟩; have s0 := r0.later B1 r0.lt; have s1 := r1.later B1 r1.lt; have k2 := s1.c0; have k3 := s1.c1)
        | (go_at_call 50; (with_reducible refine (HD2.out _ B1).mono ?_); rintro e w2 ⟨rfl, B2⟩; have B12 := below_on B1 B2 B1.size)
        | (go_at_call 51; (with_reducible refine (HK1.out _).mono ?_); rintro e w3 ⟨rfl, B3⟩; have B13 := below_on B12 B3 B12.size))
      exact jump_ret (bodyPost_ret (results_tmp rfl _ _ _) rfl ⟨rfl, below_on HC.out.below B13 HC.out.below.size⟩)
  · intro hP
    obtain ⟨W0, hW0, hB, r0, r1⟩ : ∃ W, W = ((w.alloc (.cells #[.string a, .string b] 23)).alloc (.cells #[.string c, .string d] 23)) ∧ Below w.heap.size w W ∧ IsB W w.heap.size a b ∧ IsB W (w.heap.size + 1) c d :=
      ⟨_, rfl, ((Below.refl _ w).alloc (Nat.le_refl _) _).alloc (by simp) _, (IsB.new w a b).alloc _, IsB.new' _ _ _ _ (by simp)⟩
    rw [← hW0]
    have HP := Lib.hid hP
    have HV1 := Lib.hid (fun (W : World) (hb : Below w.heap.size w W) => by have h := qValid_any a b W (ht.later hb); rw [h1] at h; exact h)
    have HV2 := Lib.hid (fun (W : World) (hb : Below w.heap.size w W) => by have h := qValid_any c d W (ht.later hb); rw [h2] at h; exact h)
    have HS := Lib.hid hst
    have k0 := r0.c0
    have k1 := r0.c1
    clear hP hst hW0 ht
    go_wp2_with (first
      | (go_at_call 29; (with_reducible refine (HV2.out _ hw1).mono ?_); rintro e w2 ⟨rfl, B2⟩; have hw2 := below_on hw1 B2 hw1.size; have t0 := s0.later B2 s0.lt; have t1 := s1.later B2 s1.lt)
      | (go_at_call 29; (with_reducible refine (HV1.out _ hB).mono ?_); rintro e w1 ⟨rfl, B1⟩; have hw1 := below_on hB B1 hB.size; have s0 := r0.later B1 r0.lt; have s1 := r1.later B1 r1.lt; have k2 := s1.c0; have k3 := s1.c1))
    go_step3
    rename_i hK
    exact hK _ _ (HP.out _ _ ⟨x, y, _, _, _, _, _, _, _, _, _, _, _, _, _, _, _, _, _, _, _, _, _, _, _, _, _, _, _, _, _, _, _, _, _, _, _, _, _, _, _, _, _, _, _, _, _, _, _, _, _, _, _, _, _, _, _, _, rfl, HS.out _ t0 t1 hw2⟩)

end Go.Proofs.YtjkklgpbblkhaaaGreatDoor

/-
  Layer 4: what the laws' fixed examples answer.
-/
namespace Go.Proofs.YtjkklgpbblkhaaaGreatDoor
open Go.RowKit Bs Ig Qq

theorem T_m17 : T (-17) = ⟨#[45, 49, 55]⟩ := by unfold T; rw [show Lib.itoa (-17) = [45, 49, 55] from lit_neg [49, 55] 17 rfl (by decide) (by decide)]; rfl
theorem T_m5 : T (-5) = ⟨#[45, 53]⟩ := by unfold T; rw [show Lib.itoa (-5) = [45, 53] from lit_neg [53] 5 rfl (by decide) (by decide)]; rfl
theorem T_m4 : T (-4) = ⟨#[45, 52]⟩ := by unfold T; rw [show Lib.itoa (-4) = [45, 52] from lit_neg [52] 4 rfl (by decide) (by decide)]; rfl
theorem T_m3 : T (-3) = ⟨#[45, 51]⟩ := by unfold T; rw [show Lib.itoa (-3) = [45, 51] from lit_neg [51] 3 rfl (by decide) (by decide)]; rfl
theorem T_m2 : T (-2) = ⟨#[45, 50]⟩ := by unfold T; rw [show Lib.itoa (-2) = [45, 50] from lit_neg [50] 2 rfl (by decide) (by decide)]; rfl
theorem T_m1 : T (-1) = ⟨#[45, 49]⟩ := by unfold T; rw [show Lib.itoa (-1) = [45, 49] from lit_neg [49] 1 rfl (by decide) (by decide)]; rfl
theorem T_0 : T 0 = ⟨#[48]⟩ := T0
theorem T_1 : T 1 = ⟨#[49]⟩ := by unfold T; rw [show Lib.itoa 1 = [49] from lit_pos [49] 1 rfl (by decide) (by decide)]; rfl
theorem T_2 : T 2 = ⟨#[50]⟩ := by unfold T; rw [show Lib.itoa 2 = [50] from lit_pos [50] 2 rfl (by decide) (by decide)]; rfl
theorem T_3 : T 3 = ⟨#[51]⟩ := by unfold T; rw [show Lib.itoa 3 = [51] from lit_pos [51] 3 rfl (by decide) (by decide)]; rfl
theorem T_4 : T 4 = ⟨#[52]⟩ := by unfold T; rw [show Lib.itoa 4 = [52] from lit_pos [52] 4 rfl (by decide) (by decide)]; rfl
theorem T_5 : T 5 = ⟨#[53]⟩ := by unfold T; rw [show Lib.itoa 5 = [53] from lit_pos [53] 5 rfl (by decide) (by decide)]; rfl
theorem T_6 : T 6 = ⟨#[54]⟩ := by unfold T; rw [show Lib.itoa 6 = [54] from lit_pos [54] 6 rfl (by decide) (by decide)]; rfl
theorem T_17 : T 17 = ⟨#[49, 55]⟩ := by unfold T; rw [show Lib.itoa 17 = [49, 55] from lit_pos [49, 55] 17 rfl (by decide) (by decide)]; rfl
theorem T_50 : T 50 = ⟨#[53, 48]⟩ := by unfold T; rw [show Lib.itoa 50 = [53, 48] from lit_pos [53, 48] 50 rfl (by decide) (by decide)]; rfl
theorem T_33333 : T 33333 = ⟨#[51, 51, 51, 51, 51]⟩ := by unfold T; rw [show Lib.itoa 33333 = [51, 51, 51, 51, 51] from lit_pos [51, 51, 51, 51, 51] 33333 rfl (by decide) (by decide)]; rfl
theorem T_100000 : T 100000 = ⟨#[49, 48, 48, 48, 48, 48]⟩ := by unfold T; rw [show Lib.itoa 100000 = [49, 48, 48, 48, 48, 48] from lit_pos [49, 48, 48, 48, 48, 48] 100000 rfl (by decide) (by decide)]; rfl
theorem lt_bigQ (z : Int) (h : z.natAbs < 10000000000) : z.natAbs < big := Nat.lt_of_lt_of_le h big5_4
/-- a fraction of small numbers -/
theorem small_FV (n d : Int) (h1 : 0 < d) (h2 : Int.gcd n d = 1) (h3 : n.natAbs < 10000000000) (h4 : d.natAbs < 10000000000) : FV (n, d) := ⟨⟨h1, h2⟩, lt_bigQ n h3, lt_bigQ d h4⟩
theorem qcompare {p q : Int × Int} (hp : FV p) (hq : FV q) (w : World) (ht : TabP w) :
    Calls Tryz.prog 20 #[.agg #[.string (T p.1), .string (T p.2)], .agg #[.string (T q.1), .string (T q.2)]] w fun e w' => e = .returned (.int .i64 (cmpF p q)) ∧ Below w.heap.size w w' :=
  compare_x _ _ _ _ p q w ht (validB_T hp) (validB_T hq) _ fun _ r0 r1 hb => ⟨hp.pos, hq.pos, hp.b1, hp.b2, hq.b1, hq.b2, rfl, r0, r1, hb⟩

theorem q_of1 (w : World) (ht : TabP w) : Answers 31 #[.int .i64 6, .int .i64 (-4)] (⟨#[45, 51]⟩, ⟨#[50]⟩, 0) w := by
  have h := qOf_any 6 (-4) (by omega) (by omega) (by omega) (by omega) w ht
  rw [show makeQ (bs (Lib.itoa 6)) (bs (Lib.itoa (-4))) = okA (red 6 (-4)) from buildS_ok ((runS_ok (reduceS_T (lt_bigQ 6 (by decide)) (lt_bigQ (-4) (by decide)) (by decide))).trans rfl)] at h
  unfold okA at h
  rw [show red 6 (-4) = (-3, 2) by decide] at h
  simp only [T_m3, T_2] at h
  exact h
theorem q_of2 (w : World) (ht : TabP w) : Answers 31 #[.int .i64 0, .int .i64 (-5)] (⟨#[48]⟩, ⟨#[49]⟩, 0) w := by
  have h := qOf_any 0 (-5) (by omega) (by omega) (by omega) (by omega) w ht
  rw [show makeQ (bs (Lib.itoa 0)) (bs (Lib.itoa (-5))) = okA (red 0 (-5)) from buildS_ok ((runS_ok (reduceS_T (lt_bigQ 0 (by decide)) (lt_bigQ (-5) (by decide)) (by decide))).trans rfl)] at h
  unfold okA at h
  rw [show red 0 (-5) = (0, 1) by decide] at h
  simp only [T_0, T_1] at h
  exact h
theorem q_of3 (w : World) (ht : TabP w) : Answers 31 #[.int .i64 1, .int .i64 0] noA w := by
  have h := qOf_any 1 0 (by omega) (by omega) (by omega) (by omega) w ht
  rw [show makeQ (bs (Lib.itoa 1)) (bs (Lib.itoa 0)) = noA from buildS_no (runS_err (reduceS_0 _) (by decide)) (by decide)] at h
  exact h
theorem q_add (w : World) (ht : TabP w) : Answers 38 #[.agg #[.string ⟨#[49]⟩, .string ⟨#[50]⟩], .agg #[.string ⟨#[49]⟩, .string ⟨#[51]⟩]] (⟨#[53]⟩, ⟨#[54]⟩, 0) w := by
  have hp := small_FV (1) 2 (by decide) (by decide) (by decide) (by decide)
  have hq := small_FV (1) 3 (by decide) (by decide) (by decide) (by decide)
  have h := qAdd_any (T (1)) (T 2) (T (1)) (T 3) w ht
  rw [show addQ (T (1)) (T 2) (T (1)) (T 3) = okA (plus (1, 2) (1, 3)) from addQ_ok (p := (1, 2)) (q := (1, 3)) hp hq (lt_bigQ _ (by decide)) (lt_bigQ _ (by decide)) (lt_bigQ _ (by decide)) (lt_bigQ _ (by decide))] at h
  unfold okA at h
  rw [show plus (1, 2) (1, 3) = (5, 6) by decide] at h
  simp only [T_1, T_2, T_3, T_5, T_6] at h
  exact h
theorem q_div1 (w : World) (ht : TabP w) : Answers 45 #[.agg #[.string ⟨#[49]⟩, .string ⟨#[50]⟩], .agg #[.string ⟨#[45, 49]⟩, .string ⟨#[52]⟩]] (⟨#[45, 50]⟩, ⟨#[49]⟩, 0) w := by
  have hp := small_FV (1) 2 (by decide) (by decide) (by decide) (by decide)
  have hq := small_FV (-1) 4 (by decide) (by decide) (by decide) (by decide)
  have h := qDiv_any (T (1)) (T 2) (T (-1)) (T 4) w ht
  rw [show divQ (T (1)) (T 2) (T (-1)) (T 4) = okA (over (1, 2) (-1, 4)) from divQ_ok (p := (1, 2)) (q := (-1, 4)) hp hq (by decide) (lt_bigQ _ (by decide)) (lt_bigQ _ (by decide))] at h
  unfold okA at h
  rw [show over (1, 2) (-1, 4) = (-2, 1) by decide] at h
  simp only [T_1, T_2, T_4, T_m1, T_m2] at h
  exact h
theorem q_div2 (w : World) (ht : TabP w) : Answers 45 #[.agg #[.string ⟨#[49]⟩, .string ⟨#[49]⟩], .agg #[.string ⟨#[48]⟩, .string ⟨#[49]⟩]] noA w := by
  have hp := small_FV (1) 1 (by decide) (by decide) (by decide) (by decide)
  have hq := small_FV (0) 1 (by decide) (by decide) (by decide) (by decide)
  have h := qDiv_any (T (1)) (T 1) (T (0)) (T 1) w ht
  rw [show divQ (T (1)) (T 1) (T (0)) (T 1) = noA from divQ_no (p := (1, 1)) (q := (0, 1)) hp hq (by simp)] at h
  simp only [T_0, T_1] at h
  exact h
theorem q_down (w : World) (ht : TabP w) : Answers 23 #[.agg #[.string ⟨#[45, 49]⟩, .string ⟨#[51]⟩], .int .i64 2] (⟨#[45, 49, 55]⟩, ⟨#[53, 48]⟩, 0) w := by
  have hp := small_FV (-1) 3 (by decide) (by decide) (by decide) (by decide)
  have h := qDown_any (T (-1)) (T 3) 2 w ht
  rw [show downQ (T (-1)) (T 3) 2 = okA (red (-34) 100) from (if_pos (by decide)).trans (roundQ_ok (p := (-1, 3)) hp (m := 2) (t := 100) (tq_T 2) (by decide) (lt_bigQ _ (by decide)) (lt_bigQ _ (by decide)) (floorS_T (lt_bigQ _ (by decide)) hp.b2 (by decide)) (lt_bigQ _ (by decide)))] at h
  unfold okA at h
  rw [show red (-34) 100 = (-17, 50) by decide] at h
  simp only [T_3, T_50, T_m1, T_m17] at h
  exact h
theorem q_up (w : World) (ht : TabP w) : Answers 25 #[.agg #[.string ⟨#[49]⟩, .string ⟨#[51]⟩], .int .i64 2] (⟨#[49, 55]⟩, ⟨#[53, 48]⟩, 0) w := by
  have hp := small_FV (1) 3 (by decide) (by decide) (by decide) (by decide)
  have h := qUp_any (T (1)) (T 3) 2 w ht
  rw [show upQ (T (1)) (T 3) 2 = okA (red (34) 100) from (if_pos (by decide)).trans (roundQ_ok (p := (1, 3)) hp (m := 2) (t := 100) (tq_T 2) (by decide) (lt_bigQ _ (by decide)) (lt_bigQ _ (by decide)) ((ceilS_T (lt_bigQ _ (by decide)) hp.b2 (by decide)).trans (wrS_ok (lt_bigQ _ (by decide)))) (lt_bigQ _ (by decide)))] at h
  unfold okA at h
  rw [show red (34) 100 = (17, 50) by decide] at h
  simp only [T_1, T_17, T_3, T_50] at h
  exact h
theorem val_s1 : validB ⟨#[45, 51]⟩ ⟨#[50]⟩ = true := by
  have h := validB_T (small_FV (-3) 2 (by decide) (by decide) (by decide) (by decide))
  simp only [T_m3, T_2] at h
  exact h
theorem val_s2 : validB ⟨#[54]⟩ ⟨#[52]⟩ = false := by
  unfold validB
  rw [← T_6, ← T_4, gcdS_T (lt_bigQ 6 (by decide)) (lt_bigQ 4 (by decide)), T_eq1]
  rfl
theorem val_s3 : validB ⟨#[]⟩ ⟨#[]⟩ = false := by
  unfold validB gcdS onS
  rw [show rd ⟨#[]⟩ = none from rd_no no_e]
  rfl
theorem pr_s1 : printQ ⟨#[45, 51]⟩ ⟨#[50]⟩ = ⟨#[45, 51, 47, 50]⟩ := by
  unfold printQ
  rw [if_pos val_s1, if_neg (by rw [show (⟨#[50]⟩ : ByteArray) = bs [50] from rfl, bs_toList]; decide)]
  rfl
theorem q_parse1 (w : World) (ht : TabP w) : Answers 34 #[.string ⟨#[45, 51, 47, 50]⟩] (⟨#[45, 51]⟩, ⟨#[50]⟩, 0) w := by
  have h := parse_any4 ⟨#[45, 51, 47, 50]⟩ (by decide) w ht
  have e : splitQ ⟨#[45, 51, 47, 50]⟩ = (⟨#[45, 51]⟩, ⟨#[50]⟩) := by decide +kernel
  rw [show parseQ ⟨#[45, 51, 47, 50]⟩ = (⟨#[45, 51]⟩, ⟨#[50]⟩, 0) from by unfold parseQ; rw [e]; exact (if_pos val_s1).trans (if_pos (by rw [pr_s1]; exact beq_self_eq_true _))] at h
  exact h
theorem q_parse2 (w : World) (ht : TabP w) : Answers 34 #[.string ⟨#[54, 47, 52]⟩] noA w := by
  have h := parse_any4 ⟨#[54, 47, 52]⟩ (by decide) w ht
  have e : splitQ ⟨#[54, 47, 52]⟩ = (⟨#[54]⟩, ⟨#[52]⟩) := by decide +kernel
  rw [show parseQ ⟨#[54, 47, 52]⟩ = noA from by unfold parseQ; rw [e]; exact if_neg (by rw [val_s2]; decide)] at h
  exact h
theorem q_print (w : World) (ht : TabP w) : Calls Tryz.prog 33 #[.agg #[.string ⟨#[45, 51]⟩, .string ⟨#[50]⟩]] w fun e w' => e = .returned (.string ⟨#[45, 51, 47, 50]⟩) ∧ Below w.heap.size w w' := by
  have h := qPrint_any ⟨#[45, 51]⟩ ⟨#[50]⟩ (by decide) (by decide) w ht
  rw [pr_s1] at h
  exact h
theorem q_cmp4 (w : World) (ht : TabP w) : Calls Tryz.prog 20 #[.agg #[.string ⟨#[49]⟩, .string ⟨#[51]⟩], .agg #[.string ⟨#[51, 51, 51, 51, 51]⟩, .string ⟨#[49, 48, 48, 48, 48, 48]⟩]] w fun e w' => e = .returned (.int .i64 1) ∧ Below w.heap.size w w' := by
  have h := qcompare (small_FV 1 3 (by decide) (by decide) (by decide) (by decide)) (small_FV 33333 100000 (by decide) (by decide) (by decide) (by decide)) w ht
  rw [show cmpF (1, 3) (33333, 100000) = 1 by decide] at h
  simp only [T_1, T_3, T_33333, T_100000] at h
  exact h
theorem q_val1 (w : World) (ht : TabP w) : Calls Tryz.prog 29 #[.agg #[.string ⟨#[45, 51]⟩, .string ⟨#[50]⟩]] w fun e w' => e = .returned (.bool true) ∧ Below w.heap.size w w' := by
  have h := qValid_any ⟨#[45, 51]⟩ ⟨#[50]⟩ w ht
  rw [val_s1] at h
  exact h
theorem q_val2 (w : World) (ht : TabP w) : Calls Tryz.prog 29 #[.agg #[.string ⟨#[]⟩, .string ⟨#[]⟩]] w fun e w' => e = .returned (.bool false) ∧ Below w.heap.size w w' := by
  have h := qValid_any ⟨#[]⟩ ⟨#[]⟩ w ht
  rw [val_s3] at h
  exact h

end Go.Proofs.YtjkklgpbblkhaaaGreatDoor
