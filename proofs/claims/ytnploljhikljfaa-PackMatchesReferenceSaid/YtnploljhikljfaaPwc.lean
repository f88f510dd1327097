/-
  Package pack: the pieces of a string, one after the other (divided): the loop.
-/
import Derived.Test.YtnploljhikljfaaPwb
namespace Go.Proofs.Ytnploljhikljfaa
open Go.RowKit Bs Pk
attribute [local go_sem] Oper.semAt_some

/-- the place, out of its cell -/
def placeOf (b : Nat) (W : World) : Nat := match W.cell? ⟨b, 0, none⟩ with
  | some (.int _ z) => z.toNat
  | _ => 0
theorem It.placeOf {W : World} {n0 gb g l c : Nat} {L : List Nat} {start place : Nat} (h : It W n0 gb g l c L start place) : placeOf (n0 + 2) W = place := by
  have := h.pl.get 0 (by simp)
  simp only [List.getD_cons_zero] at this
  unfold Go.Proofs.Ytnploljhikljfaa.placeOf; rw [this]; simp

set_option maxRecDepth 100000 in
set_option maxHeartbeats 1000000 in
theorem divided1_in (l n0 gb g c : Nat) (L : List Nat) (S : Nat → Prop) (hS : S gb ∧ S g) (J Jx : Nat → World → Prop) (hR : Rnds S l n0 g (div L 0 0) J Jx) (hL : L.length ≤ 1000000)
    (W : World) (hW : W.heap.size = n0) (hgb : W.cell? ⟨gb, 0, none⟩ = some (.slice (some ⟨g, 0, none⟩) L.length c)) (hg : Sl W g L c) (h0 : J 0 W) :
    CallsIn Fence.wide (3 - 1) Try.prog 25 #[.func (.yield l) #[] #[], .pointer (some ⟨gb, 0, none⟩)] W fun e W' =>
      (∃ v, e = .returned v) ∧ (J (div L 0 0).length W' ∨ ∃ k, Jx k W') := by
  have hYR := fun m start place hp W hI k k' hx hJ => yieldRun_in m n0 gb g l c L start place hp hL W hI S hS (div L 0 0) J Jx hR k k' hx hJ
  have hBM := fun p hp W hs => bestMatch_any g c L p hp hL W hs
  obtain ⟨xs, hxs⟩ : ∃ xs, div L 0 0 = xs := ⟨_, rfl⟩
  have HX := Lib.hid hxs
  rw [hxs] at hYR hR ⊢
  clear hxs
  refine callsIn_of_wp Try.func25 rfl trivial ?_ rfl
  simp only [Try.ntmps25, List.size_toArray, List.length_cons, List.length_nil, Nat.reduceAdd, Nat.reduceSub, Array.replicate_succ, Array.replicate_zero, List.push_toArray, List.append_toArray, List.nil_append, List.cons_append]
  gi_wp2
  refine wpIn_world fun W1 hW1 => ?_
  have hI0 : It W1 n0 gb g l c L 0 0 := by
    have hb : Below n0 W W1 := by rw [hW1, ← hW]; exact (((Below.refl _ W).alloc (Nat.le_refl _) _).alloc (by rw [World.size_alloc]; omega) _).alloc (by rw [World.size_alloc, World.size_alloc]; omega) _
    have hgb0 := block_lt_of_cell hgb
    have hg0 := hg.lt
    refine ⟨(hb.cell (p := ⟨gb, 0, none⟩) (by show gb < n0; rw [← hW]; exact hgb0)).trans hgb, by rw [← hW]; exact hgb0, by rw [← hW]; exact hg0, hg.below hb (by rw [← hW]; exact hg0), ?_, ?_, ?_⟩
    · rw [hW1, ← hW, cell_of_row _ _ 0 _ _ _ ((heap_alloc_old _ _ _ (by rw [World.size_alloc, World.size_alloc]; omega)).trans ((heap_alloc_old _ _ _ (by rw [World.size_alloc]; omega)).trans (heap_alloc_new W _)))]; rfl
    · refine ⟨?_⟩
      rw [hW1, ← hW]
      refine (heap_alloc_old _ _ _ (by rw [World.size_alloc, World.size_alloc]; omega)).trans ?_
      have := heap_alloc_new (W.alloc (Obj.cells #[Value.func (Fn.yield l) #[] #[]] 52)) (Obj.cells #[Value.int IntKind.i64 0] 3)
      rw [World.size_alloc] at this
      exact this
    · refine ⟨?_⟩
      rw [hW1, ← hW]
      have := heap_alloc_new ((W.alloc (Obj.cells #[Value.func (Fn.yield l) #[] #[]] 52)).alloc (Obj.cells #[Value.int IntKind.i64 0] 3)) (Obj.cells #[Value.int IntKind.i64 0] 3)
      rw [World.size_alloc, World.size_alloc] at this
      exact this
  have hJ0 : J 0 W1 := hR.hJ _ _ _ h0 (by rw [hW1, ← hW]; exact (((Below.refl _ W).alloc (Nat.le_refl _) _).alloc (by rw [World.size_alloc]; omega) _).alloc (by rw [World.size_alloc, World.size_alloc]; omega) _)
  clear hW1 h0 hgb hg
  rw [show n0 + 1 + 1 = n0 + 2 from rfl]
  gi_loopw [6] (fun _ wr => ∃ start place k, start ≤ place ∧ place ≤ L.length ∧ place - start < 128 ∧ It wr n0 gb g l c L start place ∧ xs.drop k = div L start place ∧ J k wr ∧ k ≤ xs.length) (fun _ wr => L.length - placeOf (n0 + 2) wr)
  case atStart => exact ⟨0, 0, 0, Nat.le_refl _, Nat.zero_le _, by omega, hI0, by rw [HX.out]; rfl, hJ0, Nat.zero_le _⟩
  case round =>
    clear hI0 hJ0
    obtain ⟨start, place, k, h1, h2, h3, hI, hd, hJ, hkl⟩ := hrel
    rw [hI.placeOf]
    have c1 := hI.box
    have c2 := hI.pl.get 0 (by simp)
    have c3 := hI.st.get 0 (by simp)
    simp only [List.getD_cons_zero] at c2 c3
    have f1 := hI.st.free 0
    have f2 := hI.pl.free 0
    have s2 := hI.pl.lt
    have HI := Lib.hid hI
    have HJ := Lib.hid hJ
    have HYR := Lib.hid hYR
    have HBM := Lib.hid (hBM place h2)
    have HR := Lib.hid hR
    have HS := Lib.hid hS
    clear hI hJ hYR hBM hR hS
    obtain ⟨b1, hb1⟩ : ∃ b1, n0 + 1 = b1 := ⟨_, rfl⟩
    obtain ⟨b2, hb2⟩ : ∃ b2, n0 + 2 = b2 := ⟨_, rfl⟩
    have hn1 : n0 < b1 := by omega
    have hn2 : b1 < b2 := by omega
    have HB1 := Lib.hid hb1
    have HB2 := Lib.hid hb2
    rw [hb1] at c3 f1 HYR ⊢
    rw [hb2] at c2 f2 s2 HYR ⊢
    obtain ⟨n, hn⟩ : ∃ n, L.length = n := ⟨_, rfl⟩
    have HN := Lib.hid hn
    rw [hn] at c1 h2 hL HBM ⊢
    clear hb1 hb2 hn hW
    rcases Nat.lt_or_ge place n with g1 | g1
    · have d1 : decide ((place : Int) < (n : Int)) = true := decide_eq_true (by omega)
      obtain ⟨B, hB⟩ : ∃ B, best L place = B := ⟨_, rfl⟩
      obtain ⟨B1, D1⟩ := B
      have hBle := best_le L place
      have hBro := best_room L place (by rw [HN.out]; omega)
      have HBD := Lib.hid hB
      rw [hB] at HBM hBle hBro
      simp only at HBM hBle hBro
      rw [HN.out] at hBro
      by_cases g2 : 4 ≤ B1
      · have d2 : decide (4 ≤ (B1 : Int)) = true := decide_eq_true (by omega)
        have hdc := div_copy L start place (by rw [HN.out]; exact g1) (by rw [hB]; exact g2)
        rw [hB] at hdc
        simp only at hdc
        rw [hdc] at hd
        obtain ⟨k', hx, hk', hxk, hdk⟩ : ∃ k', ((start = place ∧ k' = k) ∨ (start < place ∧ k' = k + 1 ∧ ∃ hk : k < xs.length, xs[k] = .run start (place - start))) ∧ ∃ hk' : k' < xs.length, xs[k'] = .copy B1 D1 ∧ xs.drop (k' + 1) = div L (place + B1) (place + B1) := by
          rcases Nat.lt_or_ge start place with hsp | hsp
          · rw [if_pos hsp] at hd
            obtain ⟨hk, hx, hd2⟩ := drop_cons hd
            obtain ⟨hk2, hx2, hd3⟩ := drop_cons hd2
            exact ⟨k + 1, .inr ⟨hsp, rfl, hk, hx⟩, hk2, hx2, hd3⟩
          · rw [if_neg (by omega)] at hd
            obtain ⟨hk, hx, hd2⟩ := drop_cons hd
            exact ⟨k, .inl ⟨by omega, rfl⟩, hk, hx, hd2⟩
        have HD := Lib.hid hdk
        have HXX := Lib.hid hx
        have HXK := Lib.hid (And.intro hk' hxk)
        clear hd hdc hx hdk hB
        gi_wp2_with (refine ⟨trivial, ?_⟩; gi_at_call 27; refine (callsIn_wide.2 (HBM.out _ HI.out.sl)).mono ?_; rintro e w1 ⟨rfl, hB1⟩; replace HJ := Lib.hid (HR.out.hJ _ _ _ HJ.out (hB1.mono (by have := HI.out.pl.lt; omega))); replace HI := Lib.hid (HI.out.later hB1); clear hB1 c1 c2 c3 f1 f2 s2)
        refine ⟨trivial, (HYR.out _ _ _ (by rw [HN.out]; exact h2) _ HI.out _ _ HXX.out HJ.out).mono ?_⟩
        rintro e w2 (⟨rfl, hI2, hJ2⟩ | ⟨rfl, hJx2⟩)
        · obtain ⟨fn, tmps, assign, body, hy, hRd⟩ := HR.out.hY (3 - 1 - 1) k' _ HXK.out.1 hJ2
          rw [HXK.out.2] at hy
          have hpcv : pcV g (.copy B1 D1) = .agg #[.slice none 0 0, .int .i64 (B1 : Int), .int .i64 (D1 : Int)] := rfl
          rw [hpcv] at hy
          replace hRd := Lib.hid hRd
          have c4 := hI2.y
          have HI2 := Lib.hid hI2
          clear hpcv HI HJ hI2 hJ2
          gi_wp2
          refine hRd.out.mono ?_
          rintro e w3 (⟨rfl, hJ3, hab⟩ | ⟨rfl, hJx3⟩)
          · have hI3 := HI2.out.above HS.out hab
            have c5 := hI3.pl.get 0 (by simp)
            simp only [List.getD_cons_zero] at c5
            have f5 := hI3.pl.free 0
            have f6 := hI3.st.free 0
            have s5 := hI3.pl.lt
            have s6 := hI3.st.lt
            rw [HB1.out] at f6 s6
            rw [HB2.out] at c5 f5 s5
            have hw1 : IntKind.i64.wrap ((place : Int) + (B1 : Int)) = ((place + B1 : Nat) : Int) := by rw [IntKind.wrap_i64]; omega
            obtain ⟨P1, hP1⟩ : ∃ P1, place + B1 = P1 := ⟨_, rfl⟩
            rw [hP1] at hw1
            have HP1 := Lib.hid hP1
            have hI35 := hI3.place (P1 : Int) P1 rfl
            have f7 := hI35.st.free 0
            have c7 := hI35.st.get 0 (by simp)
            have s7 := hI35.st.lt
            have c8 := hI35.pl.get 0 (by simp)
            simp only [List.getD_cons_zero] at c7 c8
            rw [HB1.out, HB2.out] at f7 c7 s7
            rw [HB2.out] at c8
            have hI4 := hI35.start (P1 : Int) P1 rfl
            have hJ4 := HR.out.hJ _ _ _ hJ3 (((Below.refl n0 w3).setCell (p := ⟨n0 + 2, 0, none⟩) (by show n0 ≤ n0 + 2; omega) (.int .i64 (P1 : Int))).setCell (p := ⟨n0 + 1, 0, none⟩) (by show n0 ≤ n0 + 1; omega) (.int .i64 (P1 : Int)))
            have HI4 := Lib.hid (And.intro hI4 hJ4)
            rw [HB1.out, HB2.out] at HI4
            clear hI3 hI35 hI4 hJ4 hP1 HI2 hJ3 hab
            gi_wp2
            refine ⟨⟨P1, P1, k' + 1, Nat.le_refl _, by have := HP1.out; omega, by omega, HI4.out.1, by rw [HD.out, HP1.out], HI4.out.2, HXK.out.1⟩, ?_⟩
            have hpl := HI4.out.1.placeOf
            rw [HB2.out] at hpl
            rw [hpl]
            have := HP1.out; omega
          · gi_wp2
            refine bodyPost_ret (results_none rfl _ _ _) rfl ?_
            exact ⟨⟨_, rfl⟩, .inr ⟨_, hJx3⟩⟩
        · gi_wp2_with (refine wpListIn_skip rfl rfl ?_)
          refine bodyPost_ret (results_none rfl _ _ _) rfl ?_
          exact ⟨⟨_, rfl⟩, .inr ⟨_, hJx2⟩⟩
      · have d2 : decide (4 ≤ (B1 : Int)) = false := decide_eq_false (by omega)
        have hw1 : IntKind.i64.wrap ((place : Int) + 1) = ((place + 1 : Nat) : Int) := by rw [IntKind.wrap_i64]; omega
        obtain ⟨P1, hP1⟩ : ∃ P1, place + 1 = P1 := ⟨_, rfl⟩
        rw [hP1] at hw1
        have hw2 : IntKind.i64.wrap ((P1 : Int) - (start : Int)) = ((P1 - start : Nat) : Int) := by rw [IntKind.wrap_i64]; omega
        obtain ⟨q, hq⟩ : ∃ q, P1 - start = q := ⟨_, rfl⟩
        rw [hq] at hw2
        have HP1 := Lib.hid hP1
        have HQ := Lib.hid hq
        have hq0 : P1 ≤ n := by omega
        have hq1 : start < P1 := by omega
        have hq2 : place < P1 := by omega
        by_cases g3 : q = 128
        · have hdc := div_full L start place (by rw [HN.out]; exact g1) (by rw [hB]; exact g2) (by omega)
          rw [hdc] at hd
          obtain ⟨hk, hx, hdk⟩ := drop_cons hd
          have HD := Lib.hid hdk
          have HXX := Lib.hid (And.intro hk hx)
          have d3 : decide ((q : Int) = 128) = true := decide_eq_true (by omega)
          have d4 : ((q : Int) == 128) = true := by rw [beq_iff_eq]; omega
          clear hd hdc hx hdk hB hP1 hq
          gi_wp2_with (refine ⟨trivial, ?_⟩; gi_at_call 27; refine (callsIn_wide.2 (HBM.out _ HI.out.sl)).mono ?_; rintro e w1 ⟨rfl, hB1⟩; replace HJ := Lib.hid (HR.out.hJ _ _ _ HJ.out (hB1.mono (by have := HI.out.pl.lt; omega))); replace HI := Lib.hid (HI.out.later hB1); clear hB1 c1 c2 c3 f1 f2 s2; have hI2 := HI.out.place (P1 : Int) P1 rfl; have c2 := HI.out.pl.get 0 (by simp); have c3 := HI.out.st.get 0 (by simp); have f2 := HI.out.pl.free 0; have s2 := HI.out.pl.lt; have c5 := hI2.pl.get 0 (by simp); have c6 := hI2.st.get 0 (by simp); simp only [List.getD_cons_zero] at c2 c3 c5 c6; replace HJ := Lib.hid (HR.out.hJ _ _ _ HJ.out ((Below.refl n0 w1).setCell (p := ⟨n0 + 2, 0, none⟩) (by show n0 ≤ n0 + 2; omega) (.int .i64 (P1 : Int)))); rw [HB2.out] at c2 f2 s2 c5 c6 HJ; rw [HB1.out] at c3 c6; replace HI := Lib.hid hI2; rw [HB2.out] at HI; clear hI2)
          refine ⟨trivial, (HYR.out _ _ _ (by rw [HN.out]; exact hq0) _ HI.out k (k + 1) (.inr ⟨hq1, rfl, HXX.out.1, by rw [HXX.out.2, HQ.out, g3]⟩) HJ.out).mono ?_⟩
          rintro e w2 (⟨rfl, hI2, hJ2⟩ | ⟨rfl, hJx2⟩)
          · gi_wp2
            refine ⟨⟨P1, P1, k + 1, Nat.le_refl _, hq0, by omega, hI2, by rw [HD.out, HP1.out], hJ2, HXX.out.1⟩, ?_⟩
            have hpl := hI2.placeOf
            rw [HB2.out] at hpl
            rw [hpl]
            omega
          · gi_wp2
            refine bodyPost_ret (results_none rfl _ _ _) rfl ?_
            exact ⟨⟨_, rfl⟩, .inr ⟨_, hJx2⟩⟩
        · have hdc := div_next L start place (by rw [HN.out]; exact g1) (by rw [hB]; exact g2) (by omega)
          rw [hdc] at hd
          have HD := Lib.hid hd
          have d3 : decide ((q : Int) = 128) = false := decide_eq_false (by omega)
          have d4 : ((q : Int) == 128) = false := by rw [beq_eq_false_iff_ne]; omega
          clear hd hdc hB hP1 hq
          gi_wp2_with (first | (refine wpListIn_skip rfl rfl ?_) | (refine ⟨trivial, ?_⟩; gi_at_call 27; refine (callsIn_wide.2 (HBM.out _ HI.out.sl)).mono ?_; rintro e w1 ⟨rfl, hB1⟩; replace HJ := Lib.hid (HR.out.hJ _ _ _ HJ.out (hB1.mono (by have := HI.out.pl.lt; omega))); replace HI := Lib.hid (HI.out.later hB1); clear hB1 c1 c2 c3 f1 f2 s2; have hI2 := HI.out.place (P1 : Int) P1 rfl; have c2 := HI.out.pl.get 0 (by simp); have c3 := HI.out.st.get 0 (by simp); have f2 := HI.out.pl.free 0; have s2 := HI.out.pl.lt; have c5 := hI2.pl.get 0 (by simp); have c6 := hI2.st.get 0 (by simp); simp only [List.getD_cons_zero] at c2 c3 c5 c6; replace HJ := Lib.hid (HR.out.hJ _ _ _ HJ.out ((Below.refl n0 w1).setCell (p := ⟨n0 + 2, 0, none⟩) (by show n0 ≤ n0 + 2; omega) (.int .i64 (P1 : Int)))); rw [HB2.out] at c2 f2 s2 c5 c6 HJ; rw [HB1.out] at c3 c6; replace HI := Lib.hid hI2; rw [HB2.out] at HI; clear hI2))
          refine ⟨⟨start, P1, k, by omega, hq0, by have := HQ.out; have := HP1.out; omega, HI.out, by rw [HD.out, HP1.out], HJ.out, hkl⟩, ?_⟩
          have hpl := HI.out.placeOf
          rw [HB2.out] at hpl
          rw [hpl]
          omega
    · have d1 : decide ((place : Int) < (n : Int)) = false := decide_eq_false (by omega)
      obtain rfl : place = n := by omega
      rw [div_end L start place (by rw [HN.out]; omega)] at hd
      obtain ⟨k', hx, hk'⟩ : ∃ k', ((start = place ∧ k' = k) ∨ (start < place ∧ k' = k + 1 ∧ ∃ hk : k < xs.length, xs[k] = .run start (place - start))) ∧ k' = xs.length := by
        rcases Nat.lt_or_ge start place with hsp | hsp
        · rw [if_pos hsp] at hd
          obtain ⟨hk, hx, hd2⟩ := drop_cons hd
          have := congrArg List.length hd2
          rw [List.length_drop, List.length_nil] at this
          exact ⟨k + 1, .inr ⟨hsp, rfl, hk, hx⟩, by omega⟩
        · rw [if_neg (by omega)] at hd
          have := congrArg List.length hd
          rw [List.length_drop, List.length_nil] at this
          exact ⟨k, .inl ⟨by omega, rfl⟩, by omega⟩
      have HXX := Lib.hid hx
      have HK := Lib.hid hk'
      clear hd hx hk'
      gi_wp2_with (fail)
      refine ⟨trivial, (HYR.out _ _ _ (by rw [HN.out]; exact Nat.le_refl _) _ HI.out _ _ HXX.out HJ.out).mono ?_⟩
      rintro e w2 (⟨rfl, hI2, hJ2⟩ | ⟨rfl, hJx2⟩)
      · gi_wp2
        go_end0
        exact ⟨⟨_, rfl⟩, .inl (by rw [← HK.out]; exact hJ2)⟩
      · gi_wp2
        go_end0
        exact ⟨⟨_, rfl⟩, .inr ⟨_, hJx2⟩⟩

end Go.Proofs.Ytnploljhikljfaa
