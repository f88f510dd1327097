/-
  Put together by program out of these texts, in this order: Rdv, Ihm, Qma.
-/
import Derived.Test.YtjkklgpbblkhaaaGreatDoorZCaRTa11
import Derived.Laws.OwnMore
import Derived.BigQuiet
import Derived.Test.YtjkklgpbblkhaaaGreatDoorZCaRTa08

/-
  Layer 3, the reference: quotients and remainders of lists of digits.
-/
namespace Go.Proofs.YtjkklgpbblkhaaaGreatDoor
open Go.RowKit Bs Ig

theorem append_none0 {P : Program} (w : World) (base : Nat) (t ty e : TypeId) (i : TypeInfo) (size : Nat) (ht : P.underlying t = some (.slice e)) (hi : P.info? e = some i)
    (v : Value) (n : Nat) (xs : List Value) (hown : w.ownsRow base e size v n xs) (c : Nat) :
    (Builtin.append_ #[t, t] ty #[v, .slice none 0 c]).run P w = .ok v w := by
  rcases hown.2 with ⟨rfl, rfl⟩ | ⟨g, cap, cur, rfl, _, _, hnc, _⟩
  · simp [Builtin.append_, run_underlying ht, sizeOf, typeInfo, hi, Builtin.lenOf, Builtin.firstCells]
  · simp [Builtin.append_, run_underlying ht, sizeOf, typeInfo, hi, Builtin.lenOf, Builtin.firstCells, hnc, storeCells]

/-- a whole slice of numbers more, an empty one too -/
theorem wpList_pushZ {w : World} {ops : Array Oper} {rest : List Oper} {o : Oper} {a : Act} {Q : Exit → Act → World → Prop} (hgd : o.guard = none) (s x : Operand)
    (ho : o.op = .call { callee := .builtin .append, args := #[s, x], argTypes := #[40, 40] })
    (base : Nat) (v : Value) (l : List Nat) (hs : a.eval s = v) (hown : Bs.Own w base 3 .i64 v l) (b : Option Addr) (m c : Nat) (l2 : List Nat) (hx : a.eval x = .slice b m c)
    (hz : IsZ w b m c (zs l2)) (hlen : l.length + m ≤ 2000000) (hbase : base ≤ w.heap.size)
    (h : ∀ v' w', Bs.Own w' base 3 .i64 v' (l ++ l2) → Below base w w' → wpList Tryz.prog ops Q rest (a.put o.dst v') w') : wpList Tryz.prog ops Q (o :: rest) a w := by
  obtain ⟨i0, hi, hz0, hz1, hz2⟩ := info_parts infoInt
  have hl2 : l2.length = m := by rw [← zs_length]; exact hz.len
  rcases Nat.eq_zero_or_pos m with h0 | h0
  · subst h0
    have e : l2 = [] := List.length_eq_zero_iff.1 hl2
    subst e
    cases b with
    | none =>
      have hrun := append_none0 (P := Tryz.prog) w base 40 o.type 3 i0 1 Tryz.underlying40 hi v l.length (iv .i64 l) hown.row c
      refine wpList_plain hgd fun K hK => ?_
      unfold Oper.wp
      simp [execOp, ho, resolve, invoke, builtin, hs, hx, hrun, Result.andThen]
      exact hK _ _ (h v w (by rw [List.append_nil]; exact hown) (Below.refl _ _))
    | some ad =>
      refine wpList_append_own w hgd s x 40 ho base 3 i0 (.int .i64 0) 1 8 Tryz.underlying40 hi hz0 hz1 hz2 rfl (by omega) v l.length (iv .i64 l) hs hown.row ad 0 c [] hx rfl (fun j u hj => by simp at hj) (fun u hu => by cases hu) ?_ ?_ hbase ?_
      · unfold maxLen; omega
      · omega
      · intro v' w' hown' hgrow _
        refine h v' w' ⟨?_⟩ ((Below.refl base w).grown hgrow hbase hown.block)
        rw [List.append_nil]
        rw [List.append_nil] at hown'
        exact hown'
  · obtain ⟨g, off, rfl, hI⟩ := hz.at h0
    have hN : Nums w g off m .i64 l2 := ⟨fun i hi => by have := hI i (by rw [zs_length]; omega); rw [zs_getD] at this; exact this, fun _ => hI.lt (by rw [zs_length]; omega)⟩
    exact wpList_pushN hgd s x 40 ho base 3 i0 (.int .i64 0) 8 Tryz.underlying40 hi hz0 hz1 hz2 rfl (by omega) .i64 v l hs hown g off m c l2 hx hN hl2 hlen hbase h
theorem own_lit1 (W : World) (base : Nat) (d : Nat) (hb : base ≤ W.heap.size) : Bs.Own (W.alloc (.cells #[.int .i64 (d : Int)] 3)) base 3 .i64 (.slice (some ⟨W.heap.size, 0, none⟩) 1 1) [d] :=
  ⟨World.ownsRow_lit W #[.int .i64 (d : Int)] 1 hb (by unfold maxLen; omega) rfl⟩

theorem zs_set' (l : List Nat) (i v : Nat) : (zs l).set i (v : Int) = zs (l.set i v) := by unfold zs; rw [List.map_set]
theorem IsZ.apart {W : World} {a : Option Addr} {n c : Nat} {l : List Int} (h : IsZ W a n c l) (g i : Nat) (v : Value) (hne : ∀ j, (Value.slice a n c).ownBlock = some j → g < j) : IsZ (W.setCell ⟨g, i, none⟩ v) a n c l := by
  refine ⟨h.len, h.cap, h.max, h.row.imp id (fun ⟨g', off, e, hI⟩ => ⟨g', off, e, fun k hk => ?_⟩)⟩
  subst e
  have := hne g' rfl
  rw [World.cell?_setCell_far _ _ _ _ (show g ≠ g' by omega)]
  exact hI k hk
theorem D_inj {x y : Nat} (h : D x = D y) : x = y := dgs_inj h
/-- the number that a slice of digits holds -/
theorem numD : ∃ M : Value → World → Nat, ∀ (a : Option Addr) (n c x : Nat) (W : World), IsZ W a n c (zs (D x)) → M (.slice a n c) W = x := by
  refine ⟨fun v W => Classical.epsilon (fun x => ∃ a n c, v = .slice a n c ∧ IsZ W a n c (zs (D x))), fun a n c x W h => ?_⟩
  obtain ⟨a', n', c', e, h'⟩ := Classical.epsilon_spec (p := fun y => ∃ a' n' c', Value.slice a n c = .slice a' n' c' ∧ IsZ W a' n' c' (zs (D y))) ⟨x, a, n, c, rfl, h⟩
  cases e
  exact D_inj (zs_inj (h'.unique h))
theorem cmp_ge {x y : Nat} : decide (0 ≤ cmp x y) = decide (y ≤ x) := by
  unfold cmp
  rcases Nat.lt_trichotomy x y with h | h | h
  · rw [if_pos h]; simp; omega
  · rw [if_neg (by omega), if_neg (by omega)]; simp; omega
  · rw [if_neg (by omega), if_pos h]; simp; omega

set_option maxRecDepth 100000 in
set_option maxHeartbeats 8000000 in
theorem divided_any (a : Option Addr) (n c : Nat) (b : Option Addr) (k d : Nat) (x y : Nat) (w : World) (hl : IsZ w a n c (zs (D x))) (hm : IsZ w b k d (zs (D y))) (hy : 0 < y) (hn : n ≤ 1000) (hk : k ≤ 1000) :
    Calls Tryz.prog 84 #[.slice a n c, .slice b k d] w fun e w' => ∃ qa qn qc ra rn rc, e = .returned (.tuple #[.slice qa qn qc, .slice ra rn rc]) ∧ IsZ w' qa qn qc (zs (D (x / y))) ∧ IsZ w' ra rn rc (zs (D (x % y))) ∧ Below w.heap.size w w' := by
  have hxl := D_len hl
  have hnc := hl.cap
  obtain ⟨i0, hi, hz0, hz1, hz2⟩ := info_parts infoInt
  obtain ⟨w1, hmk, hco1, hb1, hs1⟩ := mkCols w 40 Tryz.underlying40 n (by omega)
  have Hco1 := Lib.hid hco1
  have Hb1 := Lib.hid hb1
  clear hco1 hb1 hs1
  go_enter Tryz.func84, Tryz.ntmps84
  go_wp2_with fail
  go_loopw [7, 8] (fun v p wr => ∃ (O : List Nat) (j R : Nat) (ra : Option Addr) (rn rc : Nat), v = .slice ra rn rc ∧ p = .int .i64 ((j : Int) - 1) ∧ j ≤ n ∧ Do x y n O j R ∧ Cols wr w.heap.size (some ⟨w.heap.size, 0, none⟩) n n (zs O) ∧ IsZ wr ra rn rc (zs (D R)) ∧ Below w.heap.size w wr) (fun _ p _ => (intOf p + 1).toNat)
  case atStart =>
    refine ⟨List.replicate n 0, n, 0, none, 0, 0, rfl, by go_num, Nat.le_refl _, Do.start hxl, ?_, ?_, Hb1.out⟩
    · have h := Hco1.out
      rw [show List.replicate n (0 : Int) = zs (List.replicate n 0) by simp [zs]] at h
      exact h
    · rw [D_zero]; exact IsZ.nil _ _ _ (Nat.zero_le _)
  case round =>
    obtain ⟨O, j, R, ra, rn, rc, rfl, rfl, hj, hdo, hco, hr, hw⟩ := hrel
    rcases Nat.eq_zero_or_pos j with h0 | h0
    · subst h0
      obtain ⟨hv, hR⟩ := hdo.done
      have ht := fun (W : World) (hb : Below wr.heap.size wr W) => rtrim_any (some ⟨w.heap.size, 0, none⟩) n n O W (hco.isZ.later hb) hdo.lt (by omega)
      rw [hv] at ht
      have HT := Lib.hid ht
      have HR := Lib.hid hr
      have Hw := Lib.hid hw
      subst hR
      clear hdo hco hr hw ht hl hm hmk hxl hv
      go_wp2_with (go_at_call 104; (with_reducible refine (HT.out _ (Below.refl _ _)).mono ?_); rintro e w5 ⟨m, rfl, z5, B5⟩)
      go_ret2
      exact ⟨_, m, _, _, _, _, rfl, z5, HR.out.later B5, below_on Hw.out B5 Hw.out.size⟩
    · obtain ⟨i, rfl⟩ : ∃ i, j = i + 1 := ⟨j - 1, by omega⟩
      have hdi := hdo.inner
      have hRy : R < y := by rw [hdo.rem]; exact Nat.mod_lt _ hy
      have hdx := dgs_getD 8 x i
      have hu9 : x / 10 ^ i % 10 < 10 := Nat.mod_lt _ (by omega)
      obtain ⟨u, hu⟩ : ∃ u, x / 10 ^ i % 10 = u := ⟨_, rfl⟩
      rw [show (8 + 2 : Nat) = 10 from rfl, hu] at hdx
      rw [hu] at hu9 hdi
      obtain ⟨g, off, rfl, hI⟩ := (hl.later hw).at (by omega)
      have hcell := hI i (by rw [zs_length]; omega)
      rw [zs_getD, show (D x).getD i 0 = u from hdx] at hcell
      have hyl := D_len hm
      have hrl := D_len hr
      have hrn : rn ≤ k := by
        have h1 := dgs_length_mono (k := 8) (Nat.le_of_lt hRy)
        rw [show (dgs 8 R).length = rn from hrl, show (dgs 8 y).length = k from hyl] at h1
        exact h1
      have e1 : ((i + 1 : Nat) : Int) - 1 = (i : Int) := by omega
      rw [e1]
      have f1 : decide (0 ≤ (i : Int)) = true := decide_eq_true (by omega)
      have f2 : decide ((i : Int) < (n : Int)) = true := decide_eq_true (by omega)
      have f3 : decide (i < n) = true := decide_eq_true (by omega)
      have hsz := hw.size
      have hBa := (Below.refl _ wr).alloc (Nat.le_refl _) (.cells #[.int .i64 (u : Int)] 3)
      have hT := fun (W : World) (v : Value) (h : Bs.Own W wr.heap.size 3 .i64 v ([u] ++ D R)) => (show ∃ ta tn tc, v = .slice ta tn tc ∧ Calls Tryz.prog 104 #[v] W fun e w' => ∃ m, e = .returned (.slice ta m tc) ∧ IsZ w' ta m tc (zs (D (10 * R + u))) ∧ Below W.heap.size W w' from by
        obtain ⟨ta, tn, tc, rfl⟩ := own_sl h
        have h1 := rtrim_any ta tn tc ([u] ++ D R) W h.isZ (fun z hz => by
          rcases List.mem_append.1 hz with hz | hz
          · rw [List.mem_singleton.1 hz]; exact hu9
          · exact D_lt R z hz) (by have : tn = ([u] ++ D R).length := h.len; rw [this]; simp; omega)
        have e : Ig.val 10 ([u] ++ D R) = 10 * R + u := by
          rw [val_append, D_val]; simp [Ig.val]; omega
        rw [e] at h1
        exact ⟨ta, tn, tc, rfl, h1⟩)
      have HT := Lib.hid hT
      have Hdi := Lib.hid hdi
      have Hco := Lib.hid hco
      have HR := Lib.hid (hr.later hBa)
      have Hw := Lib.hid hw
      have HI2 := Lib.hid (show i < n by omega)
      have HK := Lib.hid (show 1 + rn ≤ 2000000 by omega)
      clear hT hdi hdo hco hr hw hI hu hdx hmk hrn hrl hyl hxl hl
      go_wp2_with (at_builtin; refine wpList_pushZ rfl _ _ rfl wr.heap.size _ [u] rfl (own_lit1 wr wr.heap.size u (Nat.le_refl _)) _ _ _ (D R) rfl HR.out ?b1 ?b2 ?_)
      case b1 => exact HK.out
      case b2 => simp
      intro v' w2 hown2 hb2
      obtain ⟨ta, tn, tc, rfl, hc2⟩ := HT.out w2 v' hown2
      have HC2 := Lib.hid hc2
      have Hb2 := Lib.hid (below_on Hw.out (hBa.trans hb2) Hw.out.size)
      have Hco2 := Lib.hid (Hco.out.later (hBa.trans hb2))
      clear hown2 hb2 hc2 hBa HT
      go_wp2_with (go_at_call 104; (with_reducible refine HC2.out.mono ?_); rintro e w3 ⟨m, rfl, z3, B3⟩)
      have Hw3 := Lib.hid (below_on Hb2.out B3 Hb2.out.size)
      have Hco3 := Lib.hid (Hco2.out.later B3)
      have Hz3 := Lib.hid z3
      have Hm := Lib.hid hm
      obtain ⟨M, hM⟩ := numD
      have HM := Lib.hid hM
      have HRy := Lib.hid (show 10 * R + u < 10 * y by omega)
      clear z3 B3 hM hRy
      go_loopw [7] (fun v wq => ∃ (O : List Nat) (c R : Nat) (ra : Option Addr) (rn rc : Nat), v = .slice ra rn rc ∧ Di x y n O i c R ∧ Cols wq w.heap.size (some ⟨w.heap.size, 0, none⟩) n n (zs O) ∧ IsZ wq ra rn rc (zs (D R)) ∧ R < 10 * y ∧ Below w.heap.size w wq) (fun v wq => M v wq)
      case atStart => exact ⟨O, 0, 10 * R + u, _, _, _, rfl, Hdi.out, Hco3.out, Hz3.out, HRy.out, Hw3.out⟩
      case round =>
        obtain ⟨O, cc, R, ra, rn, rc, rfl, hdi, hco, hr, hR, hwq⟩ := hrel
        have hMr := HM.out ra rn rc R wr hr
        have hmw := Hm.out.later hwq
        have hrn : rn ≤ k + 1 := by
          have h1 := dgs_length_mono (k := 8) (Nat.le_of_lt hR)
          have h2 : (dgs 8 (10 * y)).length ≤ k + 1 := dgs_length_le 8 (k + 1) _ (by
            have := D_lt_pow (D_len Hm.out)
            show 10 * y < (8 + 2) ^ (k + 1)
            rw [Nat.pow_succ]; show 10 * y < 10 ^ k * 10; omega)
          have h3 : (dgs 8 R).length = rn := D_len hr
          omega
        have ho := fun (W : World) (hb : Below wr.heap.size wr W) => order_any ra rn rc b k d R y W (hr.later hb) (hmw.later hb) (by omega) (by omega)
        have hge := cmp_ge (x := R) (y := y)
        obtain ⟨cv, hcv⟩ : ∃ cv, cmp R y = cv := ⟨_, rfl⟩
        rw [hcv] at ho hge
        have HO := Lib.hid ho
        rcases Nat.lt_or_ge R y with h1 | h1
        · have f4 : decide (0 ≤ cv) = false := by rw [hge]; exact decide_eq_false (by omega)
          have hdo := Lib.hid (hdi.outer h1)
          have Hco5 := Lib.hid hco
          have Hr5 := Lib.hid hr
          have Hw5 := Lib.hid hwq
          clear hge hcv ho hdi hco hr hwq hmw hMr
          go_wp2_with (go_at_call 87; (with_reducible refine (HO.out _ (Below.refl _ _)).mono ?_); rintro e w5 ⟨rfl, B5⟩)
          have Hfin := Lib.hid (And.intro (Hco5.out.later B5) (And.intro (Hr5.out.later B5) (below_on Hw5.out B5 Hw5.out.size)))
          clear B5
          go_wp2_with fail
          case roundEnd => exact ⟨⟨O, i, R, _, _, _, rfl, rfl, by have := HI2.out; omega, hdo.out, Hfin.out.1, Hfin.out.2.1, Hfin.out.2.2⟩, by simp [intOf]⟩
        · have f4 : decide (0 ≤ cv) = true := by rw [hge]; exact decide_eq_true h1
          have hnx := Lib.hid (hdi.next hy h1 HI2.out)
          have hmi := fun (W : World) (hb : Below wr.heap.size wr W) => rminus_new ra rn rc b k d R y W (hr.later hb) (hmw.later hb) h1 (by omega)
          have HMI := Lib.hid hmi
          have Hco5 := Lib.hid hco
          have Hw5 := Lib.hid hwq
          have hci := hdi.digit
          have Hlt := Lib.hid (show w.heap.size < wr.heap.size from by obtain ⟨g7, hg7, _, hcc7⟩ := hco.at (by have := HI2.out; omega); cases hg7; exact block_lt_of_cell (hcc7 i HI2.out).1)
          have hc9 := hdi.small hy h1
          clear hge hcv ho hdi hco hr hwq hmw hmi
          go_wp2_with (first
            | (go_at_call 87; (with_reducible refine (HO.out _ (Below.refl _ _)).mono ?_); rintro e w5 ⟨rfl, B5⟩)
            | (go_at_call 86; (with_reducible refine (HMI.out _ B5).mono ?_); rintro e w6 ⟨sa, sn, sc, rfl, z6, B6, J6⟩; have B56 := below_on B5 B6 B5.size; have hco6 := Hco5.out.later B56; obtain ⟨g6, hg6, hB6, hcc6⟩ := hco6.at (by have := HI2.out; omega); cases hg6; obtain ⟨hc6, hf6⟩ := hcc6 i HI2.out; rw [zs_getD, hci] at hc6; have Hco6 := Lib.hid (hco6.set i HI2.out (((cc + 1 : Nat) : Int))); have Hz6 := Lib.hid (z6.apart w.heap.size i (.int .i64 ((cc + 1 : Nat) : Int)) (fun j hj => Nat.lt_of_lt_of_le (Nat.lt_of_lt_of_le Hlt.out B5.size) (J6 j hj))); have Hw6 := Lib.hid (below_on Hw5.out B56 Hw5.out.size); clear hco6 hcc6 z6 J6))
          go_roundw
          case rel => exact ⟨O.set i (cc + 1), cc + 1, R - y, _, _, _, rfl, hnx.out, by have h := Hco6.out; rw [zs_set'] at h; exact h, Hz6.out, by omega, Hw6.out.setCell (p := ⟨w.heap.size, i, none⟩) (Nat.le_refl _) _⟩
          case measure =>
            have h := HM.out _ _ _ (R - y) _ Hz6.out
            rw [show ((cc + 1 : Nat) : Int) = (cc : Int) + 1 by omega] at h
            rw [h, hMr]; omega

end Go.Proofs.YtjkklgpbblkhaaaGreatDoor

/-
  Layer 3: the exported functions at strings that are no integers.
-/
namespace Go.Proofs.YtjkklgpbblkhaaaGreatDoor
open Go.RowKit Bs Ig

set_option maxRecDepth 100000 in
set_option maxHeartbeats 1000000 in
theorem calculate_no2 (x : Int) (hx : x.natAbs < big) (l : List UInt8) (hl : ¬ IsI l) (v : Value) (w : World) :
    Calls Tryz.prog 93 #[.string (bs (Lib.itoa x)), .string (bs l), v] w fun e w' => e = .returned (.tuple #[.string (bs []), .int .i64 30]) ∧ Below w.heap.size w w' := by
  have HV1 := Lib.hid (Valid_yes x hx)
  have HV2 := Lib.hid (Valid_no l hl)
  generalize bs (Lib.itoa x) = S at *
  generalize bs l = T at *
  clear hl hx
  go_enter Tryz.func93, Tryz.ntmps93
  go_wp2_with (first
    | (go_at_call 78; (with_reducible refine (HV1.out _).mono ?_); rintro e w1 ⟨rfl, rfl⟩)
    | (go_at_call 78; (with_reducible refine (HV2.out _).mono ?_); rintro e w1 ⟨rfl, rfl⟩))
  go_ret2
  exact ⟨rfl, Below.refl _ _⟩

set_option maxRecDepth 100000 in
set_option maxHeartbeats 1000000 in
theorem Add_no2 (x : Int) (hx : x.natAbs < big) (l : List UInt8) (hl : ¬ IsI l) (w : World) :
    Calls Tryz.prog 67 #[.string (bs (Lib.itoa x)), .string (bs l)] w fun e w' => e = .returned (.tuple #[.string (bs []), .int .i64 30]) ∧ Below w.heap.size w w' := by
  have HC := Lib.hid (fun (W : World) v => calculate_no2 x hx l hl v W)
  generalize bs (Lib.itoa x) = S at *
  generalize bs l = T at *
  generalize bs [] = U at *
  clear hl hx
  go_enter Tryz.func67, Tryz.ntmps67
  go_wp2_with (go_at_call 93; (with_reducible refine (HC.out _ _).mono ?_); rintro e w1 ⟨rfl, B1⟩)
  go_ret2
  exact ⟨rfl, B1⟩

set_option maxRecDepth 100000 in
set_option maxHeartbeats 1000000 in
theorem Sub_no2 (x : Int) (hx : x.natAbs < big) (l : List UInt8) (hl : ¬ IsI l) (w : World) :
    Calls Tryz.prog 72 #[.string (bs (Lib.itoa x)), .string (bs l)] w fun e w' => e = .returned (.tuple #[.string (bs []), .int .i64 30]) ∧ Below w.heap.size w w' := by
  have HC := Lib.hid (fun (W : World) v => calculate_no2 x hx l hl v W)
  generalize bs (Lib.itoa x) = S at *
  generalize bs l = T at *
  generalize bs [] = U at *
  clear hl hx
  go_enter Tryz.func72, Tryz.ntmps72
  go_wp2_with (go_at_call 93; (with_reducible refine (HC.out _ _).mono ?_); rintro e w1 ⟨rfl, B1⟩)
  go_ret2
  exact ⟨rfl, B1⟩

set_option maxRecDepth 100000 in
set_option maxHeartbeats 1000000 in
theorem Mul_no2 (x : Int) (hx : x.natAbs < big) (l : List UInt8) (hl : ¬ IsI l) (w : World) :
    Calls Tryz.prog 70 #[.string (bs (Lib.itoa x)), .string (bs l)] w fun e w' => e = .returned (.tuple #[.string (bs []), .int .i64 30]) ∧ Below w.heap.size w w' := by
  have HC := Lib.hid (fun (W : World) v => calculate_no2 x hx l hl v W)
  generalize bs (Lib.itoa x) = S at *
  generalize bs l = T at *
  generalize bs [] = U at *
  clear hl hx
  go_enter Tryz.func70, Tryz.ntmps70
  go_wp2_with (go_at_call 93; (with_reducible refine (HC.out _ _).mono ?_); rintro e w1 ⟨rfl, B1⟩)
  go_ret2
  exact ⟨rfl, B1⟩

set_option maxRecDepth 100000 in
set_option maxHeartbeats 1000000 in
theorem Gcd_no2 (x : Int) (hx : x.natAbs < big) (l : List UInt8) (hl : ¬ IsI l) (w : World) :
    Calls Tryz.prog 63 #[.string (bs (Lib.itoa x)), .string (bs l)] w fun e w' => e = .returned (.tuple #[.string (bs []), .int .i64 30]) ∧ Below w.heap.size w w' := by
  have HC := Lib.hid (fun (W : World) v => calculate_no2 x hx l hl v W)
  generalize bs (Lib.itoa x) = S at *
  generalize bs l = T at *
  generalize bs [] = U at *
  clear hl hx
  go_enter Tryz.func63, Tryz.ntmps63
  go_wp2_with (go_at_call 93; (with_reducible refine (HC.out _ _).mono ?_); rintro e w1 ⟨rfl, B1⟩)
  go_ret2
  exact ⟨rfl, B1⟩

set_option maxRecDepth 100000 in
set_option maxHeartbeats 1000000 in
theorem Div_no (l : List UInt8) (hl : ¬ IsI l) (T : ByteArray) (w : World) :
    Calls Tryz.prog 50 #[.string (bs l), .string T] w fun e w' => e = .returned (.tuple #[.string ⟨#[]⟩, .string ⟨#[]⟩, .int .i64 30]) ∧ Below w.heap.size w w' := by
  have HV1 := Lib.hid (Valid_no l hl)
  generalize bs l = S at *
  clear hl
  go_enter Tryz.func50, Tryz.ntmps50
  go_wp2_with (first
    | (go_at_call 78; (with_reducible refine (HV1.out _).mono ?_); rintro e w1 ⟨rfl, rfl⟩))
  exact bodyPost_ret (results_tmp3 rfl _ _ _) rfl ⟨rfl, Below.refl _ _⟩
set_option maxRecDepth 100000 in
set_option maxHeartbeats 1000000 in
theorem Div_no2 (x : Int) (hx : x.natAbs < big) (l : List UInt8) (hl : ¬ IsI l) (w : World) :
    Calls Tryz.prog 50 #[.string (bs (Lib.itoa x)), .string (bs l)] w fun e w' => e = .returned (.tuple #[.string ⟨#[]⟩, .string ⟨#[]⟩, .int .i64 30]) ∧ Below w.heap.size w w' := by
  have HV1 := Lib.hid (Valid_yes x hx)
  have HV2 := Lib.hid (Valid_no l hl)
  generalize bs (Lib.itoa x) = S at *
  generalize bs l = T at *
  clear hl hx
  go_enter Tryz.func50, Tryz.ntmps50
  go_wp2_with (first
    | (go_at_call 78; (with_reducible refine (HV1.out _).mono ?_); rintro e w1 ⟨rfl, rfl⟩)
    | (go_at_call 78; (with_reducible refine (HV2.out _).mono ?_); rintro e w1 ⟨rfl, rfl⟩))
  exact bodyPost_ret (results_tmp3 rfl _ _ _) rfl ⟨rfl, Below.refl _ _⟩

set_option maxRecDepth 100000 in
set_option maxHeartbeats 1000000 in
theorem Compare_no (l : List UInt8) (hl : ¬ IsI l) (T : ByteArray) (w : World) :
    Calls Tryz.prog 51 #[.string (bs l), .string T] w fun e w' => e = .returned (.int .i64 0) ∧ Below w.heap.size w w' := by
  have HV1 := Lib.hid (Valid_no l hl)
  generalize bs l = S at *
  clear hl
  go_enter Tryz.func51, Tryz.ntmps51
  go_wp2_with (first
    | (go_at_call 78; (with_reducible refine (HV1.out _).mono ?_); rintro e w1 ⟨rfl, rfl⟩))
  go_ret
  exact ⟨rfl, Below.refl _ _⟩
set_option maxRecDepth 100000 in
set_option maxHeartbeats 1000000 in
theorem Compare_no2 (x : Int) (hx : x.natAbs < big) (l : List UInt8) (hl : ¬ IsI l) (w : World) :
    Calls Tryz.prog 51 #[.string (bs (Lib.itoa x)), .string (bs l)] w fun e w' => e = .returned (.int .i64 0) ∧ Below w.heap.size w w' := by
  have HV1 := Lib.hid (Valid_yes x hx)
  have HV2 := Lib.hid (Valid_no l hl)
  generalize bs (Lib.itoa x) = S at *
  generalize bs l = T at *
  clear hl hx
  go_enter Tryz.func51, Tryz.ntmps51
  go_wp2_with (first
    | (go_at_call 78; (with_reducible refine (HV1.out _).mono ?_); rintro e w1 ⟨rfl, rfl⟩)
    | (go_at_call 78; (with_reducible refine (HV2.out _).mono ?_); rintro e w1 ⟨rfl, rfl⟩))
  go_ret
  exact ⟨rfl, Below.refl _ _⟩

end Go.Proofs.YtjkklgpbblkhaaaGreatDoor

/-
  Layer 4, mathematics: fractions in lowest terms, their values, their order, rounding. Nothing of the program stands here.
-/
namespace Go.Proofs.YtjkklgpbblkhaaaGreatDoor.Qq
open Go
/-- a fraction in lowest terms -/
structure IsF (p : Int × Int) : Prop where
  pos : 0 < p.2
  low : Int.gcd p.1 p.2 = 1
/-- p has the value n / d -/
def Val (p : Int × Int) (n d : Int) : Prop := d ≠ 0 ∧ p.1 * d = n * p.2
/-- n / d in lowest terms -/
def red (n d : Int) : Int × Int := if d < 0 then (-n / (Int.gcd n d : Int), -d / (Int.gcd n d : Int)) else (n / (Int.gcd n d : Int), d / (Int.gcd n d : Int))

theorem gcd_pos {n d : Int} (h : d ≠ 0) : 0 < Int.gcd n d := Int.gcd_pos_of_ne_zero_right n h
theorem dvd_of_gcd {b a d : Int} (h : Int.gcd b a = 1) (hd : b ∣ a * d) : b ∣ d := by
  have h2 := Int.natAbs_dvd_natAbs.2 hd
  rw [Int.natAbs_mul] at h2
  exact Int.natAbs_dvd_natAbs.1 (Nat.Coprime.dvd_of_dvd_mul_left h h2)
theorem isF_ext {p q : Int × Int} (hp : IsF p) (hq : IsF q) (h : p.1 * q.2 = q.1 * p.2) : p = q := by
  obtain ⟨a, b⟩ := p
  obtain ⟨c, d⟩ := q
  have h1 := hp.pos; have h2 := hq.pos; have h3 := hp.low; have h4 := hq.low
  simp only at *
  have hb : b ∣ d := by
    have : b ∣ a * d := ⟨c, by rw [h, Int.mul_comm]⟩
    exact dvd_of_gcd (by rw [Int.gcd_comm]; exact h3) this
  have hd : d ∣ b := by
    have : d ∣ c * b := ⟨a, by rw [← h, Int.mul_comm]⟩
    exact dvd_of_gcd (by rw [Int.gcd_comm]; exact h4) this
  have e : b = d := Int.dvd_antisymm (by omega) (by omega) hb hd
  subst e
  have : a = c := Int.eq_of_mul_eq_mul_right (by omega) h
  rw [this]
theorem red_isF {n d : Int} (h : d ≠ 0) : IsF (red n d) := by
  have hg := gcd_pos (n := n) h
  have h1 : (Int.gcd n d : Int) ∣ n := Int.gcd_dvd_left ..
  have h2 : (Int.gcd n d : Int) ∣ d := Int.gcd_dvd_right ..
  obtain ⟨x, hx⟩ := h1
  obtain ⟨y, hy⟩ := h2
  have h3 : Int.gcd x y = 1 := by
    have := Int.gcd_mul_left (Int.gcd n d) x y
    rw [← hx, ← hy] at this
    have e : (Int.gcd n d : Int).natAbs = Int.gcd n d := Int.natAbs_natCast _
    rw [e] at this
    exact Nat.eq_of_mul_eq_mul_left hg (by rw [Nat.mul_one]; exact this.symm)
  generalize hG : Int.gcd n d = g at *
  have hg' : (0 : Int) < g := by omega
  unfold red
  rw [hG]
  have q1 : n / (g : Int) = x := by rw [hx]; exact Int.mul_ediv_cancel_left _ (by omega)
  have q2 : d / (g : Int) = y := by rw [hy]; exact Int.mul_ediv_cancel_left _ (by omega)
  have q3 : -n / (g : Int) = -x := by rw [hx, ← Int.mul_neg]; exact Int.mul_ediv_cancel_left _ (by omega)
  have q4 : -d / (g : Int) = -y := by rw [hy, ← Int.mul_neg]; exact Int.mul_ediv_cancel_left _ (by omega)
  rw [q1, q2, q3, q4]
  split
  · refine ⟨?_, by simpa using h3⟩
    show 0 < -y
    rcases Int.lt_or_le y 0 with h' | h'
    · omega
    · have := Int.mul_nonneg (Int.le_of_lt hg') h'; omega
  · refine ⟨?_, h3⟩
    show 0 < y
    rcases Int.lt_or_le 0 y with h' | h'
    · omega
    · have := Int.mul_nonneg (Int.le_of_lt hg') (show 0 ≤ -y by omega); rw [Int.mul_neg] at this; omega
theorem red_val {n d : Int} (h : d ≠ 0) : Val (red n d) n d := by
  have hg := gcd_pos (n := n) h
  obtain ⟨x, hx⟩ : (Int.gcd n d : Int) ∣ n := Int.gcd_dvd_left ..
  obtain ⟨y, hy⟩ : (Int.gcd n d : Int) ∣ d := Int.gcd_dvd_right ..
  generalize hG : Int.gcd n d = g at *
  refine ⟨h, ?_⟩
  unfold red
  rw [hG]
  have q1 : n / (g : Int) = x := by rw [hx]; exact Int.mul_ediv_cancel_left _ (by omega)
  have q2 : d / (g : Int) = y := by rw [hy]; exact Int.mul_ediv_cancel_left _ (by omega)
  have q3 : -n / (g : Int) = -x := by rw [hx, ← Int.mul_neg]; exact Int.mul_ediv_cancel_left _ (by omega)
  have q4 : -d / (g : Int) = -y := by rw [hy, ← Int.mul_neg]; exact Int.mul_ediv_cancel_left _ (by omega)
  rw [q1, q2, q3, q4]
  split <;> simp only [] <;> rw [hx, hy] <;> grind
theorem red_le {n d : Int} : (red n d).1.natAbs ≤ n.natAbs ∧ (red n d).2.natAbs ≤ d.natAbs := by
  unfold red
  split
  · exact ⟨by simpa using Int.natAbs_ediv_le_natAbs (-n) _, by simpa using Int.natAbs_ediv_le_natAbs (-d) _⟩
  · exact ⟨Int.natAbs_ediv_le_natAbs n _, Int.natAbs_ediv_le_natAbs d _⟩
theorem Val.self {p : Int × Int} (h : IsF p) : Val p p.1 p.2 := ⟨by have := h.pos; omega, rfl⟩
/-- two fractions of one value are the same -/
theorem Val.uniq {p q : Int × Int} {n d m e : Int} (hp : IsF p) (hq : IsF q) (h1 : Val p n d) (h2 : Val q m e) (h : n * e = m * d) : p = q := by
  obtain ⟨hd, h1⟩ := h1
  obtain ⟨he, h2⟩ := h2
  refine isF_ext hp hq ?_
  have : (p.1 * q.2) * (d * e) = (q.1 * p.2) * (d * e) := by
    rw [show (p.1 * q.2) * (d * e) = (p.1 * d) * (q.2 * e) by grind, h1, show (q.1 * p.2) * (d * e) = (q.1 * e) * (p.2 * d) by grind, h2]
    grind
  exact Int.eq_of_mul_eq_mul_right (Int.mul_ne_zero hd he) this
theorem red_eq {n d : Int} {p : Int × Int} (h : d ≠ 0) (hp : IsF p) (e : p.1 * d = n * p.2) : red n d = p :=
  Val.uniq (red_isF h) hp (red_val h) ⟨h, e⟩ rfl
theorem red_self {p : Int × Int} (hp : IsF p) : red p.1 p.2 = p := red_eq (by have := hp.pos; omega) hp rfl
theorem red_congr {n d m e : Int} (h : d ≠ 0) (k : e ≠ 0) (hh : n * e = m * d) : red n d = red m e := Val.uniq (red_isF h) (red_isF k) (red_val h) (red_val k) hh

/-! the operations, as values -/
theorem Val.add {p q : Int × Int} {n d m e : Int} (hp : IsF p) (hq : IsF q) (h1 : Val p n d) (h2 : Val q m e) : Val (red (p.1 * q.2 + q.1 * p.2) (p.2 * q.2)) (n * e + m * d) (d * e) := by
  have a1 := hp.pos; have a2 := hq.pos
  have h0 : p.2 * q.2 ≠ 0 := Int.mul_ne_zero (by omega) (by omega)
  obtain ⟨_, h3⟩ := red_val (n := p.1 * q.2 + q.1 * p.2) h0
  obtain ⟨hd, h1⟩ := h1
  obtain ⟨he, h2⟩ := h2
  refine ⟨Int.mul_ne_zero hd he, Int.eq_of_mul_eq_mul_right h0 ?_⟩
  generalize red (p.1 * q.2 + q.1 * p.2) (p.2 * q.2) = r at *
  grind
theorem Val.sub {p q : Int × Int} {n d m e : Int} (hp : IsF p) (hq : IsF q) (h1 : Val p n d) (h2 : Val q m e) : Val (red (p.1 * q.2 - q.1 * p.2) (p.2 * q.2)) (n * e - m * d) (d * e) := by
  have a1 := hp.pos; have a2 := hq.pos
  have h0 : p.2 * q.2 ≠ 0 := Int.mul_ne_zero (by omega) (by omega)
  obtain ⟨_, h3⟩ := red_val (n := p.1 * q.2 - q.1 * p.2) h0
  obtain ⟨hd, h1⟩ := h1
  obtain ⟨he, h2⟩ := h2
  refine ⟨Int.mul_ne_zero hd he, Int.eq_of_mul_eq_mul_right h0 ?_⟩
  generalize red (p.1 * q.2 - q.1 * p.2) (p.2 * q.2) = r at *
  grind
theorem Val.mul {p q : Int × Int} {n d m e : Int} (hp : IsF p) (hq : IsF q) (h1 : Val p n d) (h2 : Val q m e) : Val (red (p.1 * q.1) (p.2 * q.2)) (n * m) (d * e) := by
  have a1 := hp.pos; have a2 := hq.pos
  have h0 : p.2 * q.2 ≠ 0 := Int.mul_ne_zero (by omega) (by omega)
  obtain ⟨_, h3⟩ := red_val (n := p.1 * q.1) h0
  obtain ⟨hd, h1⟩ := h1
  obtain ⟨he, h2⟩ := h2
  refine ⟨Int.mul_ne_zero hd he, Int.eq_of_mul_eq_mul_right h0 ?_⟩
  generalize red (p.1 * q.1) (p.2 * q.2) = r at *
  grind
theorem Val.num0 {p : Int × Int} {n d : Int} (hp : IsF p) (h1 : Val p n d) : p.1 = 0 ↔ n = 0 := by
  obtain ⟨hd, h1⟩ := h1
  have := hp.pos
  constructor
  · intro h; rw [h, Int.zero_mul] at h1
    rcases Int.mul_eq_zero.1 h1.symm with h | h <;> omega
  · intro h; rw [h, Int.zero_mul] at h1
    rcases Int.mul_eq_zero.1 h1 with h | h <;> omega
theorem Val.div {p q : Int × Int} {n d m e : Int} (hp : IsF p) (hq : IsF q) (h1 : Val p n d) (h2 : Val q m e) (hm : m ≠ 0) : Val (red (p.1 * q.2) (p.2 * q.1)) (n * e) (d * m) := by
  have a1 := hp.pos; have a2 := hq.pos
  have hq0 : q.1 ≠ 0 := fun h => hm ((h2.num0 hq).1 h)
  have h0 : p.2 * q.1 ≠ 0 := Int.mul_ne_zero (by omega) hq0
  obtain ⟨_, h3⟩ := red_val (n := p.1 * q.2) h0
  obtain ⟨hd, h1⟩ := h1
  obtain ⟨he, h2⟩ := h2
  refine ⟨Int.mul_ne_zero hd hm, Int.eq_of_mul_eq_mul_right h0 ?_⟩
  generalize red (p.1 * q.2) (p.2 * q.1) = r at *
  grind

/-! the order -/
def cmpF (p q : Int × Int) : Int := Int.sign (p.1 * q.2 - q.1 * p.2)
theorem sign_of_pos {z k : Int} (h : 0 < k) : Int.sign (z * k) = Int.sign z := by rw [Int.sign_mul, Int.sign_eq_one_of_pos h, Int.mul_one]
theorem cmp_val {p q : Int × Int} {n d m e : Int} (hp : IsF p) (hq : IsF q) (h1 : Val p n d) (h2 : Val q m e) (hd : 0 < d) (he : 0 < e) : cmpF p q = Int.sign (n * e - m * d) := by
  unfold cmpF
  rw [← sign_of_pos (z := p.1 * q.2 - q.1 * p.2) (Int.mul_pos hd he), ← sign_of_pos (z := n * e - m * d) (Int.mul_pos hp.pos hq.pos)]
  congr 1
  have := h1.2
  have := h2.2
  grind
theorem cmp_bounds (p q : Int × Int) : -1 ≤ cmpF p q ∧ cmpF p q ≤ 1 := by
  unfold cmpF
  rcases Int.lt_trichotomy (p.1 * q.2 - q.1 * p.2) 0 with h | h | h
  · rw [Int.sign_eq_neg_one_of_neg h]; decide
  · rw [h]; decide
  · rw [Int.sign_eq_one_of_pos h]; decide
theorem cmp_swap (p q : Int × Int) : cmpF q p = -cmpF p q := by
  unfold cmpF; rw [← Int.sign_neg]; congr 1; omega
theorem cmp_self (p : Int × Int) : cmpF p p = 0 := by unfold cmpF; rw [Int.sub_self]; rfl
theorem cmp_zero {p q : Int × Int} (hp : IsF p) (hq : IsF q) : cmpF p q = 0 ↔ p = q := by
  constructor
  · intro h; exact isF_ext hp hq (by have := Int.sign_eq_zero_iff_zero.1 h; omega)
  · rintro rfl; exact cmp_self _
theorem sign_le {z : Int} : Int.sign z ≤ 0 ↔ z ≤ 0 := by
  rcases Int.lt_trichotomy z 0 with h | h | h
  · rw [Int.sign_eq_neg_one_of_neg h]; omega
  · rw [h]; decide
  · rw [Int.sign_eq_one_of_pos h]; omega
theorem sign_lt {z : Int} : Int.sign z < 0 ↔ z < 0 := by
  rcases Int.lt_trichotomy z 0 with h | h | h
  · rw [Int.sign_eq_neg_one_of_neg h]; omega
  · rw [h]; decide
  · rw [Int.sign_eq_one_of_pos h]; omega
theorem cmp_trans {p q r : Int × Int} (hp : IsF p) (hq : IsF q) (hr : IsF r) (h1 : cmpF p q ≤ 0) (h2 : cmpF q r ≤ 0) : cmpF p r ≤ 0 := by
  unfold cmpF at *
  rw [sign_le] at *
  have a := hp.pos; have b := hq.pos; have c := hr.pos
  have e1 := Int.mul_le_mul_of_nonneg_right (show p.1 * q.2 ≤ q.1 * p.2 by omega) (Int.le_of_lt c)
  have e2 := Int.mul_le_mul_of_nonneg_right (show q.1 * r.2 ≤ r.1 * q.2 by omega) (Int.le_of_lt a)
  have e3 : (p.1 * r.2) * q.2 ≤ (r.1 * p.2) * q.2 := by
    rw [show p.1 * r.2 * q.2 = p.1 * q.2 * r.2 by grind, show r.1 * p.2 * q.2 = r.1 * q.2 * p.2 by grind]
    refine Int.le_trans e1 ?_
    rw [show q.1 * p.2 * r.2 = q.1 * r.2 * p.2 by grind]
    exact e2
  have := Int.le_of_mul_le_mul_right e3 b
  omega
theorem cmp_trans_lt {p q r : Int × Int} (hp : IsF p) (hq : IsF q) (hr : IsF r) (h1 : cmpF p q ≤ 0) (h2 : cmpF q r < 0) : cmpF p r < 0 := by
  have h3 := cmp_trans hp hq hr h1 (by omega)
  rcases Int.lt_or_le (cmpF p r) 0 with h | h
  · exact h
  · have h0 : cmpF p r = 0 := by omega
    rw [cmp_zero hp hr] at h0
    subst h0
    have := cmp_swap p q
    omega
theorem zero_isF : IsF (0, 1) := ⟨by decide, by decide⟩
theorem cmp_sub {p q : Int × Int} (hp : IsF p) (hq : IsF q) : cmpF (red (p.1 * q.2 - q.1 * p.2) (p.2 * q.2)) (0, 1) = cmpF p q := by
  have h0 : p.2 * q.2 ≠ 0 := Int.mul_ne_zero (by have := hp.pos; omega) (by have := hq.pos; omega)
  rw [cmp_val (red_isF h0) zero_isF (red_val h0) (Val.self zero_isF) (Int.mul_pos hp.pos hq.pos) (by decide)]
  unfold cmpF
  congr 1
  grind
theorem cmp_add {p q t : Int × Int} (hp : IsF p) (hq : IsF q) (ht : IsF t) : cmpF (red (p.1 * t.2 + t.1 * p.2) (p.2 * t.2)) (red (q.1 * t.2 + t.1 * q.2) (q.2 * t.2)) = cmpF p q := by
  have h0 : p.2 * t.2 ≠ 0 := Int.mul_ne_zero (by have := hp.pos; omega) (by have := ht.pos; omega)
  have h1 : q.2 * t.2 ≠ 0 := Int.mul_ne_zero (by have := hq.pos; omega) (by have := ht.pos; omega)
  rw [cmp_val (red_isF h0) (red_isF h1) (red_val h0) (red_val h1) (Int.mul_pos hp.pos ht.pos) (Int.mul_pos hq.pos ht.pos)]
  unfold cmpF
  rw [← sign_of_pos (z := p.1 * q.2 - q.1 * p.2) (Int.mul_pos ht.pos ht.pos)]
  congr 1
  grind
theorem cmp_mul {p q t : Int × Int} (hp : IsF p) (hq : IsF q) (ht : IsF t) : cmpF (red (p.1 * t.1) (p.2 * t.2)) (red (q.1 * t.1) (q.2 * t.2)) = cmpF p q * cmpF t (0, 1) := by
  have h0 : p.2 * t.2 ≠ 0 := Int.mul_ne_zero (by have := hp.pos; omega) (by have := ht.pos; omega)
  have h1 : q.2 * t.2 ≠ 0 := Int.mul_ne_zero (by have := hq.pos; omega) (by have := ht.pos; omega)
  rw [cmp_val (red_isF h0) (red_isF h1) (red_val h0) (red_val h1) (Int.mul_pos hp.pos ht.pos) (Int.mul_pos hq.pos ht.pos)]
  unfold cmpF
  rw [← Int.sign_mul, ← sign_of_pos (z := (p.1 * q.2 - q.1 * p.2) * _) ht.pos]
  congr 1
  grind

/-! one round of the comparison -/
theorem div_pos {n d : Int} (h : 0 < d) : n = d * (n / d) + n % d ∧ 0 ≤ n % d ∧ n % d < d := ⟨by have := Int.emod_add_mul_ediv n d; omega, Int.emod_nonneg _ (by omega), Int.emod_lt_of_pos _ h⟩
theorem cross_lt {x y : Int × Int} (hx : 0 < x.2) (hy : 0 < y.2) (h : x.1 / x.2 < y.1 / y.2) : cmpF x y = -1 := by
  unfold cmpF
  refine Int.sign_eq_neg_one_of_neg ?_
  obtain ⟨e1, l1, u1⟩ := div_pos (n := x.1) hx
  obtain ⟨e2, l2, u2⟩ := div_pos (n := y.1) hy
  generalize x.1 / x.2 = q1 at *
  generalize x.1 % x.2 = r1 at *
  generalize y.1 / y.2 = q2 at *
  generalize y.1 % y.2 = r2 at *
  have h1 : x.1 < x.2 * (q1 + 1) := by rw [Int.mul_add, Int.mul_one]; omega
  have h2 : y.2 * q2 ≤ y.1 := by omega
  have h3 : x.2 * (q1 + 1) ≤ x.2 * q2 := Int.mul_le_mul_of_nonneg_left (by omega) (by omega)
  have h4 : x.1 * y.2 < x.2 * q2 * y.2 := Int.mul_lt_mul_of_pos_right (by omega) hy
  have h5 : (y.2 * q2) * x.2 ≤ y.1 * x.2 := Int.mul_le_mul_of_nonneg_right h2 (by omega)
  have h6 : x.2 * q2 * y.2 = (y.2 * q2) * x.2 := by grind
  omega
theorem cross_gt {x y : Int × Int} (hx : 0 < x.2) (hy : 0 < y.2) (h : y.1 / y.2 < x.1 / x.2) : cmpF x y = 1 := by
  have := cross_lt hy hx h
  have := cmp_swap x y
  omega
theorem cross_eq {x y : Int × Int} (hx : 0 < x.2) (hy : 0 < y.2) (h : x.1 / x.2 = y.1 / y.2) : cmpF x y = Int.sign ((x.1 % x.2) * y.2 - (y.1 % y.2) * x.2) := by
  unfold cmpF
  obtain ⟨e1, l1, u1⟩ := div_pos (n := x.1) hx
  obtain ⟨e2, l2, u2⟩ := div_pos (n := y.1) hy
  rw [h] at e1
  congr 1
  generalize y.1 / y.2 = q at *
  generalize x.1 % x.2 = r1 at *
  generalize y.1 % y.2 = r2 at *
  rw [e1, e2]
  grind
theorem cross_zero {x y : Int × Int} (hx : 0 < x.2) (hy : 0 < y.2) (h : x.1 / x.2 = y.1 / y.2) (h0 : x.1 % x.2 = 0 ∨ y.1 % y.2 = 0) : cmpF x y = Int.sign (x.1 % x.2 - y.1 % y.2) := by
  rw [cross_eq hx hy h]
  obtain ⟨-, l1, -⟩ := div_pos (n := x.1) hx
  obtain ⟨-, l2, -⟩ := div_pos (n := y.1) hy
  rcases h0 with h0 | h0 <;> rw [h0]
  · rw [Int.zero_mul, Int.zero_sub, Int.zero_sub, ← Int.neg_mul, sign_of_pos hx]
  · rw [Int.zero_mul, Int.sub_zero, Int.sub_zero, sign_of_pos hy]
theorem cross_next {x y : Int × Int} (hx : 0 < x.2) (hy : 0 < y.2) (h : x.1 / x.2 = y.1 / y.2) : cmpF x y = cmpF (y.2, y.1 % y.2) (x.2, x.1 % x.2) := by
  rw [cross_eq hx hy h]
  unfold cmpF
  congr 1
  grind

/-! the grid -/
def fl (x d : Int) : Int := x / d
def ce (x d : Int) : Int := if x % d = 0 then x / d else x / d + 1
theorem ce_neg {x d : Int} (h : 0 < d) : ce x d = -((-x) / d) := by
  obtain ⟨e, l, u⟩ := div_pos (n := x) h
  unfold ce
  split
  · rename_i h0
    have : (-x) / d = -(x / d) ∧ (-x) % d = 0 := (Int.ediv_emod_unique h).2 ⟨by rw [Int.mul_neg]; omega, by omega, h⟩
    omega
  · rename_i h0
    have : (-x) / d = -(x / d) - 1 ∧ (-x) % d = d - x % d := (Int.ediv_emod_unique h).2 ⟨by rw [Int.mul_sub, Int.mul_neg, Int.mul_one]; omega, by omega, by omega⟩
    omega
theorem ce_le {x d : Int} : x / d ≤ ce x d ∧ ce x d ≤ x / d + 1 := by unfold ce; split <;> omega

def neg (p : Int × Int) : Int × Int := (-p.1, p.2)
theorem neg_isF {p : Int × Int} (h : IsF p) : IsF (neg p) := ⟨h.pos, by have := h.low; unfold neg; simpa using this⟩
theorem neg_sub {p : Int × Int} (h : IsF p) : red (0 * p.2 - p.1 * 1) (1 * p.2) = neg p :=
  red_eq (by have := h.pos; omega) (neg_isF h) (by unfold neg; grind)
def dn (r : Int × Int) (t : Int) : Int × Int := red (fl (r.1 * t) r.2) t
def up (r : Int × Int) (t : Int) : Int × Int := red (ce (r.1 * t) r.2) t
variable {r : Int × Int} {t : Int}
theorem dn_isF (ht : 0 < t) : IsF (dn r t) := red_isF (by omega)
theorem up_isF (ht : 0 < t) : IsF (up r t) := red_isF (by omega)
theorem neg_dn (hr : IsF r) (ht : 0 < t) : neg (dn (neg r) t) = up r t := by
  have h := red_val (n := fl ((neg r).1 * t) (neg r).2) (d := t) (by omega)
  refine (red_eq (by omega) (neg_isF (dn_isF ht)) ?_).symm
  rw [ce_neg hr.pos]
  have e := h.2
  unfold dn
  generalize red (fl ((neg r).1 * t) (neg r).2) t = a at *
  unfold neg fl at *
  simp only [Int.neg_mul] at *
  grind
/-- a multiple of the grid, taken up again -/
theorem on_grid {k : Int} (ht : 0 < t) : ((red k t).1 * t) % (red k t).2 = 0 ∧ ((red k t).1 * t) / (red k t).2 = k := by
  have h := (red_val (n := k) (d := t) (by omega)).2
  have hp := (red_isF (n := k) (d := t) (by omega)).pos
  rw [h]
  exact ⟨Int.mul_emod_left _ _, Int.mul_ediv_cancel _ (by omega)⟩
theorem dn_grid {k : Int} (ht : 0 < t) : dn (red k t) t = red k t := by unfold dn fl; rw [(on_grid ht).2]
theorem up_grid {k : Int} (ht : 0 < t) : up (red k t) t = red k t := by unfold up ce; rw [if_pos (on_grid ht).1, (on_grid ht).2]
theorem dn_up (ht : 0 < t) : dn (up r t) t = up r t := dn_grid ht
theorem up_dn (ht : 0 < t) : up (dn r t) t = dn r t := up_grid ht
theorem grid_den {k : Int} (ht : 0 < t) : red ((red k t).1 * t) ((red k t).2 * 1) = (k, 1) := by
  have h := (red_val (n := k) (d := t) (by omega)).2
  have hp := (red_isF (n := k) (d := t) (by omega)).pos
  refine red_eq (by omega) ⟨by show (0 : Int) < 1; decide, by simp⟩ ?_
  rw [h]
  grind
theorem cmp_grid {k : Int} (hr : IsF r) (ht : 0 < t) : cmpF (red k t) r = Int.sign (k * r.2 - r.1 * t) :=
  cmp_val (red_isF (by omega)) hr (red_val (by omega)) (Val.self hr) ht hr.pos
theorem dn_le (hr : IsF r) (ht : 0 < t) : cmpF (dn r t) r ≤ 0 := by
  unfold dn fl
  rw [cmp_grid hr ht, sign_le]
  obtain ⟨e, l, u⟩ := div_pos (n := r.1 * t) hr.pos
  generalize r.1 * t / r.2 = q at *
  have : q * r.2 = r.2 * q := Int.mul_comm ..
  omega
theorem up_ge (hr : IsF r) (ht : 0 < t) : 0 ≤ cmpF (up r t) r := by
  have h := cmp_swap r (up r t)
  have : cmpF r (up r t) ≤ 0 := by
    have h2 := dn_le (neg_isF hr) ht
    have e := neg_dn hr ht
    have : cmpF r (up r t) = cmpF (dn (neg r) t) (neg r) := by
      rw [← e]; unfold cmpF neg; simp only []; congr 1; grind
    omega
  have := cmp_swap (up r t) r
  omega
theorem dn_exact (hr : IsF r) (ht : 0 < t) : cmpF (dn r t) r = 0 ↔ (r.1 * t) % r.2 = 0 := by
  unfold dn fl
  rw [cmp_grid hr ht, Int.sign_eq_zero_iff_zero]
  obtain ⟨e, l, u⟩ := div_pos (n := r.1 * t) hr.pos
  generalize r.1 * t / r.2 = q at *
  have : q * r.2 = r.2 * q := Int.mul_comm ..
  omega
theorem up_exact (hr : IsF r) (ht : 0 < t) : cmpF (up r t) r = 0 ↔ (r.1 * t) % r.2 = 0 := by
  unfold up
  rw [cmp_grid hr ht, Int.sign_eq_zero_iff_zero]
  obtain ⟨e, l, u⟩ := div_pos (n := r.1 * t) hr.pos
  unfold ce
  generalize r.1 * t / r.2 = q at *
  have h1 : q * r.2 = r.2 * q := Int.mul_comm ..
  have h2 : (q + 1) * r.2 = r.2 * q + r.2 := by grind
  split <;> omega
theorem one_isF (ht : 0 < t) : IsF (1, t) := ⟨ht, by simp⟩
theorem width (ht : 0 < t) : red ((up r t).1 * (dn r t).2 - (dn r t).1 * (up r t).2) ((up r t).2 * (dn r t).2) = if (r.1 * t) % r.2 = 0 then (0, 1) else (1, t) := by
  have h1 : Val (up r t) (ce (r.1 * t) r.2) t := red_val (by omega)
  have h2 : Val (dn r t) (r.1 * t / r.2) t := red_val (by omega)
  have hs := Val.sub (up_isF ht) (dn_isF ht) h1 h2
  have h0 : (up r t).2 * (dn r t).2 ≠ 0 := Int.mul_ne_zero (by have := (up_isF (r := r) ht).pos; omega) (by have := (dn_isF (r := r) ht).pos; omega)
  unfold ce at hs
  split
  · rename_i h
    rw [if_pos h] at hs
    exact Val.uniq (red_isF h0) zero_isF hs (Val.self zero_isF) (by grind)
  · rename_i h
    rw [if_neg h] at hs
    exact Val.uniq (red_isF h0) (one_isF ht) hs (Val.self (one_isF ht)) (by grind)

/-! the field -/
abbrev plus (p q : Int × Int) : Int × Int := red (p.1 * q.2 + q.1 * p.2) (p.2 * q.2)
abbrev less (p q : Int × Int) : Int × Int := red (p.1 * q.2 - q.1 * p.2) (p.2 * q.2)
abbrev times (p q : Int × Int) : Int × Int := red (p.1 * q.1) (p.2 * q.2)
abbrev over (p q : Int × Int) : Int × Int := red (p.1 * q.2) (p.2 * q.1)
theorem den_ne {p q : Int × Int} (hp : IsF p) (hq : IsF q) : p.2 * q.2 ≠ 0 := Int.mul_ne_zero (by have := hp.pos; omega) (by have := hq.pos; omega)
variable {p q s : Int × Int}
theorem plus_isF (hp : IsF p) (hq : IsF q) : IsF (plus p q) := red_isF (den_ne hp hq)
theorem less_isF (hp : IsF p) (hq : IsF q) : IsF (less p q) := red_isF (den_ne hp hq)
theorem times_isF (hp : IsF p) (hq : IsF q) : IsF (times p q) := red_isF (den_ne hp hq)
theorem over_isF (hp : IsF p) (h : q.1 ≠ 0) : IsF (over p q) := red_isF (Int.mul_ne_zero (by have := hp.pos; omega) h)
theorem plus_comm : plus p q = plus q p := by unfold plus; rw [Int.add_comm, Int.mul_comm p.2]
theorem times_comm : times p q = times q p := by unfold times; rw [Int.mul_comm p.1, Int.mul_comm p.2]
theorem plus_assoc (hp : IsF p) (hq : IsF q) (hs : IsF s) : plus (plus p q) s = plus p (plus q s) := by
  refine Val.uniq (plus_isF (plus_isF hp hq) hs) (plus_isF hp (plus_isF hq hs)) (Val.add (plus_isF hp hq) hs (Val.add hp hq (Val.self hp) (Val.self hq)) (Val.self hs)) (Val.add hp (plus_isF hq hs) (Val.self hp) (Val.add hq hs (Val.self hq) (Val.self hs))) ?_
  grind
theorem times_assoc (hp : IsF p) (hq : IsF q) (hs : IsF s) : times p (times q s) = times (times p q) s := by
  refine Val.uniq (times_isF hp (times_isF hq hs)) (times_isF (times_isF hp hq) hs) (Val.mul hp (times_isF hq hs) (Val.self hp) (Val.mul hq hs (Val.self hq) (Val.self hs))) (Val.mul (times_isF hp hq) hs (Val.mul hp hq (Val.self hp) (Val.self hq)) (Val.self hs)) ?_
  grind
theorem distrib (hp : IsF p) (hq : IsF q) (hs : IsF s) : plus (times p s) (times q s) = times (plus p q) s := by
  refine Val.uniq (plus_isF (times_isF hp hs) (times_isF hq hs)) (times_isF (plus_isF hp hq) hs) (Val.add (times_isF hp hs) (times_isF hq hs) (Val.mul hp hs (Val.self hp) (Val.self hs)) (Val.mul hq hs (Val.self hq) (Val.self hs))) (Val.mul (plus_isF hp hq) hs (Val.add hp hq (Val.self hp) (Val.self hq)) (Val.self hs)) ?_
  grind
theorem plus_less (hp : IsF p) (hq : IsF q) : less (plus p q) q = p := by
  refine Val.uniq (less_isF (plus_isF hp hq) hq) hp (Val.sub (plus_isF hp hq) hq (Val.add hp hq (Val.self hp) (Val.self hq)) (Val.self hq)) (Val.self hp) ?_
  grind
theorem over_times (hp : IsF p) (hq : IsF q) (h : q.1 ≠ 0) : times (over p q) q = p := by
  refine Val.uniq (times_isF (over_isF hp h) hq) hp (Val.mul (over_isF hp h) hq (Val.div hp hq (Val.self hp) (Val.self hq) h) (Val.self hq)) (Val.self hp) ?_
  grind
end Go.Proofs.YtjkklgpbblkhaaaGreatDoor.Qq
