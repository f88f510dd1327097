/-
  Layer 3: roots of numbers in groups.
-/
import Derived.Test.YtieaelipgieaoaaDoorIgv
namespace Go.Proofs.YtieaelipgieaoaaDoor
open Go.RowKit Bs Ig

theorem IsZ.unique {W : World} {a : Option Addr} {n c : Nat} {l l' : List Int} (h : IsZ W a n c l) (h' : IsZ W a n c l') : l = l' := by
  refine List.ext_getElem? fun i => ?_
  rcases Nat.lt_or_ge i n with hi | hi
  · obtain ⟨g, off, e, hI⟩ := h.at (by omega)
    obtain ⟨g', off', e', hI'⟩ := h'.at (by omega)
    rw [e] at e'
    cases e'
    have h1 := hI i (by rw [h.len]; exact hi)
    have h2 := hI' i (by rw [h'.len]; exact hi)
    rw [h1] at h2
    rw [List.getD_eq_getElem?_getD, List.getD_eq_getElem?_getD] at h2
    rw [List.getElem?_eq_getElem (by rw [h.len]; exact hi), List.getElem?_eq_getElem (by rw [h'.len]; exact hi)] at h2 ⊢
    simp only [Option.getD_some] at h2
    injection h2 with h2
    injection h2 with _ h2
    rw [h2]
  · rw [List.getElem?_eq_none (by rw [h.len]; exact hi), List.getElem?_eq_none (by rw [h'.len]; exact hi)]
theorem zs_inj {l m : List Nat} (h : zs l = zs m) : l = m := by
  unfold zs at h
  exact (List.map_inj_right (fun _ _ h => Int.ofNat.inj h)).1 h
theorem G_inj {x y : Nat} (h : G x = G y) : x = y := dgs_inj h
/-- the number that a slice holds -/
theorem numOf : ∃ M : Value → World → Nat, ∀ (a : Option Addr) (n c x : Nat) (W : World), IsZ W a n c (zs (G x)) → M (.slice a n c) W = x := by
  refine ⟨fun v W => Classical.epsilon (fun x => ∃ a n c, v = .slice a n c ∧ IsZ W a n c (zs (G x))), fun a n c x W h => ?_⟩
  obtain ⟨a', n', c', e, h'⟩ := Classical.epsilon_spec (p := fun y => ∃ a' n' c', Value.slice a n c = .slice a' n' c' ∧ IsZ W a' n' c' (zs (G y))) ⟨x, a, n, c, rfl, h⟩
  cases e
  exact G_inj (zs_inj (h'.unique h))
theorem mkOwnN (w : World) (t : TypeId) (ht : Tryd.prog.underlying t = some (.slice 3)) (m : Nat) (hm : m ≤ 2000000) :
    ∃ w', (Instr.makeSlice t (.int .i64 (m : Int)) (.int .i64 (m : Int))).run Tryd.prog w = .ok (.slice (some ⟨w.heap.size, 0, none⟩) m m) w' ∧ Bs.Own w' w.heap.size 3 .i64 (.slice (some ⟨w.heap.size, 0, none⟩) m m) (List.replicate m 0) ∧ Below w.heap.size w w' ∧ w'.heap.size = w.heap.size + 1 := by
  obtain ⟨i0, hi, hz0, hz1, hz2⟩ := info_parts infoInt
  have hmx : m ≤ maxLen := by unfold maxLen; omega
  refine ⟨_, run_make w t 3 i0 (.int .i64 0) ht hi hz0 .i64 .i64 m m (by omega) (by omega) (by rw [hz2]; omega) (by omega), ?_, (Below.refl _ w).alloc (Nat.le_refl _) _, by simp⟩
  simp only [Int.toNat_natCast]
  refine ⟨?_⟩
  rw [List.length_replicate]
  refine ⟨by simp [iv], .inr ⟨w.heap.size, m, _, rfl, Nat.le_refl _, heap_alloc_new _ _, Nat.le_refl _, hmx, by rw [size_madeCells, hz1], ?_⟩⟩
  rw [hz1, Nat.mul_one]
  apply List.ext_getElem?
  intro i
  simp only [madeCells, iv, List.map_replicate, List.getElem?_take, List.getElem?_replicate]
  split
  · simp [Value.cells, Nat.mod_one, *]
  · rfl
theorem G_pow (p : Nat) : G (10000 ^ p) = List.replicate p 0 ++ [1] := by
  have hv : V (List.replicate p 0 ++ [1]) = 10000 ^ p := by
    show val 10000 _ = _
    rw [val_append, List.length_replicate]
    have : val 10000 (List.replicate p 0) = 0 := by
      induction p with
      | zero => rfl
      | succ p ih => rw [List.replicate_succ]; show 0 + 10000 * val 10000 _ = 0; rw [ih]
    rw [this]; simp [val]
  rw [← hv]
  refine dgs_val 9998 _ (fun x hx => ?_) (by simp)
  rcases List.mem_append.1 hx with hx | hx
  · rw [(List.mem_replicate.1 hx).2]; omega
  · rw [List.mem_singleton.1 hx]; omega
theorem G_small (z : Nat) (h0 : 0 < z) (h : z < 10000) : G z = [z] := by
  show dgs 9998 z = [z]
  rw [dgs_pos 9998 h0, show z % (9998 + 2) = z from Nat.mod_eq_of_lt h, show z / (9998 + 2) = 0 from Nat.div_eq_of_lt h, dgs_zero]
theorem IsZ.glen {W : World} {a : Option Addr} {n c x : Nat} (h : IsZ W a n c (zs (G x))) : (G x).length = n := by rw [← zs_length]; exact h.len
theorem IsZ.glt {W : World} {a : Option Addr} {n c x : Nat} (h : IsZ W a n c (zs (G x))) : x < 10000 ^ n := lt_pow_G h.glen
theorem IsZ.gle {W : World} {a : Option Addr} {n c x m : Nat} (h : IsZ W a n c (zs (G x))) (hx : x < 10000 ^ m) : n ≤ m := by rw [← h.glen]; exact G_len_le x m hx

set_option maxRecDepth 100000 in
set_option maxHeartbeats 2000000 in
theorem root_any (a : Option Addr) (n c : Nat) (x : Nat) (w : World) (hl : IsZ w a n c (zs (G x))) (hn : n ≤ 400) :
    Calls Tryd.prog 40 #[.slice a n c] w fun e w' => ∃ a1 n1 c1, e = .returned (.slice a1 n1 c1) ∧ IsZ w' a1 n1 c1 (zs (G (rt x))) ∧ Below w.heap.size w w' := by
  have hcap := hl.cap
  rcases Nat.eq_zero_or_pos n with h0 | h0
  · have hx : x = 0 := dgs_len0.1 (hl.glen.trans h0)
    subst hx
    subst h0
    have Hl := Lib.hid hl
    clear hl
    go_enter Tryd.func40, Tryd.ntmps40
    go_wp2_with fail
    go_ret
    exact ⟨_, _, _, rfl, Hl.out, Below.refl _ _⟩
  · have hx0 : 0 < x := by
      rcases Nat.eq_zero_or_pos x with h | h
      · rw [h, show G 0 = [] from dgs_zero 9998] at hl
        have := hl.len; simp [zs] at this; omega
      · exact h
    obtain ⟨p, hp⟩ : ∃ p, (n + 1) / 2 = p := ⟨_, rfl⟩
    have hp1 : n ≤ p + p := by omega
    have hp2 : p ≤ 200 := by omega
    have e1 : Int.tdiv ((n : Int) + 1) 2 = (p : Int) := by rw [← hp]; rfl
    have hdn : decide ((n : Int) = 0) = false := by simp; omega
    obtain ⟨w1, hmk, hown1, hb1, hs1⟩ := mkOwnN w 49 Tryd.underlying49 p (by omega)
    obtain ⟨i0, hi, hz0, hz1, hz2⟩ := info_parts infoInt
    obtain ⟨M, hM⟩ := numOf
    have HM := Lib.hid hM
    have Hl := Lib.hid hl
    have hxb := hl.glt
    have hstart : x < (10000 ^ p + 1) * (10000 ^ p + 1) := by
      have h1 := Nat.pow_le_pow_right (n := 10000) (by omega) hp1
      rw [Nat.pow_add] at h1
      rw [Nat.add_mul, Nat.mul_add]; omega
    have hpp : 0 < 10000 ^ p := Nat.pow_pos (by omega)
    have Hst := Lib.hid (And.intro hstart hpp)
    have Hxb := Lib.hid hxb
    have hsz : w.heap.size < w1.heap.size := by omega
    clear hl hp hM hstart hpp hxb hs1
    go_enter Tryd.func40, Tryd.ntmps40
    go_wp2_with (at_builtin; refine wpList_push rfl _ _ 49 rfl w.heap.size 3 i0 (.int .i64 0) 8 Tryd.underlying49 hi hz0 hz1 hz2 rfl (by omega) .i64 _ (List.replicate p 0) rfl (hown1.alloc _) ⟨w1.heap.size, 0, none⟩ 1 1 rfl ?c1 ?c2 ?c3 ?_)
    case c1 => simp [Addr.add]
    case c2 => rw [List.length_replicate]; omega
    case c3 => simp; omega
    intro v' w3 hown3 hb5
    have hb6 := (hb1.alloc (Nat.le_of_lt hsz) _).trans hb5
    rw [← G_pow] at hown3
    obtain ⟨a3, n3, c3, rfl⟩ : ∃ a n c, v' = .slice a n c := hown3.row.2.elim (fun h => ⟨_, _, _, h.1⟩) (fun ⟨g, cap, cur, hv, _⟩ => ⟨_, _, _, hv⟩)
    have Hz3 := Lib.hid hown3.isZ
    clear hown3 hown1 hb1 hb5 hmk hi hz0 hz1 hz2
    go_wp2_with fail
    go_loopw [3] (fun v wr => ∃ (ar : Option Addr) (nr cr r : Nat), v = .slice ar nr cr ∧ IsZ wr ar nr cr (zs (G r)) ∧ 0 < r ∧ x < (r + 1) * (r + 1) ∧ r ≤ 10000 ^ p ∧ Below w.heap.size w wr) (fun v wr => M v wr)
    case atStart => exact ⟨a3, n3, c3, 10000 ^ p, rfl, Hz3.out, Hst.out.2, Hst.out.1, Nat.le_refl _, hb6⟩
    case round =>
      clear hb6
      obtain ⟨ar, nr, cr, r, rfl, hzr, hr0, hxr, hrp, hw⟩ := hrel
      have hnr : nr ≤ p + 1 := hzr.gle (by rw [Nat.pow_succ]; have := Hst.out.2; omega)
      have hd := divide_any a n c ar nr cr x r wr (Hl.out.later hw) hzr hr0 (by omega) (by omega)
      have hnw := newton x r hr0
      have hns := newton_stop x r
      have hqx : x / r ≤ x := Nat.div_le_self _ _
      obtain ⟨q, hq⟩ : ∃ q, x / r = q := ⟨_, rfl⟩
      rw [hq] at hd hnw hns hqx
      have Hz := Lib.hid hzr
      have Hn := Lib.hid (And.intro hnw (And.intro (fun h => hns hxr h) (And.intro hqx (And.intro hrp hr0))))
      clear hzr hnw hns hqx hq hxr hrp hr0
      go_wp2_with (go_at_call 51; refine hd.mono ?_; rintro e w4 ⟨a1, n1, c1, a2, n2, c2, rfl, hz1, hz2, hb4⟩)
      have hw4 := below_on hw hb4 hw.size
      have hpl := plus_any ar nr cr (G r) a1 n1 c1 (G q) r q w4 (Hz.out.later hb4) hz1 (G_lt r) (G_lt q) (V_G r) (V_G q) (Nat.le_trans (hz1.gle (Nat.lt_of_le_of_lt Hn.out.2.2.1 Hxb.out)) (by omega)) (by omega)
      have Hpl := Lib.hid hpl
      clear hz1 hz2 hpl
      go_wp2_with (go_at_call 45; refine Hpl.out.mono ?_; rintro e w5 ⟨a5, n5, c5, rfl, hz5, hb5⟩)
      have hw5 := below_on hw4 hb5 hw4.size
      have hw6 : Below w.heap.size w (w5.alloc (.cells #[.int .i64 2] 3)) := hw5.alloc hw5.size _
      have hn5 : n5 ≤ p + n + 1 := by
        refine hz5.gle ?_
        have h1 := Nat.pow_le_pow_right (n := 10000) (by omega) (show p ≤ p + n by omega)
        have h2 := Nat.pow_le_pow_right (n := 10000) (by omega) (show n ≤ p + n by omega)
        have h3 := Hn.out.2.2.1
        have h4 := Hxb.out
        have h5 := Hn.out.2.2.2.1
        rw [Nat.pow_succ]
        omega
      have hrq := hz5.glt
      have hd2 := divide_any (some a5) n5 c5 (some ⟨w5.heap.size, 0, none⟩) 1 1 (r + q) 2 (w5.alloc (.cells #[.int .i64 2] 3)) (hz5.later ((Below.refl _ w5).alloc (Nat.le_refl _) _)) (by rw [G_small 2 (by omega) (by omega)]; exact one_isZ w5 2) (by omega) (by omega) (by omega)
      obtain ⟨t, ht⟩ : ∃ t, (r + q) / 2 = t := ⟨_, rfl⟩
      rw [ht] at hd2 Hn
      have Hd2 := Lib.hid hd2
      clear hz5 hd2 hw4
      go_wp2_with (go_at_call 51; refine Hd2.out.mono ?_; rintro e w7 ⟨a7, n7, c7, a8, n8, c8, rfl, hz7, hz8, hb7⟩)
      have hw7 := below_on hw6 hb7 hw6.size
      have hB57 : Below wr.heap.size wr w7 := (hb4.trans (hb5.mono hb4.size)).trans (((Below.refl _ w5).alloc (Nat.le_refl _) _ |>.trans (hb7.mono (by simp))).mono (Nat.le_trans hb4.size hb5.size))
      have hzr7 := Hz.out.later hB57
      have htp : t ≤ r + q := by rw [← ht]; omega
      have hn7 : n7 ≤ n5 := by
        refine hz7.gle ?_
        omega
      have hcp := compare_any a7 n7 c7 ar nr cr t r w7 hz7 hzr7 (by omega) (by omega)
      have hcg := cmp_geq t r
      obtain ⟨u, hu⟩ : ∃ u, cmp t r = u := ⟨_, rfl⟩
      rw [hu] at hcp hcg
      have Hcp := Lib.hid hcp
      have H7 := Lib.hid (And.intro hz7 hzr7)
      clear hrq hz7 hz8 hzr7 hcp hu ht htp hn7 hn5 hb4 hb5 hb7 hw5 hw6
      rcases Nat.lt_or_ge t r with htr | htr
      · rw [show decide (r ≤ t) = false by simp; omega] at hcg
        go_wp2_with (go_at_call 46; refine Hcp.out.mono ?_; rintro e w9 ⟨rfl, hb9⟩)
        go_roundw
        case rel =>
          refine ⟨a7, n7, c7, t, rfl, H7.out.1.later hb9, ?_, Hn.out.1, Nat.le_trans (Nat.le_of_lt htr) Hn.out.2.2.2.1, below_on hw7 hb9 hw7.size⟩
          rcases Nat.eq_zero_or_pos t with h | h
          · have := Hn.out.1; rw [h] at this; omega
          · exact h
        case measure =>
          rw [HM.out _ _ _ _ _ (H7.out.1.later hb9), HM.out _ _ _ _ _ Hz.out]
          exact htr
      · rw [show decide (r ≤ t) = true by simp; omega] at hcg
        have hrt : r = rt x := Hn.out.2.1 htr
        go_wp2_with (go_at_call 46; refine Hcp.out.mono ?_; rintro e w9 ⟨rfl, hb9⟩)
        go_ret
        exact ⟨_, _, _, rfl, by rw [← hrt]; exact H7.out.2.later hb9, below_on hw7 hb9 hw7.size⟩

end Go.Proofs.YtieaelipgieaoaaDoor
