/-
  Package pack: Encode.
-/
import Derived.Test.YtnploljhikljfaaPwd
import Derived.Test.YtnploljhikljfaaRop
namespace Go.Proofs.Ytnploljhikljfaa
open Go.RowKit Bs Pk
attribute [local go_sem] Oper.semAt_some

theorem append_pc (p : Pc) (L : List Nat) (hok : p.ok L) (base g c gc N cap : Nat) (C : List Nat) (hN : C.length = N) (hfit : N + (spell L p).length ≤ cap) (w : World) (hv : Bs.Own w base 5 .u8 (.slice (some ⟨gc, 0, none⟩) N cap) C)
    (hS : Sl w g L c) (hgv : gc ≠ g) :
    Calls Try.prog 22 #[pcV g p, .slice (some ⟨gc, 0, none⟩) N cap] w fun e w' => e = .returned (.slice (some ⟨gc, 0, none⟩) (N + (spell L p).length) cap) ∧ Bs.Own w' base 5 .u8 (.slice (some ⟨gc, 0, none⟩) (N + (spell L p).length) cap) (C ++ spell L p) ∧ w.grownBy w' (some gc) := by
  cases p with
  | copy n d =>
    obtain ⟨h1, h2, h3, h4⟩ : 4 ≤ n ∧ n ≤ 131 ∧ 1 ≤ d ∧ d ≤ 255 := hok
    exact append_copy n d base gc N cap h2 h4 C hN hfit w hv g
  | run a n =>
    obtain ⟨h1, h2, h3⟩ : 1 ≤ n ∧ n ≤ 128 ∧ a + n ≤ L.length := hok
    have hl := run_len L a n h3
    rw [hl] at hfit ⊢
    have := append_run a n base g gc N cap ((L.drop a).take n) h1 h2 C hN (by omega) w hv ⟨fun i hi => by
      rw [hS.get (a + i) (by omega)]
      congr 3
      rw [List.getD_eq_getElem?_getD, List.getD_eq_getElem?_getD, List.getElem?_take, if_pos hi, List.getElem?_drop], fun _ => hS.lt⟩ (by rw [List.length_take, List.length_drop]; omega) hS.lt hgv
    rw [show N + 1 + n = N + (n + 1) by omega] at this
    exact this

/-- a piece's cells -/
theorem pcV_cells (g : Nat) (p : Pc) : ∃ A : Array Value, pcV g p = .agg A ∧ A.size = 3 ∧ A.all (·.oneCell') = true := by
  cases p with
  | run a n => exact ⟨#[.slice (some ⟨g, a, none⟩) n n, .int .i64 0, .int .i64 0], rfl, rfl, by simp [Value.oneCell']⟩
  | copy n d => exact ⟨#[.slice none 0 0, .int .i64 (n : Int), .int .i64 (d : Int)], rfl, rfl, by simp [Value.oneCell']⟩
theorem take_next (L : List Nat) (xs : List Pc) (k : Nat) (hk : k < xs.length) : spells L (xs.take (k + 1)) = spells L (xs.take k) ++ spell L xs[k] := by
  rw [List.take_succ_eq_append_getElem hk, spells_append]; simp [spells]
theorem take_fits (L : List Nat) (xs : List Pc) (k : Nat) (hk : k < xs.length) : (spells L (xs.take k)).length + (spell L xs[k]).length ≤ (spells L xs).length := by
  conv => rhs; rw [← List.take_append_drop (k + 1) xs]
  rw [spells_append, take_next L xs k hk, List.length_append, List.length_append]; omega

set_option maxRecDepth 100000 in
set_option maxHeartbeats 1000000 in
theorem Encode_ok (l : List UInt8) (hl : l.length ≤ 4096) (w : World) :
    Calls Try.prog 15 #[.string (bs l)] w fun e w' => e = .returned (.tuple #[.string (bs (ub (enc (nb l)))), .int .i64 0]) ∧ Below w.heap.size w w' := by
  obtain ⟨R, hR⟩ : ∃ R, bs (ub (enc (nb l))) = R := ⟨_, rfl⟩
  rw [hR]
  have HR := Lib.hid hR
  clear hR
  obtain ⟨S, hS⟩ : ∃ S, bs l = S := ⟨_, rfl⟩
  have hsz : S.size = l.length := by rw [← hS, bs_size]
  have hcv : ∀ w, (convert 9 29 (.string S)).run Try.prog w = .ok (.slice (some ⟨w.heap.size, 0, none⟩) l.length (bcap l w)) (bW l w) := fun w => by rw [← hS]; exact bytes_run l w
  obtain ⟨w1, hmk, hown, hb1, hs1⟩ := mkOwnB w 4129 (by omega)
  replace hmk : (Instr.makeSlice 29 (.int .i64 0) (.int .i64 4129)).run Try.prog w = .ok (.slice (some ⟨w.heap.size, 0, none⟩) 0 4129) w1 := hmk
  rw [hS]
  obtain ⟨n, hn⟩ : ∃ n, l.length = n := ⟨_, rfl⟩
  have hLn : (nb l).length = n := by rw [nb_length, hn]
  rw [hn] at hl hsz hcv
  have HL := Lib.hid hLn
  have HOW := Lib.hid hown
  have HB1 := Lib.hid hb1
  refine (callsIn_wide (n := 3)).1 ?_
  refine callsIn_of_wp_marks Try.func15 rfl trivial ?_ rfl
  simp only [Try.ntmps15, List.size_toArray, List.length_cons, List.length_nil, Nat.reduceAdd, Nat.reduceSub, Array.replicate_succ, Array.replicate_zero, List.push_toArray, List.append_toArray, List.nil_append, List.cons_append]
  have d1 : decide ((4096 : Int) < (n : Int)) = false := decide_eq_false (by omega)
  have d2 : decide (4096 < n) = false := decide_eq_false (by omega)
  clear hS hown hb1 hLn hn
  gi_wp2_with (refine ⟨trivial, ?_⟩; gi_at_call 21; refine (callsIn_wide.2 (divided_any _ _ _ _)).mono ?_; rintro e w' ⟨rfl, rfl⟩)
  obtain ⟨gc, hgc⟩ : ∃ gc, w.heap.size = gc := ⟨_, rfl⟩
  obtain ⟨w2, hw2⟩ : ∃ w2, w1.alloc (Obj.cells #[Value.slice (some ⟨w.heap.size, 0, none⟩) 0 4129] 29) = w2 := ⟨_, rfl⟩
  rw [hw2]
  have hs2 : w2.heap.size = gc + 2 := by rw [← hw2, World.size_alloc, hs1, hgc]
  have hb2 : Below (gc + 1) w1 w2 := by rw [← hw2]; exact (Below.refl _ w1).alloc (by omega) _
  have hv2 : w2.heap[gc + 1]? = some (.cells #[.slice (some ⟨gc, 0, none⟩) 0 4129] 29 (0, 0)) := by
    have := heap_alloc_new w1 (Obj.cells #[Value.slice (some ⟨w.heap.size, 0, none⟩) 0 4129] 29)
    rw [hs1, hgc] at this
    rw [← hw2, hgc]; exact this
  have hsl := bW_sl l w2
  have hb3 := bW_below l w2
  have hs3 := bW_size l w2
  obtain ⟨w3, hw3⟩ : ∃ w3, bW l w2 = w3 := ⟨_, rfl⟩
  obtain ⟨c, hc⟩ : ∃ c, bcap l w2 = c := ⟨_, rfl⟩
  rw [hw3] at hsl hb3 hs3
  rw [hc, hs2] at hsl
  rw [hs2] at hb3 hs3
  rw [hw3, hc, hs3, hgc]
  rw [show gc + 1 + 1 = gc + 2 from rfl]
  refine wpIn_world fun W0 hW0 => ?_
  have hb4 : Below (gc + 3) w3 W0 := by rw [hW0]; exact (Below.refl _ w3).alloc (by omega) _
  have hs4 : W0.heap.size = gc + 4 := by rw [hW0, World.size_alloc, hs3]
  have hbox : W0.cell? ⟨gc + 3, 0, none⟩ = some (.slice (some ⟨gc + 2, 0, none⟩) n c) := by
    have := heap_alloc_new w3 (Obj.cells #[Value.slice (some ⟨gc + 2, 0, none⟩) n c] 29)
    rw [hs3] at this
    rw [hW0, cell_of_row _ _ 0 _ _ _ this]; rfl
  have hsl0 : Sl W0 (gc + 2) (nb l) c := hsl.below hb4 (by omega)
  have hv0 : W0.heap[gc + 1]? = some (.cells #[.slice (some ⟨gc, 0, none⟩) 0 4129] 29 (0, 0)) := ((hb4.block _ (by omega)).trans (hb3.block _ (by omega))).trans hv2
  have hown0 : Bs.Own W0 gc 5 .u8 (.slice (some ⟨gc, 0, none⟩) 0 4129) [] := by
    have h0 := HOW.out
    rw [hgc] at h0
    have e : W0.heap[gc]? = w1.heap[gc]? := ((hb4.block _ (by omega)).trans (hb3.block _ (by omega))).trans (hb2.block _ (by omega))
    refine ⟨h0.row.1, ?_⟩
    rcases h0.row.2 with ⟨h1, _⟩ | ⟨g, cap, cur, hv, h2, h3, h4⟩
    · cases h1
    · cases hv; exact .inr ⟨gc, 4129, cur, rfl, h2, e.trans h3, h4⟩
  have hB0 : Below gc w W0 := by
    have h1 := HB1.out
    rw [hgc] at h1
    exact ((h1.trans (hb2.mono (by omega))).trans (hb3.mono (by omega))).trans (hb4.mono (by omega))
  have hyl := divided_yields (gc + 3) (gc + 2) c (nb l) (by rw [HL.out]; omega) W0 (by rw [HL.out]; exact hbox) hsl0
  have hok := div_ok (nb l) 0 0 (Nat.le_refl _) (Nat.zero_le _) (by omega)
  have henc : (spells (nb l) (div (nb l) 0 0)).length ≤ 4129 := by
    have := (enc_bound (nb l)).1
    rw [HL.out] at this
    have h2 : (enc (nb l)).length = (spells (nb l) (div (nb l) 0 0)).length := rfl
    omega
  have HE := Lib.hid (show spells (nb l) (div (nb l) 0 0) = enc (nb l) from rfl)
  have hlt := enc_lt (nb l) (nb_lt l)
  obtain ⟨L, hL⟩ : ∃ L, nb l = L := ⟨_, rfl⟩
  rw [hL] at hyl hok henc HE hlt hsl0 HL HR
  obtain ⟨xs, hxs⟩ : ∃ xs, div L 0 0 = xs := ⟨_, rfl⟩
  rw [hxs] at hyl hok henc HE
  rw [← HE.out] at hlt HR
  clear hW0 hb4 hsl hb3 hs3 hw3 hb2 hw2 hs2 hv2 hmk hcv hc HE hxs hL HB1 HOW hs1 hsz
  rw [show gc + 2 + 1 = gc + 3 from rfl]
  refine Rfc.wpIn_rangeFunc_cells rfl (by omega) (gf := 25) (lb := #[.pointer (some ⟨gc + 3, 0, none⟩)]) rfl trivial (enters_of Try.func25 (by kernel_rfl) rfl) (S := fun k => k = gc + 3 ∨ k = gc + 2) (fun k hk => by rcases hk with hk | hk <;> omega)
    hyl (Below.refl _ _) (fun _ => rfl)
    (fun k W => ∃ N, (spells L (xs.take k)).length = N ∧ W.heap[gc + 1]? = some (.cells #[.slice (some ⟨gc, 0, none⟩) N 4129] 29 (0, 0)) ∧ Bs.Own W gc 5 .u8 (.slice (some ⟨gc, 0, none⟩) N 4129) (spells L (xs.take k)) ∧ Sl W (gc + 2) L c ∧ Below gc w W)
    (fun _ _ _ => False)
    (fun k A C ⟨N, h1, h2, h3, h4, h5⟩ hb => ⟨N, h1, (hb.block _ (by omega)).trans h2, h3.below hb (fun j hj => by cases hj; show gc < _; omega), h4.below hb (by omega), h5.trans (hb.mono (by omega))⟩)
    (fun _ _ _ _ h _ => h) ⟨0, rfl, hv0, hown0, hsl0, hB0⟩ ?round ?done ?stop
  case stop =>
    rintro D c k W _ _ h _
    exact h.elim
  case round =>
    clear hv0 hown0 hsl0 hB0 hyl hbox
    rintro l k hk W hl hlt2 ⟨N, h1, h2, h3, h4, h5⟩
    have hokk := hok _ (List.getElem_mem hk)
    have hfit := take_fits L xs k hk
    have hnx := take_next L xs k hk
    rw [h1] at hfit
    obtain ⟨p, hp⟩ : ∃ p, xs[k] = p := ⟨_, rfl⟩
    rw [hp] at hokk hfit hnx ⊢
    obtain ⟨A, hA, hA3, hA1⟩ := pcV_cells (gc + 2) p
    have hAm := Lib.hid hA
    rw [hA]
    have HA3 := Lib.hid hA3
    have HNX := Lib.hid hnx
    have HOK := Lib.hid hokk
    obtain ⟨M, hM⟩ : ∃ M, (spell L p).length = M := ⟨_, rfl⟩
    rw [hM] at hfit
    have HM := Lib.hid hM
    clear hA hA3 hnx hokk hp hM
    obtain ⟨gp, hgp⟩ : ∃ gp, W.heap.size = gp := ⟨_, rfl⟩
    have hz0 : (W.alloc (Obj.cells #[.slice none 0 0, .int .i64 0, .int .i64 0] 47)).heap[gp]? = some (.cells #[.slice none 0 0, .int .i64 0, .int .i64 0] 47 (0, 0)) := by rw [← hgp]; exact heap_alloc_new W _
    gi_wp2_with (refine wpListIn_store_row rfl 47 _ _ rfl gp _ rfl rfl 47 _ hz0 ?g1 ?g2 hA1 ?_)
    case g1 => rw [HA3.out]; kernel_rfl
    case g2 => rw [HA3.out]; rfl
    have hbW : Below gp W ((W.alloc (Obj.cells #[.slice none 0 0, .int .i64 0, .int .i64 0] 47)).setRow gp A) := below_setRow ((Below.refl _ W).alloc (by omega) _) (Nat.le_refl _) _
    have hrow : ((W.alloc (Obj.cells #[.slice none 0 0, .int .i64 0, .int .i64 0] 47)).setRow gp A).heap[gp]? = some (.cells A 47 (0, 0)) := setRow_heap _ _ _ _ _ _ hz0
    have hsz1 : ((W.alloc (Obj.cells #[.slice none 0 0, .int .i64 0, .int .i64 0] 47)).setRow gp A).heap.size = gp + 1 := by rw [size_setRow, World.size_alloc, hgp]
    rw [hgp] at hlt2
    refine ⟨⟨hbW.size, fun k _ hk => hbW.block k (by omega)⟩, fun W2 hbu => ?_⟩
    obtain ⟨W1, hW1⟩ : ∃ W1, (W.alloc (Obj.cells #[.slice none 0 0, .int .i64 0, .int .i64 0] 47)).setRow gp A = W1 := ⟨_, rfl⟩
    have hbu' : Rfc.But l ((W.alloc (Obj.cells #[.slice none 0 0, .int .i64 0, .int .i64 0] 47)).setRow gp A) W2 := hbu
    rw [hW1] at hbu' hbW hrow hsz1
    have b2 : Below l W W2 := (hbW.mono (by omega)).trans (hbu'.below (Nat.le_refl _))
    have hrow2 : W2.heap[gp]? = some (.cells A 47 (0, 0)) := (hbu'.block _ (by omega)).trans hrow
    have hsz2 : W2.heap.size = gp + 1 := by rw [hbu'.size, hsz1]
    rw [hs4] at hl
    have h2' : W2.heap[gc + 1]? = some (.cells #[.slice (some ⟨gc, 0, none⟩) N 4129] 29 (0, 0)) := (b2.block _ (by omega)).trans h2
    have h3' : Bs.Own W2 gc 5 .u8 (.slice (some ⟨gc, 0, none⟩) N 4129) (spells L (xs.take k)) := h3.below b2 (fun j hj => by cases hj; show gc < l; omega)
    have h4' := h4.below b2 (by omega)
    have h5' : Below gc w W2 := h5.trans (b2.mono (by omega))
    have hap := append_pc p L HOK.out gc (gc + 2) c gc N 4129 _ h1 (by rw [HM.out]; omega) W2 h3' h4' (by omega)
    rw [HM.out, hAm.out] at hap
    have HAP := Lib.hid hap
    have c2 : W2.cell? ⟨gc + 1, 0, none⟩ = some (.slice (some ⟨gc, 0, none⟩) N 4129) := by rw [cell_of_row _ _ 0 _ _ _ h2']; rfl
    have H4 := Lib.hid h4'
    have H5 := Lib.hid h5'
    have HR2 := Lib.hid h2'
    clear hbu hbu' hW1 hap h3' h4' h5' h2' h2 h3 h4 h5 hbW hrow hsz1 hz0 b2 hgp
    obtain ⟨vb, hvb⟩ : ∃ vb, gc + 1 = vb := ⟨_, rfl⟩
    rw [hvb] at c2 HR2 ⊢
    have HVB := Lib.hid hvb
    clear hvb
    gi_wp2_with (refine wpListIn_load_row rfl 47 _ rfl gp rfl 47 _ _ _ hrow2 Try.underlying47 rfl ?g3 ?_)
    case g3 => rw [HA3.out]; kernel_rfl
    refine ⟨trivial, (CallsIn.inRound l (callsIn_wide.2 HAP.out)).mono ?_⟩
    rintro e W3 ⟨rfl, hown3, hgr⟩
    have hr3 : W3.heap[vb]? = some (.cells #[.slice (some ⟨gc, 0, none⟩) N 4129] 29 (0, 0)) := (hgr.block _ (by have := HVB.out; omega) (fun h => by have := HVB.out; simp only [Option.some.injEq] at h; omega)).trans HR2.out
    have f3 := frozen_of_row W3 vb 0 _ _ hr3
    have c3 : W3.cell? ⟨vb, 0, none⟩ = some (.slice (some ⟨gc, 0, none⟩) N 4129) := by rw [cell_of_row _ _ 0 _ _ _ hr3]; rfl
    have s3 : vb < W3.heap.size := (Array.getElem?_eq_some_iff.1 hr3).1
    have H4' := Lib.hid (show Sl W3 (gc + 2) L c from ⟨⟨fun i hi => hgr.cell (H4.out.nums.cell i hi) (fun h => by simp only [Option.some.injEq] at h; omega), fun hn => Nat.lt_of_lt_of_le (H4.out.nums.lt hn) hgr.size⟩, H4.out.cap, Nat.lt_of_lt_of_le H4.out.lt hgr.size⟩)
    have HG := Lib.hid hgr
    have HO3 := Lib.hid hown3
    have HR3 := Lib.hid hr3
    clear hgr hown3 hr3 H4 HR2 HAP hrow2 c2
    gi_wp2_with fail
    have hb3 : Below gc W2 W3 := below_grown HG.out (Nat.le_refl _) (by omega)
    refine ⟨⟨by rw [World.size_setCell]; exact HG.out.size, fun i hi hlt => ?_⟩, N + M, by rw [HNX.out, List.length_append, h1, HM.out], ?_, ?_, ?_, ?_⟩
    · rw [hs4] at hi
      have hv := HVB.out
      rw [heap_setCell_other W3 ⟨vb, 0, none⟩ i _ (by show i ≠ vb; omega)]
      exact HG.out.block i hlt (by intro h; cases h; omega)
    · rw [heap_setCell_same W3 vb 0 _ _ _ HR3.out]; rfl
    · rw [HNX.out]
      exact HO3.out.below (n := vb) ((Below.refl _ W3).setCell (p := ⟨vb, 0, none⟩) (Nat.le_refl _) _) (fun j hj => by cases hj; have := HVB.out; show gc < vb; omega)
    · refine ⟨⟨fun i hi => ?_, fun hn => by rw [World.size_setCell]; exact H4'.out.nums.lt hn⟩, H4'.out.cap, by rw [World.size_setCell]; exact H4'.out.lt⟩
      have e : (W3.setCell ⟨vb, 0, none⟩ (.slice (some ⟨gc, 0, none⟩) (N + M) 4129)).heap[gc + 2]? = W3.heap[gc + 2]? := heap_setCell_other W3 ⟨vb, 0, none⟩ (gc + 2) _ (by have := HVB.out; show gc + 2 ≠ vb; omega)
      exact (World.cell?_of_block (w := W3) e).trans (H4'.out.nums.cell i hi)
    · exact ((H5.out.trans hb3)).setCell (p := ⟨vb, 0, none⟩) (by have := HVB.out; show gc ≤ vb; omega) _
  case done =>
    rintro D W hD hDW ⟨N, h1, h2, h3, h4, h5⟩ hdef
    rw [List.take_length] at h1 h3
    have hcv2 := own_str h3 h1 hlt
    rw [HR.out] at hcv2
    have c2 : W.cell? ⟨gc + 1, 0, none⟩ = some (.slice (some ⟨gc, 0, none⟩) N 4129) := by rw [cell_of_row _ _ 0 _ _ _ h2]; rfl
    have H5 := Lib.hid h5
    clear h1 h2 h3 h4 h5 hv0 hown0 hsl0 hB0 hyl hbox
    gi_wp2
    refine ⟨by simp, .inl ⟨_, _, rfl, run_takeDeferred hdef, ?_⟩⟩
    refine ⟨_, results_tmp2 rfl _ _ _, rfl, ?_⟩
    rw [hgc]
    exact H5.out.trans (belowK_b (w := W0) (n₀ := gc) (by omega) W D _ _ hD hdef rfl rfl)

theorem Encode_no (s : ByteArray) (hl : 4096 < s.size) (w : World) :
    Calls Try.prog 15 #[.string s] w fun e w' => e = .returned (.tuple #[.string ByteArray.empty, .int .i64 70]) ∧ w' = w := by
  have d1 : decide ((4096 : Int) < (s.size : Int)) = true := decide_eq_true (by omega)
  have d2 : decide (4096 < s.size) = true := decide_eq_true (by omega)
  go_enter Try.func15, Try.ntmps15
  go_wp2
  go_ret2
  exact ⟨rfl, rfl⟩

end Go.Proofs.Ytnploljhikljfaa
