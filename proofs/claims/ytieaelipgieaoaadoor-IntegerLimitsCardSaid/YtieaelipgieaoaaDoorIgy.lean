/-
  Layer 3: the digits of a number in groups.
-/
import Derived.Test.YtieaelipgieaoaaDoorIgi
import Derived.Test.YtieaelipgieaoaaDoorIgw
import Derived.Test.YtieaelipgieaoaaDoorIgd
import Derived.Lib.AppendIntMem
namespace Go.Proofs.YtieaelipgieaoaaDoor
open Go.RowKit Bs Ig Go.Shelf Go.Sort
attribute [local go_sem] Oper.semAt_some

/-- the library's table of powers of ten -/
def TabP (W : World) : Prop := Lib.TabIs Tryd.prog W "internal/strconv.uint64pow10" .u64 Lib.pow10Tab
theorem TabP.later {W W' : World} (h : TabP W) (hb : Below W.heap.size W W') : TabP W' := Lib.tabBelow_of_tabIs h W' hb
theorem below_grow (w : World) (k : Nat) (os : Array Obj) : Below w.heap.size w (grow (w.drewN k) os) :=
  ⟨rfl, rfl, rfl, by simp [grow], fun i hi => by
    show ((w.drewN k).heap ++ os)[i]? = _
    rw [Array.getElem?_append_left (by exact hi)]
    rfl⟩
theorem itoa_any (n : Nat) (N : Int) (hN : N = n) (hn : n ≤ 9223372036854775807) (w : World) (ht : TabP w) :
    Calls Tryd.prog 25 #[.int .i64 N] w fun e w' => e = .returned (.string (bs (Lib.decDigits n))) ∧ Below w.heap.size w w' := by
  subst hN
  refine (Tryd.strconv_Itoa n (by omega) (by omega) w ht).mono ?_
  rintro e w' ⟨rfl, k, os, rfl⟩
  refine ⟨?_, below_grow w k os⟩
  rw [itoa_nat]; rfl
/-- a builder that holds the bytes l -/
def Bld (w : World) (b : Nat) (l : List UInt8) (W : World) : Prop := Lib.BuilderAtF 74 5 w.heap.size b (.pointer (some ⟨b, 0, none⟩)) (Lib.byteCells l) W
theorem bldF_kept {T e : TypeId} {B b : Nat} {p : Value} {l : List Value} {A C : World} (h : Lib.BuilderAtF T e B b p l A) (hk : Rfn.CellsKept A C) : Lib.BuilderAtF T e B b p l C := by
  obtain ⟨hB, v, hb, hown, hne⟩ := h
  refine ⟨hB, v, hk.same _ _ hb rfl, ⟨hown.1, ?_⟩, hne⟩
  rcases hown.2 with h | ⟨g, cap, cur, fz, hv, h1, h2, h3⟩
  · exact .inl h
  · exact .inr ⟨g, cap, cur, fz, hv, h1, hk.same _ _ h2 rfl, h3⟩
theorem Bld.kept {w : World} {b : Nat} {l : List UInt8} {A C : World} (h : Bld w b l A) (hk : Rfn.CellsKept A C) : Bld w b l C := bldF_kept h hk
theorem strCells_bs (l : List UInt8) : Lib.strCells (bs l) = Lib.byteCells l := rfl
theorem byteCells_append (l m : List UInt8) : Lib.byteCells l ++ Lib.byteCells m = Lib.byteCells (l ++ m) := by simp [Lib.byteCells]
theorem keeps_others {W W' : World} {e : TypeId} {b : Nat} {c : Array Value} {t : TypeId} {f : Nat × Nat} (hb : W.heap[b]? = some (.cells c t f)) (h : Lib.OthersKept e (some b) W W') (hs : W.heap.size ≤ W'.heap.size) : KeepsOthers W W' :=
  ⟨hs, fun k o hk ho => h k o hk (by intro e; cases e; rw [hb] at hk; cases hk; cases ho) (by rintro c fz rfl; cases ho)⟩
theorem d4_slice (g : Nat) (hg : g < 10000) (W : World) : (Instr.sliceAt 9 (.string (bs (Lib.decDigits (10000 + g)))) (some (.int .i64 1)) none none).run Tryd.prog W = .ok (.string (bs (d4 g))) W := by
  rw [dec_5 g hg]
  rw [run_sliceAt_string _ _ _ _ _ _ Tryd.underlying9]
  have hsz : (bs (49 :: d4 g)).size = 5 := by rw [bs_size]; rfl
  rw [Go.run_slice_string_l (h0 := by omega) (h1 := by rw [hsz]; decide) (ht := Tryd.underlying9), hsz]
  rw [show (1 : Int).toNat = 1 from rfl, bs_extract]
  rfl

theorem dec_len_of {x m K : Nat} (hK : 0 < K) (hm : 4 * m ≤ K) (h : x < 10000 ^ m) : (Lib.decDigits x).length ≤ K := by
  refine (dec_length_le _ K hK).2 (Nat.lt_of_lt_of_le h ?_)
  rw [show (10000 : Nat) = 10 ^ 4 by decide, ← Nat.pow_mul]
  exact Nat.pow_le_pow_right (by omega) hm
set_option maxRecDepth 100000 in
set_option maxHeartbeats 2000000 in
theorem digits_any (a : Option Addr) (n c x : Nat) (w : World) (hl : IsZ w a n c (zs (G x))) (hn : n ≤ 100000) (ht : TabP w) :
    Calls Tryd.prog 35 #[.slice a n c] w fun e w' => e = .returned (.string (bs (Lib.decDigits x))) ∧ Below w.heap.size w w' := by
  have hxl : (G x).length = n := by rw [← zs_length]; exact hl.len
  have hcap := hl.cap
  refine (callsIn_wide (n := 3)).1 ?_
  refine callsIn_of_wp_marks Tryd.func35 rfl trivial ?_ rfl
  simp only [Tryd.ntmps35, List.size_toArray, List.length_cons, List.length_nil, Nat.reduceAdd, Nat.reduceSub, Array.replicate_succ, Array.replicate_zero, List.push_toArray, List.append_toArray, List.nil_append, List.cons_append]
  rcases Nat.eq_zero_or_pos n with h0 | h0
  · subst h0
    obtain rfl : x = 0 := dgs_len0.1 hxl
    rw [dec_small (by omega)]
    clear hl hxl
    gi_wp2
    exact ⟨_, results_tmp rfl _ _ _, rfl, Below.refl _ _⟩
  · obtain ⟨m, rfl⟩ : ∃ m, n = m + 1 := ⟨n - 1, by omega⟩
    obtain ⟨g0, off, rfl, hI⟩ := hl.at h0
    have hc := hI m (by rw [zs_length]; omega)
    rw [zs_getD, show (G x).getD m 0 = x / 10000 ^ m % 10000 from dgs_getD 9998 x m] at hc
    have hxb : x < 10000 ^ (m + 1) := lt_pow_G hxl
    have hx0 : 0 < x := by
      rcases Nat.eq_zero_or_pos x with h | h
      · rw [h, show G 0 = [] from dgs_zero 9998] at hxl; simp at hxl
      · exact h
    have hlow : 10000 ^ m ≤ x := by
      have := dgs_le_pow 9998 x hx0
      rw [show (dgs 9998 x).length = m + 1 from hxl] at this
      exact this
    have hq0 : 0 < x / 10000 ^ m := Nat.div_pos hlow (Nat.pow_pos (by omega))
    have hq1 : x / 10000 ^ m < 10000 := Nat.div_lt_of_lt_mul (by rw [← Nat.pow_succ]; exact hxb)
    rw [Nat.mod_eq_of_lt hq1] at hc
    have hsh := fun (W : World) => slc_h W 49 Tryd.underlying49 (some ⟨g0, off, none⟩) (m + 1) c m (m : Int) rfl (by omega) (by kernel_rfl)
    obtain ⟨t, htt⟩ : ∃ t, x / 10000 ^ m = t := ⟨_, rfl⟩
    rw [htt] at hc hq1
    have hdec : decide (((m + 1 : Nat) : Int) = 0) = false := by simp; omega
    have e1 : ((m + 1 : Nat) : Int) - 1 = (m : Int) := by omega
    have hb0 : Below w.heap.size w (w.alloc (.cells #[.pointer none, .slice none 0 0] 74)) := (Below.refl _ w).alloc (Nat.le_refl _) _
    have hbl0 : Lib.IsBuilderF 74 5 w.heap.size w.heap.size [] (w.alloc (.cells #[.pointer none, .slice none 0 0] 74)) :=
      .inl ⟨Nat.le_refl _, .slice none 0 0, heap_alloc_new _ _, World.ownsRowF_nil _ _ _ _, by intro e; cases e⟩
    have hcA : (w.alloc (.cells #[.pointer none, .slice none 0 0] 74)).cell? ⟨g0, off + m, none⟩ = some (.int .i64 (t : Int)) := (hb0.cell (p := ⟨g0, off + m, none⟩) (block_lt_of_cell hc)).trans hc
    have HI1 := Lib.hid (itoa_any t t rfl (by omega) _ (ht.later hb0))
    have Hx := Lib.hid (And.intro hl (And.intro ht (And.intro hxl hbl0)))
    have Htt := Lib.hid htt
    have Hq0 := Lib.hid hq0
    have htl : (Lib.decDigits t).length ≤ 4 := (dec_length_le t 4 (by omega)).2 (by omega)
    have Htl := Lib.hid htl
    clear hl ht hxl hI hlow hxb htt hx0 hbl0 hq0 hc htl
    gi_wp2_with (refine ⟨trivial, ?_⟩; gi_at_call 25; refine (callsIn_wide.2 HI1.out).mono ?_; rintro e w1 ⟨rfl, hb1⟩)
    have hb1w := hb0.trans (hb1.mono (by simp))
    have hbl1 : Lib.IsBuilderF 74 5 w.heap.size w.heap.size [] w1 := Hx.out.2.2.2.imp (fun h => bldF_kept h (Rfn.CellsKept.of_below hb1)) (fun h => bldF_kept h (Rfn.CellsKept.of_below hb1))
    have HW1 := Lib.hid (writeString_any w.heap.size w.heap.size [] (bs (Lib.decDigits t)) w1 hbl1 (by rw [bs_size]; have := Htl.out; simp; omega) hb1w.size)
    clear hbl1 hcA
    gi_wp2_with (first | (refine ⟨trivial, ?_⟩; gi_at_call 52; refine (callsIn_wide.2 HW1.out).mono ?_; rintro e w2 ⟨rfl, hbl2, hb2, hk2⟩) | (refine ⟨trivial, ?_⟩; gi_at_call 53; refine (callsIn_wide.2 (backward_any _ _ _ _)).mono ?_; rintro e w' ⟨rfl, rfl⟩))
    refine wpIn_world fun W0 hW0 => ?_
    have hb2w := hb1w.trans hb2
    have hb3 : Below w2.heap.size w2 W0 := by rw [hW0]; exact (Below.refl _ w2).alloc (Nat.le_refl _) _
    have hs2 : w.heap.size < w2.heap.size := hbl2.lt
    have hB0 : Below w.heap.size w W0 := hb2w.trans (hb3.mono hb2w.size)
    have hbl3 : Bld w w.heap.size (Lib.decDigits (x / 10000 ^ m)) W0 := by
      rw [Htt.out]
      exact bldF_kept (by rw [List.nil_append] at hbl2; exact hbl2) (Rfn.CellsKept.of_below hb3)
    have hrow : W0.heap[w2.heap.size]? = some (.cells #[.slice (some ⟨g0, off, none⟩) m c] 49 (0, 0)) := by rw [hW0]; exact heap_alloc_new _ _
    have hbn : w.heap.size ≠ w2.heap.size := by omega
    have hsW : W0.heap.size = w2.heap.size + 1 := by rw [hW0]; simp
    clear hW0 hb3 hbl2 hk2 hb1 hb2 HW1 HI1 hb0 hb1w hb2w
    generalize w2.heap.size = bk at *
    refine Rfn.wpIn_rangeFunc_need rfl (by omega) (gf := 69) (lb := #[.pointer (some ⟨bk, 0, none⟩)]) rfl trivial (enters_of Tryd.func69 (by kernel_rfl) rfl)
      (back_yields bk (some ⟨g0, off, none⟩) m c ((G x).take m) W0 (by omega) (by rw [List.length_take, Hx.out.2.2.1]; omega)) (Below.refl _ _) (fun _ => rfl)
      (fun j W => Bld w w.heap.size (Lib.decDigits (x / 10000 ^ (m - j))) W ∧ W.heap[bk]? = some (.cells #[.slice (some ⟨g0, off, none⟩) m c] 49 (0, 0)) ∧ Below w.heap.size w W)
      (fun _ _ _ => False)
      (fun j A C h hb hk => ⟨h.1.kept hk, hk.same _ _ h.2.1 rfl, h.2.2.trans (hb.mono hB0.size)⟩)
      (fun cd j A C h hb _ => h)
      (fun j W h => ⟨by rw [cell_of_row _ _ 0 _ _ _ h.2.1]; rfl, by rw [← zs_take]; exact (Hx.out.1.later h.2.2).take (by omega)⟩) ⟨by rw [Nat.sub_zero]; exact hbl3, hrow, hB0⟩ ?round ?done ?stop
    case stop =>
      rintro D cd j W hD hDW h hdef
      exact h.elim
    case done =>
      rintro D W hD hDW ⟨h1, h2, h3⟩ hdef
      rw [bks_length, List.length_take, Hx.out.2.2.1, show m - min m (m + 1) = 0 by omega, Nat.pow_zero, Nat.div_one] at h1
      have HS := Lib.hid (Tryd.Builder_String_any_k w.heap.size w.heap.size (Lib.decDigits x) W (.inr h1) h3.size)
      have Hdef := Lib.hid hdef
      have hbd : D ≠ w.heap.size := by omega
      clear h1 h2 hdef
      gi_wp2_with (refine ⟨trivial, ?_⟩; gi_at_call 54; refine (callsIn_wide.2 HS.out).mono ?_; rintro e w9 ⟨rfl, _, hb9, hk9⟩)
      have hd9 := hk9 D _ Hdef.out (by intro e; cases e; exact hbd rfl) (by rintro c fz e; cases e)
      refine ⟨by simp, .inl ⟨_, _, rfl, run_takeDeferred hd9, ?_⟩⟩
      exact ⟨_, results_tmp rfl _ _ _, rfl, (h3.trans hb9).trans (belowK_b (w := W0) (n₀ := w.heap.size) (by omega) _ D _ _ hD hd9 rfl rfl)⟩
    case round =>
      rintro q j hj W hq hqW ⟨h1, h2, h3⟩
      rw [bks_length, List.length_take, Hx.out.2.2.1, show min m (m + 1) = m by omega] at hj
      rw [bks_get, List.length_take, Hx.out.2.2.1, show min m (m + 1) = m by omega]
      obtain ⟨I, hI⟩ : ∃ I, m - 1 - j = I := ⟨_, rfl⟩
      rw [hI]
      have hI1 : m - j = I + 1 := by omega
      have hIn : I < m := by omega
      have HI := Lib.hid (show m - (j + 1) = I by omega)
      have hgd : ((G x).take m).getD I 0 = x / 10000 ^ I % 10000 := by
        rw [List.getD_eq_getElem?_getD, List.getElem?_take, if_pos hIn, ← List.getD_eq_getElem?_getD]; exact dgs_getD 9998 x I
      rw [hgd]
      rw [hI1] at h1
      have hstep := div_step 9998 x I
      rw [show (9998 + 2 : Nat) = 10000 from rfl] at hstep
      have hpos : 0 < x / 10000 ^ (I + 1) := by
        refine Nat.lt_of_lt_of_le Hq0.out (Nat.div_le_div_left (Nat.pow_le_pow_right (by omega) (by omega)) (Nat.pow_pos (by omega)))
      obtain ⟨g, hg⟩ : ∃ g, x / 10000 ^ I % 10000 = g := ⟨_, rfl⟩
      have hg1 : g < 10000 := by rw [← hg]; exact Nat.mod_lt _ (by omega)
      rw [hg] at hstep ⊢
      have hdec2 := dec_group g (x / 10000 ^ (I + 1)) hg1 hpos
      rw [← hstep] at hdec2
      simp only [bkEnc]
      have Hdd := Lib.hid hdec2
      have H1 := Lib.hid h1
      have H2 := Lib.hid h2
      clear hdec2 hstep hpos hg hgd hI hI1 hj h1 h2
      gi_wp2
      refine ⟨KeepsOthers.refl _, fun W2 hbu hck => ?_⟩
      have h31 := H1.out.kept hck
      have h32 := hck.same _ _ H2.out rfl
      have h33 := h3.trans (Rfn.But.below hbu (by have := hB0.size; omega : w.heap.size ≤ q))
      have HI2 := Lib.hid (itoa_any (10000 + g) (10000 + (g : Int)) (by omega) (by omega) W2 (Hx.out.2.1.later h33))
      have hd4 := fun W => d4_slice g hg1 W
      have Hk := Lib.hid (And.intro h31 h32)
      clear hck hbu h31 h32
      gi_wp2_with (refine ⟨trivial, ?_⟩; gi_at_call 25; refine (CallsIn.inRound q (callsIn_wide.2 HI2.out)).mono ?_; rintro e w4 ⟨rfl, hb4⟩)
      have hb4w := h33.trans (hb4.mono h33.size)
      have hbl4 : Bld w w.heap.size (Lib.decDigits (x / 10000 ^ (I + 1))) w4 := Hk.out.1.kept (Rfn.CellsKept.of_below hb4)
      have hrow4 := (hb4.block _ (Array.getElem?_eq_some_iff.1 Hk.out.2).1).trans Hk.out.2
      have hlen : (Lib.byteCells (Lib.decDigits (x / 10000 ^ (I + 1)))).length ≤ 1000000 := by
        rw [Lib.byteCells_length]
        have h1 := lt_pow_G Hx.out.2.2.1
        exact dec_len_of (by omega) (by omega) (Nat.lt_of_le_of_lt (Nat.div_le_self _ _) h1)
      have HW4 := Lib.hid (writeString_any w.heap.size w.heap.size _ (bs (d4 g)) w4 (.inr hbl4) (by rw [bs_size]; have : (d4 g).length = 4 := rfl; omega) hb4w.size)
      have Hr4 := Lib.hid (And.intro hbl4 hrow4)
      clear hbl4 hrow4 hlen
      refine ⟨trivial, ?_⟩
      refine (CallsIn.inRound q (callsIn_wide.2 HW4.out)).mono ?_
      rintro e w5 ⟨rfl, hbl5, hb5, hk5⟩
      obtain ⟨_, v4, hbrow, _⟩ := Hr4.out.1
      have hko5 := keeps_others hbrow hk5 hb5.size
      have hrow5 := hk5 bk _ Hr4.out.2 (by intro e; cases e; exact hbn rfl) (by rintro c fz e; cases e)
      rw [strCells_bs, byteCells_append, ← Hdd.out] at hbl5
      have H5 := Lib.hid (And.intro hbl5 (And.intro hrow5 hko5))
      clear hbl5 hrow5 hko5 hk5 hbrow
      gi_wp2
      exact ⟨(keeps_below hb4).trans H5.out.2.2, by rw [HI.out]; exact H5.out.1, H5.out.2.1, hb4w.trans hb5⟩

end Go.Proofs.YtieaelipgieaoaaDoor
