/-
  Package pack: expanded.
-/
import Derived.Test.YtnploljhikljfaaPwf
import Derived.Test.YtnploljhikljfaaRgr
import Derived.OrdersHeld
import Derived.OrdersIn
import Derived.Deep.RegionHeld
namespace Go.Proofs.Ytnploljhikljfaa
open Go.RowKit Bs Pk
attribute [local go_sem] Oper.semAt_some

theorem own_ne {W : World} {base b n c : Nat} {t : TypeId} {k : IntKind} {v : Value} {l : List Nat} {x : Option Addr} (h : Bs.Own W base t k v l) (hl : 0 < l.length) (hc : W.cell? ⟨b, 0, none⟩ = some (.slice x n c)) : ∀ j, v.ownBlock = some j → j ≠ b := by
  intro j e hj
  subst hj
  obtain ⟨g, cap, rfl, _, _, hg⟩ := h.cells hl
  have e' : some g = some j := e
  cases e'
  have := hg 0 hl
  rw [hc] at this
  cases this
/-- a whole slice more, in a fence: other blocks stay -/
theorem wpListIn_pushNG {F : Fence} {m' : Nat} {P : Program} {w : World} {ops : Array Oper} {rest : List Oper} {o : Oper} {a : Act} {Q : Exit → Act → World → Prop} (hgd : o.guard = none) (s x : Operand) (st : TypeId)
    (ho : o.op = .call { callee := .builtin .append, args := #[s, x], argTypes := #[st, st] })
    (base : Nat) (t : TypeId) (i : TypeInfo) (z : Value) (bytes : Nat) (ht : P.underlying st = some (.slice t)) (hi : P.info? t = some i) (hz : i.zero = some z)
    (hsize : i.size = 1) (hby : i.bytes = bytes) (hzs : z.cells.size = 1) (hb8 : bytes ≤ 8)
    (k : IntKind) (v : Value) (l : List Nat) (hs : a.eval s = v) (hown : Bs.Own w base t k v l) (g off m c : Nat) (l2 : List Nat) (hx : a.eval x = .slice (some ⟨g, off, none⟩) m c)
    (hc : Nums w g off m k l2) (hl2 : l2.length = m) (hlen : l.length + m ≤ 2000000) (hbase : base ≤ w.heap.size)
    (h : ∀ v' w', Bs.Own w' base t k v' (l ++ l2) → Below base w w' → w.grownBy w' v.ownBlock → wpListIn F m' P ops Q rest (a.put o.dst v') w') : wpListIn F m' P ops Q (o :: rest) a w := by
  refine wpListIn_append_own w hgd s x st ho base t i z 1 bytes ht hi hz hsize hby hzs (by omega) v l.length (iv k l) hs hown.row ⟨g, off, none⟩ m c (iv k l2) hx (by rw [iv_length, hl2, Nat.mul_one]) ?_ ?_ ?_ ?_ hbase ?_
  · intro j u hj
    have hadd : (⟨g, off, none⟩ : Addr).add j = ⟨g, off + j, none⟩ := by unfold Addr.add; split <;> simp_all
    have hjm : j < m := by
      rcases Nat.lt_or_ge j m with h1 | h1
      · exact h1
      · rw [List.getElem?_eq_none (by rw [iv_length]; omega)] at hj; cases hj
    rw [hadd, hc.cell j hjm]
    simp only [iv, List.getElem?_map, List.getElem?_eq_getElem (show j < l2.length by omega), Option.map_some, Option.some.injEq] at hj
    rw [← hj, List.getD_eq_getElem?_getD, List.getElem?_eq_getElem (show j < l2.length by omega)]; rfl
  · intro u hu; simp only [iv, List.mem_map] at hu; obtain ⟨b, _, rfl⟩ := hu; rfl
  · unfold maxLen; omega
  · have : (l.length + m) * bytes ≤ 2000000 * 8 := Nat.mul_le_mul hlen hb8
    omega
  · intro v' w' hown' hgrow _
    refine h v' w' ⟨?_⟩ ((Below.refl base w).grown hgrow hbase hown.block) hgrow
    rw [iv_append, List.length_append, hl2]
    exact hown'
/-- a whole slice more, among operations whose order is drawn: other blocks stay -/
theorem step_pushNG {P : Program} {w : World} {ops : Array Oper} {o : Oper} {a : Act} {K : Act → World → Prop} {Q : Exit → Act → World → Prop} {E : Prop} (hgd : o.guard = none) (s x : Operand) (st : TypeId)
    (ho : o.op = .call { callee := .builtin .append, args := #[s, x], argTypes := #[st, st] })
    (base : Nat) (t : TypeId) (i : TypeInfo) (z : Value) (bytes : Nat) (ht : P.underlying st = some (.slice t)) (hi : P.info? t = some i) (hz : i.zero = some z)
    (hsize : i.size = 1) (hby : i.bytes = bytes) (hzs : z.cells.size = 1) (hb8 : bytes ≤ 8)
    (k : IntKind) (v : Value) (l : List Nat) (hs : a.eval s = v) (hown : Bs.Own w base t k v l) (g off m c : Nat) (l2 : List Nat) (hx : a.eval x = .slice (some ⟨g, off, none⟩) m c)
    (hc : Nums w g off m k l2) (hl2 : l2.length = m) (hlen : l.length + m ≤ 2000000) (hbase : base ≤ w.heap.size)
    (h : ∀ v' w', Bs.Own w' base t k v' (l ++ l2) → Below base w w' → w.grownBy w' v.ownBlock → K (a.put o.dst v') w') :
    if Region.wanted o (yielded ops a.tmps) = true then Oper.wp P o a w K Q else E := by
  have hw : Region.wanted o (yielded ops a.tmps) = true := by simp [Region.wanted, hgd]
  rw [if_pos hw]
  refine wp_append_own w s x st ho base t i z 1 bytes ht hi hz hsize hby hzs (by omega) v l.length (iv k l) hs hown.row ⟨g, off, none⟩ m c (iv k l2) hx (by rw [iv_length, hl2, Nat.mul_one]) ?_ ?_ ?_ ?_ hbase ?_
  · intro j u hj
    have hadd : (⟨g, off, none⟩ : Addr).add j = ⟨g, off + j, none⟩ := by unfold Addr.add; split <;> simp_all
    have hjm : j < m := by
      rcases Nat.lt_or_ge j m with h1 | h1
      · exact h1
      · rw [List.getElem?_eq_none (by rw [iv_length]; omega)] at hj; cases hj
    rw [hadd, hc.cell j hjm]
    simp only [iv, List.getElem?_map, List.getElem?_eq_getElem (show j < l2.length by omega), Option.map_some, Option.some.injEq] at hj
    rw [← hj, List.getD_eq_getElem?_getD, List.getElem?_eq_getElem (show j < l2.length by omega)]; rfl
  · intro u hu; simp only [iv, List.mem_map] at hu; obtain ⟨b, _, rfl⟩ := hu; rfl
  · unfold maxLen; omega
  · have : (l.length + m) * bytes ≤ 2000000 * 8 := Nat.mul_le_mul hlen hb8
    omega
  · intro v' w' hown' hgrow _
    refine h v' w' ⟨?_⟩ ((Below.refl base w).grown hgrow hbase hown.block) hgrow
    rw [iv_append, List.length_append, hl2]
    exact hown'
theorem cp_succ (d : Nat) : ∀ n w, cp w d (n + 1) = cp w d n ++ [(cp w d n).getD ((cp w d n).length - d) 0]
  | 0, w => rfl
  | n + 1, w => by
    rw [cp, cp_succ d n]
    rfl
theorem conv_own {W : World} {base n cap : Nat} {a : Option Addr} {l : List Nat} (h : Bs.Own W base 5 .u8 (.slice a n cap) l) (hl : ∀ b ∈ l, b < 256) :
    (convert 29 9 (.slice a n cap)).run Try.prog W = .ok (.string (bs (ub l))) W := by
  rcases h.row.2 with ⟨e, h0⟩ | ⟨g, c', cur, e, _⟩
  · cases e
    have : l = [] := List.eq_nil_of_length_eq_zero h0
    subst this
    rw [run_convert_bytes_nil W 29 5 Try.underlying29 Try.underlying5 0 0 9 Try.underlying9]
    rfl
  · cases e
    exact own_str h rfl hl
/-- the state between two rounds -/
structure Ex (W w : World) (vb g c : Nat) (C : List Nat) (v : Value) (wl : List Nat) : Prop where
  row : W.heap[vb]? = some (.cells #[v] 29 (0, 0))
  own : Bs.Own W vb 5 .u8 v wl
  ne : ∀ j, v.ownBlock = some j → j ≠ vb
  sl : Sl W g C c
  below : Below vb w W
theorem Ex.kept {W W2 w : World} {vb g c : Nat} {C : List Nat} {v : Value} {wl : List Nat} (h : Ex W w vb g c C v wl) (hb : Below vb W W2) (hk : Rfp.CellsKept W W2) : Ex W2 w vb g c C v wl := by
  refine ⟨hk.same _ _ h.row rfl, ?_, h.ne, ⟨⟨fun i hi => hk.cell (h.sl.nums.cell i hi), fun hn => Nat.lt_of_lt_of_le (h.sl.nums.lt hn) hb.size⟩, h.sl.cap, Nat.lt_of_lt_of_le h.sl.lt hb.size⟩, h.below.trans hb⟩
  refine ⟨h.own.row.1, ?_⟩
  rcases h.own.row.2 with h0 | ⟨go, cap, cur, rfl, h1, h2, h3⟩
  · exact .inl h0
  · exact .inr ⟨go, cap, cur, rfl, h1, hk.same _ _ h2 rfl, h3⟩
theorem Ex.shape {W w : World} {vb g c : Nat} {C : List Nat} {v : Value} {wl : List Nat} (h : Ex W w vb g c C v wl) : ∃ av cv, v = .slice av wl.length cv := by
  rcases h.own.row.2 with ⟨rfl, h0⟩ | ⟨go, cap, cur, rfl, _⟩
  · exact ⟨none, 0, by rw [h0]⟩
  · exact ⟨_, _, rfl⟩
theorem Ex.lt {W w : World} {vb g c : Nat} {C : List Nat} {v : Value} {wl : List Nat} (h : Ex W w vb g c C v wl) : vb < W.heap.size := (Array.getElem?_eq_some_iff.1 h.row).1
theorem Ex.cell {W w : World} {vb g c : Nat} {C : List Nat} {v : Value} {wl : List Nat} (h : Ex W w vb g c C v wl) : W.cell? ⟨vb, 0, none⟩ = some v := by rw [cell_of_row _ _ 0 _ _ _ h.row]; rfl
/-- one append, and its store -/
theorem Ex.append {W W3 w : World} {vb g c : Nat} {C : List Nat} {v v' : Value} {wl l2 : List Nat} (h : Ex W w vb g c C v wl) (hg : g < vb) (hl : 0 < l2.length) (hown : Bs.Own W3 vb 5 .u8 v' (wl ++ l2)) (hB : Below vb W W3) (hG : W.grownBy W3 v.ownBlock) :
    W3.heap[vb]? = some (.cells #[v] 29 (0, 0)) ∧ Ex (W3.setCell ⟨vb, 0, none⟩ v') w vb g c C v' (wl ++ l2) := by
  have hr3 : W3.heap[vb]? = some (.cells #[v] 29 (0, 0)) := (hG.block vb h.lt (fun e => h.ne vb e.symm rfl)).trans h.row
  refine ⟨hr3, ?_⟩
  obtain ⟨av, cv, hv⟩ := h.shape
  have hc3 : W3.cell? ⟨vb, 0, none⟩ = some (.slice av wl.length cv) := by rw [cell_of_row _ _ 0 _ _ _ hr3, hv]; rfl
  have hne := own_ne hown (by rw [List.length_append]; omega) hc3
  have hset : (W3.setCell ⟨vb, 0, none⟩ v').heap[vb]? = some (.cells #[v'] 29 (0, 0)) := (heap_setCell_same W3 vb 0 _ _ _ hr3).trans rfl
  have hbs : Below vb W3 (W3.setCell ⟨vb, 0, none⟩ v') := (Below.refl _ W3).setCell (p := ⟨vb, 0, none⟩) (Nat.le_refl _) _
  refine ⟨hset, ?_, hne, (h.sl.below hB hg).below hbs hg, (h.below.trans hB).trans hbs⟩
  refine ⟨hown.row.1, ?_⟩
  rcases hown.row.2 with h0 | ⟨go, cap, cur, hv', h1, h2, h3⟩
  · exact .inl h0
  · exact .inr ⟨go, cap, cur, hv', h1, (heap_setCell_other W3 ⟨vb, 0, none⟩ go v' (hne go (by rw [hv']; rfl))).trans h2, h3⟩

set_option maxRecDepth 100000 in
set_option maxHeartbeats 1000000 in
theorem expanded_any (g c : Nat) (C : List Nat) (hC : C.length ≤ 1000000) (hb : ∀ b ∈ C, b < 256) (w : World) (hS : Sl w g C c) :
    Calls Try.prog 23 #[.slice (some ⟨g, 0, none⟩) C.length c] w fun e w' => e = .returned (.string (bs (ub (whole C)))) ∧ Below w.heap.size w w' := by
  obtain ⟨R, hR⟩ : ∃ R, whole C = R := ⟨_, rfl⟩
  have hR256 : ∀ b ∈ R, b < 256 := by rw [← hR]; exact ex_lt C hb _ _ (by simp)
  obtain ⟨RS, hRS⟩ : ∃ RS, bs (ub R) = RS := ⟨_, rfl⟩
  have HRS := Lib.hid hRS
  have HR := Lib.hid hR
  rw [hR, hRS]
  clear hR hRS
  obtain ⟨n, hn⟩ : ∃ n, C.length = n := ⟨_, rfl⟩
  have HL := Lib.hid hn
  rw [hn]
  have HS := Lib.hid hS
  obtain ⟨i0, hi, hz0, hz1, hz2⟩ := infoB_parts
  clear hn hS
  refine (callsIn_wide (n := 3)).1 ?_
  refine callsIn_of_wp_marks Try.func23 rfl trivial ?_ rfl
  simp only [Try.ntmps23, List.size_toArray, List.length_cons, List.length_nil, Nat.reduceAdd, Nat.reduceSub, Array.replicate_succ, Array.replicate_zero, List.push_toArray, List.append_toArray, List.nil_append, List.cons_append]
  gi_wp2
  refine wpIn_wide.2 (wp_scope_straight (wpIn_wide (n := 3).1 ?_))
  gi_wp2
  refine wpIn_label ?_
  gi_wp2_with (refine ⟨trivial, ?_⟩; gi_at_call 28; refine (callsIn_wide.2 (pieces_any _ _ _ _)).mono ?_; rintro e w' ⟨rfl, rfl⟩)
  obtain ⟨vb, hvb⟩ : ∃ vb, w.heap.size = vb := ⟨_, rfl⟩
  have hgl : g < vb := by rw [← hvb]; exact HS.out.lt
  have hw1 : ∀ o, (w.alloc o).heap.size = vb + 1 := fun o => by rw [World.size_alloc, hvb]
  have hrow0 : ((w.alloc (Obj.cells #[Value.slice none 0 0] 29)).alloc (Obj.cells #[Value.slice (some ⟨g, 0, none⟩) n c] 29)).heap[vb]? = some (.cells #[.slice none 0 0] 29 (0, 0)) := by
    rw [← hvb]
    exact (heap_alloc_old _ _ _ (by rw [World.size_alloc]; omega)).trans (heap_alloc_new w _)
  have hbox0 : ((w.alloc (Obj.cells #[Value.slice none 0 0] 29)).alloc (Obj.cells #[Value.slice (some ⟨g, 0, none⟩) n c] 29)).cell? ⟨vb + 1, 0, none⟩ = some (.slice (some ⟨g, 0, none⟩) n c) := by
    have := heap_alloc_new (w.alloc (Obj.cells #[Value.slice none 0 0] 29)) (Obj.cells #[Value.slice (some ⟨g, 0, none⟩) n c] 29)
    rw [hw1] at this
    rw [cell_of_row _ _ 0 _ _ _ this]; rfl
  rw [hvb]
  refine wpIn_world fun W0 hW0 => ?_
  rw [← hW0] at hrow0 hbox0
  have hb0 : Below vb w W0 := by rw [hW0, ← hvb]; exact ((Below.refl _ w).alloc (Nat.le_refl _) _).alloc (by rw [World.size_alloc]; omega) _
  have hs0 : W0.heap.size = vb + 2 := by rw [hW0, World.size_alloc, hw1]
  have hE0 : Ex W0 w vb g c C (.slice none 0 0) [] := ⟨hrow0, Bs.Own.nil _ _ _ _, (by intro j h; cases h), HS.out.below hb0 hgl, hb0⟩
  have hyl := pieces_yields (vb + 1) g c C hC hb W0 (by rw [HL.out]; exact hbox0)
  have hfit := parse_fits C hb _ 0 (Nat.le_refl _)
  have hR0 := HR.out
  unfold whole at hR0
  obtain ⟨xs, hxs⟩ : ∃ xs, parse C 0 = xs := ⟨_, rfl⟩
  rw [hxs] at hyl hfit hR0
  have HX := Lib.hid hR0
  have HV := Lib.hid hvb
  clear hW0 hw1 hrow0 hbox0 hxs hR0 hvb
  refine Rfp.wpIn_rangeFunc_need rfl (by omega) (gf := 30) (lb := #[.pointer (some ⟨vb + 1, 0, none⟩)]) rfl trivial (enters_of Try.func30 (by kernel_rfl) rfl)
    hyl (Below.refl _ _) (fun _ => rfl)
    (fun k W => ∃ v wl, ex C (xs.drop k) wl = R ∧ wl.length ≤ 4300 ∧ Ex W w vb g c C v wl)
    (fun cd _ W => cd = .exit 0 ∧ ∃ v, R.length ≤ 4300 ∧ Ex W w vb g c C v R)
    (fun k A B ⟨v, wl, h1, h2, h3⟩ hb hk => ⟨v, wl, h1, h2, h3.kept (hb.mono (by omega)) ⟨hk.same⟩⟩)
    (fun cd k A B ⟨h0, v, h2, h3⟩ hb hk => ⟨h0, v, h2, h3.kept (hb.mono (by omega)) ⟨hk.same⟩⟩)
    (fun k W ⟨v, wl, h1, h2, h3⟩ => h3.sl) ⟨_, [], HX.out, by simp, hE0⟩ ?round ?done ?stop
  case round =>
    clear hyl hE0
    rintro l k hk W hl hlt ⟨v, wl, hex, hwl, hE⟩
    rw [List.drop_eq_getElem_cons hk] at hex
    have hft := hfit _ (List.getElem_mem hk)
    obtain ⟨p, hp⟩ : ∃ p, xs[k] = p := ⟨_, rfl⟩
    rw [hp] at hex hft ⊢
    clear hp
    obtain ⟨av, cv, rfl⟩ := hE.shape
    have hEl := hE.lt
    cases p with
    | run a m =>
      obtain ⟨m1, m2, m3⟩ : 1 ≤ m ∧ m ≤ 128 ∧ a + m ≤ C.length := hft
      rw [show pcV g (.run a m) = .agg #[.slice (some ⟨g, a, none⟩) m m, .int .i64 0, .int .i64 0] from rfl]
      gi_wp2
      refine ⟨KeepsOthers.alloc _ _, fun W2 hbu hck => ?_⟩
      obtain ⟨gp, hgp⟩ : ∃ gp, W.heap.size = gp := ⟨_, rfl⟩
      have hck' : Rfp.CellsKept W W2 := ⟨fun i o hi ho => hck.same i o ((heap_alloc_old W _ i (Array.getElem?_eq_some_iff.1 hi).1).trans hi) ho⟩
      have hbl : Below vb W W2 := ((Below.refl _ W).alloc (by omega) _).trans (Rfp.But.below hbu (by omega))
      have hE2 := hE.kept hbl hck'
      have hrp : W2.heap[gp]? = some (.cells #[.slice (some ⟨g, a, none⟩) m m, .int .i64 0, .int .i64 0] 47 (0, 0)) := by rw [← hgp]; exact hck.same _ _ (heap_alloc_new W _) rfl
      have cp0 : W2.cell? ⟨gp, 0, none⟩ = some (.slice (some ⟨g, a, none⟩) m m) := by rw [cell_of_row _ _ 0 _ _ _ hrp]; rfl
      have cv0 := hE2.cell
      have HE2 := Lib.hid hE2
      rw [hgp]
      clear hbu hck hck' hbl hE2 hE hrp hgp
      by_cases h4 : 4096 < wl.length
      · have hRw : wl = R := by rw [← hex, ex, if_pos h4]
        have d1 : decide ((4096 : Int) < (wl.length : Int)) = true := decide_eq_true (by omega)
        have d1' : decide (4096 < wl.length) = true := decide_eq_true h4
        have HRW := Lib.hid hRw
        clear hRw hex
        gi_wp2
        have h := HRW.out
        subst h
        exact ⟨KeepsOthers.refl _, rfl, _, hwl, HE2.out⟩
      · rw [ex, if_neg h4] at hex
        have hex' : ex C (xs.drop (k + 1)) (wl ++ (C.drop a).take m) = R := hex
        have HEX := Lib.hid hex'
        have d1 : decide ((4096 : Int) < (wl.length : Int)) = false := decide_eq_false (by omega)
        have d1' : decide (4096 < wl.length) = false := decide_eq_false h4
        have d2 : decide ((0 : Int) < (m : Int)) = true := decide_eq_true (by omega)
        have d2' : decide (0 < m) = true := decide_eq_true (by omega)
        have hNu : Nums W2 g a m .u8 ((C.drop a).take m) := ⟨fun i hi => by
          rw [HE2.out.sl.get (a + i) (by omega)]
          congr 3
          rw [List.getD_eq_getElem?_getD, List.getD_eq_getElem?_getD, List.getElem?_take, if_pos hi, List.getElem?_drop], fun _ => HE2.out.sl.lt⟩
        have hNl : ((C.drop a).take m).length = m := by rw [List.length_take, List.length_drop]; omega
        obtain ⟨l2, hl2⟩ : ∃ l2, (C.drop a).take m = l2 := ⟨_, rfl⟩
        rw [hl2] at hNu hNl HEX
        obtain ⟨len, hlen⟩ : ∃ len, wl.length = len := ⟨_, rfl⟩
        rw [hlen] at cv0 HE2 d1 d1' hwl
        have HLN := Lib.hid hlen
        have HNL := Lib.hid hNl
        have HNU := Lib.hid hNu
        clear hex hex' hl2 hlen hNl hNu
        gi_wp2_with (refine wpListIn_pushNG rfl _ _ 29 rfl vb 5 i0 (.int .u8 0) 1 Try.underlying29 hi hz0 hz1 hz2 rfl (by omega) .u8 _ wl rfl HE2.out.own g a m m l2 rfl HNU.out HNL.out (by rw [HLN.out]; omega) (Nat.le_of_lt HE2.out.lt) ?_)
        intro v' w3 hown3 hB3 hG3
        obtain ⟨hr3, hE3⟩ := HE2.out.append hgl (by rw [HNL.out]; omega) hown3 hB3 hG3
        obtain ⟨av', cv', rfl⟩ := hE3.shape
        simp only [List.length_append] at hE3
        have f3 := frozen_of_row w3 vb 0 _ _ hr3
        have c3 : w3.cell? ⟨vb, 0, none⟩ = some (.slice av len cv) := by rw [cell_of_row _ _ 0 _ _ _ hr3]; rfl
        have s3 : vb < w3.heap.size := (Array.getElem?_eq_some_iff.1 hr3).1
        have HE3 := Lib.hid hE3
        have HG3 := Lib.hid hG3
        have HKO : Hid (KeepsOthers W2 w3) := Lib.hid (KeepsOthers.of_grownBy hG3 (by
          intro j o hj ho
          rcases HE2.out.own.row.2 with ⟨h0, _⟩ | ⟨go, cap, cur, h0, _, h2, _⟩
          · rw [h0] at hj; cases hj
          · rw [h0] at hj
            have hj' : some go = some j := hj
            cases hj'
            rw [h2] at ho; cases ho; rfl))
        clear hown3 hB3 hG3 hE3 hr3 cv0
        gi_wp2
        exact ⟨HKO.out.trans (KeepsOthers.setCell _ _ _), _, wl ++ l2, HEX.out, by rw [List.length_append, HLN.out, HNL.out]; have := HLN.out; omega, HE3.out⟩
    | copy m d =>
      have hm : m ≤ 131 := hft
      rw [show pcV g (.copy m d) = .agg #[.slice none 0 0, .int .i64 (m : Int), .int .i64 (d : Int)] from rfl]
      gi_wp2
      refine ⟨KeepsOthers.alloc _ _, fun W2 hbu hck => ?_⟩
      obtain ⟨gp, hgp⟩ : ∃ gp, W.heap.size = gp := ⟨_, rfl⟩
      have hck' : Rfp.CellsKept W W2 := ⟨fun i o hi ho => hck.same i o ((heap_alloc_old W _ i (Array.getElem?_eq_some_iff.1 hi).1).trans hi) ho⟩
      have hbl : Below vb W W2 := ((Below.refl _ W).alloc (by omega) _).trans (Rfp.But.below hbu (by omega))
      have hE2 := hE.kept hbl hck'
      have hrp : W2.heap[gp]? = some (.cells #[.slice none 0 0, .int .i64 (m : Int), .int .i64 (d : Int)] 47 (0, 0)) := by rw [← hgp]; exact hck.same _ _ (heap_alloc_new W _) rfl
      have cp0 : W2.cell? ⟨gp, 0, none⟩ = some (.slice none 0 0) := by rw [cell_of_row _ _ 0 _ _ _ hrp]; rfl
      have cp1 : W2.cell? ⟨gp, 1, none⟩ = some (.int .i64 (m : Int)) := by rw [cell_of_row _ _ 1 _ _ _ hrp]; rfl
      have cp2 : W2.cell? ⟨gp, 2, none⟩ = some (.int .i64 (d : Int)) := by rw [cell_of_row _ _ 2 _ _ _ hrp]; rfl
      have cv0 := hE2.cell
      have HE2 := Lib.hid hE2
      have HRP := Lib.hid hrp
      have hgpv : vb < gp := by omega
      rw [hgp]
      clear hbu hck hck' hbl hE2 hE hrp hgp hft
      by_cases h4 : 4096 < wl.length
      · have hRw : wl = R := by rw [← hex, ex, if_pos h4]
        have d1 : decide ((4096 : Int) < (wl.length : Int)) = true := decide_eq_true (by omega)
        have d1' : decide (4096 < wl.length) = true := decide_eq_true h4
        have HRW := Lib.hid hRw
        clear hRw hex
        gi_wp2
        have h := HRW.out
        subst h
        exact ⟨KeepsOthers.refl _, rfl, _, hwl, HE2.out⟩
      · have d1 : decide ((4096 : Int) < (wl.length : Int)) = false := decide_eq_false (by omega)
        have d1' : decide (4096 < wl.length) = false := decide_eq_false h4
        by_cases h5 : d < 1 ∨ wl.length < d
        · have hRw : wl = R := by
            rw [← hex, ex, if_neg h4]
            show wl = if d < 1 ∨ wl.length < d then wl else _
            rw [if_pos h5]
          have HRW := Lib.hid hRw
          clear hRw hex
          by_cases h6 : d < 1
          · have d2 : decide ((d : Int) < 1) = true := decide_eq_true (by omega)
            have d2' : decide (d < 1) = true := decide_eq_true h6
            gi_wp2_with (refine wpListIn_skip rfl rfl ?_)
            have h := HRW.out
            subst h
            exact ⟨KeepsOthers.refl _, rfl, _, hwl, HE2.out⟩
          · have d2 : decide ((d : Int) < 1) = false := decide_eq_false (by omega)
            have d2' : decide (d < 1) = false := decide_eq_false h6
            have d3 : decide ((wl.length : Int) < (d : Int)) = true := decide_eq_true (by omega)
            have d3' : decide (wl.length < d) = true := decide_eq_true (by omega)
            gi_wp2
            have h := HRW.out
            subst h
            exact ⟨KeepsOthers.refl _, rfl, _, hwl, HE2.out⟩
        · have hex' : ex C (xs.drop (k + 1)) (cp wl d m) = R := by
            rw [ex, if_neg h4] at hex
            have h : (if d < 1 ∨ wl.length < d then wl else ex C (xs.drop (k + 1)) (cp wl d m)) = R := hex
            rw [if_neg h5] at h; exact h
          have HEX := Lib.hid hex'
          have d2 : decide ((d : Int) < 1) = false := decide_eq_false (by omega)
          have d2' : decide (d < 1) = false := decide_eq_false (by omega)
          have d3 : decide ((wl.length : Int) < (d : Int)) = false := decide_eq_false (by omega)
          have d3' : decide (wl.length < d) = false := decide_eq_false (by omega)
          clear hex hex'
          gi_wp2
          gi_loopw [10] (fun i wr => ∃ (j : Nat) (v' : Value), j ≤ m ∧ i = .int .i64 j ∧ Ex wr w vb g c C v' (cp wl d j) ∧ wr.heap[gp]? = some (.cells #[.slice none 0 0, .int .i64 (m : Int), .int .i64 (d : Int)] 47 (0, 0)) ∧ KeepsOthers W2 wr) (fun i _ => m - (intOf i).toNat)
          case atStart => exact ⟨0, _, Nat.zero_le _, rfl, HE2.out, HRP.out, KeepsOthers.refl _⟩
          case round =>
            clear HE2 HRP cp0 cp1 cp2 cv0
            obtain ⟨j, v', hj, rfl, hE, hgpr, hko⟩ := hrel
            rcases Nat.lt_or_ge j m with g1 | g1
            · have dj : decide ((j : Int) < (m : Int)) = true := decide_eq_true (by omega)
              have HCS := Lib.hid (cp_succ d j wl)
              have hcl := cp_len d j wl
              obtain ⟨cur, hcur⟩ : ∃ cur, cp wl d j = cur := ⟨_, rfl⟩
              rw [hcur] at hE hcl HCS
              obtain ⟨go, cv, rfl, hgo, hgol, hgoc⟩ := hE.own.cells (by omega)
              obtain ⟨len, hlen⟩ : ∃ len, cur.length = len := ⟨_, rfl⟩
              rw [hlen] at hE hcl HCS hgoc
              obtain ⟨q, hq⟩ : ∃ q, len - d = q := ⟨_, rfl⟩
              have hw1 : IntKind.i64.wrap ((len : Int) - (d : Int)) = (q : Int) := by rw [IntKind.wrap_i64]; omega
              have b1 : (0 : Int) ≤ (q : Int) := by omega
              have b2 : (q : Int) < (len : Int) := by omega
              have b3 : q < len := by omega
              obtain ⟨x, hx⟩ : ∃ x, cur.getD q 0 = x := ⟨_, rfl⟩
              have cx : wr.drew.cell? ⟨go, q, none⟩ = some (.int .u8 (x : Int)) := by rw [← hx]; exact hgoc q b3
              rw [hq, hx] at HCS
              have cv0 : wr.drew.cell? ⟨vb, 0, none⟩ = some (.slice (some ⟨go, 0, none⟩) len cv) := hE.cell
              have hS0 : wr.drew.cell? ⟨gp, 2, none⟩ = some (.int .i64 (d : Int)) := by
                have : wr.cell? ⟨gp, 2, none⟩ = some (.int .i64 (d : Int)) := by rw [cell_of_row _ _ 2 _ _ _ hgpr]; rfl
                exact this
              have hba : Below wr.heap.size wr (wr.drew.alloc (.cells #[.int .u8 (x : Int)] 5)) := ((Below.refl _ wr).drew).alloc (Nat.le_refl _) _
              have hSa : (wr.drew.alloc (.cells #[.int .u8 (x : Int)] 5)).cell? ⟨gp, 2, none⟩ = some (.int .i64 (d : Int)) := (hba.cell (p := ⟨gp, 2, none⟩) (Array.getElem?_eq_some_iff.1 hgpr).1).trans hS0
              have cva : (wr.drew.alloc (.cells #[.int .u8 (x : Int)] 5)).cell? ⟨vb, 0, none⟩ = some (.slice (some ⟨go, 0, none⟩) len cv) := (hba.cell (p := ⟨vb, 0, none⟩) hE.lt).trans cv0
              have cvb : (wr.alloc (.cells #[.int .u8 (x : Int)] 5)).cell? ⟨vb, 0, none⟩ = some (.slice (some ⟨go, 0, none⟩) len cv) := cva
              have hlen2 : len ≤ 4300 := by omega
              have HEa : Hid (Ex (wr.drew.alloc (.cells #[.int .u8 (x : Int)] 5)) w vb g c C (.slice (some ⟨go, 0, none⟩) len cv) cur) := Lib.hid (hE.kept (hba.mono (Nat.le_of_lt hE.lt)) (Rfp.CellsKept.of_below hba))
              have HNa : Hid (Nums (wr.drew.alloc (.cells #[.int .u8 (x : Int)] 5)) wr.heap.size 0 1 .u8 [x]) := Lib.hid (by
                have := Nums.fresh (W := wr.drew) (t := 5) (k := .u8) [x] 1 rfl
                exact this)
              have hgpn := own_ne hE.own (b := gp) (n := 0) (c := 0) (x := none) (by rw [hlen]; omega) (by rw [cell_of_row _ _ 0 _ _ _ hgpr]; rfl)
              have HGP : Hid (∀ w3, (wr.drew.alloc (.cells #[.int .u8 (x : Int)] 5)).grownBy w3 (Value.slice (some ⟨go, 0, none⟩) len cv).ownBlock → w3.heap[gp]? = some (.cells #[.slice none 0 0, .int .i64 (m : Int), .int .i64 (d : Int)] 47 (0, 0))) := Lib.hid (fun w3 hG => (hG.block gp (Nat.lt_of_lt_of_le (Array.getElem?_eq_some_iff.1 hgpr).1 hba.size) (fun e => hgpn gp e.symm rfl)).trans ((hba.block gp (Array.getElem?_eq_some_iff.1 hgpr).1).trans hgpr))
              have HKa : Hid (∀ w3, (wr.drew.alloc (.cells #[.int .u8 (x : Int)] 5)).grownBy w3 (Value.slice (some ⟨go, 0, none⟩) len cv).ownBlock → KeepsOthers W2 w3) := Lib.hid (fun w3 hG => ((hko.trans (KeepsOthers.drew wr)).trans (KeepsOthers.alloc _ _)).trans (KeepsOthers.of_grownBy hG (by
                intro i o hi' ho
                cases hi'
                rcases HEa.out.own.row.2 with ⟨h0, _⟩ | ⟨g', cap, c', h0, _, h2, _⟩
                · cases h0
                · cases h0; rw [h2] at ho; cases ho; rfl)))
              have HLC := Lib.hid hlen
              clear hcur hgoc hx hba hgpn hE hgpr hko hlen hcl hgol
              gi_wp2
              refine Rgr.wpIn_region_held (S := fun w' => w'.cell? ⟨gp, 2, none⟩ = some (.int .i64 (d : Int))) (by kernel_rfl) (by kernel_rfl) (by rintro ⟨a, w, h⟩; exact h) ?_
              refine wpAnyH_take (i := 4) (v := .pointer (some ⟨gp, 2, none⟩)) rfl (by kernel_rfl) (by kernel_rfl) (by kernel_rfl) (fun _ _ _ h => h) (Or.inl ⟨by rfl, by (intro w' hSw; go_simp)⟩) hS0 ?_
              try simp only [Act.put, List.setIfInBounds_toArray, List.set_cons_zero, List.set_cons_succ]
              refine wpAnyH_take (i := 5) (v := .int .i64 (d : Int)) rfl (by kernel_rfl) (by kernel_rfl) (by kernel_rfl) (fun _ _ _ h => h) (Or.inl ⟨by rfl, by (intro w' hSw; go_simp)⟩) hS0 ?_
              try simp only [Act.put, List.setIfInBounds_toArray, List.set_cons_zero, List.set_cons_succ]
              refine wpAnyH_ready (rs := [0, 1, 2]) (by kernel_rfl) (by simp) ?_
              refine AllReadyH.cons rfl (fun K hK => ?_) (AllReadyH.cons rfl (fun K hK => ?_) (AllReadyH.cons rfl (fun K hK => ?_) AllReadyH.nil))
              · go_simp
                refine hK.out _ _ hS0 (fun _ => ?_)
                clear hK K
                try simp only [Act.put, List.setIfInBounds_toArray, List.set_cons_zero, List.set_cons_succ]
                refine wpAnyH_ready (rs := [1, 2]) (by kernel_rfl) (by simp) ?_
                refine AllReadyH.cons rfl (fun K hK => ?_) (AllReadyH.cons rfl (fun K hK => ?_) AllReadyH.nil)
                · go_simp
                  refine hK.out _ _ hS0 (fun _ => ?_)
                  clear hK K
                  try simp only [Act.put, List.setIfInBounds_toArray, List.set_cons_zero, List.set_cons_succ]
                  refine wpAnyH_ready (rs := [2]) (by kernel_rfl) (by simp) ?_
                  refine AllReadyH.cons rfl (fun K hK => ?_) AllReadyH.nil
                  go_simp
                  refine hK.out _ _ hS0 (fun _ => ?_)
                  clear hK K
                  try simp only [Act.put, List.setIfInBounds_toArray, List.set_cons_zero, List.set_cons_succ]
                  refine wpAnyH_take (i := 3) (v := .int .i64 (len : Int)) rfl (by kernel_rfl) (by kernel_rfl) (by kernel_rfl) (fun _ _ _ h => h) (Or.inl ⟨by rfl, by (intro w' hSw; go_simp)⟩) hS0 ?_
                  try simp only [Act.put, List.setIfInBounds_toArray, List.set_cons_zero, List.set_cons_succ]
                  refine wpAnyH_take (i := 6) (v := .int .i64 (q : Int)) rfl (by kernel_rfl) (by kernel_rfl) (by kernel_rfl) (fun _ _ _ h => h) (Or.inl ⟨by rfl, by (intro w' hSw; go_simp)⟩) hS0 ?_
                  try simp only [Act.put, List.setIfInBounds_toArray, List.set_cons_zero, List.set_cons_succ]
                  refine wpAnyH_take (i := 7) (v := .pointer (some ⟨go, q, none⟩)) rfl (by kernel_rfl) (by kernel_rfl) (by kernel_rfl) (fun _ _ _ h => h) (Or.inl ⟨by rfl, by (intro w' hSw; go_simp)⟩) hS0 ?_
                  try simp only [Act.put, List.setIfInBounds_toArray, List.set_cons_zero, List.set_cons_succ]
                  refine wpAnyH_ready (rs := [8]) (by kernel_rfl) (by simp) ?_
                  refine AllReadyH.cons rfl (fun K hK => ?_) AllReadyH.nil
                  go_simp
                  refine hK.out _ _ hS0 (fun _ => ?_)
                  clear hK K
                  try simp only [Act.put, List.setIfInBounds_toArray, List.set_cons_zero, List.set_cons_succ]
                  refine wpAnyH_ready (rs := [9]) (by kernel_rfl) (by simp) ?_
                  refine AllReadyH.cons rfl (fun K hK => ?_) AllReadyH.nil
                  go_simp
                  refine hK.out _ _ hSa (fun _ => ?_)
                  clear hK K
                  try simp only [Act.put, List.setIfInBounds_toArray, List.set_cons_zero, List.set_cons_succ]
                  refine wpAnyH_ready (rs := [10]) (by kernel_rfl) (by simp) ?_
                  refine AllReadyH.cons rfl (fun K hK => ?_) AllReadyH.nil
                  refine step_pushNG (by rfl) _ _ 29 (by rfl) vb 5 i0 (.int .u8 0) 1 Try.underlying29 hi hz0 hz1 hz2 rfl (by omega) .u8 _ cur (by rfl) HEa.out.own wr.heap.size 0 1 1 [x] (by rfl) HNa.out rfl (by rw [HLC.out]; omega) (Nat.le_of_lt HEa.out.lt) ?_
                  intro v3 w3 hown3 hB3 hG3
                  obtain ⟨hr3, hE3⟩ := HEa.out.append hgl (by simp) hown3 hB3 hG3
                  obtain ⟨av3, cv3, rfl⟩ := hE3.shape
                  have hgp3 := HGP.out w3 hG3
                  refine hK.out _ _ (by rw [cell_of_row _ _ 2 _ _ _ hgp3]; rfl) (fun _ => ?_)
                  clear hK K
                  try simp only [Act.put, List.setIfInBounds_toArray, List.set_cons_zero, List.set_cons_succ]
                  refine wpAnyH_ready (rs := [11]) (by kernel_rfl) (by simp) ?_
                  refine AllReadyH.cons rfl (fun K hK => ?_) AllReadyH.nil
                  have f3 := frozen_of_row w3 vb 0 _ _ hr3
                  have c3 : w3.cell? ⟨vb, 0, none⟩ = some (.slice (some ⟨go, 0, none⟩) len cv) := by rw [cell_of_row _ _ 0 _ _ _ hr3]; rfl
                  have s3 : vb < w3.heap.size := (Array.getElem?_eq_some_iff.1 hr3).1
                  simp only [List.length_append, List.length_cons, List.length_nil, HLC.out] at hE3
                  have HE3 := Lib.hid hE3
                  have HKO := Lib.hid (HKa.out w3 hG3)
                  have HG3 := Lib.hid (show (w3.setCell ⟨vb, 0, none⟩ (.slice av3 (len + (0 + 1)) cv3)).heap[gp]? = some (.cells #[.slice none 0 0, .int .i64 (m : Int), .int .i64 (d : Int)] 47 (0, 0)) from (heap_setCell_other w3 ⟨vb, 0, none⟩ gp _ (by show gp ≠ vb; omega)).trans hgp3)
                  clear hown3 hB3 hG3 hE3 hr3 hgp3
                  simp only [List.length_append, List.length_cons, List.length_nil, HLC.out]
                  go_simp
                  refine hK.out _ _ (by rw [cell_of_row _ _ 2 _ _ _ HG3.out]; rfl) (fun _ => ?_)
                  clear hK K
                  refine wpAnyH_done (by kernel_rfl) ?_ _
                  gi_wp2
                  exact ⟨⟨j + 1, _, by omega, by go_num, by rw [HCS.out]; exact HE3.out, HG3.out, HKO.out.trans (KeepsOthers.setCell _ _ _)⟩, by simp [intOf]; omega⟩
                · go_simp
                  refine hK.out _ _ hS0 (fun _ => ?_)
                  clear hK K
                  try simp only [Act.put, List.setIfInBounds_toArray, List.set_cons_zero, List.set_cons_succ]
                  refine wpAnyH_take (i := 3) (v := .int .i64 (len : Int)) rfl (by kernel_rfl) (by kernel_rfl) (by kernel_rfl) (fun _ _ _ h => h) (Or.inl ⟨by rfl, by (intro w' hSw; go_simp)⟩) hS0 ?_
                  try simp only [Act.put, List.setIfInBounds_toArray, List.set_cons_zero, List.set_cons_succ]
                  refine wpAnyH_take (i := 6) (v := .int .i64 (q : Int)) rfl (by kernel_rfl) (by kernel_rfl) (by kernel_rfl) (fun _ _ _ h => h) (Or.inl ⟨by rfl, by (intro w' hSw; go_simp)⟩) hS0 ?_
                  try simp only [Act.put, List.setIfInBounds_toArray, List.set_cons_zero, List.set_cons_succ]
                  refine wpAnyH_ready (rs := [1]) (by kernel_rfl) (by simp) ?_
                  refine AllReadyH.cons rfl (fun K hK => ?_) AllReadyH.nil
                  go_simp
                  refine hK.out _ _ hS0 (fun _ => ?_)
                  clear hK K
                  try simp only [Act.put, List.setIfInBounds_toArray, List.set_cons_zero, List.set_cons_succ]
                  refine wpAnyH_take (i := 7) (v := .pointer (some ⟨go, q, none⟩)) rfl (by kernel_rfl) (by kernel_rfl) (by kernel_rfl) (fun _ _ _ h => h) (Or.inl ⟨by rfl, by (intro w' hSw; go_simp)⟩) hS0 ?_
                  try simp only [Act.put, List.setIfInBounds_toArray, List.set_cons_zero, List.set_cons_succ]
                  refine wpAnyH_ready (rs := [8]) (by kernel_rfl) (by simp) ?_
                  refine AllReadyH.cons rfl (fun K hK => ?_) AllReadyH.nil
                  go_simp
                  refine hK.out _ _ hS0 (fun _ => ?_)
                  clear hK K
                  try simp only [Act.put, List.setIfInBounds_toArray, List.set_cons_zero, List.set_cons_succ]
                  refine wpAnyH_ready (rs := [9]) (by kernel_rfl) (by simp) ?_
                  refine AllReadyH.cons rfl (fun K hK => ?_) AllReadyH.nil
                  go_simp
                  refine hK.out _ _ hSa (fun _ => ?_)
                  clear hK K
                  try simp only [Act.put, List.setIfInBounds_toArray, List.set_cons_zero, List.set_cons_succ]
                  refine wpAnyH_ready (rs := [10]) (by kernel_rfl) (by simp) ?_
                  refine AllReadyH.cons rfl (fun K hK => ?_) AllReadyH.nil
                  refine step_pushNG (by rfl) _ _ 29 (by rfl) vb 5 i0 (.int .u8 0) 1 Try.underlying29 hi hz0 hz1 hz2 rfl (by omega) .u8 _ cur (by rfl) HEa.out.own wr.heap.size 0 1 1 [x] (by rfl) HNa.out rfl (by rw [HLC.out]; omega) (Nat.le_of_lt HEa.out.lt) ?_
                  intro v3 w3 hown3 hB3 hG3
                  obtain ⟨hr3, hE3⟩ := HEa.out.append hgl (by simp) hown3 hB3 hG3
                  obtain ⟨av3, cv3, rfl⟩ := hE3.shape
                  have hgp3 := HGP.out w3 hG3
                  refine hK.out _ _ (by rw [cell_of_row _ _ 2 _ _ _ hgp3]; rfl) (fun _ => ?_)
                  clear hK K
                  try simp only [Act.put, List.setIfInBounds_toArray, List.set_cons_zero, List.set_cons_succ]
                  refine wpAnyH_ready (rs := [11]) (by kernel_rfl) (by simp) ?_
                  refine AllReadyH.cons rfl (fun K hK => ?_) AllReadyH.nil
                  have f3 := frozen_of_row w3 vb 0 _ _ hr3
                  have c3 : w3.cell? ⟨vb, 0, none⟩ = some (.slice (some ⟨go, 0, none⟩) len cv) := by rw [cell_of_row _ _ 0 _ _ _ hr3]; rfl
                  have s3 : vb < w3.heap.size := (Array.getElem?_eq_some_iff.1 hr3).1
                  simp only [List.length_append, List.length_cons, List.length_nil, HLC.out] at hE3
                  have HE3 := Lib.hid hE3
                  have HKO := Lib.hid (HKa.out w3 hG3)
                  have HG3 := Lib.hid (show (w3.setCell ⟨vb, 0, none⟩ (.slice av3 (len + (0 + 1)) cv3)).heap[gp]? = some (.cells #[.slice none 0 0, .int .i64 (m : Int), .int .i64 (d : Int)] 47 (0, 0)) from (heap_setCell_other w3 ⟨vb, 0, none⟩ gp _ (by show gp ≠ vb; omega)).trans hgp3)
                  clear hown3 hB3 hG3 hE3 hr3 hgp3
                  simp only [List.length_append, List.length_cons, List.length_nil, HLC.out]
                  go_simp
                  refine hK.out _ _ (by rw [cell_of_row _ _ 2 _ _ _ HG3.out]; rfl) (fun _ => ?_)
                  clear hK K
                  refine wpAnyH_done (by kernel_rfl) ?_ _
                  gi_wp2
                  exact ⟨⟨j + 1, _, by omega, by go_num, by rw [HCS.out]; exact HE3.out, HG3.out, HKO.out.trans (KeepsOthers.setCell _ _ _)⟩, by simp [intOf]; omega⟩
              · go_simp
                refine hK.out _ _ hS0 (fun _ => ?_)
                clear hK K
                try simp only [Act.put, List.setIfInBounds_toArray, List.set_cons_zero, List.set_cons_succ]
                refine wpAnyH_ready (rs := [0, 2]) (by kernel_rfl) (by simp) ?_
                refine AllReadyH.cons rfl (fun K hK => ?_) (AllReadyH.cons rfl (fun K hK => ?_) AllReadyH.nil)
                · go_simp
                  refine hK.out _ _ hS0 (fun _ => ?_)
                  clear hK K
                  try simp only [Act.put, List.setIfInBounds_toArray, List.set_cons_zero, List.set_cons_succ]
                  refine wpAnyH_ready (rs := [2]) (by kernel_rfl) (by simp) ?_
                  refine AllReadyH.cons rfl (fun K hK => ?_) AllReadyH.nil
                  go_simp
                  refine hK.out _ _ hS0 (fun _ => ?_)
                  clear hK K
                  try simp only [Act.put, List.setIfInBounds_toArray, List.set_cons_zero, List.set_cons_succ]
                  refine wpAnyH_take (i := 3) (v := .int .i64 (len : Int)) rfl (by kernel_rfl) (by kernel_rfl) (by kernel_rfl) (fun _ _ _ h => h) (Or.inl ⟨by rfl, by (intro w' hSw; go_simp)⟩) hS0 ?_
                  try simp only [Act.put, List.setIfInBounds_toArray, List.set_cons_zero, List.set_cons_succ]
                  refine wpAnyH_take (i := 6) (v := .int .i64 (q : Int)) rfl (by kernel_rfl) (by kernel_rfl) (by kernel_rfl) (fun _ _ _ h => h) (Or.inl ⟨by rfl, by (intro w' hSw; go_simp)⟩) hS0 ?_
                  try simp only [Act.put, List.setIfInBounds_toArray, List.set_cons_zero, List.set_cons_succ]
                  refine wpAnyH_take (i := 7) (v := .pointer (some ⟨go, q, none⟩)) rfl (by kernel_rfl) (by kernel_rfl) (by kernel_rfl) (fun _ _ _ h => h) (Or.inl ⟨by rfl, by (intro w' hSw; go_simp)⟩) hS0 ?_
                  try simp only [Act.put, List.setIfInBounds_toArray, List.set_cons_zero, List.set_cons_succ]
                  refine wpAnyH_ready (rs := [8]) (by kernel_rfl) (by simp) ?_
                  refine AllReadyH.cons rfl (fun K hK => ?_) AllReadyH.nil
                  go_simp
                  refine hK.out _ _ hS0 (fun _ => ?_)
                  clear hK K
                  try simp only [Act.put, List.setIfInBounds_toArray, List.set_cons_zero, List.set_cons_succ]
                  refine wpAnyH_ready (rs := [9]) (by kernel_rfl) (by simp) ?_
                  refine AllReadyH.cons rfl (fun K hK => ?_) AllReadyH.nil
                  go_simp
                  refine hK.out _ _ hSa (fun _ => ?_)
                  clear hK K
                  try simp only [Act.put, List.setIfInBounds_toArray, List.set_cons_zero, List.set_cons_succ]
                  refine wpAnyH_ready (rs := [10]) (by kernel_rfl) (by simp) ?_
                  refine AllReadyH.cons rfl (fun K hK => ?_) AllReadyH.nil
                  refine step_pushNG (by rfl) _ _ 29 (by rfl) vb 5 i0 (.int .u8 0) 1 Try.underlying29 hi hz0 hz1 hz2 rfl (by omega) .u8 _ cur (by rfl) HEa.out.own wr.heap.size 0 1 1 [x] (by rfl) HNa.out rfl (by rw [HLC.out]; omega) (Nat.le_of_lt HEa.out.lt) ?_
                  intro v3 w3 hown3 hB3 hG3
                  obtain ⟨hr3, hE3⟩ := HEa.out.append hgl (by simp) hown3 hB3 hG3
                  obtain ⟨av3, cv3, rfl⟩ := hE3.shape
                  have hgp3 := HGP.out w3 hG3
                  refine hK.out _ _ (by rw [cell_of_row _ _ 2 _ _ _ hgp3]; rfl) (fun _ => ?_)
                  clear hK K
                  try simp only [Act.put, List.setIfInBounds_toArray, List.set_cons_zero, List.set_cons_succ]
                  refine wpAnyH_ready (rs := [11]) (by kernel_rfl) (by simp) ?_
                  refine AllReadyH.cons rfl (fun K hK => ?_) AllReadyH.nil
                  have f3 := frozen_of_row w3 vb 0 _ _ hr3
                  have c3 : w3.cell? ⟨vb, 0, none⟩ = some (.slice (some ⟨go, 0, none⟩) len cv) := by rw [cell_of_row _ _ 0 _ _ _ hr3]; rfl
                  have s3 : vb < w3.heap.size := (Array.getElem?_eq_some_iff.1 hr3).1
                  simp only [List.length_append, List.length_cons, List.length_nil, HLC.out] at hE3
                  have HE3 := Lib.hid hE3
                  have HKO := Lib.hid (HKa.out w3 hG3)
                  have HG3 := Lib.hid (show (w3.setCell ⟨vb, 0, none⟩ (.slice av3 (len + (0 + 1)) cv3)).heap[gp]? = some (.cells #[.slice none 0 0, .int .i64 (m : Int), .int .i64 (d : Int)] 47 (0, 0)) from (heap_setCell_other w3 ⟨vb, 0, none⟩ gp _ (by show gp ≠ vb; omega)).trans hgp3)
                  clear hown3 hB3 hG3 hE3 hr3 hgp3
                  simp only [List.length_append, List.length_cons, List.length_nil, HLC.out]
                  go_simp
                  refine hK.out _ _ (by rw [cell_of_row _ _ 2 _ _ _ HG3.out]; rfl) (fun _ => ?_)
                  clear hK K
                  refine wpAnyH_done (by kernel_rfl) ?_ _
                  gi_wp2
                  exact ⟨⟨j + 1, _, by omega, by go_num, by rw [HCS.out]; exact HE3.out, HG3.out, HKO.out.trans (KeepsOthers.setCell _ _ _)⟩, by simp [intOf]; omega⟩
                · go_simp
                  refine hK.out _ _ hS0 (fun _ => ?_)
                  clear hK K
                  try simp only [Act.put, List.setIfInBounds_toArray, List.set_cons_zero, List.set_cons_succ]
                  refine wpAnyH_take (i := 3) (v := .int .i64 (len : Int)) rfl (by kernel_rfl) (by kernel_rfl) (by kernel_rfl) (fun _ _ _ h => h) (Or.inl ⟨by rfl, by (intro w' hSw; go_simp)⟩) hS0 ?_
                  try simp only [Act.put, List.setIfInBounds_toArray, List.set_cons_zero, List.set_cons_succ]
                  refine wpAnyH_take (i := 6) (v := .int .i64 (q : Int)) rfl (by kernel_rfl) (by kernel_rfl) (by kernel_rfl) (fun _ _ _ h => h) (Or.inl ⟨by rfl, by (intro w' hSw; go_simp)⟩) hS0 ?_
                  try simp only [Act.put, List.setIfInBounds_toArray, List.set_cons_zero, List.set_cons_succ]
                  refine wpAnyH_take (i := 7) (v := .pointer (some ⟨go, q, none⟩)) rfl (by kernel_rfl) (by kernel_rfl) (by kernel_rfl) (fun _ _ _ h => h) (Or.inl ⟨by rfl, by (intro w' hSw; go_simp)⟩) hS0 ?_
                  try simp only [Act.put, List.setIfInBounds_toArray, List.set_cons_zero, List.set_cons_succ]
                  refine wpAnyH_ready (rs := [0, 8]) (by kernel_rfl) (by simp) ?_
                  refine AllReadyH.cons rfl (fun K hK => ?_) (AllReadyH.cons rfl (fun K hK => ?_) AllReadyH.nil)
                  · go_simp
                    refine hK.out _ _ hS0 (fun _ => ?_)
                    clear hK K
                    try simp only [Act.put, List.setIfInBounds_toArray, List.set_cons_zero, List.set_cons_succ]
                    refine wpAnyH_ready (rs := [8]) (by kernel_rfl) (by simp) ?_
                    refine AllReadyH.cons rfl (fun K hK => ?_) AllReadyH.nil
                    go_simp
                    refine hK.out _ _ hS0 (fun _ => ?_)
                    clear hK K
                    try simp only [Act.put, List.setIfInBounds_toArray, List.set_cons_zero, List.set_cons_succ]
                    refine wpAnyH_ready (rs := [9]) (by kernel_rfl) (by simp) ?_
                    refine AllReadyH.cons rfl (fun K hK => ?_) AllReadyH.nil
                    go_simp
                    refine hK.out _ _ hSa (fun _ => ?_)
                    clear hK K
                    try simp only [Act.put, List.setIfInBounds_toArray, List.set_cons_zero, List.set_cons_succ]
                    refine wpAnyH_ready (rs := [10]) (by kernel_rfl) (by simp) ?_
                    refine AllReadyH.cons rfl (fun K hK => ?_) AllReadyH.nil
                    refine step_pushNG (by rfl) _ _ 29 (by rfl) vb 5 i0 (.int .u8 0) 1 Try.underlying29 hi hz0 hz1 hz2 rfl (by omega) .u8 _ cur (by rfl) HEa.out.own wr.heap.size 0 1 1 [x] (by rfl) HNa.out rfl (by rw [HLC.out]; omega) (Nat.le_of_lt HEa.out.lt) ?_
                    intro v3 w3 hown3 hB3 hG3
                    obtain ⟨hr3, hE3⟩ := HEa.out.append hgl (by simp) hown3 hB3 hG3
                    obtain ⟨av3, cv3, rfl⟩ := hE3.shape
                    have hgp3 := HGP.out w3 hG3
                    refine hK.out _ _ (by rw [cell_of_row _ _ 2 _ _ _ hgp3]; rfl) (fun _ => ?_)
                    clear hK K
                    try simp only [Act.put, List.setIfInBounds_toArray, List.set_cons_zero, List.set_cons_succ]
                    refine wpAnyH_ready (rs := [11]) (by kernel_rfl) (by simp) ?_
                    refine AllReadyH.cons rfl (fun K hK => ?_) AllReadyH.nil
                    have f3 := frozen_of_row w3 vb 0 _ _ hr3
                    have c3 : w3.cell? ⟨vb, 0, none⟩ = some (.slice (some ⟨go, 0, none⟩) len cv) := by rw [cell_of_row _ _ 0 _ _ _ hr3]; rfl
                    have s3 : vb < w3.heap.size := (Array.getElem?_eq_some_iff.1 hr3).1
                    simp only [List.length_append, List.length_cons, List.length_nil, HLC.out] at hE3
                    have HE3 := Lib.hid hE3
                    have HKO := Lib.hid (HKa.out w3 hG3)
                    have HG3 := Lib.hid (show (w3.setCell ⟨vb, 0, none⟩ (.slice av3 (len + (0 + 1)) cv3)).heap[gp]? = some (.cells #[.slice none 0 0, .int .i64 (m : Int), .int .i64 (d : Int)] 47 (0, 0)) from (heap_setCell_other w3 ⟨vb, 0, none⟩ gp _ (by show gp ≠ vb; omega)).trans hgp3)
                    clear hown3 hB3 hG3 hE3 hr3 hgp3
                    simp only [List.length_append, List.length_cons, List.length_nil, HLC.out]
                    go_simp
                    refine hK.out _ _ (by rw [cell_of_row _ _ 2 _ _ _ HG3.out]; rfl) (fun _ => ?_)
                    clear hK K
                    refine wpAnyH_done (by kernel_rfl) ?_ _
                    gi_wp2
                    exact ⟨⟨j + 1, _, by omega, by go_num, by rw [HCS.out]; exact HE3.out, HG3.out, HKO.out.trans (KeepsOthers.setCell _ _ _)⟩, by simp [intOf]; omega⟩
                  · go_simp
                    refine hK.out _ _ hS0 (fun _ => ?_)
                    clear hK K
                    try simp only [Act.put, List.setIfInBounds_toArray, List.set_cons_zero, List.set_cons_succ]
                    refine wpAnyH_ready (rs := [0, 9]) (by kernel_rfl) (by simp) ?_
                    refine AllReadyH.cons rfl (fun K hK => ?_) (AllReadyH.cons rfl (fun K hK => ?_) AllReadyH.nil)
                    · go_simp
                      refine hK.out _ _ hS0 (fun _ => ?_)
                      clear hK K
                      try simp only [Act.put, List.setIfInBounds_toArray, List.set_cons_zero, List.set_cons_succ]
                      refine wpAnyH_ready (rs := [9]) (by kernel_rfl) (by simp) ?_
                      refine AllReadyH.cons rfl (fun K hK => ?_) AllReadyH.nil
                      go_simp
                      refine hK.out _ _ hSa (fun _ => ?_)
                      clear hK K
                      try simp only [Act.put, List.setIfInBounds_toArray, List.set_cons_zero, List.set_cons_succ]
                      refine wpAnyH_ready (rs := [10]) (by kernel_rfl) (by simp) ?_
                      refine AllReadyH.cons rfl (fun K hK => ?_) AllReadyH.nil
                      refine step_pushNG (by rfl) _ _ 29 (by rfl) vb 5 i0 (.int .u8 0) 1 Try.underlying29 hi hz0 hz1 hz2 rfl (by omega) .u8 _ cur (by rfl) HEa.out.own wr.heap.size 0 1 1 [x] (by rfl) HNa.out rfl (by rw [HLC.out]; omega) (Nat.le_of_lt HEa.out.lt) ?_
                      intro v3 w3 hown3 hB3 hG3
                      obtain ⟨hr3, hE3⟩ := HEa.out.append hgl (by simp) hown3 hB3 hG3
                      obtain ⟨av3, cv3, rfl⟩ := hE3.shape
                      have hgp3 := HGP.out w3 hG3
                      refine hK.out _ _ (by rw [cell_of_row _ _ 2 _ _ _ hgp3]; rfl) (fun _ => ?_)
                      clear hK K
                      try simp only [Act.put, List.setIfInBounds_toArray, List.set_cons_zero, List.set_cons_succ]
                      refine wpAnyH_ready (rs := [11]) (by kernel_rfl) (by simp) ?_
                      refine AllReadyH.cons rfl (fun K hK => ?_) AllReadyH.nil
                      have f3 := frozen_of_row w3 vb 0 _ _ hr3
                      have c3 : w3.cell? ⟨vb, 0, none⟩ = some (.slice (some ⟨go, 0, none⟩) len cv) := by rw [cell_of_row _ _ 0 _ _ _ hr3]; rfl
                      have s3 : vb < w3.heap.size := (Array.getElem?_eq_some_iff.1 hr3).1
                      simp only [List.length_append, List.length_cons, List.length_nil, HLC.out] at hE3
                      have HE3 := Lib.hid hE3
                      have HKO := Lib.hid (HKa.out w3 hG3)
                      have HG3 := Lib.hid (show (w3.setCell ⟨vb, 0, none⟩ (.slice av3 (len + (0 + 1)) cv3)).heap[gp]? = some (.cells #[.slice none 0 0, .int .i64 (m : Int), .int .i64 (d : Int)] 47 (0, 0)) from (heap_setCell_other w3 ⟨vb, 0, none⟩ gp _ (by show gp ≠ vb; omega)).trans hgp3)
                      clear hown3 hB3 hG3 hE3 hr3 hgp3
                      simp only [List.length_append, List.length_cons, List.length_nil, HLC.out]
                      go_simp
                      refine hK.out _ _ (by rw [cell_of_row _ _ 2 _ _ _ HG3.out]; rfl) (fun _ => ?_)
                      clear hK K
                      refine wpAnyH_done (by kernel_rfl) ?_ _
                      gi_wp2
                      exact ⟨⟨j + 1, _, by omega, by go_num, by rw [HCS.out]; exact HE3.out, HG3.out, HKO.out.trans (KeepsOthers.setCell _ _ _)⟩, by simp [intOf]; omega⟩
                    · go_simp
                      refine hK.out _ _ hSa (fun _ => ?_)
                      clear hK K
                      try simp only [Act.put, List.setIfInBounds_toArray, List.set_cons_zero, List.set_cons_succ]
                      refine wpAnyH_ready (rs := [0]) (by kernel_rfl) (by simp) ?_
                      refine AllReadyH.cons rfl (fun K hK => ?_) AllReadyH.nil
                      go_simp
                      refine hK.out _ _ hSa (fun _ => ?_)
                      clear hK K
                      try simp only [Act.put, List.setIfInBounds_toArray, List.set_cons_zero, List.set_cons_succ]
                      refine wpAnyH_ready (rs := [10]) (by kernel_rfl) (by simp) ?_
                      refine AllReadyH.cons rfl (fun K hK => ?_) AllReadyH.nil
                      refine step_pushNG (by rfl) _ _ 29 (by rfl) vb 5 i0 (.int .u8 0) 1 Try.underlying29 hi hz0 hz1 hz2 rfl (by omega) .u8 _ cur (by rfl) HEa.out.own wr.heap.size 0 1 1 [x] (by rfl) HNa.out rfl (by rw [HLC.out]; omega) (Nat.le_of_lt HEa.out.lt) ?_
                      intro v3 w3 hown3 hB3 hG3
                      obtain ⟨hr3, hE3⟩ := HEa.out.append hgl (by simp) hown3 hB3 hG3
                      obtain ⟨av3, cv3, rfl⟩ := hE3.shape
                      have hgp3 := HGP.out w3 hG3
                      refine hK.out _ _ (by rw [cell_of_row _ _ 2 _ _ _ hgp3]; rfl) (fun _ => ?_)
                      clear hK K
                      try simp only [Act.put, List.setIfInBounds_toArray, List.set_cons_zero, List.set_cons_succ]
                      refine wpAnyH_ready (rs := [11]) (by kernel_rfl) (by simp) ?_
                      refine AllReadyH.cons rfl (fun K hK => ?_) AllReadyH.nil
                      have f3 := frozen_of_row w3 vb 0 _ _ hr3
                      have c3 : w3.cell? ⟨vb, 0, none⟩ = some (.slice (some ⟨go, 0, none⟩) len cv) := by rw [cell_of_row _ _ 0 _ _ _ hr3]; rfl
                      have s3 : vb < w3.heap.size := (Array.getElem?_eq_some_iff.1 hr3).1
                      simp only [List.length_append, List.length_cons, List.length_nil, HLC.out] at hE3
                      have HE3 := Lib.hid hE3
                      have HKO := Lib.hid (HKa.out w3 hG3)
                      have HG3 := Lib.hid (show (w3.setCell ⟨vb, 0, none⟩ (.slice av3 (len + (0 + 1)) cv3)).heap[gp]? = some (.cells #[.slice none 0 0, .int .i64 (m : Int), .int .i64 (d : Int)] 47 (0, 0)) from (heap_setCell_other w3 ⟨vb, 0, none⟩ gp _ (by show gp ≠ vb; omega)).trans hgp3)
                      clear hown3 hB3 hG3 hE3 hr3 hgp3
                      simp only [List.length_append, List.length_cons, List.length_nil, HLC.out]
                      go_simp
                      refine hK.out _ _ (by rw [cell_of_row _ _ 2 _ _ _ HG3.out]; rfl) (fun _ => ?_)
                      clear hK K
                      refine wpAnyH_done (by kernel_rfl) ?_ _
                      gi_wp2
                      exact ⟨⟨j + 1, _, by omega, by go_num, by rw [HCS.out]; exact HE3.out, HG3.out, HKO.out.trans (KeepsOthers.setCell _ _ _)⟩, by simp [intOf]; omega⟩
              · go_simp
                refine hK.out _ _ hS0 (fun _ => ?_)
                clear hK K
                try simp only [Act.put, List.setIfInBounds_toArray, List.set_cons_zero, List.set_cons_succ]
                refine wpAnyH_take (i := 3) (v := .int .i64 (len : Int)) rfl (by kernel_rfl) (by kernel_rfl) (by kernel_rfl) (fun _ _ _ h => h) (Or.inl ⟨by rfl, by (intro w' hSw; go_simp)⟩) hS0 ?_
                try simp only [Act.put, List.setIfInBounds_toArray, List.set_cons_zero, List.set_cons_succ]
                refine wpAnyH_take (i := 6) (v := .int .i64 (q : Int)) rfl (by kernel_rfl) (by kernel_rfl) (by kernel_rfl) (fun _ _ _ h => h) (Or.inl ⟨by rfl, by (intro w' hSw; go_simp)⟩) hS0 ?_
                try simp only [Act.put, List.setIfInBounds_toArray, List.set_cons_zero, List.set_cons_succ]
                refine wpAnyH_ready (rs := [0, 1]) (by kernel_rfl) (by simp) ?_
                refine AllReadyH.cons rfl (fun K hK => ?_) (AllReadyH.cons rfl (fun K hK => ?_) AllReadyH.nil)
                · go_simp
                  refine hK.out _ _ hS0 (fun _ => ?_)
                  clear hK K
                  try simp only [Act.put, List.setIfInBounds_toArray, List.set_cons_zero, List.set_cons_succ]
                  refine wpAnyH_ready (rs := [1]) (by kernel_rfl) (by simp) ?_
                  refine AllReadyH.cons rfl (fun K hK => ?_) AllReadyH.nil
                  go_simp
                  refine hK.out _ _ hS0 (fun _ => ?_)
                  clear hK K
                  try simp only [Act.put, List.setIfInBounds_toArray, List.set_cons_zero, List.set_cons_succ]
                  refine wpAnyH_take (i := 7) (v := .pointer (some ⟨go, q, none⟩)) rfl (by kernel_rfl) (by kernel_rfl) (by kernel_rfl) (fun _ _ _ h => h) (Or.inl ⟨by rfl, by (intro w' hSw; go_simp)⟩) hS0 ?_
                  try simp only [Act.put, List.setIfInBounds_toArray, List.set_cons_zero, List.set_cons_succ]
                  refine wpAnyH_ready (rs := [8]) (by kernel_rfl) (by simp) ?_
                  refine AllReadyH.cons rfl (fun K hK => ?_) AllReadyH.nil
                  go_simp
                  refine hK.out _ _ hS0 (fun _ => ?_)
                  clear hK K
                  try simp only [Act.put, List.setIfInBounds_toArray, List.set_cons_zero, List.set_cons_succ]
                  refine wpAnyH_ready (rs := [9]) (by kernel_rfl) (by simp) ?_
                  refine AllReadyH.cons rfl (fun K hK => ?_) AllReadyH.nil
                  go_simp
                  refine hK.out _ _ hSa (fun _ => ?_)
                  clear hK K
                  try simp only [Act.put, List.setIfInBounds_toArray, List.set_cons_zero, List.set_cons_succ]
                  refine wpAnyH_ready (rs := [10]) (by kernel_rfl) (by simp) ?_
                  refine AllReadyH.cons rfl (fun K hK => ?_) AllReadyH.nil
                  refine step_pushNG (by rfl) _ _ 29 (by rfl) vb 5 i0 (.int .u8 0) 1 Try.underlying29 hi hz0 hz1 hz2 rfl (by omega) .u8 _ cur (by rfl) HEa.out.own wr.heap.size 0 1 1 [x] (by rfl) HNa.out rfl (by rw [HLC.out]; omega) (Nat.le_of_lt HEa.out.lt) ?_
                  intro v3 w3 hown3 hB3 hG3
                  obtain ⟨hr3, hE3⟩ := HEa.out.append hgl (by simp) hown3 hB3 hG3
                  obtain ⟨av3, cv3, rfl⟩ := hE3.shape
                  have hgp3 := HGP.out w3 hG3
                  refine hK.out _ _ (by rw [cell_of_row _ _ 2 _ _ _ hgp3]; rfl) (fun _ => ?_)
                  clear hK K
                  try simp only [Act.put, List.setIfInBounds_toArray, List.set_cons_zero, List.set_cons_succ]
                  refine wpAnyH_ready (rs := [11]) (by kernel_rfl) (by simp) ?_
                  refine AllReadyH.cons rfl (fun K hK => ?_) AllReadyH.nil
                  have f3 := frozen_of_row w3 vb 0 _ _ hr3
                  have c3 : w3.cell? ⟨vb, 0, none⟩ = some (.slice (some ⟨go, 0, none⟩) len cv) := by rw [cell_of_row _ _ 0 _ _ _ hr3]; rfl
                  have s3 : vb < w3.heap.size := (Array.getElem?_eq_some_iff.1 hr3).1
                  simp only [List.length_append, List.length_cons, List.length_nil, HLC.out] at hE3
                  have HE3 := Lib.hid hE3
                  have HKO := Lib.hid (HKa.out w3 hG3)
                  have HG3 := Lib.hid (show (w3.setCell ⟨vb, 0, none⟩ (.slice av3 (len + (0 + 1)) cv3)).heap[gp]? = some (.cells #[.slice none 0 0, .int .i64 (m : Int), .int .i64 (d : Int)] 47 (0, 0)) from (heap_setCell_other w3 ⟨vb, 0, none⟩ gp _ (by show gp ≠ vb; omega)).trans hgp3)
                  clear hown3 hB3 hG3 hE3 hr3 hgp3
                  simp only [List.length_append, List.length_cons, List.length_nil, HLC.out]
                  go_simp
                  refine hK.out _ _ (by rw [cell_of_row _ _ 2 _ _ _ HG3.out]; rfl) (fun _ => ?_)
                  clear hK K
                  refine wpAnyH_done (by kernel_rfl) ?_ _
                  gi_wp2
                  exact ⟨⟨j + 1, _, by omega, by go_num, by rw [HCS.out]; exact HE3.out, HG3.out, HKO.out.trans (KeepsOthers.setCell _ _ _)⟩, by simp [intOf]; omega⟩
                · go_simp
                  refine hK.out _ _ hS0 (fun _ => ?_)
                  clear hK K
                  try simp only [Act.put, List.setIfInBounds_toArray, List.set_cons_zero, List.set_cons_succ]
                  refine wpAnyH_take (i := 7) (v := .pointer (some ⟨go, q, none⟩)) rfl (by kernel_rfl) (by kernel_rfl) (by kernel_rfl) (fun _ _ _ h => h) (Or.inl ⟨by rfl, by (intro w' hSw; go_simp)⟩) hS0 ?_
                  try simp only [Act.put, List.setIfInBounds_toArray, List.set_cons_zero, List.set_cons_succ]
                  refine wpAnyH_ready (rs := [0, 8]) (by kernel_rfl) (by simp) ?_
                  refine AllReadyH.cons rfl (fun K hK => ?_) (AllReadyH.cons rfl (fun K hK => ?_) AllReadyH.nil)
                  · go_simp
                    refine hK.out _ _ hS0 (fun _ => ?_)
                    clear hK K
                    try simp only [Act.put, List.setIfInBounds_toArray, List.set_cons_zero, List.set_cons_succ]
                    refine wpAnyH_ready (rs := [8]) (by kernel_rfl) (by simp) ?_
                    refine AllReadyH.cons rfl (fun K hK => ?_) AllReadyH.nil
                    go_simp
                    refine hK.out _ _ hS0 (fun _ => ?_)
                    clear hK K
                    try simp only [Act.put, List.setIfInBounds_toArray, List.set_cons_zero, List.set_cons_succ]
                    refine wpAnyH_ready (rs := [9]) (by kernel_rfl) (by simp) ?_
                    refine AllReadyH.cons rfl (fun K hK => ?_) AllReadyH.nil
                    go_simp
                    refine hK.out _ _ hSa (fun _ => ?_)
                    clear hK K
                    try simp only [Act.put, List.setIfInBounds_toArray, List.set_cons_zero, List.set_cons_succ]
                    refine wpAnyH_ready (rs := [10]) (by kernel_rfl) (by simp) ?_
                    refine AllReadyH.cons rfl (fun K hK => ?_) AllReadyH.nil
                    refine step_pushNG (by rfl) _ _ 29 (by rfl) vb 5 i0 (.int .u8 0) 1 Try.underlying29 hi hz0 hz1 hz2 rfl (by omega) .u8 _ cur (by rfl) HEa.out.own wr.heap.size 0 1 1 [x] (by rfl) HNa.out rfl (by rw [HLC.out]; omega) (Nat.le_of_lt HEa.out.lt) ?_
                    intro v3 w3 hown3 hB3 hG3
                    obtain ⟨hr3, hE3⟩ := HEa.out.append hgl (by simp) hown3 hB3 hG3
                    obtain ⟨av3, cv3, rfl⟩ := hE3.shape
                    have hgp3 := HGP.out w3 hG3
                    refine hK.out _ _ (by rw [cell_of_row _ _ 2 _ _ _ hgp3]; rfl) (fun _ => ?_)
                    clear hK K
                    try simp only [Act.put, List.setIfInBounds_toArray, List.set_cons_zero, List.set_cons_succ]
                    refine wpAnyH_ready (rs := [11]) (by kernel_rfl) (by simp) ?_
                    refine AllReadyH.cons rfl (fun K hK => ?_) AllReadyH.nil
                    have f3 := frozen_of_row w3 vb 0 _ _ hr3
                    have c3 : w3.cell? ⟨vb, 0, none⟩ = some (.slice (some ⟨go, 0, none⟩) len cv) := by rw [cell_of_row _ _ 0 _ _ _ hr3]; rfl
                    have s3 : vb < w3.heap.size := (Array.getElem?_eq_some_iff.1 hr3).1
                    simp only [List.length_append, List.length_cons, List.length_nil, HLC.out] at hE3
                    have HE3 := Lib.hid hE3
                    have HKO := Lib.hid (HKa.out w3 hG3)
                    have HG3 := Lib.hid (show (w3.setCell ⟨vb, 0, none⟩ (.slice av3 (len + (0 + 1)) cv3)).heap[gp]? = some (.cells #[.slice none 0 0, .int .i64 (m : Int), .int .i64 (d : Int)] 47 (0, 0)) from (heap_setCell_other w3 ⟨vb, 0, none⟩ gp _ (by show gp ≠ vb; omega)).trans hgp3)
                    clear hown3 hB3 hG3 hE3 hr3 hgp3
                    simp only [List.length_append, List.length_cons, List.length_nil, HLC.out]
                    go_simp
                    refine hK.out _ _ (by rw [cell_of_row _ _ 2 _ _ _ HG3.out]; rfl) (fun _ => ?_)
                    clear hK K
                    refine wpAnyH_done (by kernel_rfl) ?_ _
                    gi_wp2
                    exact ⟨⟨j + 1, _, by omega, by go_num, by rw [HCS.out]; exact HE3.out, HG3.out, HKO.out.trans (KeepsOthers.setCell _ _ _)⟩, by simp [intOf]; omega⟩
                  · go_simp
                    refine hK.out _ _ hS0 (fun _ => ?_)
                    clear hK K
                    try simp only [Act.put, List.setIfInBounds_toArray, List.set_cons_zero, List.set_cons_succ]
                    refine wpAnyH_ready (rs := [0, 9]) (by kernel_rfl) (by simp) ?_
                    refine AllReadyH.cons rfl (fun K hK => ?_) (AllReadyH.cons rfl (fun K hK => ?_) AllReadyH.nil)
                    · go_simp
                      refine hK.out _ _ hS0 (fun _ => ?_)
                      clear hK K
                      try simp only [Act.put, List.setIfInBounds_toArray, List.set_cons_zero, List.set_cons_succ]
                      refine wpAnyH_ready (rs := [9]) (by kernel_rfl) (by simp) ?_
                      refine AllReadyH.cons rfl (fun K hK => ?_) AllReadyH.nil
                      go_simp
                      refine hK.out _ _ hSa (fun _ => ?_)
                      clear hK K
                      try simp only [Act.put, List.setIfInBounds_toArray, List.set_cons_zero, List.set_cons_succ]
                      refine wpAnyH_ready (rs := [10]) (by kernel_rfl) (by simp) ?_
                      refine AllReadyH.cons rfl (fun K hK => ?_) AllReadyH.nil
                      refine step_pushNG (by rfl) _ _ 29 (by rfl) vb 5 i0 (.int .u8 0) 1 Try.underlying29 hi hz0 hz1 hz2 rfl (by omega) .u8 _ cur (by rfl) HEa.out.own wr.heap.size 0 1 1 [x] (by rfl) HNa.out rfl (by rw [HLC.out]; omega) (Nat.le_of_lt HEa.out.lt) ?_
                      intro v3 w3 hown3 hB3 hG3
                      obtain ⟨hr3, hE3⟩ := HEa.out.append hgl (by simp) hown3 hB3 hG3
                      obtain ⟨av3, cv3, rfl⟩ := hE3.shape
                      have hgp3 := HGP.out w3 hG3
                      refine hK.out _ _ (by rw [cell_of_row _ _ 2 _ _ _ hgp3]; rfl) (fun _ => ?_)
                      clear hK K
                      try simp only [Act.put, List.setIfInBounds_toArray, List.set_cons_zero, List.set_cons_succ]
                      refine wpAnyH_ready (rs := [11]) (by kernel_rfl) (by simp) ?_
                      refine AllReadyH.cons rfl (fun K hK => ?_) AllReadyH.nil
                      have f3 := frozen_of_row w3 vb 0 _ _ hr3
                      have c3 : w3.cell? ⟨vb, 0, none⟩ = some (.slice (some ⟨go, 0, none⟩) len cv) := by rw [cell_of_row _ _ 0 _ _ _ hr3]; rfl
                      have s3 : vb < w3.heap.size := (Array.getElem?_eq_some_iff.1 hr3).1
                      simp only [List.length_append, List.length_cons, List.length_nil, HLC.out] at hE3
                      have HE3 := Lib.hid hE3
                      have HKO := Lib.hid (HKa.out w3 hG3)
                      have HG3 := Lib.hid (show (w3.setCell ⟨vb, 0, none⟩ (.slice av3 (len + (0 + 1)) cv3)).heap[gp]? = some (.cells #[.slice none 0 0, .int .i64 (m : Int), .int .i64 (d : Int)] 47 (0, 0)) from (heap_setCell_other w3 ⟨vb, 0, none⟩ gp _ (by show gp ≠ vb; omega)).trans hgp3)
                      clear hown3 hB3 hG3 hE3 hr3 hgp3
                      simp only [List.length_append, List.length_cons, List.length_nil, HLC.out]
                      go_simp
                      refine hK.out _ _ (by rw [cell_of_row _ _ 2 _ _ _ HG3.out]; rfl) (fun _ => ?_)
                      clear hK K
                      refine wpAnyH_done (by kernel_rfl) ?_ _
                      gi_wp2
                      exact ⟨⟨j + 1, _, by omega, by go_num, by rw [HCS.out]; exact HE3.out, HG3.out, HKO.out.trans (KeepsOthers.setCell _ _ _)⟩, by simp [intOf]; omega⟩
                    · go_simp
                      refine hK.out _ _ hSa (fun _ => ?_)
                      clear hK K
                      try simp only [Act.put, List.setIfInBounds_toArray, List.set_cons_zero, List.set_cons_succ]
                      refine wpAnyH_ready (rs := [0]) (by kernel_rfl) (by simp) ?_
                      refine AllReadyH.cons rfl (fun K hK => ?_) AllReadyH.nil
                      go_simp
                      refine hK.out _ _ hSa (fun _ => ?_)
                      clear hK K
                      try simp only [Act.put, List.setIfInBounds_toArray, List.set_cons_zero, List.set_cons_succ]
                      refine wpAnyH_ready (rs := [10]) (by kernel_rfl) (by simp) ?_
                      refine AllReadyH.cons rfl (fun K hK => ?_) AllReadyH.nil
                      refine step_pushNG (by rfl) _ _ 29 (by rfl) vb 5 i0 (.int .u8 0) 1 Try.underlying29 hi hz0 hz1 hz2 rfl (by omega) .u8 _ cur (by rfl) HEa.out.own wr.heap.size 0 1 1 [x] (by rfl) HNa.out rfl (by rw [HLC.out]; omega) (Nat.le_of_lt HEa.out.lt) ?_
                      intro v3 w3 hown3 hB3 hG3
                      obtain ⟨hr3, hE3⟩ := HEa.out.append hgl (by simp) hown3 hB3 hG3
                      obtain ⟨av3, cv3, rfl⟩ := hE3.shape
                      have hgp3 := HGP.out w3 hG3
                      refine hK.out _ _ (by rw [cell_of_row _ _ 2 _ _ _ hgp3]; rfl) (fun _ => ?_)
                      clear hK K
                      try simp only [Act.put, List.setIfInBounds_toArray, List.set_cons_zero, List.set_cons_succ]
                      refine wpAnyH_ready (rs := [11]) (by kernel_rfl) (by simp) ?_
                      refine AllReadyH.cons rfl (fun K hK => ?_) AllReadyH.nil
                      have f3 := frozen_of_row w3 vb 0 _ _ hr3
                      have c3 : w3.cell? ⟨vb, 0, none⟩ = some (.slice (some ⟨go, 0, none⟩) len cv) := by rw [cell_of_row _ _ 0 _ _ _ hr3]; rfl
                      have s3 : vb < w3.heap.size := (Array.getElem?_eq_some_iff.1 hr3).1
                      simp only [List.length_append, List.length_cons, List.length_nil, HLC.out] at hE3
                      have HE3 := Lib.hid hE3
                      have HKO := Lib.hid (HKa.out w3 hG3)
                      have HG3 := Lib.hid (show (w3.setCell ⟨vb, 0, none⟩ (.slice av3 (len + (0 + 1)) cv3)).heap[gp]? = some (.cells #[.slice none 0 0, .int .i64 (m : Int), .int .i64 (d : Int)] 47 (0, 0)) from (heap_setCell_other w3 ⟨vb, 0, none⟩ gp _ (by show gp ≠ vb; omega)).trans hgp3)
                      clear hown3 hB3 hG3 hE3 hr3 hgp3
                      simp only [List.length_append, List.length_cons, List.length_nil, HLC.out]
                      go_simp
                      refine hK.out _ _ (by rw [cell_of_row _ _ 2 _ _ _ HG3.out]; rfl) (fun _ => ?_)
                      clear hK K
                      refine wpAnyH_done (by kernel_rfl) ?_ _
                      gi_wp2
                      exact ⟨⟨j + 1, _, by omega, by go_num, by rw [HCS.out]; exact HE3.out, HG3.out, HKO.out.trans (KeepsOthers.setCell _ _ _)⟩, by simp [intOf]; omega⟩
            · obtain rfl : m = j := by omega
              have dj : decide ((m : Int) < (m : Int)) = false := decide_eq_false (by omega)
              gi_wp2
              exact ⟨hko, _, _, HEX.out, by rw [cp_len]; omega, hE⟩
  case done =>
    rintro D W hD hDW ⟨v, wl, h1, h2, h3⟩ hdef
    rw [List.drop_length, ex] at h1
    subst h1
    obtain ⟨av, cv, rfl⟩ := h3.shape
    have hcv := conv_own h3.own hR256
    rw [HRS.out] at hcv
    have c2 := h3.cell
    have H3 := Lib.hid h3
    clear h3 hyl hE0 h2
    gi_wp2
    refine ⟨by simp, .inl ⟨_, _, rfl, run_takeDeferred hdef, ?_⟩⟩
    refine ⟨_, results_tmp rfl _ _ _, rfl, ?_⟩
    rw [HV.out]
    exact H3.out.below.trans (belowK_b (w := W0) (n₀ := vb) (by omega) W D _ _ hD hdef rfl rfl)
  case stop =>
    rintro D cd k W hD hDW ⟨rfl, v, h2, h3⟩ hdef
    obtain ⟨av, cv, rfl⟩ := h3.shape
    have hcv := conv_own h3.own hR256
    rw [HRS.out] at hcv
    have c2 := h3.cell
    have H3 := Lib.hid h3
    clear h3 hyl hE0 h2
    gi_wp2
    refine ⟨by simp, .inl ⟨_, _, rfl, run_takeDeferred hdef, ?_⟩⟩
    refine ⟨_, results_tmp rfl _ _ _, rfl, ?_⟩
    rw [HV.out]
    exact H3.out.below.trans (belowK_b (w := W0) (n₀ := vb) (by omega) W D _ _ hD hdef rfl rfl)

end Go.Proofs.Ytnploljhikljfaa
