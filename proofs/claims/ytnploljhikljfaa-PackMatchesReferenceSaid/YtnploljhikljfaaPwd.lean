/-
  Package pack: a piece's bytes (appendTo), the iterator's function (divided).
-/
import Derived.Test.YtnploljhikljfaaPwc
import Derived.Laws.BytesArg
import Derived.Lib.SliceRun
namespace Go.Proofs.Ytnploljhikljfaa
open Go.RowKit Bs Pk

theorem infoB : (Try.prog.info? 5).map (fun i => (i.zero, i.size, i.bytes)) = some (some (.int .u8 0), 1, 1) := by kernel_rfl
theorem infoB_parts : ∃ i, Try.prog.info? 5 = some i ∧ i.zero = some (.int .u8 0) ∧ i.size = 1 ∧ i.bytes = 1 := by
  have h := infoB
  cases hi : Try.prog.info? 5 with
  | none => rw [hi] at h; cases h
  | some i =>
    rw [hi] at h
    simp only [Option.map_some, Option.some.injEq, Prod.mk.injEq] at h
    exact ⟨i, rfl, h.1, h.2.1, h.2.2⟩
theorem mkOwnB (w : World) (m : Nat) (hm : m ≤ 2000000) :
    ∃ w', (Instr.makeSlice 29 (.int .i64 0) (.int .i64 (m : Int))).run Try.prog w = .ok (.slice (some ⟨w.heap.size, 0, none⟩) 0 m) w' ∧ Bs.Own w' w.heap.size 5 .u8 (.slice (some ⟨w.heap.size, 0, none⟩) 0 m) [] ∧ Below w.heap.size w w' ∧ w'.heap.size = w.heap.size + 1 := by
  obtain ⟨i0, hi, hz0, hz1, hz2⟩ := infoB_parts
  have hmx : m ≤ maxLen := by unfold maxLen; omega
  refine ⟨_, run_make w 29 5 i0 (.int .u8 0) Try.underlying29 hi hz0 .i64 .i64 0 m (by omega) (by omega) (by rw [hz2]; omega) (by omega), ?_, (Below.refl _ w).alloc (Nat.le_refl _) _, by simp⟩
  refine ⟨rfl, .inr ⟨w.heap.size, m, _, rfl, Nat.le_refl _, heap_alloc_new _ _, Nat.zero_le _, hmx, by rw [size_madeCells, hz1]; simp, by simp [iv]⟩⟩
theorem strOfNums_bytes (l : List UInt8) : strOfNums (l.map (fun b => (b.toNat : Int))) = ⟨l.toArray⟩ := by
  show ByteArray.mk ((l.map (fun b => (b.toNat : Int))).map fun n => UInt8.ofNat n.toNat).toArray = _
  rw [List.map_map, show ((fun n : Int => UInt8.ofNat n.toNat) ∘ fun b : UInt8 => (b.toNat : Int)) = id from by funext b; simp, List.map_id]
theorem own_str {W : World} {base g cap n : Nat} {l : List Nat} (h : Bs.Own W base 5 .u8 (.slice (some ⟨g, 0, none⟩) n cap) l) (hn : l.length = n) (hl : ∀ b ∈ l, b < 256) :
    (convert 29 9 (.slice (some ⟨g, 0, none⟩) n cap)).run Try.prog W = .ok (.string (bs (ub l))) W := by
  have e : l.map (fun (b : Nat) => (b : Int)) = (ub l).map (fun b => (b.toNat : Int)) := by
    unfold ub
    rw [List.map_map]
    apply List.map_congr_left
    intro b hb
    have := hl b hb
    simp; omega
  rw [run_convert_bytes_arg W 29 5 Try.underlying29 Try.underlying5 g 0 n cap (l.map (fun (b : Nat) => (b : Int))) (by simpa using hn) (fun i hi => by
    rw [Nat.zero_add, h.get i (by omega)]
    congr 2
    rw [List.getD_eq_getElem?_getD, List.getD_eq_getElem?_getD, List.getElem?_map, List.getElem?_eq_getElem (show i < l.length by omega)]; rfl) 9 Try.underlying9, e, strOfNums_bytes]
  rfl
theorem grown_trans {a b c : World} {r : Option Nat} (h : a.grownBy b r) (k : b.grownBy c r) : a.grownBy c r :=
  ⟨k.os.trans h.os, k.tape.trans h.tape, k.output.trans h.output, Nat.le_trans h.size k.size, fun i hi hr => (k.block i (Nat.lt_of_lt_of_le hi h.size) hr).trans (h.block i hi hr)⟩
theorem grown_alloc (w : World) (o : Obj) (r : Option Nat) : w.grownBy (w.alloc o) r := World.grownBy_alloc w o r
theorem grown_drew {a b : World} {r : Option Nat} (h : a.grownBy b r) : a.grownBy b.drew r := ⟨h.os, h.tape, h.output, h.size, h.block⟩
theorem grown_below {a b : World} {r : Option Nat} (h : Below a.heap.size a b) : a.grownBy b r := ⟨h.os, h.tape, h.output, h.size, fun i hi _ => h.block i hi⟩
theorem below_grown {B g : Nat} {a b : World} (h : a.grownBy b (some g)) (hg : B ≤ g) (hB : B ≤ a.heap.size) : Below B a b := ⟨h.os, h.tape, h.output, h.size, fun k hk => h.block k (by omega) (fun e => by cases e; omega)⟩
/-- a whole slice more within the capacity -/
theorem wpList_fits {P : Program} {w : World} {ops : Array Oper} {rest : List Oper} {o : Oper} {a : Act} {Q : Exit → Act → World → Prop} (hgd : o.guard = none) (s x : Operand) (st : TypeId)
    (ho : o.op = .call { callee := .builtin .append, args := #[s, x], argTypes := #[st, st] })
    (base : Nat) (t : TypeId) (i : TypeInfo) (ht : P.underlying st = some (.slice t)) (hi : P.info? t = some i) (hsize : i.size = 1)
    (k : IntKind) (gc n cap : Nat) (l : List Nat) (hs : a.eval s = .slice (some ⟨gc, 0, none⟩) n cap) (hown : Bs.Own w base t k (.slice (some ⟨gc, 0, none⟩) n cap) l) (hl : l.length = n) (g off m c : Nat) (l2 : List Nat) (hx : a.eval x = .slice (some ⟨g, off, none⟩) m c)
    (hc : Nums w g off m k l2) (hl2 : l2.length = m) (hfit : n + m ≤ cap)
    (h : ∀ w', Bs.Own w' base t k (.slice (some ⟨gc, 0, none⟩) (n + m) cap) (l ++ l2) → w.grownBy w' (some gc) → wpList P ops Q rest (a.put o.dst (.slice (some ⟨gc, 0, none⟩) (n + m) cap)) w') : wpList P ops Q (o :: rest) a w := by
  subst hl
  refine wpList_append_fits w hgd s x st ho base t i 1 ht hi hsize gc l.length cap (iv k l) hs hown.row ⟨g, off, none⟩ m c (iv k l2) hx (by rw [iv_length, hl2, Nat.mul_one]) ?_ ?_ hfit ?_
  · intro j u hj
    have hadd : (⟨g, off, none⟩ : Addr).add j = ⟨g, off + j, none⟩ := by unfold Addr.add; split <;> simp_all
    have hjm : j < m := by
      rcases Nat.lt_or_ge j m with h1 | h1
      · exact h1
      · rw [List.getElem?_eq_none (by rw [iv_length]; omega)] at hj; cases hj
    rw [hadd, hc.cell j hjm]
    simp only [iv, List.getElem?_map, List.getElem?_eq_getElem (show j < l2.length by omega), Option.map_some, Option.some.injEq] at hj
    rw [← hj, List.getD_eq_getElem?_getD, List.getElem?_eq_getElem (show j < l2.length by omega)]; rfl
  · intro u hu; simp only [iv, List.mem_map] at hu; obtain ⟨b, _, rfl⟩ := hu; rfl
  · intro w' hown' hgrow
    refine h w' ⟨?_⟩ hgrow
    rw [iv_append, List.length_append, hl2]
    exact hown'
/-- the same among operations whose order is drawn -/
theorem step_fits {P : Program} {w : World} {ops : Array Oper} {o : Oper} {a : Act} {K : Act → World → Prop} {Q : Exit → Act → World → Prop} {E : Prop} (hgd : o.guard = none) (s x : Operand) (st : TypeId)
    (ho : o.op = .call { callee := .builtin .append, args := #[s, x], argTypes := #[st, st] })
    (base : Nat) (t : TypeId) (i : TypeInfo) (ht : P.underlying st = some (.slice t)) (hi : P.info? t = some i) (hsize : i.size = 1)
    (k : IntKind) (gc n cap : Nat) (l : List Nat) (hs : a.eval s = .slice (some ⟨gc, 0, none⟩) n cap) (hown : Bs.Own w base t k (.slice (some ⟨gc, 0, none⟩) n cap) l) (hl : l.length = n) (g off m c : Nat) (l2 : List Nat) (hx : a.eval x = .slice (some ⟨g, off, none⟩) m c)
    (hc : Nums w g off m k l2) (hl2 : l2.length = m) (hfit : n + m ≤ cap)
    (h : ∀ w', Bs.Own w' base t k (.slice (some ⟨gc, 0, none⟩) (n + m) cap) (l ++ l2) → w.grownBy w' (some gc) → K (a.put o.dst (.slice (some ⟨gc, 0, none⟩) (n + m) cap)) w') :
    if Region.wanted o (yielded ops a.tmps) = true then Oper.wp P o a w K Q else E := by
  have hw : Region.wanted o (yielded ops a.tmps) = true := by simp [Region.wanted, hgd]
  rw [if_pos hw]
  subst hl
  obtain ⟨w', hrun, r1, r2⟩ := run_append_fits (P := P) w base st o.type t i 1 ht hi hsize gc l.length cap (iv k l) hown.row ⟨g, off, none⟩ m c (iv k l2) (by rw [iv_length, hl2, Nat.mul_one]) (by
    intro j u hj
    have hadd : (⟨g, off, none⟩ : Addr).add j = ⟨g, off + j, none⟩ := by unfold Addr.add; split <;> simp_all
    have hjm : j < m := by
      rcases Nat.lt_or_ge j m with h1 | h1
      · exact h1
      · rw [List.getElem?_eq_none (by rw [iv_length]; omega)] at hj; cases hj
    rw [hadd, hc.cell j hjm]
    simp only [iv, List.getElem?_map, List.getElem?_eq_getElem (show j < l2.length by omega), Option.map_some, Option.some.injEq] at hj
    rw [← hj, List.getD_eq_getElem?_getD, List.getElem?_eq_getElem (show j < l2.length by omega)]; rfl) (by intro u hu; simp only [iv, List.mem_map] at hu; obtain ⟨b, _, rfl⟩ := hu; rfl) hfit
  unfold Oper.wp execOp
  simp only [ho, resolve, invoke, builtin, Sem.run_bind, Sem.run_pure, Result.andThen_ok, List.map_toArray, List.map_cons, List.map_nil, hs, hx, hrun]
  refine h w' ⟨?_⟩ r2
  rw [iv_append, List.length_append, hl2]
  exact r1
/-- a string's bytes, in a block of their own -/
noncomputable def bcap (l : List UInt8) (w : World) : Nat := grownCap w (bs l).size 0 5
noncomputable def bW (l : List UInt8) (w : World) : World := w.drew.alloc (.cells (bytesRow (bs l) (bcap l w)) 5 ((bytesRow (bs l) (bcap l w)).size, (bytesRow (bs l) (bcap l w)).size + 1))
theorem bytes_run (l : List UInt8) (w : World) : (convert 9 29 (.string (bs l))).run Try.prog w = .ok (.slice (some ⟨w.heap.size, 0, none⟩) l.length (bcap l w)) (bW l w) := by
  rw [run_bytes_of_string w 9 29 5 (bs l) Try.underlying9 Try.underlying29 Try.underlying5]
  unfold bW bcap
  rw [show (bs l).size = l.length from bs_size l]
theorem bW_sl (l : List UInt8) (w : World) : Sl (bW l w) w.heap.size (nb l) (bcap l w) := by
  have hrow : (bW l w).heap[w.heap.size]? = some (.cells (bytesRow (bs l) (bcap l w)) 5 ((bytesRow (bs l) (bcap l w)).size, (bytesRow (bs l) (bcap l w)).size + 1)) := heap_alloc_new w.drew _
  refine ⟨⟨fun i hi => ?_, fun _ => ?_⟩, ?_, ?_⟩
  · rw [nb_length] at hi
    rw [Nat.zero_add, cell_of_row _ _ i _ _ _ hrow]
    simp [bytesRow, bs, nb, hi, Array.getElem?_append]
  · show w.heap.size < (w.drew.heap.push _).size
    simp
  · rw [nb_length]
    have := grownCap_ge w (bs l).size 0 5
    rw [bs_size] at this
    unfold bcap; rw [bs_size]; exact this
  · show w.heap.size < (w.drew.heap.push _).size
    simp
theorem bW_below (l : List UInt8) (w : World) : Below w.heap.size w (bW l w) := ((Below.refl _ w).drew).alloc (Nat.le_refl _) _
theorem bW_size (l : List UInt8) (w : World) : (bW l w).heap.size = w.heap.size + 1 := by
  show (w.drew.heap.push _).size = _
  simp

theorem divided_any (a : Option Addr) (n c : Nat) (w : World) :
    Calls Try.prog 21 #[.slice a n c] w fun e w' => e = .returned (.func (.func 25) #[] #[.pointer (some ⟨w.heap.size, 0, none⟩)]) ∧ w' = w.alloc (.cells #[.slice a n c] 29) := by
  go_enter Try.func21, Try.ntmps21
  go_wp2
  go_ret
  exact ⟨rfl, rfl⟩
theorem divided_yields (gb g c : Nat) (L : List Nat) (hL : L.length ≤ 1000000) (w : World) (hgb : w.cell? ⟨gb, 0, none⟩ = some (.slice (some ⟨g, 0, none⟩) L.length c)) (hg : Sl w g L c) :
    Rfc.Yields Fence.wide (3 - 1) Try.prog 25 #[.pointer (some ⟨gb, 0, none⟩)] (fun x : Pc => #[pcV g x]) (fun k => k = gb ∨ k = g) (div L 0 0) w := by
  intro l J Jx W hW hJ hJx hY h0
  exact divided1_in l W.heap.size gb g c L _ ⟨.inl rfl, .inr rfl⟩ J Jx ⟨hJ, hJx, fun m k W1 hk hj => yieldAt_any m (hY k hk W1 hj)⟩ hL W rfl ((hW.cell (p := ⟨gb, 0, none⟩) (block_lt_of_cell hgb)).trans hgb) (hg.later hW) h0

set_option maxRecDepth 100000 in
set_option maxHeartbeats 1000000 in
theorem append_copy (n d base gc N cap : Nat) (hn : n ≤ 131) (hd : d ≤ 255) (C : List Nat) (hN : C.length = N) (hfit : N + 2 ≤ cap) (w : World) (hv : Bs.Own w base 5 .u8 (.slice (some ⟨gc, 0, none⟩) N cap) C) (g : Nat) :
    Calls Try.prog 22 #[pcV g (.copy n d), .slice (some ⟨gc, 0, none⟩) N cap] w fun e w' => e = .returned (.slice (some ⟨gc, 0, none⟩) (N + 2) cap) ∧ Bs.Own w' base 5 .u8 (.slice (some ⟨gc, 0, none⟩) (N + 2) cap) (C ++ [124 + n, d]) ∧ w.grownBy w' (some gc) := by
  obtain ⟨i0, hi, hz0, hz1, hz2⟩ := infoB_parts
  unfold pcV
  go_enter Try.func22, Try.ntmps22
  have HV := Lib.hid hv
  clear hv
  have hw1 : IntKind.i64.wrap (124 + (n : Int)) = ((124 + n : Nat) : Int) := by rw [IntKind.wrap_i64]; omega
  have hw2 : IntKind.u8.wrap ((124 + n : Nat) : Int) = ((124 + n : Nat) : Int) := by rw [IntKind.wrap_u8]; omega
  obtain ⟨q, hq⟩ : ∃ q, 124 + n = q := ⟨_, rfl⟩
  rw [hq] at hw1 hw2 ⊢
  have hw3 : IntKind.u8.wrap (d : Int) = (d : Int) := by rw [IntKind.wrap_u8]; omega
  have HN := Lib.hid hN
  clear hq hN
  go_wp2_with (refine wpList_fits rfl _ _ 29 rfl base 5 i0 Try.underlying29 hi hz1 .u8 gc N cap C rfl ((HV.out.alloc _).alloc _) HN.out (w.heap.size + 1) 0 2 2 [q, d] rfl ?g1 rfl hfit ?_)
  case g1 =>
    have := Nums.fresh (W := w.alloc (Obj.cells #[Value.slice none 0 0, Value.int IntKind.i64 (n : Int), Value.int IntKind.i64 (d : Int)] 47)) (t := 5) (k := .u8) [q, d] 2 rfl
    rw [World.size_alloc] at this
    exact this
  intro w1 hown hb1
  go_wp2_with fail
  go_ret
  exact ⟨rfl, hown, grown_trans (grown_trans (grown_alloc _ _ _) (grown_alloc _ _ _)) hb1⟩

set_option maxRecDepth 100000 in
set_option maxHeartbeats 1000000 in
theorem append_run (a n base g gc N cap : Nat) (R : List Nat) (hn0 : 1 ≤ n) (hn : n ≤ 128) (C : List Nat) (hN : C.length = N) (hfit : N + 1 + n ≤ cap) (w : World) (hv : Bs.Own w base 5 .u8 (.slice (some ⟨gc, 0, none⟩) N cap) C)
    (hR : Nums w g a n .u8 R) (hRl : R.length = n) (hg : g < w.heap.size) (hgv : gc ≠ g) :
    Calls Try.prog 22 #[pcV g (.run a n), .slice (some ⟨gc, 0, none⟩) N cap] w fun e w' => e = .returned (.slice (some ⟨gc, 0, none⟩) (N + 1 + n) cap) ∧ Bs.Own w' base 5 .u8 (.slice (some ⟨gc, 0, none⟩) (N + 1 + n) cap) (C ++ (n - 1) :: R) ∧ w.grownBy w' (some gc) := by
  obtain ⟨i0, hi, hz0, hz1, hz2⟩ := infoB_parts
  unfold pcV
  go_enter Try.func22, Try.ntmps22
  have HV := Lib.hid hv
  have HR := Lib.hid hR
  have HN := Lib.hid hN
  clear hv hR hN
  have i1 : ¬ (n = 0) := by omega
  have i2 : decide ((n : Int) = 0) = false := decide_eq_false (by omega)
  have i3 : ((n : Int) == 0) = false := by rw [beq_eq_false_iff_ne]; omega
  have hw1 : IntKind.i64.wrap ((n : Int) - 1) = ((n - 1 : Nat) : Int) := by rw [IntKind.wrap_i64]; omega
  have hw2 : IntKind.u8.wrap ((n - 1 : Nat) : Int) = ((n - 1 : Nat) : Int) := by rw [IntKind.wrap_u8]; omega
  obtain ⟨q, hq⟩ : ∃ q, n - 1 = q := ⟨_, rfl⟩
  rw [hq] at hw1 hw2 ⊢
  clear hq
  obtain ⟨W1, hW1⟩ : ∃ W1, w.alloc (Obj.cells #[.slice (some ⟨g, a, none⟩) n n, .int .i64 0, .int .i64 0] 47) = W1 := ⟨_, rfl⟩
  have hbx0 : W1.cell? ⟨w.heap.size, 0, none⟩ = some (.slice (some ⟨g, a, none⟩) n n) := by rw [← hW1, cell_of_row _ _ 0 _ _ _ (heap_alloc_new w _)]; rfl
  have hs1 : W1.heap.size = w.heap.size + 1 := by rw [← hW1]; simp
  have hB1 : Below w.heap.size w W1 := by rw [← hW1]; exact (Below.refl _ w).alloc (Nat.le_refl _) _
  have hvne : gc ≠ w.heap.size := fun h => by have := HV.out.lt gc rfl; omega
  have HV1 := Lib.hid (HV.out.later hB1)
  have HR1 := Lib.hid (HR.out.later hB1)
  have hN1 : Nums (W1.alloc (Obj.cells #[.int .u8 (q : Int)] 5)).drew (w.heap.size + 1) 0 1 .u8 [q] := by
    rw [← hs1]
    have := Nums.fresh (W := W1) (t := 5) (k := .u8) [q] 1 rfl
    exact ⟨this.cell, this.lt⟩
  have hbx1 : (W1.alloc (Obj.cells #[.int .u8 (q : Int)] 5)).drew.cell? ⟨w.heap.size, 0, none⟩ = some (.slice (some ⟨g, a, none⟩) n n) := by
    have : (W1.alloc (Obj.cells #[.int .u8 (q : Int)] 5)).drew.heap[w.heap.size]? = W1.heap[w.heap.size]? := heap_alloc_old W1 _ _ (by omega)
    exact (World.cell?_of_block (w := W1) this).trans hbx0
  have hne1 : some w.heap.size ≠ some gc := fun h => by cases h; exact hvne rfl
  have HR2 : ∀ w1, (W1.alloc (Obj.cells #[.int .u8 (q : Int)] 5)).drew.grownBy w1 (some gc) → Nums w1 g a n .u8 R := fun w1 hG => by
    refine ⟨fun i hi => hG.cell ?_ (fun h => by cases h; exact hgv rfl), fun hn => Nat.lt_of_lt_of_le (HR1.out.lt hn) (Nat.le_trans (by show W1.heap.size ≤ (W1.heap.push _).size; simp) hG.size)⟩
    have : (W1.alloc (Obj.cells #[.int .u8 (q : Int)] 5)).drew.heap[g]? = W1.heap[g]? := heap_alloc_old W1 _ _ (by omega)
    exact (World.cell?_of_block (w := W1) this).trans (HR1.out.cell i hi)
  go_wp2_with fail
  go_region_held3 (fun w' => w'.cell? ⟨w.heap.size, 0, none⟩ = some (.slice (some ⟨g, a, none⟩) n n))
    (first
      | go_keep
      | exact hG1.cell hbx1 hne1
      | exact hG2.cell (hG1.cell hbx1 hne1) hne1)
    (first
      | (refine step_fits (by rfl) _ _ 29 (by rfl) base 5 i0 Try.underlying29 hi hz1 .u8 gc (N + 1) cap (C ++ [q]) (by rfl) hown1 (by rw [List.length_append, HN.out]; rfl) g a n n R (by rfl) (HR2 w1 hG1) hRl hfit ?_; intro w2 hown2 hG2)
      | (refine step_fits (by rfl) _ _ 29 (by rfl) base 5 i0 Try.underlying29 hi hz1 .u8 gc N cap C (by rfl) ((HV1.out.alloc _).drew) HN.out (w.heap.size + 1) 0 1 1 [q] (by rfl) hN1 rfl (by omega) ?_; intro w1 hown1 hG1))
  go_wp2_with fail
  go_ret
  refine ⟨rfl, by rw [List.append_assoc] at hown2; exact hown2, grown_trans (grown_trans (grown_below hB1) (grown_drew (grown_alloc _ _ _))) (grown_trans hG1 hG2)⟩

end Go.Proofs.Ytnploljhikljfaa
