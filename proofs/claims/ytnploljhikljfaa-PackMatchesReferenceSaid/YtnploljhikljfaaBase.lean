/-
  What every layer's walks share: strings as lists of bytes, slices that a walk owns, worlds that lie below each other. Nothing of the program's own functions stands here.
-/
import Derived.Lib.Hide
import Derived.Shelf.Abstract
import Derived.OwnWalkIn
import Derived.TacticsInMore
import Derived.LoopNIn
import Derived.LoopIn
import Derived.RegionTactic
import Derived.ChangeAlike
import Derived.Deep.QuietTactic
import Derived.BigQuiet
import Derived.Deep.RegionHeld3
import Derived.Deep.AppendLies
import Derived.Deep.Onto
import Derived.Test.YtnploljhikljfaaChecked
namespace Go.Proofs.Ytnploljhikljfaa.Bs
open Go.RowKit

/-- a list of bytes as a string -/
def bs (l : List UInt8) : ByteArray := ⟨l.toArray⟩
theorem bs_bytes (s : ByteArray) : bs s.data.toList = s := by cases s; rfl
theorem bs_size (l : List UInt8) : (bs l).size = l.length := by simp [bs, ByteArray.size]
theorem bs_append (l m : List UInt8) : bs l ++ bs m = bs (l ++ m) := by
  apply ByteArray.ext; simp [bs]
theorem bs_extract (l : List UInt8) (a b : Nat) : (bs l).extract a b = bs ((l.drop a).take (b - a)) := by
  apply ByteArray.ext
  simp only [ByteArray.data_extract, bs]
  apply Array.ext'
  simp [List.extract_eq_take_drop]
theorem toList_loop (b : ByteArray) (n i : Nat) (r : List UInt8) (h : b.size - i = n) (hi : i ≤ b.size) : ByteArray.toList.loop b i r = r.reverse ++ b.data.toList.drop i := by
  induction n generalizing i r with
  | zero =>
    unfold ByteArray.toList.loop
    rw [if_neg (by omega), List.drop_of_length_le (by show b.size ≤ i; omega), List.append_nil]
  | succ n ih =>
    have hlt : i < b.size := by omega
    unfold ByteArray.toList.loop
    rw [if_pos hlt, ih (i + 1) _ (by omega) (by omega), List.drop_eq_getElem_cons (i := i) (by show i < b.size; exact hlt)]
    simp [ByteArray.get!, hlt]
theorem toList_eq (b : ByteArray) : b.toList = b.data.toList := by
  unfold ByteArray.toList
  rw [toList_loop b b.size 0 [] (by omega) (by omega)]
  rfl
theorem bs_toList (l : List UInt8) : (bs l).toList = l := toList_eq (bs l)
theorem bs_inj {l m : List UInt8} (h : bs l = bs m) : l = m := by rw [← bs_toList l, h, bs_toList]
/-- the bytes as numbers -/
def nb (l : List UInt8) : List Nat := l.map UInt8.toNat
theorem nb_length (l : List UInt8) : (nb l).length = l.length := by simp [nb]
theorem nb_append (l m : List UInt8) : nb (l ++ m) = nb l ++ nb m := by simp [nb]
theorem nb_lt (l : List UInt8) : ∀ b ∈ nb l, b < 256 := by
  intro b hb; simp only [nb, List.mem_map] at hb; obtain ⟨x, _, rfl⟩ := hb; exact x.toNat_lt
theorem nb_inj {l m : List UInt8} (h : nb l = nb m) : l = m := (List.map_inj_right (fun _ _ h => UInt8.toNat_inj.1 h)).1 h
/-- numbers as bytes -/
def ub (l : List Nat) : List UInt8 := l.map UInt8.ofNat
theorem nb_ub {l : List Nat} (h : ∀ b ∈ l, b < 256) : nb (ub l) = l := by
  unfold nb ub
  rw [List.map_map]
  conv => rhs; rw [← List.map_id l]
  apply List.map_congr_left
  intro b hb
  have := h b hb
  simp; omega
/-- a string's first m bytes -/
theorem cut_string (s : ByteArray) (k : Nat) : ∃ (m : Nat) (t : List UInt8), (m ≤ s.size ∧ m ≤ k) ∧ s.extract 0 m = bs t ∧ t.length = m ∧ m = min s.size k ∧ t = s.data.toList.take m := by
  refine ⟨min s.size k, s.data.toList.take (min s.size k), ⟨by omega, by omega⟩, ?_, ?_, rfl, rfl⟩
  · have h := bs_extract s.data.toList 0 (min s.size k)
    rw [bs_bytes, List.drop_zero, Nat.sub_zero] at h
    exact h
  · rw [List.length_take]
    have : s.data.toList.length = s.size := rfl
    omega
theorem min_run {P : Program} (s k m : Nat) (h : m = min s k) (K : Int) (hK : K = k) (w : World) (ts : Array TypeId) (t : TypeId) :
    (Builtin.min_ ts t #[.int .i64 (s : Int), .int .i64 K]).run P w = .ok (.int .i64 (m : Int)) w := by
  rw [run_min_int2]
  subst hK
  congr 2
  subst h
  split <;> omega

/-! worlds -/
theorem below_on {n : Nat} {w w1 w2 : World} (h1 : Below n w w1) (h2 : Below w1.heap.size w1 w2) (hn : n ≤ w1.heap.size) : Below n w w2 := h1.trans (h2.mono hn)
theorem below_drewN {B : Nat} {a w : World} (h : Below B a w) (n : Nat) : Below B a (w.drewN n) := ⟨h.os, h.tape, h.output, h.size, h.block⟩
theorem below_undrew {w w' : World} (h : Below w.drew.heap.size w.drew w') : Below w.heap.size w w' := ⟨h.os, h.tape, h.output, h.size, h.block⟩
theorem off_drew {n : Nat} {w w' : World} (h : Below n w.drew w') : Below n w w' := ⟨h.os, h.tape, h.output, h.size, h.block⟩

/-! slices that a walk owns -/
/-- numbers as values of a kind -/
def iv (k : IntKind) (l : List Nat) : List Value := l.map fun (b : Nat) => Value.int k (b : Int)
theorem iv_append (k : IntKind) (l m : List Nat) : iv k (l ++ m) = iv k l ++ iv k m := by simp [iv]
theorem iv_length (k : IntKind) (l : List Nat) : (iv k l).length = l.length := by simp [iv]
/-- the slice v holds the numbers l, at or behind the block 'base', and nobody else writes there -/
structure Own (W : World) (base : Nat) (t : TypeId) (k : IntKind) (v : Value) (l : List Nat) : Prop where
  row : W.ownsRow base t 1 v l.length (iv k l)
theorem Own.nil (W : World) (base : Nat) (t : TypeId) (k : IntKind) : Own W base t k (.slice none 0 0) [] := ⟨World.ownsRow_nil _ _ _ _⟩
theorem Own.cells {W : World} {base : Nat} {t : TypeId} {k : IntKind} {v : Value} {l : List Nat} (h : Own W base t k v l) (hl : 0 < l.length) :
    ∃ g cap, v = .slice (some ⟨g, 0, none⟩) l.length cap ∧ base ≤ g ∧ g < W.heap.size ∧ ∀ i, i < l.length → W.cell? ⟨g, i, none⟩ = some (.int k (l.getD i 0 : Nat)) := by
  rcases h.row.2 with ⟨_, h0⟩ | ⟨g, cap, cur, hv, hb, hrow, _, _, _, htake⟩
  · omega
  · refine ⟨g, cap, hv, hb, (Array.getElem?_eq_some_iff.1 hrow).1, fun i hi => ?_⟩
    rw [cell_of_row W g i _ _ _ hrow, ← Array.getElem?_toList]
    have e1 : cur.toList[i]? = (cur.toList.take (l.length * 1))[i]? := by rw [List.getElem?_take, if_pos (by omega)]
    rw [e1, htake]
    simp [iv, hi]
theorem Own.get {W : World} {base g n cap : Nat} {t : TypeId} {k : IntKind} {l : List Nat} (h : Own W base t k (.slice (some ⟨g, 0, none⟩) n cap) l) (i : Nat) (hi : i < l.length) :
    W.cell? ⟨g, i, none⟩ = some (.int k (l.getD i 0 : Nat)) := by
  obtain ⟨g', cap', e, _, _, hc⟩ := h.cells (by omega)
  cases e
  exact hc i hi
theorem Own.block {W : World} {base : Nat} {t : TypeId} {k : IntKind} {v : Value} {l : List Nat} (h : Own W base t k v l) (j : Nat) (hj : v.ownBlock = some j) : base ≤ j := by
  rcases h.row.2 with ⟨rfl, _⟩ | ⟨g, cap, cur, rfl, hb, _⟩
  · cases hj
  · cases hj; exact hb
theorem Own.alloc {W : World} {base : Nat} {t : TypeId} {k : IntKind} {v : Value} {l : List Nat} (h : Own W base t k v l) (o : Obj) : Own (W.alloc o) base t k v l := ⟨h.row.alloc o⟩
/-- what is written elsewhere leaves it -/
theorem Own.below {W W' : World} {base n : Nat} {t : TypeId} {k : IntKind} {v : Value} {l : List Nat} (h : Own W base t k v l) (hb : Below n W W') (hn : ∀ j, v.ownBlock = some j → j < n) : Own W' base t k v l := by
  refine ⟨h.row.1, ?_⟩
  rcases h.row.2 with h0 | ⟨g, cap, cur, rfl, h1, h2, h3⟩
  · exact .inl h0
  · exact .inr ⟨g, cap, cur, rfl, h1, (hb.block g (hn g rfl)).trans h2, h3⟩
theorem Own.lt {W : World} {base : Nat} {t : TypeId} {k : IntKind} {v : Value} {l : List Nat} (h : Own W base t k v l) (j : Nat) (hj : v.ownBlock = some j) : j < W.heap.size := by
  rcases h.row.2 with ⟨rfl, _⟩ | ⟨g, cap, cur, rfl, _, hrow, _⟩
  · cases hj
  · cases hj; exact (Array.getElem?_eq_some_iff.1 hrow).1
/-- what Own keeps when a call comes back -/
theorem Own.later {W W' : World} {base : Nat} {t : TypeId} {k : IntKind} {v : Value} {l : List Nat} (h : Own W base t k v l) (hb : Below W.heap.size W W') : Own W' base t k v l := h.below hb h.lt

/-- one element more: what 'append' does with a slice that the walk owns -/
theorem wpList_push {P : Program} {w : World} {ops : Array Oper} {rest : List Oper} {o : Oper} {a : Act} {Q : Exit → Act → World → Prop} (hgd : o.guard = none) (s x : Operand) (st : TypeId)
    (ho : o.op = .call { callee := .builtin .append, args := #[s, x], argTypes := #[st, st] })
    (base : Nat) (t : TypeId) (i : TypeInfo) (z : Value) (bytes : Nat) (ht : P.underlying st = some (.slice t)) (hi : P.info? t = some i) (hz : i.zero = some z)
    (hsize : i.size = 1) (hby : i.bytes = bytes) (hzs : z.cells.size = 1) (hb8 : bytes ≤ 8)
    (k : IntKind) (v : Value) (l : List Nat) (hs : a.eval s = v) (hown : Own w base t k v l) (ad : Addr) (c : Nat) (y : Nat) (hx : a.eval x = .slice (some ad) 1 c)
    (hc : w.cell? (ad.add 0) = some (.int k (y : Int))) (hlen : l.length ≤ 2000000) (hbase : base ≤ w.heap.size)
    (h : ∀ v' w', Own w' base t k v' (l ++ [y]) → Below base w w' → wpList P ops Q rest (a.put o.dst v') w') : wpList P ops Q (o :: rest) a w := by
  refine wpList_append_own w hgd s x st ho base t i z 1 bytes ht hi hz hsize hby hzs (by omega) v l.length (iv k l) hs hown.row ad 1 c [.int k (y : Int)] hx rfl ?_ ?_ ?_ ?_ hbase ?_
  · intro j u hj
    match j, hj with
    | 0, hj => simp at hj; subst hj; exact hc
  · intro u hu; simp at hu; subst hu; rfl
  · unfold maxLen; omega
  · have : (l.length + 1) * bytes ≤ 2000001 * 8 := Nat.mul_le_mul (by omega) hb8
    omega
  · intro v' w' hown' hgrow _
    refine h v' w' ⟨?_⟩ ((Below.refl base w).grown hgrow hbase hown.block)
    rw [iv_append, List.length_append]
    exact hown'

theorem Own.drew {W : World} {base : Nat} {t : TypeId} {k : IntKind} {v : Value} {l : List Nat} (h : Own W base t k v l) : Own W.drew base t k v l := ⟨h.row.1, h.row.2⟩
theorem Own.drewN {W : World} {base : Nat} {t : TypeId} {k : IntKind} {v : Value} {l : List Nat} (h : Own W base t k v l) (q : Nat) : Own (W.drewN q) base t k v l := ⟨h.row.1, h.row.2⟩
theorem fresh_cell (W : World) (v : Value) (t : TypeId) : (W.alloc (.cells #[v] t)).cell? ((⟨W.heap.size, 0, none⟩ : Addr).add 0) = some v := by
  rw [show (⟨W.heap.size, 0, none⟩ : Addr).add 0 = ⟨W.heap.size, 0, none⟩ from rfl, cell_of_row _ _ _ _ _ _ (heap_alloc_new _ _)]; rfl
/-- the same among operations whose order is drawn -/
theorem step_push {P : Program} {w : World} {ops : Array Oper} {o : Oper} {a : Act} {K : Act → World → Prop} {Q : Exit → Act → World → Prop} {E : Prop} (hgd : o.guard = none) (s x : Operand) (st : TypeId)
    (ho : o.op = .call { callee := .builtin .append, args := #[s, x], argTypes := #[st, st] })
    (base : Nat) (t : TypeId) (i : TypeInfo) (z : Value) (bytes : Nat) (ht : P.underlying st = some (.slice t)) (hi : P.info? t = some i) (hz : i.zero = some z)
    (hsize : i.size = 1) (hby : i.bytes = bytes) (hzs : z.cells.size = 1) (hb8 : bytes ≤ 8)
    (k : IntKind) (v : Value) (l : List Nat) (hs : a.eval s = v) (hown : Own w base t k v l) (ad : Addr) (c : Nat) (Y : Int) (y : Nat) (hx : a.eval x = .slice (some ad) 1 c)
    (hc : w.cell? (ad.add 0) = some (.int k Y)) (hY : Y = (y : Int)) (hlen : l.length ≤ 2000000) (hbase : base ≤ w.heap.size)
    (h : ∀ v' w', Own w' base t k v' (l ++ [y]) → Below base w w' → K (a.put o.dst v') w') :
    if Region.wanted o (yielded ops a.tmps) = true then Oper.wp P o a w K Q else E := by
  subst hY
  have hw : Region.wanted o (yielded ops a.tmps) = true := by simp [Region.wanted, hgd]
  rw [if_pos hw]
  refine wp_append_own w s x st ho base t i z 1 bytes ht hi hz hsize hby hzs (by omega) v l.length (iv k l) hs hown.row ad 1 c [.int k (y : Int)] hx rfl ?_ ?_ ?_ ?_ hbase ?_
  · intro j u hj
    match j, hj with
    | 0, hj => simp at hj; subst hj; exact hc
  · intro u hu; simp at hu; subst hu; rfl
  · unfold maxLen; omega
  · have : (l.length + 1) * bytes ≤ 2000001 * 8 := Nat.mul_le_mul (by omega) hb8
    omega
  · intro v' w' hown' hgrow _
    refine h v' w' ⟨?_⟩ ((Below.refl base w).grown hgrow hbase hown.block)
    rw [iv_append, List.length_append]
    exact hown'

/-- n numbers lie in block g from 'off' on -/
structure Nums (W : World) (g off n : Nat) (k : IntKind) (l : List Nat) : Prop where
  cell : ∀ i, i < n → W.cell? ⟨g, off + i, none⟩ = some (.int k (l.getD i 0 : Nat))
  lt : 0 < n → g < W.heap.size
theorem Nums.below {W W' : World} {g off n B : Nat} {k : IntKind} {l : List Nat} (h : Nums W g off n k l) (hb : Below B W W') (hg : 0 < n → g < B) : Nums W' g off n k l :=
  ⟨fun i hi => (hb.cell (p := ⟨g, off + i, none⟩) (hg (by omega))).trans (h.cell i hi), fun hn => Nat.lt_of_lt_of_le (h.lt hn) hb.size⟩
theorem Nums.later {W W' : World} {g off n : Nat} {k : IntKind} {l : List Nat} (h : Nums W g off n k l) (hb : Below W.heap.size W W') : Nums W' g off n k l := h.below hb h.lt
theorem Nums.drewN {W : World} {g off n : Nat} {k : IntKind} {l : List Nat} (h : Nums W g off n k l) (q : Nat) : Nums (W.drewN q) g off n k l := ⟨h.cell, h.lt⟩
theorem Nums.fresh {W : World} {t : TypeId} {k : IntKind} (l : List Nat) (n : Nat) (hn : n = l.length) : Nums (W.alloc (.cells (iv k l).toArray t)) W.heap.size 0 n k l := by
  refine ⟨fun i hi => ?_, fun _ => by simp⟩
  rw [Nat.zero_add, cell_of_row _ _ _ _ _ _ (heap_alloc_new _ _)]
  simp [iv, show i < l.length by omega]

/-- a whole slice more -/
theorem wpList_pushN {P : Program} {w : World} {ops : Array Oper} {rest : List Oper} {o : Oper} {a : Act} {Q : Exit → Act → World → Prop} (hgd : o.guard = none) (s x : Operand) (st : TypeId)
    (ho : o.op = .call { callee := .builtin .append, args := #[s, x], argTypes := #[st, st] })
    (base : Nat) (t : TypeId) (i : TypeInfo) (z : Value) (bytes : Nat) (ht : P.underlying st = some (.slice t)) (hi : P.info? t = some i) (hz : i.zero = some z)
    (hsize : i.size = 1) (hby : i.bytes = bytes) (hzs : z.cells.size = 1) (hb8 : bytes ≤ 8)
    (k : IntKind) (v : Value) (l : List Nat) (hs : a.eval s = v) (hown : Own w base t k v l) (g off m c : Nat) (l2 : List Nat) (hx : a.eval x = .slice (some ⟨g, off, none⟩) m c)
    (hc : Nums w g off m k l2) (hl2 : l2.length = m) (hlen : l.length + m ≤ 2000000) (hbase : base ≤ w.heap.size)
    (h : ∀ v' w', Own w' base t k v' (l ++ l2) → Below base w w' → wpList P ops Q rest (a.put o.dst v') w') : wpList P ops Q (o :: rest) a w := by
  refine wpList_append_own w hgd s x st ho base t i z 1 bytes ht hi hz hsize hby hzs (by omega) v l.length (iv k l) hs hown.row ⟨g, off, none⟩ m c (iv k l2) hx (by rw [iv_length, hl2, Nat.mul_one]) ?_ ?_ ?_ ?_ hbase ?_
  · intro j u hj
    have hadd : (⟨g, off, none⟩ : Addr).add j = ⟨g, off + j, none⟩ := by unfold Addr.add; split <;> simp_all
    have hjm : j < m := by
      rcases Nat.lt_or_ge j m with h1 | h1
      · exact h1
      · rw [List.getElem?_eq_none (by rw [iv_length]; omega)] at hj; cases hj
    rw [hadd, hc.cell j hjm]
    simp only [iv, List.getElem?_map, List.getElem?_eq_getElem (show j < l2.length by omega), Option.map_some, Option.some.injEq] at hj
    rw [← hj, List.getD_eq_getElem?_getD, List.getElem?_eq_getElem (show j < l2.length by omega)]; rfl
  · intro u hu; simp only [iv, List.mem_map] at hu; obtain ⟨b, _, rfl⟩ := hu; rfl
  · unfold maxLen; omega
  · have : (l.length + m) * bytes ≤ 2000000 * 8 := Nat.mul_le_mul hlen hb8
    omega
  · intro v' w' hown' hgrow _
    refine h v' w' ⟨?_⟩ ((Below.refl base w).grown hgrow hbase hown.block)
    rw [iv_append, List.length_append, hl2]
    exact hown'

/-- a whole slice more, among operations whose order is drawn -/
theorem step_pushN {P : Program} {w : World} {ops : Array Oper} {o : Oper} {a : Act} {K : Act → World → Prop} {Q : Exit → Act → World → Prop} {E : Prop} (hgd : o.guard = none) (s x : Operand) (st : TypeId)
    (ho : o.op = .call { callee := .builtin .append, args := #[s, x], argTypes := #[st, st] })
    (base : Nat) (t : TypeId) (i : TypeInfo) (z : Value) (bytes : Nat) (ht : P.underlying st = some (.slice t)) (hi : P.info? t = some i) (hz : i.zero = some z)
    (hsize : i.size = 1) (hby : i.bytes = bytes) (hzs : z.cells.size = 1) (hb8 : bytes ≤ 8)
    (k : IntKind) (v : Value) (l : List Nat) (hs : a.eval s = v) (hown : Own w base t k v l) (g off m c : Nat) (l2 : List Nat) (hx : a.eval x = .slice (some ⟨g, off, none⟩) m c)
    (hc : Nums w g off m k l2) (hl2 : l2.length = m) (hlen : l.length + m ≤ 2000000) (hbase : base ≤ w.heap.size)
    (h : ∀ v' w', Own w' base t k v' (l ++ l2) → Below base w w' → K (a.put o.dst v') w') :
    if Region.wanted o (yielded ops a.tmps) = true then Oper.wp P o a w K Q else E := by
  have hw : Region.wanted o (yielded ops a.tmps) = true := by simp [Region.wanted, hgd]
  rw [if_pos hw]
  refine wp_append_own w s x st ho base t i z 1 bytes ht hi hz hsize hby hzs (by omega) v l.length (iv k l) hs hown.row ⟨g, off, none⟩ m c (iv k l2) hx (by rw [iv_length, hl2, Nat.mul_one]) ?_ ?_ ?_ ?_ hbase ?_
  · intro j u hj
    have hadd : (⟨g, off, none⟩ : Addr).add j = ⟨g, off + j, none⟩ := by unfold Addr.add; split <;> simp_all
    have hjm : j < m := by
      rcases Nat.lt_or_ge j m with h1 | h1
      · exact h1
      · rw [List.getElem?_eq_none (by rw [iv_length]; omega)] at hj; cases hj
    rw [hadd, hc.cell j hjm]
    simp only [iv, List.getElem?_map, List.getElem?_eq_getElem (show j < l2.length by omega), Option.map_some, Option.some.injEq] at hj
    rw [← hj, List.getD_eq_getElem?_getD, List.getElem?_eq_getElem (show j < l2.length by omega)]; rfl
  · intro u hu; simp only [iv, List.mem_map] at hu; obtain ⟨b, _, rfl⟩ := hu; rfl
  · unfold maxLen; omega
  · have : (l.length + m) * bytes ≤ 2000000 * 8 := Nat.mul_le_mul hlen hb8
    omega
  · intro v' w' hown' hgrow _
    refine h v' w' ⟨?_⟩ ((Below.refl base w).grown hgrow hbase hown.block)
    rw [iv_append, List.length_append, hl2]
    exact hown'
theorem Nums.four (W : World) (t : TypeId) (k : IntKind) (Y0 Y1 Y2 Y3 : Int) (y0 y1 y2 y3 : Nat) (h0 : Y0 = y0) (h1 : Y1 = y1) (h2 : Y2 = y2) (h3 : Y3 = y3) :
    Nums (W.alloc (.cells #[.int k Y0, .int k Y1, .int k Y2, .int k Y3] t)).drew W.heap.size 0 4 k [y0, y1, y2, y3] := by
  subst h0 h1 h2 h3
  have := Nums.fresh (W := W) (t := t) (k := k) [y0, y1, y2, y3] 4 rfl
  exact ⟨this.cell, this.lt⟩

/-- a slice's length -/
def lenOf : Value → Nat
  | .slice _ n _ => n
  | _ => 0
theorem Own.len {W : World} {base : Nat} {t : TypeId} {k : IntKind} {v : Value} {l : List Nat} (h : Own W base t k v l) : lenOf v = l.length := by
  rcases h.row.2 with ⟨rfl, h0⟩ | ⟨g, cap, cur, rfl, _⟩
  · exact h0.symm
  · rfl
theorem Own.shape {W : World} {base : Nat} {t : TypeId} {k : IntKind} {v : Value} {l : List Nat} {n : Nat} (h : Own W base t k v l) (hl : l.length = n) (hn : 0 < n) : ∃ g cap, v = .slice (some ⟨g, 0, none⟩) n cap := by
  obtain ⟨g, cap, hv, _⟩ := h.cells (by omega)
  exact ⟨g, cap, by rw [hv, hl]⟩

/-! words of 32 bits -/
theorem w32_op (a : Nat) (ha : a < 4294967296) : (BitVec.ofInt 32 (a : Int)).toNat = a := by
  rw [BitVec.ofInt_natCast, BitVec.toNat_ofNat]; exact Nat.mod_eq_of_lt (by omega)
theorem xor_w (a b : Nat) (ha : a < 4294967296) (hb : b < 4294967296) : bits .xor .u32 (a : Int) (b : Int) = ((a ^^^ b : Nat) : Int) := by
  have hx : a ^^^ b < 2 ^ 32 := Nat.xor_lt_two_pow (by omega) (by omega)
  show IntKind.u32.wrap ((BitVec.ofInt 32 (a : Int) ^^^ BitVec.ofInt 32 (b : Int)).toNat : Int) = _
  rw [BitVec.toNat_xor, w32_op a ha, w32_op b hb, IntKind.wrap_u32]
  omega
theorem or_w (a b : Nat) (ha : a < 4294967296) (hb : b < 4294967296) : bits .or .u32 (a : Int) (b : Int) = ((a ||| b : Nat) : Int) := by
  have hx : a ||| b < 2 ^ 32 := Nat.or_lt_two_pow (by omega) (by omega)
  show IntKind.u32.wrap ((BitVec.ofInt 32 (a : Int) ||| BitVec.ofInt 32 (b : Int)).toNat : Int) = _
  rw [BitVec.toNat_or, w32_op a ha, w32_op b hb, IntKind.wrap_u32]
  omega
theorem and_w (a b : Nat) (ha : a < 4294967296) (hb : b < 4294967296) : bits .and .u32 (a : Int) (b : Int) = ((a &&& b : Nat) : Int) := by
  have hx : a &&& b < 2 ^ 32 := Nat.and_lt_two_pow a (n := 32) (by omega)
  show IntKind.u32.wrap ((BitVec.ofInt 32 (a : Int) &&& BitVec.ofInt 32 (b : Int)).toNat : Int) = _
  rw [BitVec.toNat_and, w32_op a ha, w32_op b hb, IntKind.wrap_u32]
  omega

theorem wrap_w (a : Nat) (ha : a < 4294967296) : IntKind.u32.wrap (a : Int) = (a : Int) := by rw [IntKind.wrap_u32]; omega
theorem wrap_wmul (a b : Nat) (h : a * b < 4294967296) : IntKind.u32.wrap ((a : Int) * (b : Int)) = ((a * b : Nat) : Int) := by rw [← Int.natCast_mul, wrap_w _ h]
theorem or_add (a b k : Nat) (h : b < 2 ^ k) : 2 ^ k * a ||| b = 2 ^ k * a + b := (Nat.two_pow_add_eq_or_of_lt h a).symm
/-- four bytes as a word, the first one highest -/
theorem word_or (x0 x1 x2 x3 : Nat) (h0 : x0 < 256) (h1 : x1 < 256) (h2 : x2 < 256) (h3 : x3 < 256) :
    bits .or .u32 (bits .or .u32 (bits .or .u32 (IntKind.u32.wrap (IntKind.u32.wrap (x0 : Int) * 16777216)) (IntKind.u32.wrap (IntKind.u32.wrap (x1 : Int) * 65536))) (IntKind.u32.wrap (IntKind.u32.wrap (x2 : Int) * 256))) (IntKind.u32.wrap (x3 : Int)) =
      ((x0 * 16777216 + x1 * 65536 + x2 * 256 + x3 : Nat) : Int) := by
  rw [wrap_w x0 (by omega), wrap_w x1 (by omega), wrap_w x2 (by omega), wrap_w x3 (by omega)]
  rw [show (16777216 : Int) = ((16777216 : Nat) : Int) from rfl, show (65536 : Int) = ((65536 : Nat) : Int) from rfl, show (256 : Int) = ((256 : Nat) : Int) from rfl]
  rw [wrap_wmul x0 _ (by omega), wrap_wmul x1 _ (by omega), wrap_wmul x2 _ (by omega)]
  have e1 : x0 * 16777216 ||| x1 * 65536 = 2 ^ 16 * (x0 * 256 + x1) := by
    rw [show x0 * 16777216 = 2 ^ 24 * x0 by omega, or_add x0 (x1 * 65536) 24 (by omega)]; omega
  have e2 : 2 ^ 16 * (x0 * 256 + x1) ||| x2 * 256 = 2 ^ 8 * (x0 * 65536 + x1 * 256 + x2) := by
    rw [or_add (x0 * 256 + x1) (x2 * 256) 16 (by omega)]; omega
  have e3 : 2 ^ 8 * (x0 * 65536 + x1 * 256 + x2) ||| x3 = x0 * 16777216 + x1 * 65536 + x2 * 256 + x3 := by
    rw [or_add (x0 * 65536 + x1 * 256 + x2) x3 8 (by omega)]; omega
  rw [or_w _ _ (by omega) (by omega), e1, or_w _ _ (by omega) (by omega), e2, or_w _ _ (by omega) (by omega), e3]

end Go.Proofs.Ytnploljhikljfaa.Bs
