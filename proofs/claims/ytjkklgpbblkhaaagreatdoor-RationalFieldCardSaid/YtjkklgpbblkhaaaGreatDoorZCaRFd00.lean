/-
  Put together by program out of these texts, in this order: Frame, Base, Igm.
-/
import Derived.Test.YtjkklgpbblkhaaaGreatDoorRows
import Derived.WalkKit
import Derived.ProofKit
import Derived.OpenShut
import Derived.ShutString
import Derived.ChangeOld
import Derived.Below
import Derived.Deep.DeepHandedRow
import Derived.Lib.LaidTab
import Derived.SliceStrings
import Derived.Lib.Hide
import Derived.Shelf.Abstract
import Derived.OwnWalkIn
import Derived.TacticsInMore
import Derived.LoopNIn
import Derived.LoopIn
import Derived.RegionTactic
import Derived.ChangeAlike
import Derived.Deep.QuietTactic
import Derived.BigQuiet
import Derived.Deep.RegionHeld3
import Derived.Deep.AppendLies
import Derived.Deep.Onto
import Derived.Test.YtjkklgpbblkhaaaGreatDoorChecked

/-
  The frame of every law: what the walk of a law that writes nothing that was there gives for its row, whatever its parameters. Nothing of this program stands here.
-/
namespace Go.Proofs.YtjkklgpbblkhaaaGreatDoor.Fr
open Go.ChangeShapes Go.WideShapes Go.ChangeAt Go.RowKit
variable {H : Type} {enc : TypeId × Value → H} {P : Program} {W W' : World}

theorem trodAll_below (hl : laidOutB P = true) (hb : Below W.heap.size W W') : ∀ (ts : List TypeId) (vs : List Value) (ds : List (DataW H)) (ps : List MemPlace),
    (∀ t ∈ ts, P.readableRec t = true ∧ t < P.types.size) → DataW.TrodAll enc P W 0 (fun _ => true) true ts vs ds ps →
    DataW.TrodAll enc P W' 0 (fun b => decide (b < W.heap.size)) true ts vs ds ps
  | [], vs, ds, ps, _, h => by
    cases vs <;> cases ds <;> simp [DataW.TrodAll] at h ⊢
    exact h
  | t :: ts, vs, ds, ps, hr, h => by
    obtain ⟨v, vs', d, ds', p, q, rfl, rfl, rfl, h0, hs⟩ := trodAll_cons h
    obtain ⟨r1, r2⟩ := hr t (by simp)
    refine trodAll_cons_mk (Below.trod hl r1 r2 h0 hb (by obtain ⟨m, hm⟩ := h0; exact DataW.trod_lt m _ _ _ hm)) ?_
    exact trodAll_below hl hb ts vs' ds' q (fun t ht => hr t (by simp [ht])) hs

/-- the law's contract, out of its walk -/
theorem law_contract {f : FuncId} {fn : Func} {s : ChangeSpec} {args : Array Value} {ds gs : List (DataW H)} {before : List MemPlace} {tb : TypeId}
    (hl : laidOutB P = true) (hr : ∀ t ∈ fn.params.toList, P.readableRec t = true ∧ t < P.types.size) (hv : s.vars = []) (hres : fn.resultTypes = #[tb]) (hb : P.underlying tb = some .bool)
    (hW : DataW.Whole enc P fn.params.toList s.vars false W args.toList ds gs before)
    (hfn : s.fn H ds = { results := [.lit (.bool true)], args := ds })
    (walk : Calls P f args W fun e W' => e = .returned (.bool true) ∧ Below W.heap.size W W') :
    Calls P f args W fun e W' => ∃ v, e = .returned v ∧ s.post enc P fn false true false false W args v W' := by
  have hW' := hW
  obtain ⟨p, q, hA, hV, rfl, _, _⟩ := hW
  rw [hv] at hV
  obtain ⟨rfl, rfl⟩ := trodVars_none hV
  refine walk.mono fun e W' ⟨he, bel⟩ => ?_
  subst he
  refine ⟨_, rfl, ds, [], p ++ [], [], p, [], hW', ?_, ?_, ?_, bel.frame _, fun h => by cases h⟩
  · rw [List.append_nil, hfn, hres]
    exact trodAll_mk1 (shut_bool hb _)
  · rw [List.append_nil, hfn]
    exact trodAll_below hl bel _ _ _ _ hr hA
  · rw [List.append_nil, hfn, hv]
    rfl

/-- a slice of integers that came in -/
def IsInts (k : IntKind) (W : World) (a : Option Addr) (len : Nat) (zs : List Int) : Prop :=
  zs.length = len ∧ len ≤ maxLen ∧ (∀ n ∈ zs, (Lit.int k n).wf = true) ∧ (len = 0 ∨ ∃ b off, a = some ⟨b, off, none⟩ ∧ ∀ i, i < len → W.cell? ⟨b, off + i, none⟩ = some (.int k (zs.getD i 0)))
/-- a slice of strings that came in -/
def IsStrs (W : World) (a : Option Addr) (len : Nat) (ss : List ByteArray) : Prop :=
  ss.length = len ∧ len ≤ maxLen ∧ (∀ s ∈ ss, s.size ≤ maxLen) ∧ (len = 0 ∨ ∃ b off, a = some ⟨b, off, none⟩ ∧ ∀ i, i < len → W.cell? ⟨b, off + i, none⟩ = some (.string (ss.getD i ByteArray.empty)))

theorem addr_plain {w : World} {a : Addr} {v : Value} (h : w.cell? (a.add 0) = some v) : ∃ b off, a = ⟨b, off, none⟩ := by
  obtain ⟨b, off, f⟩ := a
  cases f with
  | none => exact ⟨b, off, rfl⟩
  | some r =>
    simp [Addr.add, World.cell?] at h
    split at h <;> cases h
theorem add_plain (b off i : Nat) : (⟨b, off, none⟩ : Addr).add i = ⟨b, off + i, none⟩ := by unfold Addr.add; split <;> simp_all

theorem isInts_of {t e : TypeId} {k : IntKind} {a : Option Addr} {len cap : Nat} {d : DataW H} {p : List MemPlace} (ht : P.underlying t = some (.slice e)) (he : P.underlying e = some (.int k)) (hc : P.cellsOf e = 1)
    (h : DataW.Trod enc P W 0 (fun _ => true) true t (.slice a len cap) d p) : ∃ zs, IsInts k W a len zs := by
  obtain ⟨fuel, hf⟩ := h
  rcases open_ints ht he hc hf with ⟨hcs, _⟩ | ⟨x, l, c, zs, hcs, _, hl, hm, hz, _, hcell, hwz⟩
  · simp [Value.cells] at hcs
    obtain ⟨rfl, rfl, rfl⟩ := hcs
    exact ⟨[], rfl, Nat.zero_le _, by simp, .inl rfl⟩
  · simp [Value.cells] at hcs
    obtain ⟨rfl, rfl, rfl⟩ := hcs
    have hz' : zs.length = cap := by simpa using hz
    refine ⟨zs.take len, by rw [List.length_take]; omega, by omega, fun n hn => hwz n (List.mem_of_mem_take hn), ?_⟩
    rcases Nat.eq_zero_or_pos len with h0 | h0
    · exact .inl h0
    · right
      obtain ⟨b, off, rfl⟩ := addr_plain (hcell 0 (by omega))
      refine ⟨b, off, rfl, fun i hi => ?_⟩
      rw [← add_plain, hcell i (by omega)]
      simp [List.getD_eq_getElem?_getD, hi]
theorem isStrs_of {t e : TypeId} {a : Option Addr} {len cap : Nat} {d : DataW H} {p : List MemPlace} (ht : P.underlying t = some (.slice e)) (he : P.underlying e = some .string) (hc : P.cellsOf e = 1)
    (h : DataW.Trod enc P W 0 (fun _ => true) true t (.slice a len cap) d p) : ∃ ss, IsStrs W a len ss := by
  obtain ⟨fuel, hf⟩ := h
  rcases open_strings ht he hc hf with ⟨hcs, _⟩ | ⟨x, l, c, zs, hcs, _, hl, hm, hz, _, hcell, hwz⟩
  · simp [Value.cells] at hcs
    obtain ⟨rfl, rfl, rfl⟩ := hcs
    exact ⟨[], rfl, Nat.zero_le _, by simp, .inl rfl⟩
  · simp [Value.cells] at hcs
    obtain ⟨rfl, rfl, rfl⟩ := hcs
    have hz' : zs.length = cap := by simpa using hz
    refine ⟨zs.take len, by rw [List.length_take]; omega, by omega, fun n hn => hwz n (List.mem_of_mem_take hn), ?_⟩
    rcases Nat.eq_zero_or_pos len with h0 | h0
    · exact .inl h0
    · right
      obtain ⟨b, off, rfl⟩ := addr_plain (hcell 0 (by omega))
      refine ⟨b, off, rfl, fun i hi => ?_⟩
      rw [← add_plain, hcell i (by omega)]
      simp [List.getD_eq_getElem?_getD, hi]

end Go.Proofs.YtjkklgpbblkhaaaGreatDoor.Fr

/-
  What every layer's walks share: strings as lists of bytes, slices that a walk owns, worlds that lie below each other. Nothing of the program's own functions stands here.
-/
namespace Go.Proofs.YtjkklgpbblkhaaaGreatDoor.Bs
open Go.RowKit

/-- a list of bytes as a string -/
def bs (l : List UInt8) : ByteArray := ⟨l.toArray⟩
theorem bs_bytes (s : ByteArray) : bs s.data.toList = s := by cases s; rfl
theorem bs_size (l : List UInt8) : (bs l).size = l.length := by simp [bs, ByteArray.size]
theorem bs_append (l m : List UInt8) : bs l ++ bs m = bs (l ++ m) := by
  apply ByteArray.ext; simp [bs]
theorem bs_extract (l : List UInt8) (a b : Nat) : (bs l).extract a b = bs ((l.drop a).take (b - a)) := by
  apply ByteArray.ext
  simp only [ByteArray.data_extract, bs]
  apply Array.ext'
  simp [List.extract_eq_take_drop]
theorem toList_loop (b : ByteArray) (n i : Nat) (r : List UInt8) (h : b.size - i = n) (hi : i ≤ b.size) : ByteArray.toList.loop b i r = r.reverse ++ b.data.toList.drop i := by
  induction n generalizing i r with
  | zero =>
    unfold ByteArray.toList.loop
    rw [if_neg (by omega), List.drop_of_length_le (by show b.size ≤ i; omega), List.append_nil]
  | succ n ih =>
    have hlt : i < b.size := by omega
    unfold ByteArray.toList.loop
    rw [if_pos hlt, ih (i + 1) _ (by omega) (by omega), List.drop_eq_getElem_cons (i := i) (by show i < b.size; exact hlt)]
    simp [ByteArray.get!, hlt]
theorem toList_eq (b : ByteArray) : b.toList = b.data.toList := by
  unfold ByteArray.toList
  rw [toList_loop b b.size 0 [] (by omega) (by omega)]
  rfl
theorem bs_toList (l : List UInt8) : (bs l).toList = l := toList_eq (bs l)
theorem bs_inj {l m : List UInt8} (h : bs l = bs m) : l = m := by rw [← bs_toList l, h, bs_toList]
/-- the bytes as numbers -/
def nb (l : List UInt8) : List Nat := l.map UInt8.toNat
theorem nb_length (l : List UInt8) : (nb l).length = l.length := by simp [nb]
theorem nb_append (l m : List UInt8) : nb (l ++ m) = nb l ++ nb m := by simp [nb]
theorem nb_lt (l : List UInt8) : ∀ b ∈ nb l, b < 256 := by
  intro b hb; simp only [nb, List.mem_map] at hb; obtain ⟨x, _, rfl⟩ := hb; exact x.toNat_lt
theorem nb_inj {l m : List UInt8} (h : nb l = nb m) : l = m := (List.map_inj_right (fun _ _ h => UInt8.toNat_inj.1 h)).1 h
/-- numbers as bytes -/
def ub (l : List Nat) : List UInt8 := l.map UInt8.ofNat
theorem nb_ub {l : List Nat} (h : ∀ b ∈ l, b < 256) : nb (ub l) = l := by
  unfold nb ub
  rw [List.map_map]
  conv => rhs; rw [← List.map_id l]
  apply List.map_congr_left
  intro b hb
  have := h b hb
  simp; omega
/-- a string's first m bytes -/
theorem cut_string (s : ByteArray) (k : Nat) : ∃ (m : Nat) (t : List UInt8), (m ≤ s.size ∧ m ≤ k) ∧ s.extract 0 m = bs t ∧ t.length = m ∧ m = min s.size k ∧ t = s.data.toList.take m := by
  refine ⟨min s.size k, s.data.toList.take (min s.size k), ⟨by omega, by omega⟩, ?_, ?_, rfl, rfl⟩
  · have h := bs_extract s.data.toList 0 (min s.size k)
    rw [bs_bytes, List.drop_zero, Nat.sub_zero] at h
    exact h
  · rw [List.length_take]
    have : s.data.toList.length = s.size := rfl
    omega
theorem min_run {P : Program} (s k m : Nat) (h : m = min s k) (K : Int) (hK : K = k) (w : World) (ts : Array TypeId) (t : TypeId) :
    (Builtin.min_ ts t #[.int .i64 (s : Int), .int .i64 K]).run P w = .ok (.int .i64 (m : Int)) w := by
  rw [run_min_int2]
  subst hK
  congr 2
  subst h
  split <;> omega

/-! worlds -/
theorem below_on {n : Nat} {w w1 w2 : World} (h1 : Below n w w1) (h2 : Below w1.heap.size w1 w2) (hn : n ≤ w1.heap.size) : Below n w w2 := h1.trans (h2.mono hn)
theorem below_drewN {B : Nat} {a w : World} (h : Below B a w) (n : Nat) : Below B a (w.drewN n) := ⟨h.os, h.tape, h.output, h.size, h.block⟩
theorem below_undrew {w w' : World} (h : Below w.drew.heap.size w.drew w') : Below w.heap.size w w' := ⟨h.os, h.tape, h.output, h.size, h.block⟩
theorem off_drew {n : Nat} {w w' : World} (h : Below n w.drew w') : Below n w w' := ⟨h.os, h.tape, h.output, h.size, h.block⟩

/-! slices that a walk owns -/
/-- numbers as values of a kind -/
def iv (k : IntKind) (l : List Nat) : List Value := l.map fun (b : Nat) => Value.int k (b : Int)
theorem iv_append (k : IntKind) (l m : List Nat) : iv k (l ++ m) = iv k l ++ iv k m := by simp [iv]
theorem iv_length (k : IntKind) (l : List Nat) : (iv k l).length = l.length := by simp [iv]
/-- the slice v holds the numbers l, at or behind the block 'base', and nobody else writes there -/
structure Own (W : World) (base : Nat) (t : TypeId) (k : IntKind) (v : Value) (l : List Nat) : Prop where
  row : W.ownsRow base t 1 v l.length (iv k l)
theorem Own.nil (W : World) (base : Nat) (t : TypeId) (k : IntKind) : Own W base t k (.slice none 0 0) [] := ⟨World.ownsRow_nil _ _ _ _⟩
theorem Own.cells {W : World} {base : Nat} {t : TypeId} {k : IntKind} {v : Value} {l : List Nat} (h : Own W base t k v l) (hl : 0 < l.length) :
    ∃ g cap, v = .slice (some ⟨g, 0, none⟩) l.length cap ∧ base ≤ g ∧ g < W.heap.size ∧ ∀ i, i < l.length → W.cell? ⟨g, i, none⟩ = some (.int k (l.getD i 0 : Nat)) := by
  rcases h.row.2 with ⟨_, h0⟩ | ⟨g, cap, cur, hv, hb, hrow, _, _, _, htake⟩
  · omega
  · refine ⟨g, cap, hv, hb, (Array.getElem?_eq_some_iff.1 hrow).1, fun i hi => ?_⟩
    rw [cell_of_row W g i _ _ _ hrow, ← Array.getElem?_toList]
    have e1 : cur.toList[i]? = (cur.toList.take (l.length * 1))[i]? := by rw [List.getElem?_take, if_pos (by omega)]
    rw [e1, htake]
    simp [iv, hi]
theorem Own.get {W : World} {base g n cap : Nat} {t : TypeId} {k : IntKind} {l : List Nat} (h : Own W base t k (.slice (some ⟨g, 0, none⟩) n cap) l) (i : Nat) (hi : i < l.length) :
    W.cell? ⟨g, i, none⟩ = some (.int k (l.getD i 0 : Nat)) := by
  obtain ⟨g', cap', e, _, _, hc⟩ := h.cells (by omega)
  cases e
  exact hc i hi
theorem Own.block {W : World} {base : Nat} {t : TypeId} {k : IntKind} {v : Value} {l : List Nat} (h : Own W base t k v l) (j : Nat) (hj : v.ownBlock = some j) : base ≤ j := by
  rcases h.row.2 with ⟨rfl, _⟩ | ⟨g, cap, cur, rfl, hb, _⟩
  · cases hj
  · cases hj; exact hb
theorem Own.alloc {W : World} {base : Nat} {t : TypeId} {k : IntKind} {v : Value} {l : List Nat} (h : Own W base t k v l) (o : Obj) : Own (W.alloc o) base t k v l := ⟨h.row.alloc o⟩
/-- what is written elsewhere leaves it -/
theorem Own.below {W W' : World} {base n : Nat} {t : TypeId} {k : IntKind} {v : Value} {l : List Nat} (h : Own W base t k v l) (hb : Below n W W') (hn : ∀ j, v.ownBlock = some j → j < n) : Own W' base t k v l := by
  refine ⟨h.row.1, ?_⟩
  rcases h.row.2 with h0 | ⟨g, cap, cur, rfl, h1, h2, h3⟩
  · exact .inl h0
  · exact .inr ⟨g, cap, cur, rfl, h1, (hb.block g (hn g rfl)).trans h2, h3⟩
theorem Own.lt {W : World} {base : Nat} {t : TypeId} {k : IntKind} {v : Value} {l : List Nat} (h : Own W base t k v l) (j : Nat) (hj : v.ownBlock = some j) : j < W.heap.size := by
  rcases h.row.2 with ⟨rfl, _⟩ | ⟨g, cap, cur, rfl, _, hrow, _⟩
  · cases hj
  · cases hj; exact (Array.getElem?_eq_some_iff.1 hrow).1
/-- what Own keeps when a call comes back -/
theorem Own.later {W W' : World} {base : Nat} {t : TypeId} {k : IntKind} {v : Value} {l : List Nat} (h : Own W base t k v l) (hb : Below W.heap.size W W') : Own W' base t k v l := h.below hb h.lt

/-- one element more: what 'append' does with a slice that the walk owns -/
theorem wpList_push {P : Program} {w : World} {ops : Array Oper} {rest : List Oper} {o : Oper} {a : Act} {Q : Exit → Act → World → Prop} (hgd : o.guard = none) (s x : Operand) (st : TypeId)
    (ho : o.op = .call { callee := .builtin .append, args := #[s, x], argTypes := #[st, st] })
    (base : Nat) (t : TypeId) (i : TypeInfo) (z : Value) (bytes : Nat) (ht : P.underlying st = some (.slice t)) (hi : P.info? t = some i) (hz : i.zero = some z)
    (hsize : i.size = 1) (hby : i.bytes = bytes) (hzs : z.cells.size = 1) (hb8 : bytes ≤ 8)
    (k : IntKind) (v : Value) (l : List Nat) (hs : a.eval s = v) (hown : Own w base t k v l) (ad : Addr) (c : Nat) (y : Nat) (hx : a.eval x = .slice (some ad) 1 c)
    (hc : w.cell? (ad.add 0) = some (.int k (y : Int))) (hlen : l.length ≤ 2000000) (hbase : base ≤ w.heap.size)
    (h : ∀ v' w', Own w' base t k v' (l ++ [y]) → Below base w w' → wpList P ops Q rest (a.put o.dst v') w') : wpList P ops Q (o :: rest) a w := by
  refine wpList_append_own w hgd s x st ho base t i z 1 bytes ht hi hz hsize hby hzs (by omega) v l.length (iv k l) hs hown.row ad 1 c [.int k (y : Int)] hx rfl ?_ ?_ ?_ ?_ hbase ?_
  · intro j u hj
    match j, hj with
    | 0, hj => simp at hj; subst hj; exact hc
  · intro u hu; simp at hu; subst hu; rfl
  · unfold maxLen; omega
  · have : (l.length + 1) * bytes ≤ 2000001 * 8 := Nat.mul_le_mul (by omega) hb8
    omega
  · intro v' w' hown' hgrow _
    refine h v' w' ⟨?_⟩ ((Below.refl base w).grown hgrow hbase hown.block)
    rw [iv_append, List.length_append]
    exact hown'

theorem Own.drew {W : World} {base : Nat} {t : TypeId} {k : IntKind} {v : Value} {l : List Nat} (h : Own W base t k v l) : Own W.drew base t k v l := ⟨h.row.1, h.row.2⟩
theorem Own.drewN {W : World} {base : Nat} {t : TypeId} {k : IntKind} {v : Value} {l : List Nat} (h : Own W base t k v l) (q : Nat) : Own (W.drewN q) base t k v l := ⟨h.row.1, h.row.2⟩
theorem fresh_cell (W : World) (v : Value) (t : TypeId) : (W.alloc (.cells #[v] t)).cell? ((⟨W.heap.size, 0, none⟩ : Addr).add 0) = some v := by
  rw [show (⟨W.heap.size, 0, none⟩ : Addr).add 0 = ⟨W.heap.size, 0, none⟩ from rfl, cell_of_row _ _ _ _ _ _ (heap_alloc_new _ _)]; rfl
/-- the same among operations whose order is drawn -/
theorem step_push {P : Program} {w : World} {ops : Array Oper} {o : Oper} {a : Act} {K : Act → World → Prop} {Q : Exit → Act → World → Prop} {E : Prop} (hgd : o.guard = none) (s x : Operand) (st : TypeId)
    (ho : o.op = .call { callee := .builtin .append, args := #[s, x], argTypes := #[st, st] })
    (base : Nat) (t : TypeId) (i : TypeInfo) (z : Value) (bytes : Nat) (ht : P.underlying st = some (.slice t)) (hi : P.info? t = some i) (hz : i.zero = some z)
    (hsize : i.size = 1) (hby : i.bytes = bytes) (hzs : z.cells.size = 1) (hb8 : bytes ≤ 8)
    (k : IntKind) (v : Value) (l : List Nat) (hs : a.eval s = v) (hown : Own w base t k v l) (ad : Addr) (c : Nat) (Y : Int) (y : Nat) (hx : a.eval x = .slice (some ad) 1 c)
    (hc : w.cell? (ad.add 0) = some (.int k Y)) (hY : Y = (y : Int)) (hlen : l.length ≤ 2000000) (hbase : base ≤ w.heap.size)
    (h : ∀ v' w', Own w' base t k v' (l ++ [y]) → Below base w w' → K (a.put o.dst v') w') :
    if Region.wanted o (yielded ops a.tmps) = true then Oper.wp P o a w K Q else E := by
  subst hY
  have hw : Region.wanted o (yielded ops a.tmps) = true := by simp [Region.wanted, hgd]
  rw [if_pos hw]
  refine wp_append_own w s x st ho base t i z 1 bytes ht hi hz hsize hby hzs (by omega) v l.length (iv k l) hs hown.row ad 1 c [.int k (y : Int)] hx rfl ?_ ?_ ?_ ?_ hbase ?_
  · intro j u hj
    match j, hj with
    | 0, hj => simp at hj; subst hj; exact hc
  · intro u hu; simp at hu; subst hu; rfl
  · unfold maxLen; omega
  · have : (l.length + 1) * bytes ≤ 2000001 * 8 := Nat.mul_le_mul (by omega) hb8
    omega
  · intro v' w' hown' hgrow _
    refine h v' w' ⟨?_⟩ ((Below.refl base w).grown hgrow hbase hown.block)
    rw [iv_append, List.length_append]
    exact hown'

/-- n numbers lie in block g from 'off' on -/
structure Nums (W : World) (g off n : Nat) (k : IntKind) (l : List Nat) : Prop where
  cell : ∀ i, i < n → W.cell? ⟨g, off + i, none⟩ = some (.int k (l.getD i 0 : Nat))
  lt : 0 < n → g < W.heap.size
theorem Nums.below {W W' : World} {g off n B : Nat} {k : IntKind} {l : List Nat} (h : Nums W g off n k l) (hb : Below B W W') (hg : 0 < n → g < B) : Nums W' g off n k l :=
  ⟨fun i hi => (hb.cell (p := ⟨g, off + i, none⟩) (hg (by omega))).trans (h.cell i hi), fun hn => Nat.lt_of_lt_of_le (h.lt hn) hb.size⟩
theorem Nums.later {W W' : World} {g off n : Nat} {k : IntKind} {l : List Nat} (h : Nums W g off n k l) (hb : Below W.heap.size W W') : Nums W' g off n k l := h.below hb h.lt
theorem Nums.drewN {W : World} {g off n : Nat} {k : IntKind} {l : List Nat} (h : Nums W g off n k l) (q : Nat) : Nums (W.drewN q) g off n k l := ⟨h.cell, h.lt⟩
theorem Nums.fresh {W : World} {t : TypeId} {k : IntKind} (l : List Nat) (n : Nat) (hn : n = l.length) : Nums (W.alloc (.cells (iv k l).toArray t)) W.heap.size 0 n k l := by
  refine ⟨fun i hi => ?_, fun _ => by simp⟩
  rw [Nat.zero_add, cell_of_row _ _ _ _ _ _ (heap_alloc_new _ _)]
  simp [iv, show i < l.length by omega]

/-- a whole slice more -/
theorem wpList_pushN {P : Program} {w : World} {ops : Array Oper} {rest : List Oper} {o : Oper} {a : Act} {Q : Exit → Act → World → Prop} (hgd : o.guard = none) (s x : Operand) (st : TypeId)
    (ho : o.op = .call { callee := .builtin .append, args := #[s, x], argTypes := #[st, st] })
    (base : Nat) (t : TypeId) (i : TypeInfo) (z : Value) (bytes : Nat) (ht : P.underlying st = some (.slice t)) (hi : P.info? t = some i) (hz : i.zero = some z)
    (hsize : i.size = 1) (hby : i.bytes = bytes) (hzs : z.cells.size = 1) (hb8 : bytes ≤ 8)
    (k : IntKind) (v : Value) (l : List Nat) (hs : a.eval s = v) (hown : Own w base t k v l) (g off m c : Nat) (l2 : List Nat) (hx : a.eval x = .slice (some ⟨g, off, none⟩) m c)
    (hc : Nums w g off m k l2) (hl2 : l2.length = m) (hlen : l.length + m ≤ 2000000) (hbase : base ≤ w.heap.size)
    (h : ∀ v' w', Own w' base t k v' (l ++ l2) → Below base w w' → wpList P ops Q rest (a.put o.dst v') w') : wpList P ops Q (o :: rest) a w := by
  refine wpList_append_own w hgd s x st ho base t i z 1 bytes ht hi hz hsize hby hzs (by omega) v l.length (iv k l) hs hown.row ⟨g, off, none⟩ m c (iv k l2) hx (by rw [iv_length, hl2, Nat.mul_one]) ?_ ?_ ?_ ?_ hbase ?_
  · intro j u hj
    have hadd : (⟨g, off, none⟩ : Addr).add j = ⟨g, off + j, none⟩ := by unfold Addr.add; split <;> simp_all
    have hjm : j < m := by
      rcases Nat.lt_or_ge j m with h1 | h1
      · exact h1
      · rw [List.getElem?_eq_none (by rw [iv_length]; omega)] at hj; cases hj
    rw [hadd, hc.cell j hjm]
    simp only [iv, List.getElem?_map, List.getElem?_eq_getElem (show j < l2.length by omega), Option.map_some, Option.some.injEq] at hj
    rw [← hj, List.getD_eq_getElem?_getD, List.getElem?_eq_getElem (show j < l2.length by omega)]; rfl
  · intro u hu; simp only [iv, List.mem_map] at hu; obtain ⟨b, _, rfl⟩ := hu; rfl
  · unfold maxLen; omega
  · have : (l.length + m) * bytes ≤ 2000000 * 8 := Nat.mul_le_mul hlen hb8
    omega
  · intro v' w' hown' hgrow _
    refine h v' w' ⟨?_⟩ ((Below.refl base w).grown hgrow hbase hown.block)
    rw [iv_append, List.length_append, hl2]
    exact hown'

/-- a whole slice more, among operations whose order is drawn -/
theorem step_pushN {P : Program} {w : World} {ops : Array Oper} {o : Oper} {a : Act} {K : Act → World → Prop} {Q : Exit → Act → World → Prop} {E : Prop} (hgd : o.guard = none) (s x : Operand) (st : TypeId)
    (ho : o.op = .call { callee := .builtin .append, args := #[s, x], argTypes := #[st, st] })
    (base : Nat) (t : TypeId) (i : TypeInfo) (z : Value) (bytes : Nat) (ht : P.underlying st = some (.slice t)) (hi : P.info? t = some i) (hz : i.zero = some z)
    (hsize : i.size = 1) (hby : i.bytes = bytes) (hzs : z.cells.size = 1) (hb8 : bytes ≤ 8)
    (k : IntKind) (v : Value) (l : List Nat) (hs : a.eval s = v) (hown : Own w base t k v l) (g off m c : Nat) (l2 : List Nat) (hx : a.eval x = .slice (some ⟨g, off, none⟩) m c)
    (hc : Nums w g off m k l2) (hl2 : l2.length = m) (hlen : l.length + m ≤ 2000000) (hbase : base ≤ w.heap.size)
    (h : ∀ v' w', Own w' base t k v' (l ++ l2) → Below base w w' → K (a.put o.dst v') w') :
    if Region.wanted o (yielded ops a.tmps) = true then Oper.wp P o a w K Q else E := by
  have hw : Region.wanted o (yielded ops a.tmps) = true := by simp [Region.wanted, hgd]
  rw [if_pos hw]
  refine wp_append_own w s x st ho base t i z 1 bytes ht hi hz hsize hby hzs (by omega) v l.length (iv k l) hs hown.row ⟨g, off, none⟩ m c (iv k l2) hx (by rw [iv_length, hl2, Nat.mul_one]) ?_ ?_ ?_ ?_ hbase ?_
  · intro j u hj
    have hadd : (⟨g, off, none⟩ : Addr).add j = ⟨g, off + j, none⟩ := by unfold Addr.add; split <;> simp_all
    have hjm : j < m := by
      rcases Nat.lt_or_ge j m with h1 | h1
      · exact h1
      · rw [List.getElem?_eq_none (by rw [iv_length]; omega)] at hj; cases hj
    rw [hadd, hc.cell j hjm]
    simp only [iv, List.getElem?_map, List.getElem?_eq_getElem (show j < l2.length by omega), Option.map_some, Option.some.injEq] at hj
    rw [← hj, List.getD_eq_getElem?_getD, List.getElem?_eq_getElem (show j < l2.length by omega)]; rfl
  · intro u hu; simp only [iv, List.mem_map] at hu; obtain ⟨b, _, rfl⟩ := hu; rfl
  · unfold maxLen; omega
  · have : (l.length + m) * bytes ≤ 2000000 * 8 := Nat.mul_le_mul hlen hb8
    omega
  · intro v' w' hown' hgrow _
    refine h v' w' ⟨?_⟩ ((Below.refl base w).grown hgrow hbase hown.block)
    rw [iv_append, List.length_append, hl2]
    exact hown'
theorem Nums.four (W : World) (t : TypeId) (k : IntKind) (Y0 Y1 Y2 Y3 : Int) (y0 y1 y2 y3 : Nat) (h0 : Y0 = y0) (h1 : Y1 = y1) (h2 : Y2 = y2) (h3 : Y3 = y3) :
    Nums (W.alloc (.cells #[.int k Y0, .int k Y1, .int k Y2, .int k Y3] t)).drew W.heap.size 0 4 k [y0, y1, y2, y3] := by
  subst h0 h1 h2 h3
  have := Nums.fresh (W := W) (t := t) (k := k) [y0, y1, y2, y3] 4 rfl
  exact ⟨this.cell, this.lt⟩

/-- a slice's length -/
def lenOf : Value → Nat
  | .slice _ n _ => n
  | _ => 0
theorem Own.len {W : World} {base : Nat} {t : TypeId} {k : IntKind} {v : Value} {l : List Nat} (h : Own W base t k v l) : lenOf v = l.length := by
  rcases h.row.2 with ⟨rfl, h0⟩ | ⟨g, cap, cur, rfl, _⟩
  · exact h0.symm
  · rfl
theorem Own.shape {W : World} {base : Nat} {t : TypeId} {k : IntKind} {v : Value} {l : List Nat} {n : Nat} (h : Own W base t k v l) (hl : l.length = n) (hn : 0 < n) : ∃ g cap, v = .slice (some ⟨g, 0, none⟩) n cap := by
  obtain ⟨g, cap, hv, _⟩ := h.cells (by omega)
  exact ⟨g, cap, by rw [hv, hl]⟩

/-! words of 32 bits -/
theorem w32_op (a : Nat) (ha : a < 4294967296) : (BitVec.ofInt 32 (a : Int)).toNat = a := by
  rw [BitVec.ofInt_natCast, BitVec.toNat_ofNat]; exact Nat.mod_eq_of_lt (by omega)
theorem xor_w (a b : Nat) (ha : a < 4294967296) (hb : b < 4294967296) : bits .xor .u32 (a : Int) (b : Int) = ((a ^^^ b : Nat) : Int) := by
  have hx : a ^^^ b < 2 ^ 32 := Nat.xor_lt_two_pow (by omega) (by omega)
  show IntKind.u32.wrap ((BitVec.ofInt 32 (a : Int) ^^^ BitVec.ofInt 32 (b : Int)).toNat : Int) = _
  rw [BitVec.toNat_xor, w32_op a ha, w32_op b hb, IntKind.wrap_u32]
  omega
theorem or_w (a b : Nat) (ha : a < 4294967296) (hb : b < 4294967296) : bits .or .u32 (a : Int) (b : Int) = ((a ||| b : Nat) : Int) := by
  have hx : a ||| b < 2 ^ 32 := Nat.or_lt_two_pow (by omega) (by omega)
  show IntKind.u32.wrap ((BitVec.ofInt 32 (a : Int) ||| BitVec.ofInt 32 (b : Int)).toNat : Int) = _
  rw [BitVec.toNat_or, w32_op a ha, w32_op b hb, IntKind.wrap_u32]
  omega
theorem and_w (a b : Nat) (ha : a < 4294967296) (hb : b < 4294967296) : bits .and .u32 (a : Int) (b : Int) = ((a &&& b : Nat) : Int) := by
  have hx : a &&& b < 2 ^ 32 := Nat.and_lt_two_pow a (n := 32) (by omega)
  show IntKind.u32.wrap ((BitVec.ofInt 32 (a : Int) &&& BitVec.ofInt 32 (b : Int)).toNat : Int) = _
  rw [BitVec.toNat_and, w32_op a ha, w32_op b hb, IntKind.wrap_u32]
  omega

theorem wrap_w (a : Nat) (ha : a < 4294967296) : IntKind.u32.wrap (a : Int) = (a : Int) := by rw [IntKind.wrap_u32]; omega
theorem wrap_wmul (a b : Nat) (h : a * b < 4294967296) : IntKind.u32.wrap ((a : Int) * (b : Int)) = ((a * b : Nat) : Int) := by rw [← Int.natCast_mul, wrap_w _ h]
theorem or_add (a b k : Nat) (h : b < 2 ^ k) : 2 ^ k * a ||| b = 2 ^ k * a + b := (Nat.two_pow_add_eq_or_of_lt h a).symm
/-- four bytes as a word, the first one highest -/
theorem word_or (x0 x1 x2 x3 : Nat) (h0 : x0 < 256) (h1 : x1 < 256) (h2 : x2 < 256) (h3 : x3 < 256) :
    bits .or .u32 (bits .or .u32 (bits .or .u32 (IntKind.u32.wrap (IntKind.u32.wrap (x0 : Int) * 16777216)) (IntKind.u32.wrap (IntKind.u32.wrap (x1 : Int) * 65536))) (IntKind.u32.wrap (IntKind.u32.wrap (x2 : Int) * 256))) (IntKind.u32.wrap (x3 : Int)) =
      ((x0 * 16777216 + x1 * 65536 + x2 * 256 + x3 : Nat) : Int) := by
  rw [wrap_w x0 (by omega), wrap_w x1 (by omega), wrap_w x2 (by omega), wrap_w x3 (by omega)]
  rw [show (16777216 : Int) = ((16777216 : Nat) : Int) from rfl, show (65536 : Int) = ((65536 : Nat) : Int) from rfl, show (256 : Int) = ((256 : Nat) : Int) from rfl]
  rw [wrap_wmul x0 _ (by omega), wrap_wmul x1 _ (by omega), wrap_wmul x2 _ (by omega)]
  have e1 : x0 * 16777216 ||| x1 * 65536 = 2 ^ 16 * (x0 * 256 + x1) := by
    rw [show x0 * 16777216 = 2 ^ 24 * x0 by omega, or_add x0 (x1 * 65536) 24 (by omega)]; omega
  have e2 : 2 ^ 16 * (x0 * 256 + x1) ||| x2 * 256 = 2 ^ 8 * (x0 * 65536 + x1 * 256 + x2) := by
    rw [or_add (x0 * 256 + x1) (x2 * 256) 16 (by omega)]; omega
  have e3 : 2 ^ 8 * (x0 * 65536 + x1 * 256 + x2) ||| x3 = x0 * 16777216 + x1 * 65536 + x2 * 256 + x3 := by
    rw [or_add (x0 * 65536 + x1 * 256 + x2) x3 8 (by omega)]; omega
  rw [or_w _ _ (by omega) (by omega), e1, or_w _ _ (by omega) (by omega), e2, or_w _ _ (by omega) (by omega), e3]

end Go.Proofs.YtjkklgpbblkhaaaGreatDoor.Bs

/-
  Layer 3, the numbers alone: a number as the list of its digits to a base, the least one first. Nothing of the program stands here.
-/
namespace Go.Proofs.YtjkklgpbblkhaaaGreatDoor.Ig

/-- the digits of n to the base k + 2, the least first; none for 0 -/
def dgs (k n : Nat) : List Nat := if h : n = 0 then [] else n % (k + 2) :: dgs k (n / (k + 2))
termination_by n
decreasing_by exact Nat.div_lt_self (by omega) (by omega)
theorem dgs_zero (k : Nat) : dgs k 0 = [] := by rw [dgs]; rfl
theorem dgs_pos (k : Nat) {n : Nat} (h : 0 < n) : dgs k n = n % (k + 2) :: dgs k (n / (k + 2)) := by rw [dgs, dif_neg (by omega)]
/-- what digits to the base b stand for -/
def val (b : Nat) : List Nat → Nat
  | [] => 0
  | x :: r => x + b * val b r
theorem val_dgs (k n : Nat) : val (k + 2) (dgs k n) = n := by
  induction n using Nat.strongRecOn with
  | _ n ih =>
    rcases Nat.eq_zero_or_pos n with h | h
    · subst h; rw [dgs_zero]; rfl
    · rw [dgs_pos k h, val, ih _ (Nat.div_lt_self h (by omega))]
      exact Nat.mod_add_div n (k + 2)
theorem dgs_lt (k n : Nat) : ∀ x ∈ dgs k n, x < k + 2 := by
  induction n using Nat.strongRecOn with
  | _ n ih =>
    rcases Nat.eq_zero_or_pos n with h | h
    · subst h; rw [dgs_zero]; intro x hx; cases hx
    · rw [dgs_pos k h]
      intro x hx
      rcases List.mem_cons.1 hx with rfl | hx
      · exact Nat.mod_lt _ (by omega)
      · exact ih _ (Nat.div_lt_self h (by omega)) x hx
theorem dgs_inj {k n m : Nat} (h : dgs k n = dgs k m) : n = m := by rw [← val_dgs k n, h, val_dgs]
theorem dgs_nil {k n : Nat} : dgs k n = [] ↔ n = 0 := ⟨fun h => by rw [← val_dgs k n, h]; rfl, fun h => by subst h; exact dgs_zero k⟩
theorem dgs_len0 {k n : Nat} : (dgs k n).length = 0 ↔ n = 0 := by rw [List.length_eq_zero_iff]; exact dgs_nil
theorem dgs_getLast (k n : Nat) : (dgs k n).getLast? ≠ some 0 := by
  induction n using Nat.strongRecOn with
  | _ n ih =>
    rcases Nat.eq_zero_or_pos n with h | h
    · subst h; rw [dgs_zero]; simp
    · rw [dgs_pos k h]
      rcases Nat.eq_zero_or_pos (n / (k + 2)) with h2 | h2
      · rw [h2, dgs_zero]
        have : n % (k + 2) = n := by
          have := Nat.mod_add_div n (k + 2)
          rw [h2] at this; simpa using this
        simp; omega
      · have := ih _ (Nat.div_lt_self h (by omega : 1 < k + 2))
        rw [dgs_pos k h2] at this ⊢
        simpa using this
/-- digits, the last of which is not 0, are the digits of what they stand for -/
theorem dgs_val (k : Nat) (l : List Nat) (h : ∀ x ∈ l, x < k + 2) (hl : l.getLast? ≠ some 0) : dgs k (val (k + 2) l) = l := by
  induction l with
  | nil => exact dgs_zero k
  | cons x r ih =>
    have hx := h x (List.mem_cons_self ..)
    have hr := fun y hy => h y (List.mem_cons_of_mem _ hy)
    have hp : 0 < val (k + 2) (x :: r) := by
      cases r with
      | nil => simp at hl; simp [val]; omega
      | cons y r' =>
        have hl' : (y :: r').getLast? ≠ some 0 := by simpa using hl
        have e := ih hr hl'
        have : 0 < val (k + 2) (y :: r') := by
          rcases Nat.eq_zero_or_pos (val (k + 2) (y :: r')) with h0 | h0
          · rw [h0, dgs_zero] at e; cases e
          · exact h0
        show 0 < x + (k + 2) * val (k + 2) (y :: r')
        have := Nat.mul_pos (show 0 < k + 2 by omega) this
        omega
    have e1 : val (k + 2) (x :: r) % (k + 2) = x := by show (x + (k + 2) * val (k + 2) r) % (k + 2) = x; rw [Nat.add_mul_mod_self_left, Nat.mod_eq_of_lt hx]
    have e2 : val (k + 2) (x :: r) / (k + 2) = val (k + 2) r := by show (x + (k + 2) * val (k + 2) r) / (k + 2) = _; rw [Nat.add_mul_div_left _ _ (by omega), Nat.div_eq_of_lt hx, Nat.zero_add]
    rw [dgs_pos k hp, e1, e2]
    cases r with
    | nil => show x :: dgs k 0 = [x]; rw [dgs_zero]
    | cons y r' => rw [ih hr (by simpa using hl)]
theorem val_append (b : Nat) (l m : List Nat) : val b (l ++ m) = val b l + b ^ l.length * val b m := by
  induction l with
  | nil => simp [val]
  | cons x r ih =>
    show x + b * val b (r ++ m) = x + b * val b r + b ^ (r.length + 1) * val b m
    rw [ih, Nat.mul_add, Nat.pow_succ, Nat.mul_comm (b ^ r.length) b, Nat.mul_assoc]; omega
theorem val_lt (b : Nat) (l : List Nat) (h : ∀ x ∈ l, x < b) : val b l < b ^ l.length := by
  induction l with
  | nil => simp [val]
  | cons x r ih =>
    have hx := h x (List.mem_cons_self ..)
    have := ih fun y hy => h y (List.mem_cons_of_mem _ hy)
    show x + b * val b r < b ^ (r.length + 1)
    rw [Nat.pow_succ, Nat.mul_comm (b ^ r.length)]
    have h2 : b * (val b r + 1) ≤ b * b ^ r.length := Nat.mul_le_mul_left b this
    rw [Nat.mul_add, Nat.mul_one] at h2; omega
theorem val_snoc0 (b : Nat) (l : List Nat) : val b (l ++ [0]) = val b l := by rw [val_append]; simp [val]
/-- zeros at the end count for nothing -/
theorem val_take (b : Nat) (l : List Nat) (n : Nat) (hn : n + 1 ≤ l.length) (h0 : l.getD n 0 = 0) : val b (l.take n) = val b (l.take (n + 1)) := by
  rw [List.take_add_one, List.getElem?_eq_getElem (by omega)]
  rw [List.getD_eq_getElem?_getD, List.getElem?_eq_getElem (by omega)] at h0
  simp only [Option.getD_some] at h0
  rw [h0, Option.toList_some, val_snoc0]
theorem dgs_take (k : Nat) (l : List Nat) (n : Nat) (hn : n ≤ l.length) (h : ∀ x ∈ l, x < k + 2) (hv : val (k + 2) (l.take n) = val (k + 2) l) (hl : n = 0 ∨ l.getD (n - 1) 0 ≠ 0) : l.take n = dgs k (val (k + 2) l) := by
  rw [← hv, dgs_val k _ (fun x hx => h x (List.mem_of_mem_take hx))]
  rcases hl with rfl | hl
  · simp
  · rcases Nat.eq_zero_or_pos n with rfl | hp
    · simp
    rw [List.getLast?_eq_getElem?, List.length_take, Nat.min_eq_left hn, List.getElem?_take, if_pos (by omega)]
    intro e
    rw [List.getD_eq_getElem?_getD, e] at hl
    exact hl rfl
/-! lengths -/
theorem dgs_length_le (k m n : Nat) (h : n < (k + 2) ^ m) : (dgs k n).length ≤ m := by
  induction m generalizing n with
  | zero => simp at h; subst h; rw [dgs_zero]; simp
  | succ m ih =>
    rcases Nat.eq_zero_or_pos n with h0 | h0
    · subst h0; rw [dgs_zero]; simp
    · rw [dgs_pos k h0, List.length_cons]
      have := ih (n / (k + 2)) (by rw [Nat.pow_succ] at h; exact Nat.div_lt_of_lt_mul (by rw [Nat.mul_comm]; exact h))
      omega
theorem dgs_lt_pow (k n : Nat) : n < (k + 2) ^ (dgs k n).length := by
  have := val_lt (k + 2) (dgs k n) (dgs_lt k n)
  rwa [val_dgs] at this
theorem dgs_le_pow (k n : Nat) (h : 0 < n) : (k + 2) ^ ((dgs k n).length - 1) ≤ n := by
  induction n using Nat.strongRecOn with
  | _ n ih =>
    rw [dgs_pos k h, List.length_cons, Nat.add_sub_cancel]
    rcases Nat.eq_zero_or_pos (n / (k + 2)) with h2 | h2
    · rw [h2, dgs_zero]; exact h
    · have e := ih _ (Nat.div_lt_self h (by omega : 1 < k + 2)) h2
      have hl : 0 < (dgs k (n / (k + 2))).length := by rw [dgs_pos k h2]; simp
      obtain ⟨m, hm⟩ : ∃ m, (dgs k (n / (k + 2))).length = m + 1 := ⟨_, (Nat.succ_pred_eq_of_pos hl).symm⟩
      rw [hm] at e ⊢
      rw [Nat.add_sub_cancel] at e
      rw [Nat.pow_succ]
      have := Nat.mul_le_mul_right (k + 2) e
      exact Nat.le_trans this (Nat.div_mul_le_self n (k + 2))
theorem dgs_length_lt {k n m : Nat} (h : (dgs k n).length < (dgs k m).length) : n < m := by
  have h1 := dgs_lt_pow k n
  have hm : 0 < m := by
    rcases Nat.eq_zero_or_pos m with h0 | h0
    · subst h0; rw [dgs_zero] at h; simp at h
    · exact h0
  have h2 := dgs_le_pow k m hm
  exact Nat.lt_of_lt_of_le h1 (Nat.le_trans (Nat.pow_le_pow_right (by omega) (by omega)) h2)
theorem dgs_length_mono {k n m : Nat} (h : n ≤ m) : (dgs k n).length ≤ (dgs k m).length := by
  rcases Nat.lt_or_ge (dgs k m).length (dgs k n).length with h1 | h1
  · have := dgs_length_lt h1; omega
  · exact h1
/-- the digits without the first j ones -/
theorem dgs_drop (k n j : Nat) : (dgs k n).drop j = dgs k (n / (k + 2) ^ j) := by
  induction j generalizing n with
  | zero => simp
  | succ j ih =>
    rcases Nat.eq_zero_or_pos n with h | h
    · subst h; rw [Nat.zero_div, dgs_zero]; simp
    · rw [dgs_pos k h, List.drop_succ_cons, ih, Nat.div_div_eq_div_mul, Nat.pow_succ, Nat.mul_comm]
theorem dgs_getD (k n j : Nat) : (dgs k n).getD j 0 = n / (k + 2) ^ j % (k + 2) := by
  have h := dgs_drop k n j
  rw [List.getD_eq_getElem?_getD, ← Nat.add_zero j, ← List.getElem?_drop, h, Nat.add_zero]
  rcases Nat.eq_zero_or_pos (n / (k + 2) ^ j) with h0 | h0
  · rw [h0, dgs_zero]
    show 0 = n / (k + 2) ^ j % (k + 2)
    rw [h0, Nat.zero_mod]
  · rw [dgs_pos k h0]; simp
theorem div_step (k n j : Nat) : n / (k + 2) ^ j = n / (k + 2) ^ j % (k + 2) + (k + 2) * (n / (k + 2) ^ (j + 1)) := by
  rw [Nat.pow_succ, ← Nat.div_div_eq_div_mul]; exact (Nat.mod_add_div _ _).symm
theorem dgs_cons (k x n : Nat) (hx : x < k + 2) (h : 0 < x + (k + 2) * n) : dgs k (x + (k + 2) * n) = x :: dgs k n := by
  rw [dgs_pos k h, Nat.add_mul_mod_self_left, Nat.mod_eq_of_lt hx, Nat.add_mul_div_left _ _ (by omega), Nat.div_eq_of_lt hx, Nat.zero_add]
/-! the order -/
/-- -1, 0 or 1 -/
def cmp (n m : Nat) : Int := if n < m then -1 else if m < n then 1 else 0
theorem cmp_lt {n m : Nat} (h : n < m) : cmp n m = -1 := if_pos h
theorem cmp_gt {n m : Nat} (h : m < n) : cmp n m = 1 := by unfold cmp; rw [if_neg (by omega), if_pos h]
theorem cmp_self (n : Nat) : cmp n n = 0 := by unfold cmp; rw [if_neg (by omega), if_neg (by omega)]
theorem lt_of_div {n m p : Nat} (h : n / p < m / p) : n < m := by
  rcases Nat.lt_or_ge n m with h1 | h1
  · exact h1
  · have := Nat.div_le_div_right (c := p) h1; omega
/-- the first digit from the top that differs decides -/
theorem cmp_at (k n m j : Nat) (h : n / (k + 2) ^ (j + 1) = m / (k + 2) ^ (j + 1)) (hd : (dgs k n).getD j 0 ≠ (dgs k m).getD j 0) : cmp n m = cmp ((dgs k n).getD j 0) ((dgs k m).getD j 0) := by
  rw [dgs_getD, dgs_getD] at *
  have e1 := div_step k n j
  have e2 := div_step k m j
  rw [h] at e1
  rcases Nat.lt_or_gt_of_ne hd with h1 | h1
  · rw [cmp_lt h1, cmp_lt (lt_of_div (p := (k + 2) ^ j) (by omega))]
  · rw [cmp_gt h1, cmp_gt (lt_of_div (p := (k + 2) ^ j) (by omega))]
theorem same_step (k n m j : Nat) (h : n / (k + 2) ^ (j + 1) = m / (k + 2) ^ (j + 1)) (hd : (dgs k n).getD j 0 = (dgs k m).getD j 0) : n / (k + 2) ^ j = m / (k + 2) ^ j := by
  rw [dgs_getD, dgs_getD] at hd
  rw [div_step k n j, div_step k m j, hd, h]
theorem same_top (k n m : Nat) (h : (dgs k n).length = (dgs k m).length) : n / (k + 2) ^ (dgs k n).length = m / (k + 2) ^ (dgs k n).length := by
  rw [Nat.div_eq_of_lt (dgs_lt_pow k n), h, Nat.div_eq_of_lt (dgs_lt_pow k m)]

/-! columns, carried -/
/-- what columns stand for -/
def vali (b : Nat) : List Int → Int
  | [] => 0
  | x :: r => x + b * vali b r
theorem vali_append (b : Nat) (l m : List Int) : vali b (l ++ m) = vali b l + b ^ l.length * vali b m := by
  induction l with
  | nil => simp [vali]
  | cons x r ih =>
    show x + b * vali b (r ++ m) = x + b * vali b r + b ^ (r.length + 1) * vali b m
    rw [ih, Int.mul_add, Int.pow_succ, Int.mul_comm ((b : Int) ^ r.length) b, Int.mul_assoc]; omega
theorem vali_cast (b : Nat) (l : List Nat) : vali b (l.map (fun (x : Nat) => (x : Int))) = (val b l : Nat) := by
  induction l with
  | nil => rfl
  | cons x r ih =>
    show (x : Int) + b * vali b _ = ((x + b * val b r : Nat) : Int)
    rw [ih]; simp
/-- the carry behind columns, and the groups that they leave -/
def cry (b : Nat) : List Int → Int → Int
  | [], c => c
  | x :: r, c => cry b r ((x + c) / b)
def outs (b : Nat) : List Int → Int → List Nat
  | [], _ => []
  | x :: r, c => ((x + c) % b).toNat :: outs b r ((x + c) / b)
theorem cry_snoc (b : Nat) (l : List Int) (x c : Int) : cry b (l ++ [x]) c = (x + cry b l c) / b := by
  induction l generalizing c with
  | nil => rfl
  | cons y r ih => exact ih _
theorem outs_snoc (b : Nat) (l : List Int) (x c : Int) : outs b (l ++ [x]) c = outs b l c ++ [((x + cry b l c) % b).toNat] := by
  induction l generalizing c with
  | nil => rfl
  | cons y r ih => show _ :: outs b (r ++ [x]) _ = _ :: outs b r _ ++ _; rw [ih]; rfl
theorem outs_length (b : Nat) (l : List Int) (c : Int) : (outs b l c).length = l.length := by
  induction l generalizing c with
  | nil => rfl
  | cons y r ih => show (outs b r _).length + 1 = r.length + 1; rw [ih]
theorem outs_lt (b : Nat) (hb : 0 < b) (l : List Int) (c : Int) : ∀ x ∈ outs b l c, x < b := by
  induction l generalizing c with
  | nil => intro x hx; cases hx
  | cons y r ih =>
    intro x hx
    rcases List.mem_cons.1 hx with rfl | hx
    · have h1 := Int.emod_lt_of_pos (y + c) (show (0 : Int) < b by omega)
      have h2 := Int.emod_nonneg (y + c) (show (b : Int) ≠ 0 by omega)
      omega
    · exact ih _ x hx
theorem carry_eq (b : Nat) (hb : 0 < b) (l : List Int) (c : Int) : vali b l + c = (val b (outs b l c) : Nat) + (b ^ l.length : Nat) * cry b l c := by
  induction l generalizing c with
  | nil => simp [vali, outs, val, cry]
  | cons y r ih =>
    show y + b * vali b r + c = ((((y + c) % b).toNat + b * val b (outs b r _) : Nat) : Int) + (b ^ (r.length + 1) : Nat) * cry b r _
    have h2 := Int.emod_nonneg (y + c) (show (b : Int) ≠ 0 by omega)
    have h3 := Int.emod_add_mul_ediv (y + c) b
    have e := ih ((y + c) / b)
    rw [Int.natCast_add, Int.natCast_mul, Int.toNat_of_nonneg h2, Nat.pow_succ, Nat.mul_comm, Int.natCast_mul, Int.mul_assoc]
    have e4 : (b : Int) * vali b r = b * ((val b (outs b r ((y + c) / b)) : Nat) + (b ^ r.length : Nat) * cry b r ((y + c) / b) - (y + c) / b) := by rw [← e]; congr 1; omega
    rw [e4, Int.mul_sub, Int.mul_add]
    omega
/-- the groups of what the columns stand for -/
theorem carried_val (b : Nat) (hb : 0 < b) (l : List Int) (n : Nat) (h : vali b l = (n : Nat)) (hn : n < b ^ (l.length + 1)) :
    ∃ c : Nat, c < b ∧ cry b l 0 = (c : Int) ∧ val b (outs b l 0 ++ [c]) = n := by
  have e := carry_eq b hb l 0
  have hv := val_lt b (outs b l 0) (outs_lt b hb l 0)
  rw [outs_length] at hv
  rw [h, Int.add_zero] at e
  generalize cry b l 0 = C at *
  generalize hV : val b (outs b l 0) = V at hv e
  have hp : 0 < b ^ l.length := Nat.pow_pos hb
  rw [Nat.pow_succ] at hn
  generalize hP : b ^ l.length = P at *
  have hC0 : 0 ≤ C := by
    rcases Int.lt_or_le C 0 with h1 | h1
    · have : (P : Int) * C ≤ P * (-1) := Int.mul_le_mul_of_nonneg_left (by omega) (by omega)
      omega
    · exact h1
  obtain ⟨c, rfl⟩ := Int.eq_ofNat_of_zero_le hC0
  have e' : n = V + P * c := by
    have : ((n : Nat) : Int) = ((V + P * c : Nat) : Int) := by rw [e]; simp
    exact Int.ofNat.inj this
  refine ⟨c, ?_, rfl, ?_⟩
  · rcases Nat.lt_or_ge c b with h1 | h1
    · exact h1
    · have := Nat.mul_le_mul_left P h1; omega
  · rw [val_append, outs_length, hP, e', hV]
    simp [val]
/-- carries are no greater than the columns -/
theorem cry_bound (b : Nat) (M : Int) (l : List Int) (c : Int) (hb : 2 ≤ b) (hM : ∀ x ∈ l, -M ≤ x ∧ x ≤ M) (hc : -M ≤ c ∧ c ≤ M) : -M ≤ cry b l c ∧ cry b l c ≤ M := by
  induction l generalizing c with
  | nil => exact hc
  | cons y r ih =>
    have hy := hM y (List.mem_cons_self ..)
    refine ih _ (fun x hx => hM x (List.mem_cons_of_mem _ hx)) ?_
    have hb0 : (0 : Int) < b := by omega
    constructor
    · rw [Int.le_ediv_iff_mul_le hb0]
      have : -M * b ≤ -M * 2 := Int.mul_le_mul_of_nonpos_left (by omega) (by omega)
      omega
    · have : (y + c) / b ≤ (M * b) / b := Int.ediv_le_ediv hb0 (by
        have : M * 2 ≤ M * b := Int.mul_le_mul_of_nonneg_left (by omega) (by omega)
        omega)
      rwa [Int.mul_ediv_cancel _ (by omega)] at this

end Go.Proofs.YtjkklgpbblkhaaaGreatDoor.Ig
