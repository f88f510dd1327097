/-
  Whole arrays in memory: load, store, copy from a string, clear: as runs, and as steps of a walk inside a fence. Nothing of this program's own functions stands here.
-/
import Derived.Test.YtnploljhikljfaaArr
import Derived.OwnWalkIn
import Derived.Laws.CopyRow
namespace Go.Proofs.Ytnploljhikljfaa.Bs
open Go.RowKit
variable {F : Fence} {n : Nat} {P : Program}

theorem run_copy_arr (w : World) (dT sT ty elem : TypeId) (g o dLen dCap : Nat) (t : TypeId) (B : List Nat) (s : List UInt8) (hA : Arr w g t .u8 B)
    (hu : P.underlying dT = some (.slice elem)) (hs : (P.info? elem).map (·.size) = some 1) (hfit : o + dLen ≤ B.length) :
    (Builtin.copy_ #[dT, sT] ty #[.slice (some ⟨g, o, none⟩) dLen dCap, .string (bs s)]).run P w =
      .ok (goInt ((min s.length dLen : Nat) : Int)) (w.setRow g (iv .u8 (B.take o ++ nb (s.take (min s.length dLen)) ++ B.drop (o + min s.length dLen))).toArray) := by
  obtain ⟨m, hm⟩ : ∃ m, m = min s.length dLen := ⟨_, rfl⟩
  have hmin : Nat.min (bs s).size dLen = m := by rw [bs_size, hm]
  have hcells : List.take m (List.map (fun b : UInt8 => Value.int .u8 (b.toNat : Int)) (bs s).data.toList) = iv .u8 (nb (s.take m)) := by
    simp [bs, iv, nb, List.map_take]
    rfl
  have hlen : (iv .u8 (nb (s.take m))).length = m := by simp [iv, nb]; omega
  have hst := run_storeCells_at P g o t (iv .u8 (nb (s.take m))) 0 _ w hA.row (by rw [hlen, iv_size]; omega) (fun v hv => by simp only [iv, List.mem_map] at hv; obtain ⟨b, _, rfl⟩ := hv; rfl)
  rw [hlen] at hst
  simp only [Nat.add_zero] at hst
  have hrow : ((iv .u8 B).toArray.toList.take o ++ iv .u8 (nb (s.take m)) ++ (iv .u8 B).toArray.toList.drop (o + m)).toArray = (iv .u8 (B.take o ++ nb (s.take m) ++ B.drop (o + m))).toArray := by
    simp [iv, List.map_take, List.map_drop]
  rw [hrow] at hst
  rw [← hm]
  cases hq : P.info? elem with
  | none => simp [hq] at hs
  | some i =>
    simp only [Builtin.copy_, Builtin.lenOf, Builtin.firstCells, sizeOf, typeInfo]
    simp [run_underlying hu, hq, hmin]
    rw [hcells, hst]
    simp [Result.andThen, hm]
theorem run_clear_arr (w : World) (sT elem ty : TypeId) (g o m c : Nat) (t : TypeId) (k : IntKind) (B : List Nat) (hA : Arr w g t k B)
    (hu : P.underlying sT = some (.slice elem)) (hz : ∀ w, (zeroValue elem).run P w = .ok (.int k 0) w) (hm : 0 < m) (hfit : o + m ≤ B.length) :
    (Builtin.clear_ #[sT] ty #[.slice (some ⟨g, o, none⟩) m c]).run P w = .ok (.tuple #[]) (w.setRow g (iv k (B.take o ++ List.replicate m 0 ++ B.drop (o + m))).toArray) := by
  have hzc : (Builtin.zeroCells #[.int k 0] m).toList = iv k (List.replicate m 0) := by
    simp [Builtin.zeroCells, iv]
    apply List.ext_getElem
    · simp
    · intro i h1 h2
      simp [Nat.mod_one]
  have hlen : (iv k (List.replicate m 0)).length = m := by simp [iv]
  have hst := run_storeCells_at P g o t (iv k (List.replicate m 0)) 0 _ w hA.row (by rw [hlen, iv_size]; omega) (fun v hv => by simp only [iv, List.mem_map] at hv; obtain ⟨b, _, rfl⟩ := hv; rfl)
  rw [hlen] at hst
  simp only [Nat.add_zero] at hst
  have hrow : ((iv k B).toArray.toList.take o ++ iv k (List.replicate m 0) ++ (iv k B).toArray.toList.drop (o + m)).toArray = (iv k (B.take o ++ List.replicate m 0 ++ B.drop (o + m))).toArray := by
    simp [iv, List.map_take, List.map_drop]
  rw [hrow] at hst
  obtain ⟨q, rfl⟩ : ∃ q, m = q + 1 := ⟨m - 1, by omega⟩
  simp [Builtin.clear_, run_underlying hu, hz, Value.cells, hzc, hst]
theorem run_clear_none (w : World) (sT elem ty : TypeId) (a : Option Addr) (c : Nat) (hu : P.underlying sT = some (.slice elem)) :
    (Builtin.clear_ #[sT] ty #[.slice a 0 c]).run P w = .ok (.tuple #[]) w := by
  cases a <;> simp [Builtin.clear_, run_underlying hu]

/-! steps inside a fence -/
theorem wpListIn_load_row {ops : Array Oper} {rest : List Oper} {o : Oper} {a : Act} {w : World} {Q : Exit → Act → World → Prop} (hgd : o.guard = none) (ty : TypeId) (x : Operand) (ho : o.op = .load ty x)
    (g : Nat) (hx : a.eval x = .pointer (some ⟨g, 0, none⟩)) (t : TypeId) (cs : Array Value) (fr : Nat × Nat) (d : TypeDesc) (hg : w.heap[g]? = some (.cells cs t fr))
    (hu : P.underlying ty = some d) (hd : (match d with | .struct _ | .array _ _ => true | _ => false) = true) (hi : (P.info? ty).map (·.size) = some cs.size)
    (h : wpListIn F n P ops Q rest (a.put o.dst (.agg cs)) w) : wpListIn F n P ops Q (o :: rest) a w := by
  refine wpListIn_plain hgd fun K hK => ?_
  unfold Oper.wpIn
  refine ⟨by simp [Oper.about, ho], ?_⟩
  rw [Oper.semAt_plain F _ _ (by rw [ho]; intro c hc; cases hc)]
  simp only [execOp, ho, hx, Instr.loadAt, Instr.sureAddr, Sem.run_bind, Sem.run_pure, Result.andThen_ok, run_loadVar_row w g t ty cs fr d hg hu hd hi]
  exact hK _ _ h
theorem wpListIn_store_row {ops : Array Oper} {rest : List Oper} {o : Oper} {a : Act} {w : World} {Q : Exit → Act → World → Prop} (hgd : o.guard = none) (ty : TypeId) (x y : Operand) (ho : o.op = .store ty x y)
    (g : Nat) (cells : Array Value) (hx : a.eval x = .pointer (some ⟨g, 0, none⟩)) (hy : a.eval y = .agg cells)
    (t : TypeId) (old : Array Value) (hg : w.heap[g]? = some (.cells old t (0, 0))) (hi : (P.info? ty).map (·.size) = some cells.size)
    (hold : old.size = cells.size) (h1 : cells.all (·.oneCell') = true)
    (h : wpListIn F n P ops Q rest (a.put o.dst undef) (w.setRow g cells)) : wpListIn F n P ops Q (o :: rest) a w := by
  refine wpListIn_plain hgd fun K hK => ?_
  unfold Oper.wpIn
  refine ⟨by simp [Oper.about, ho], ?_⟩
  rw [Oper.semAt_plain F _ _ (by rw [ho]; intro c hc; cases hc)]
  simp only [execOp, ho, hx, hy, Instr.storeAt, Instr.sureAddr, Sem.run_bind, Sem.run_pure, Result.andThen_ok, run_storeVar_row w g t ty old cells hg hi hold h1]
  exact hK _ _ h
/-- a builtin whose run is known -/
theorem wpListIn_builtin2 {ops : Array Oper} {rest : List Oper} {o : Oper} {a : Act} {w w' : World} {Q : Exit → Act → World → Prop} (hgd : o.guard = none) (d x : Operand) (dT sT : TypeId)
    (hop : o.op = .call { callee := .builtin .copy, args := #[d, x], argTypes := #[dT, sT] }) (vd vx v : Value) (hd : a.eval d = vd) (hx : a.eval x = vx)
    (hrun : (Builtin.copy_ #[dT, sT] o.type #[vd, vx]).run P w = .ok v w') (h : wpListIn F n P ops Q rest (a.put o.dst v) w') : wpListIn F n P ops Q (o :: rest) a w := by
  refine wpListIn_plain hgd fun K hK => ?_
  unfold Oper.wpIn
  refine ⟨by simp [Oper.about, hop, resolve, Target.leads, Sem.run_pure], ?_⟩
  rw [Oper.semAt_plain F _ _ (by rw [hop]; intro c hc; cases hc)]
  simp [execOp, hop, resolve, invoke, builtin, hd, hx, hrun, Result.andThen]
  exact hK _ _ h
theorem wpListIn_clear {ops : Array Oper} {rest : List Oper} {o : Oper} {a : Act} {w w' : World} {Q : Exit → Act → World → Prop} (hgd : o.guard = none) (d : Operand) (dT : TypeId)
    (hop : o.op = .call { callee := .builtin .clear, args := #[d], argTypes := #[dT] }) (vd v : Value) (hd : a.eval d = vd)
    (hrun : (Builtin.clear_ #[dT] o.type #[vd]).run P w = .ok v w') (h : wpListIn F n P ops Q rest (a.put o.dst v) w') : wpListIn F n P ops Q (o :: rest) a w := by
  refine wpListIn_plain hgd fun K hK => ?_
  unfold Oper.wpIn
  refine ⟨by simp [Oper.about, hop, resolve, Target.leads, Sem.run_pure], ?_⟩
  rw [Oper.semAt_plain F _ _ (by rw [hop]; intro c hc; cases hc)]
  simp [execOp, hop, resolve, invoke, builtin, hd, hrun, Result.andThen]
  exact hK _ _ h

end Go.Proofs.Ytnploljhikljfaa.Bs
