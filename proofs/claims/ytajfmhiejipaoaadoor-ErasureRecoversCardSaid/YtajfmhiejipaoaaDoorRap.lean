/-
  A slice that a walk owns gets one number more, and what its old block held in front stays as it was, whether the slice moved or not.
-/
import Derived.Test.YtajfmhiejipaoaaDoorBase
import Derived.Deep.DeepAppendRoom
namespace Go.Proofs.YtajfmhiejipaoaaDoor
open Go.RowKit Bs

theorem run_append_keep {P : Program} (w : World) (base : Nat) (t ty e : TypeId) (i : TypeInfo) (z : Value) (bytes : Nat) (ht : P.underlying t = some (.slice e)) (hi : P.info? e = some i) (hz : i.zero = some z)
    (hsize : i.size = 1) (hby : i.bytes = bytes) (hzs : z.cells.size = 1) (g n cap : Nat) (xs : List Value) (hown : w.ownsRow base e 1 (.slice (some ⟨g, 0, none⟩) n cap) n xs)
    (ad : Addr) (m c : Nat) (news : List Value) (hl : news.length = m * 1) (hnews : ∀ j u, news[j]? = some u → w.cell? (ad.add j) = some u) (h1 : ∀ u ∈ news, u.oneCell' = true)
    (h63 : n + m ≤ maxLen) (hbytes : (n + m) * bytes ≤ 140737488355328) (hbase : base ≤ w.heap.size) :
    ∃ v' w', (Builtin.append_ #[t, t] ty #[.slice (some ⟨g, 0, none⟩) n cap, .slice (some ad) m c]).run P w = .ok v' w' ∧ w'.ownsRow base e 1 v' (n + m) (xs ++ news) ∧ w.grownBy w' (some g) ∧
      ∀ j u, xs[j]? = some u → w'.cell? ⟨g, j, none⟩ = some u := by
  obtain ⟨v', w', hr, h2, h3, _⟩ := run_append_own (P := P) w base t ty e i z 1 bytes ht hi hz hsize hby hzs (by omega) (.slice (some ⟨g, 0, none⟩) n cap) n xs hown ad m c news hl hnews h1 h63 hbytes hbase
  have holds : ∀ j u, xs[j]? = some u → w.cell? ((⟨g, 0, none⟩ : Addr).add j) = some u := hown.cells (g := g) rfl
  by_cases hroom : n + m ≤ cap
  · obtain ⟨w2, hr2, _, _⟩ := run_append_own_spare (P := P) w base t ty e i 1 ht hi hsize g n cap xs hown ad m c news hl hnews h1 hroom
    cases hr.symm.trans hr2
    refine ⟨_, _, hr, h2, h3, fun j u hj => ?_⟩
    have := h2.cells (g := g) rfl j u (by rw [List.getElem?_append_left (List.getElem?_eq_some_iff.1 hj).1]; exact hj)
    rw [Addr.add_lit, Nat.zero_add] at this
    exact this
  · have hlo : xs.length = n * i.size := by rw [hsize]; exact hown.1
    have hln : news.length = m * i.size := by rw [hsize]; exact hl
    have h63' : ((n + m : Nat) : Int) ≤ 9223372036854775807 := by simp only [maxLen] at h63; omega
    have hr2 := run_append_grow (P := P) w t ty e i z ht hi hz ⟨g, 0, none⟩ n cap xs hlo holds ad m c news hln hnews (by omega) h63' (growslice_fits (by omega) (by rw [hby]; exact hbytes))
    cases hr.symm.trans hr2
    refine ⟨_, _, hr, h2, h3, fun j u hj => ?_⟩
    have hc := holds j u hj
    rw [Addr.add_lit, Nat.zero_add] at hc
    have hlt := block_lt_of_cell hc
    have hb := below_undrew ((Below.refl w.drew.heap.size w.drew).alloc (Nat.le_refl _) (.cells (xs.toArray ++ news.toArray ++ Builtin.zeroCells z.cells (grownCap w (n + m) cap e - (n + m))) e))
    exact (hb.cell (p := ⟨g, j, none⟩) hlt).trans hc

theorem step_pushK {P : Program} {w : World} {ops : Array Oper} {o : Oper} {a : Act} {K : Act → World → Prop} {Q : Exit → Act → World → Prop} {E : Prop} (hgd : o.guard = none) (s x : Operand) (st : TypeId)
    (ho : o.op = .call { callee := .builtin .append, args := #[s, x], argTypes := #[st, st] })
    (base : Nat) (t : TypeId) (i : TypeInfo) (z : Value) (bytes : Nat) (ht : P.underlying st = some (.slice t)) (hi : P.info? t = some i) (hz : i.zero = some z)
    (hsize : i.size = 1) (hby : i.bytes = bytes) (hzs : z.cells.size = 1) (hb8 : bytes ≤ 8)
    (k : IntKind) (g n cap : Nat) (l : List Nat) (hs : a.eval s = .slice (some ⟨g, 0, none⟩) n cap) (hown : Own w base t k (.slice (some ⟨g, 0, none⟩) n cap) l) (hln : l.length = n) (ad : Addr) (c : Nat) (Y : Int) (y : Nat) (hx : a.eval x = .slice (some ad) 1 c)
    (hc : w.cell? (ad.add 0) = some (.int k Y)) (hY : Y = (y : Int)) (hlen : n ≤ 2000000) (hbase : base ≤ w.heap.size)
    (h : ∀ v' w', Own w' base t k v' (l ++ [y]) → Below base w w' → (∀ i, i < n → w'.cell? ⟨g, i, none⟩ = some (.int k (l.getD i 0 : Nat))) → K (a.put o.dst v') w') :
    if Region.wanted o (yielded ops a.tmps) = true then Oper.wp P o a w K Q else E := by
  subst hY
  subst hln
  have hw : Region.wanted o (yielded ops a.tmps) = true := by simp [Region.wanted, hgd]
  rw [if_pos hw]
  obtain ⟨v', w', hr, h2, h3, h4⟩ := run_append_keep (P := P) w base st o.type t i z bytes ht hi hz hsize hby hzs g l.length cap (iv k l) hown.row ad 1 c [.int k (y : Int)] rfl
    (fun j u hj => by
      match j, hj with
      | 0, hj => simp at hj; subst hj; exact hc)
    (fun u hu => by simp at hu; subst hu; rfl) (by unfold maxLen; omega)
    (by
      have : (l.length + 1) * bytes ≤ 2000001 * 8 := Nat.mul_le_mul (by omega) hb8
      omega) hbase
  unfold Oper.wp execOp
  simp only [ho, resolve, invoke, builtin, Sem.run_bind, Sem.run_pure, Result.andThen_ok, List.map_toArray, List.map_cons, List.map_nil, hs, hx, hr]
  refine h v' w' ⟨?_⟩ ((Below.refl base w).grown h3 hbase hown.block) (fun j hj => h4 j _ (by simp [iv, hj]))
  rw [iv_append, List.length_append]
  exact h2

end Go.Proofs.YtajfmhiejipaoaaDoor
