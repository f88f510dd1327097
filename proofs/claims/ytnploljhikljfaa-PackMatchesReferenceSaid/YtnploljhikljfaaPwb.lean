/-
  Package pack: the pieces of a string, one after the other (divided).
-/
import Derived.Test.YtnploljhikljfaaRfc
import Derived.Test.YtnploljhikljfaaPwa
import Derived.LoopNIn
import Derived.LoopIn
import Derived.TacticsInMore
import Derived.BigGuardIn
namespace Go.Proofs.Ytnploljhikljfaa
open Go.RowKit Bs Pk
attribute [local go_sem] Oper.semAt_some

theorem yieldAt_any {P : Program} {l : Nat} {args : Array Value} {W : World} {R : Ending → World → Prop} {m : Nat} (m' : Nat) (h : YieldAt Fence.wide m P l args W R) : YieldAt Fence.wide m' P l args W R := by
  obtain ⟨fn, tmps, assign, body, hy, hR⟩ := h
  exact ⟨fn, tmps, assign, body, hy, hR.1, fun c cs _ => hR.2 c cs (fun d hd => by cases hd)⟩
theorem wpIn_world {F : Fence} {n : Nat} {P : Program} {c : Code} {Q : Exit → Act → World → Prop} {a : Act} {W : World} (h : ∀ W', W' = W → c.wpIn F n P Q a W') : c.wpIn F n P Q a W := h W rfl
theorem wpListIn_world {F : Fence} {n : Nat} {P : Program} {ops : Array Oper} {l : List Oper} {Q : Exit → Act → World → Prop} {a : Act} {W : World} (h : ∀ W', W' = W → wpListIn F n P ops Q l a W') : wpListIn F n P ops Q l a W := h W rfl

/-- a piece's value: runs are parts of block g -/
def pcV (g : Nat) : Pc → Value
  | .run a n => .agg #[.slice (some ⟨g, a, none⟩) n n, .int .i64 0, .int .i64 0]
  | .copy n d => .agg #[.slice none 0 0, .int .i64 (n : Int), .int .i64 (d : Int)]
/-- what the rounds promise -/
structure Rnds (S : Nat → Prop) (l n0 g : Nat) (xs : List Pc) (J Jx : Nat → World → Prop) : Prop where
  hJ : ∀ k A C, J k A → Below n0 A C → J k C
  hJx : ∀ k A C, Jx k A → Below n0 A C → Jx k C
  hY : ∀ m k W1 (hk : k < xs.length), J k W1 → YieldAt Fence.wide m Try.prog l #[pcV g xs[k]] W1 fun e W' =>
    (e = .returned (.bool true) ∧ J (k + 1) W' ∧ Rfc.Above S n0 W1 W') ∨ (e = .returned (.bool false) ∧ Jx k W')
/-- the cells of the iterator -/
structure It (W : World) (n0 gb g l c : Nat) (L : List Nat) (start place : Nat) : Prop where
  box : W.cell? ⟨gb, 0, none⟩ = some (.slice (some ⟨g, 0, none⟩) L.length c)
  gbl : gb < n0
  gl : g < n0
  sl : Sl W g L c
  y : W.cell? ⟨n0, 0, none⟩ = some (.func (.yield l) #[] #[])
  st : Arr W (n0 + 1) 3 .i64 [start]
  pl : Arr W (n0 + 2) 3 .i64 [place]
theorem It.above {W W' : World} {n0 gb g l c : Nat} {L : List Nat} {start place : Nat} (h : It W n0 gb g l c L start place) {S : Nat → Prop} (hS : S gb ∧ S g) (ha : Rfc.Above S n0 W W') : It W' n0 gb g l c L start place := by
  have hlt := h.pl.lt
  have cell : ∀ b v, (n0 ≤ b ∨ S b) → b < W.heap.size → W.cell? ⟨b, 0, none⟩ = some v → W'.cell? ⟨b, 0, none⟩ = some v := fun b v h1 h2 h3 => by
    have e := ha.block b h1 h2
    exact (World.cell?_of_block (w := W) e).trans h3
  have bl := block_lt_of_cell h.box
  refine ⟨cell _ _ (.inr hS.1) bl h.box, h.gbl, h.gl, ⟨⟨fun i hi => ?_, fun hn => Nat.lt_of_lt_of_le (h.sl.nums.lt hn) ha.size⟩, h.sl.cap, Nat.lt_of_lt_of_le h.sl.lt ha.size⟩, cell _ _ (.inl (Nat.le_refl _)) (by omega) h.y, ⟨(ha.block _ (.inl (by omega)) h.st.lt).trans h.st.row⟩, ⟨(ha.block _ (.inl (by omega)) h.pl.lt).trans h.pl.row⟩⟩
  exact (World.cell?_of_block (w := W) (ha.block g (.inr hS.2) h.sl.lt)).trans (h.sl.nums.cell i hi)
theorem It.later {W W' : World} {n0 gb g l c : Nat} {L : List Nat} {start place : Nat} (h : It W n0 gb g l c L start place) (hb : Below W.heap.size W W') : It W' n0 gb g l c L start place :=
  h.above (S := fun _ => True) ⟨trivial, trivial⟩ ⟨hb.size, fun k _ hk => hb.block k hk⟩
theorem It.start {W : World} {n0 gb g l c : Nat} {L : List Nat} {start place : Nat} (h : It W n0 gb g l c L start place) (Y : Int) (y : Nat) (hY : Y = y) : It (W.setCell ⟨n0 + 1, 0, none⟩ (.int .i64 Y)) n0 gb g l c L y place := by
  have hgb := h.gbl; have hg := h.gl
  have hb : Below (n0 + 1) W (W.setCell ⟨n0 + 1, 0, none⟩ (.int .i64 Y)) := (Below.refl _ W).setCell (p := ⟨n0 + 1, 0, none⟩) (Nat.le_refl _) _
  exact ⟨(hb.cell (p := ⟨gb, 0, none⟩) (show gb < n0 + 1 by omega)).trans h.box, hgb, hg, h.sl.below hb (by omega), (hb.cell (p := ⟨n0, 0, none⟩) (show n0 < n0 + 1 by omega)).trans h.y, h.st.set 0 Y y hY, h.pl.other (by omega) _⟩
theorem It.place {W : World} {n0 gb g l c : Nat} {L : List Nat} {start place : Nat} (h : It W n0 gb g l c L start place) (Y : Int) (y : Nat) (hY : Y = y) : It (W.setCell ⟨n0 + 2, 0, none⟩ (.int .i64 Y)) n0 gb g l c L start y := by
  have hgb := h.gbl; have hg := h.gl
  have hb : Below (n0 + 2) W (W.setCell ⟨n0 + 2, 0, none⟩ (.int .i64 Y)) := (Below.refl _ W).setCell (p := ⟨n0 + 2, 0, none⟩) (Nat.le_refl _) _
  exact ⟨(hb.cell (p := ⟨gb, 0, none⟩) (show gb < n0 + 2 by omega)).trans h.box, hgb, hg, h.sl.below hb (by omega), (hb.cell (p := ⟨n0, 0, none⟩) (show n0 < n0 + 2 by omega)).trans h.y, h.st.other (by omega) _, h.pl.set 0 Y y hY⟩

set_option maxRecDepth 100000 in
set_option maxHeartbeats 1000000 in
theorem yieldRun_none (m n0 gb g l c : Nat) (L : List Nat) (place : Nat) (hp : place ≤ L.length) (hL : L.length ≤ 1000000) (W : World) (hI : It W n0 gb g l c L place place) :
    CallsIn Fence.wide m Try.prog 26 #[.pointer (some ⟨gb, 0, none⟩), .pointer (some ⟨n0 + 1, 0, none⟩), .pointer (some ⟨n0 + 2, 0, none⟩), .pointer (some ⟨n0, 0, none⟩)] W fun e W' =>
      e = .returned (.bool true) ∧ It W' n0 gb g l c L place place ∧ Below n0 W W' := by
  refine callsIn_of_wp Try.func26 rfl trivial ?_ rfl
  simp only [Try.ntmps26, List.size_toArray, List.length_cons, List.length_nil, Nat.reduceAdd, Nat.reduceSub, Array.replicate_succ, Array.replicate_zero, List.push_toArray, List.append_toArray, List.nil_append, List.cons_append]
  have c1 := hI.box
  have c2 := hI.st.get 0 (by simp)
  have c3 := hI.pl.get 0 (by simp)
  have f1 := hI.st.free 0
  simp only [List.getD_cons_zero] at c2 c3
  have hcap := hI.sl.cap
  have HI := Lib.hid (hI.start (place : Int) place rfl)
  have hs1 := hI.st.lt
  have HB : Hid (Below n0 W (W.setCell ⟨n0 + 1, 0, none⟩ (.int .i64 (place : Int)))) := Lib.hid ((Below.refl _ W).setCell (p := ⟨n0 + 1, 0, none⟩) (by show n0 ≤ n0 + 1; omega) _)
  obtain ⟨b1, hb1⟩ : ∃ b1, n0 + 1 = b1 := ⟨_, rfl⟩
  obtain ⟨b2, hb2⟩ : ∃ b2, n0 + 2 = b2 := ⟨_, rfl⟩
  rw [hb1] at c2 f1 hs1 HB HI
  rw [hb2] at c3
  rw [hb1, hb2]
  obtain ⟨n, hn⟩ : ∃ n, L.length = n := ⟨_, rfl⟩
  rw [hn] at c1 hp hL hcap
  have i1 : (0 : Int) ≤ (place : Int) := by omega
  have i2 : (place : Int) ≤ (c : Int) := by omega
  have hab := hI.y
  clear hI hab hb1 hb2 hn
  gi_wp2_with (refine wpListIn_skip rfl rfl ?_)
  go_ret
  exact ⟨rfl, HI.out, HB.out⟩

set_option maxRecDepth 100000 in
set_option maxHeartbeats 1000000 in
theorem yieldRun_some (m n0 gb g l c : Nat) (L : List Nat) (start place : Nat) (hsp : start < place) (hp : place ≤ L.length) (hL : L.length ≤ 1000000) (W : World) (hI : It W n0 gb g l c L start place)
    (S : Nat → Prop) (hS : S gb ∧ S g) (xs : List Pc) (J Jx : Nat → World → Prop) (hR : Rnds S l n0 g xs J Jx) (k : Nat) (hk : k < xs.length) (hx : xs[k] = .run start (place - start)) (hJ : J k W) :
    CallsIn Fence.wide m Try.prog 26 #[.pointer (some ⟨gb, 0, none⟩), .pointer (some ⟨n0 + 1, 0, none⟩), .pointer (some ⟨n0 + 2, 0, none⟩), .pointer (some ⟨n0, 0, none⟩)] W fun e W' =>
      (e = .returned (.bool true) ∧ It W' n0 gb g l c L place place ∧ J (k + 1) W') ∨ (e = .returned (.bool false) ∧ Jx k W') := by
  refine callsIn_of_wp Try.func26 rfl trivial ?_ rfl
  simp only [Try.ntmps26, List.size_toArray, List.length_cons, List.length_nil, Nat.reduceAdd, Nat.reduceSub, Array.replicate_succ, Array.replicate_zero, List.push_toArray, List.append_toArray, List.nil_append, List.cons_append]
  have c1 := hI.box
  have c2 := hI.st.get 0 (by simp)
  have c3 := hI.pl.get 0 (by simp)
  have c4 := hI.y
  have f1 := hI.st.free 0
  simp only [List.getD_cons_zero] at c2 c3
  have hcap := hI.sl.cap
  have hI2 := hI.start (place : Int) place rfl
  have c5 := hI2.y
  have HI := Lib.hid hI2
  have hs1 := hI.st.lt
  have HJ : Hid (J k (W.setCell ⟨n0 + 1, 0, none⟩ (.int .i64 (place : Int)))) := Lib.hid (hR.hJ _ _ _ hJ ((Below.refl _ W).setCell (p := ⟨n0 + 1, 0, none⟩) (by show n0 ≤ n0 + 1; omega) _))
  obtain ⟨fn, tmps, assign, body, hy, hRd⟩ := hR.hY (m - 1) k _ hk HJ.out
  rw [hx] at hy
  replace hRd := Lib.hid hRd
  obtain ⟨q, hq⟩ : ∃ q, place - start = q := ⟨_, rfl⟩
  have hpcv : pcV g (.run start (place - start)) = .agg #[.slice (some ⟨g, start, none⟩) q q, .int .i64 0, .int .i64 0] := by rw [hq]; rfl
  rw [hpcv] at hy
  have hsl : (Instr.sliceAt 29 (.slice (some ⟨g, 0, none⟩) L.length c) (some (.int .i64 (start : Int))) (some (.int .i64 (place : Int))) (some (.int .i64 (place : Int)))).run Try.prog W = .ok (.slice (some ⟨g, start, none⟩) q q) W := by
    have hu : Try.prog.underlying 29 = some (.slice (Try.prog.elem 29)) := by kernel_rfl
    rw [run_sliceAt_slice (h := hu), run_slice_lhm (ht := hu) (h0 := by omega) (h1 := by omega) (h2 := by omega) (h3 := by omega)]
    have hz : (sizeOf (Try.prog.elem 29)).run Try.prog W = .ok 1 W := by kernel_rfl
    simp [hz, Result.andThen, sliced, show place ≠ start by omega, hq, Addr.add]
    exact fun h => h.symm
  obtain ⟨b1, hb1⟩ : ∃ b1, n0 + 1 = b1 := ⟨_, rfl⟩
  obtain ⟨b2, hb2⟩ : ∃ b2, n0 + 2 = b2 := ⟨_, rfl⟩
  have hn01 : n0 < b1 := by omega
  have HS := Lib.hid hS
  rw [hb1] at c2 c5 f1 hs1 HJ HI hy hRd
  rw [hb2] at c3
  rw [hb1, hb2]
  obtain ⟨n, hn⟩ : ∃ n, L.length = n := ⟨_, rfl⟩
  rw [hn] at c1 hp hL hcap hsl
  have i3 : ¬ (q = 0) := by omega
  have i4 : decide ((q : Int) = 0) = false := decide_eq_false (by omega)
  clear hI hI2 hb1 hb2 hn hpcv hx hR hS hJ hq
  have i5 : ((q : Int) == 0) = false := by rw [beq_eq_false_iff_ne]; omega
  gi_wp2
  refine ⟨(fun h => absurd h (by decide)), hRd.out.mono ?_⟩
  rintro e W' (⟨rfl, hJ3, hab⟩ | ⟨rfl, hJx3⟩)
  · gi_wp2
    go_ret
    exact .inl ⟨rfl, by have := HI.out.above HS.out hab; exact this, hJ3⟩
  · gi_wp2
    go_ret
    exact .inr ⟨rfl, hJx3⟩

theorem yieldRun_in (m n0 gb g l c : Nat) (L : List Nat) (start place : Nat) (hp : place ≤ L.length) (hL : L.length ≤ 1000000) (W : World) (hI : It W n0 gb g l c L start place)
    (S : Nat → Prop) (hS : S gb ∧ S g) (xs : List Pc) (J Jx : Nat → World → Prop) (hR : Rnds S l n0 g xs J Jx) (k k' : Nat)
    (hx : (start = place ∧ k' = k) ∨ (start < place ∧ k' = k + 1 ∧ ∃ hk : k < xs.length, xs[k] = .run start (place - start))) (hJ : J k W) :
    CallsIn Fence.wide m Try.prog 26 #[.pointer (some ⟨gb, 0, none⟩), .pointer (some ⟨n0 + 1, 0, none⟩), .pointer (some ⟨n0 + 2, 0, none⟩), .pointer (some ⟨n0, 0, none⟩)] W fun e W' =>
      (e = .returned (.bool true) ∧ It W' n0 gb g l c L place place ∧ J k' W') ∨ (e = .returned (.bool false) ∧ Jx k W') := by
  rcases hx with ⟨rfl, rfl⟩ | ⟨hsp, rfl, hk, hx⟩
  · refine (yieldRun_none m n0 gb g l c L start hp hL W hI).mono ?_
    rintro e W' ⟨rfl, h1, h2⟩
    exact .inl ⟨rfl, h1, hR.hJ _ _ _ hJ h2⟩
  · exact yieldRun_some m n0 gb g l c L start place hsp hp hL W hI S hS xs J Jx hR k hk hx hJ
theorem drop_cons {α : Type} {xs : List α} {k : Nat} {p : α} {rest : List α} (h : xs.drop k = p :: rest) : ∃ hk : k < xs.length, xs[k] = p ∧ xs.drop (k + 1) = rest := by
  have hk : k < xs.length := by
    rcases Nat.lt_or_ge k xs.length with h1 | h1
    · exact h1
    · rw [List.drop_of_length_le h1] at h; cases h
  rw [List.drop_eq_getElem_cons hk] at h
  injection h with h1 h2
  exact ⟨hk, h1, h2⟩

end Go.Proofs.Ytnploljhikljfaa
