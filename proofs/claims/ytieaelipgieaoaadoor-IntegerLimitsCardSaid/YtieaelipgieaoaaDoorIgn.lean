/-
  Layer 3: numbers with signs: from strings, and to strings.
-/
import Derived.Test.YtieaelipgieaoaaDoorIgr
import Derived.Test.YtieaelipgieaoaaDoorIgg
namespace Go.Proofs.YtieaelipgieaoaaDoor
open Go.RowKit Bs Ig

theorem hasPrefix45 (l : List UInt8) : Lib.hasPrefix l [45] = (match l with | 45 :: _ => true | _ => false) := by
  cases l with
  | nil => rfl
  | cons c r =>
    show ([45] : List UInt8).isPrefixOf (c :: r) = _
    by_cases h : c = 45
    · subst h; simp [List.isPrefixOf]
    · have : (45 == c) = false := by simp [Ne.symm h]
      simp only [List.isPrefixOf, this, Bool.false_and]
      split
      · rename_i h1; cases h1; exact absurd rfl h
      · rfl
theorem trim45 (l : List UInt8) : Lib.trimPrefix l [45] = body l := by
  unfold Lib.trimPrefix
  rw [hasPrefix45]
  cases l with
  | nil => rfl
  | cons c r =>
    by_cases h : c = 45
    · subst h; rfl
    · have hb : body (c :: r) = c :: r := by
        unfold body
        split
        · rename_i r2 h1; cases h1; exact absurd rfl h
        · rfl
      have hp : (match c :: r with | 45 :: _ => true | _ => false) = false := by
        split
        · rename_i r2 h1; cases h1; exact absurd rfl h
        · rfl
      rw [hp, hb]; rfl
theorem neg45 (z : Int) : Lib.hasPrefix (Lib.itoa z) [45] = decide (z < 0) := by
  rw [hasPrefix45]
  rcases int_cases z with ⟨n, rfl⟩ | ⟨n, hn, rfl⟩
  · rw [itoa_nat, show decide ((n : Int) < 0) = false by simp]
    split
    · rename_i r h; exact absurd h (dec_no45 _ _)
    · rfl
  · rw [itoa_neg _ hn, show decide (-(n : Int) < 0) = true by simp; omega]
    rfl
/-- the number z, as a value -/
def numV (z : Int) (a : Option Addr) (n c : Nat) : Value := .agg #[.bool (decide (z < 0)), .slice a n c]
theorem two_cells (b : Bool) (a : Option Addr) (n c : Nat) : (#[Value.bool b, Value.slice a n c] : Array Value).all (·.oneCell') = true := by simp [Value.oneCell']
theorem below_row {B : Nat} {a w : World} (h : Below B a w) {g : Nat} (hg : B ≤ g) (cs : Array Value) : Below B a (w.setRow g cs) :=
  ⟨h.os, h.tape, h.output, by rw [size_setRow]; exact h.size, fun k hk => (Go.setRow_other w g k cs (by omega)).trans (h.block k hk)⟩
theorem IsZ.setRow {W : World} {a : Option Addr} {n c g : Nat} {l : List Int} (h : IsZ W a n c l) {b0 : Bool} {s : Option Addr} {m d : Nat} {t : TypeId} {f : Nat × Nat} (hg : W.heap[g]? = some (.cells #[.bool b0, .slice s m d] t f)) (cs : Array Value) : IsZ (W.setRow g cs) a n c l := by
  refine ⟨h.len, h.cap, h.max, h.row.imp id (fun ⟨g', off, e, hI⟩ => ⟨g', off, e, fun i hi => ?_⟩)⟩
  have h1 := hI i hi
  have hne : g' ≠ g := by
    intro e
    subst e
    rw [cell_of_row _ _ _ _ _ _ hg] at h1
    rcases (show off + i = 0 ∨ off + i = 1 ∨ 2 ≤ off + i by omega) with h2 | h2 | h2
    · rw [h2] at h1; cases h1
    · rw [h2] at h1; cases h1
    · rw [Array.getElem?_eq_none (by simpa using h2)] at h1; cases h1
  unfold World.cell? at h1 ⊢
  rw [show (W.setRow g cs).heap[({ block := g', off := off + i } : Addr).block]? = W.heap[g']? from Go.setRow_other W g g' cs hne]
  exact h1
theorem big_pow : big = 10000 ^ 50 := by unfold big; rw [show (10000 : Nat) = 10 ^ 4 by decide, ← Nat.pow_mul]

set_option maxRecDepth 100000 in
set_option maxHeartbeats 1000000 in
theorem numberOf_any (z : Int) (hz : z.natAbs < big) (w : World) :
    Calls Tryd.prog 31 #[.string (bs (Lib.itoa z))] w fun e w' => ∃ a n c, e = .returned (numV z a n c) ∧ IsZ w' a n c (zs (G z.natAbs)) ∧ n ≤ 50 ∧ Below w.heap.size w w' := by
  have hc := Tryd.strings_CutPrefix (bs (Lib.itoa z)) ⟨#[45]⟩
  rw [show (bs (Lib.itoa z)).data.toList = Lib.itoa z from rfl, show (ByteArray.mk #[45]).data.toList = [45] from rfl, trim45, neg45, body_itoa] at hc
  have hg := groupsOf_any (Lib.decDigits z.natAbs) (dec_dig _) (Nat.le_trans ((dec_length_le _ 200 (by omega)).2 hz) (by omega))
  rw [num_dec] at hg
  have hn50 : ∀ (W : World) (a : Option Addr) (n c : Nat), IsZ W a n c (zs (G z.natAbs)) → n ≤ 50 := fun W a n c h => h.gle (by rw [← big_pow]; exact hz)
  have HN := Lib.hid hn50
  obtain ⟨b, hb⟩ : ∃ b, decide (z < 0) = b := ⟨_, rfl⟩
  unfold numV
  rw [hb] at hc ⊢
  have hcs : ∀ W, Calls Tryd.prog 49 #[.string (bs (Lib.itoa z)), .string ⟨#[45]⟩] W fun e w' => e = .returned (.tuple #[.string (bs (Lib.decDigits z.natAbs)), .bool b]) ∧ w' = W := hc
  have HC := Lib.hid hcs
  have HG := Lib.hid hg
  generalize bs (Lib.itoa z) = S at *
  generalize bs (Lib.decDigits z.natAbs) = T at *
  clear hc hcs hg hb hn50 hz
  have hb0 : Below w.heap.size w (w.alloc (.cells #[.bool false, .slice none 0 0] 51)) := (Below.refl _ w).alloc (Nat.le_refl _) _
  go_enter Tryd.func31, Tryd.ntmps31
  go_wp2_with (first | (go_at_call 49; refine (HC.out _).mono ?_; rintro e w1 ⟨rfl, rfl⟩) | (go_at_call 50; refine (HG.out _).mono ?_; rintro e w2 ⟨a, n, c, rfl, hz2, hb2⟩; have hrow2 := (hb2.block w.heap.size (by simp)).trans (heap_alloc_new w (.cells #[.bool false, .slice none 0 0] 51))) | (refine wpList_store_row rfl 51 _ _ rfl w.heap.size _ rfl rfl 51 _ hrow2 ?g2 ?g3 ?g4 ?_))
  case g2 => kernel_rfl
  case g3 => rfl
  case g4 => exact two_cells _ _ _ _
  have hB := below_row (hb0.trans (hb2.mono (by simp))) (Nat.le_refl _) #[.bool b, .slice a n c]
  exact bodyPost_ret (results_cell_row rfl _ _ w.heap.size 51 #[.bool b, .slice a n c] _ _ rfl (setRow_heap w2 w.heap.size _ _ _ _ hrow2) Tryd.underlying51 rfl (by kernel_rfl)) rfl ⟨a, n, c, rfl, hz2.setRow hrow2 _, HN.out _ _ _ _ hz2, hB⟩

/-- the string of a number, and the error beside it -/
def txt (z : Int) : List UInt8 := if z.natAbs < big then Lib.itoa z else []
def err (z : Int) : Int := if z.natAbs < big then 0 else 30
set_option maxRecDepth 100000 in
set_option maxHeartbeats 1000000 in
theorem valid_any (z : Int) (a : Option Addr) (n c : Nat) (w : World) (hl : IsZ w a n c (zs (G z.natAbs))) (hn : n ≤ 100000) (ht : TabP w) :
    Calls Tryd.prog 34 #[numV z a n c] w fun e w' => e = .returned (.tuple #[.string (bs (txt z)), .int .i64 (err z)]) ∧ Below w.heap.size w w' := by
  have hb0 : Below w.heap.size w (w.alloc (.cells #[.bool (decide (z < 0)), .slice a n c] 51)) := (Below.refl _ w).alloc (Nat.le_refl _) _
  have hdg := digits_any a n c z.natAbs _ (hl.later hb0) hn (ht.later hb0)
  have hlen := dec_length_le z.natAbs 200 (by omega)
  have hz := int_cases z
  unfold numV
  obtain ⟨b, hb⟩ : ∃ b, decide (z < 0) = b := ⟨_, rfl⟩
  rw [hb] at hdg hb0 ⊢
  obtain ⟨l, hll⟩ : ∃ l, Lib.decDigits z.natAbs = l := ⟨_, rfl⟩
  rw [hll] at hdg hlen
  have HD := Lib.hid hdg
  clear hl ht hdg
  rcases Nat.lt_or_ge z.natAbs big with hbig | hbig
  · have h1 : txt z = Lib.itoa z := if_pos hbig
    have h2 : err z = 0 := if_pos hbig
    have hle : l.length ≤ 200 := hlen.2 hbig
    rw [h1, h2]
    have hsz : (bs l).size = l.length := bs_size l
    have hdl : decide (200 < (l.length : Int)) = false := by simp; omega
    rcases hz with ⟨m, rfl⟩ | ⟨m, hm, rfl⟩
    · have hb' : b = false := by rw [← hb]; simp
      subst hb'
      rw [itoa_nat, show Lib.decDigits m = l by rw [← hll]; simp]
      clear hb hll hlen hbig h1 h2 hle
      go_enter Tryd.func34, Tryd.ntmps34
      go_wp2_with (go_at_call 35; refine HD.out.mono ?_; rintro e w1 ⟨rfl, hb1⟩; have hrow1 := (hb1.block w.heap.size (by simp)).trans (heap_alloc_new w (.cells #[.bool false, .slice a n c] 51)); have hc0 : w1.cell? ⟨w.heap.size, 0, none⟩ = some (.bool false) := (by rw [cell_of_row _ _ _ _ _ _ hrow1]; rfl))
      go_ret2
      exact ⟨rfl, hb0.trans (hb1.mono (by simp))⟩
    · have hb' : b = true := by rw [← hb]; simp; omega
      subst hb'
      rw [itoa_neg _ hm, show Lib.decDigits m = l by rw [← hll]; simp]
      have hnl : ¬ 9223372036854775807 < 1 + l.length := by omega
      clear hb hll hlen hbig h1 h2 hle
      go_enter Tryd.func34, Tryd.ntmps34
      go_wp2_with (go_at_call 35; refine HD.out.mono ?_; rintro e w1 ⟨rfl, hb1⟩; have hrow1 := (hb1.block w.heap.size (by simp)).trans (heap_alloc_new w (.cells #[.bool true, .slice a n c] 51)); have hc0 : w1.cell? ⟨w.heap.size, 0, none⟩ = some (.bool true) := (by rw [cell_of_row _ _ _ _ _ _ hrow1]; rfl))
      go_ret2
      exact ⟨by rw [show bs (45 :: l) = (⟨#[45]⟩ : ByteArray) ++ bs l from (bs_append [45] l).symm]; rfl, hb0.trans (hb1.mono (by simp))⟩
  · have h1 : txt z = [] := if_neg (by omega)
    have h2 : err z = 30 := if_neg (by omega)
    have hle : ¬ l.length ≤ 200 := fun h => by have := hlen.1 h; unfold big at hbig; omega
    rw [h1, h2]
    have hsz : (bs l).size = l.length := bs_size l
    have hdl : decide (200 < (l.length : Int)) = true := by simp; omega
    clear hb hll hlen hbig h1 h2 hle hz
    go_enter Tryd.func34, Tryd.ntmps34
    go_wp2_with (go_at_call 35; refine HD.out.mono ?_; rintro e w1 ⟨rfl, hb1⟩)
    go_ret2
    exact ⟨rfl, hb0.trans (hb1.mono (by simp))⟩

end Go.Proofs.YtieaelipgieaoaaDoor
