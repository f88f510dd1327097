/-
  Put together by program out of these texts, in this order: Igg, Ign, Igs, Iha.
-/
import Derived.Test.YtagcpjokajcdiaaGreatDoorZCaJmt05
import Derived.Lib.AtoiErrMem

/-
  Layer 3: the groups of a string of digits.
-/
namespace Go.Proofs.YtagcpjokajcdiaaGreatDoor
open Go.RowKit Bs Ig

theorem atoi_any (l : List UInt8) (hd : ∀ c ∈ l, isDig c) (h0 : l ≠ []) (hl : l.length ≤ 4) (w : World) :
    Calls Tryz.prog 47 #[.string (bs l)] w fun e w' => e = .returned (.tuple #[.int .i64 (num l : Nat), .nilIface]) ∧ Below w.heap.size w w' := by
  have hn := num_lt l hd
  have h4 : 10 ^ l.length ≤ 10 ^ 4 := Nat.pow_le_pow_right (by omega) hl
  have h := Tryz.strconv_Atoi_ok (bs l) (by rw [bs_size]; omega) (num l : Nat) (atoi_small l hd h0 (by omega)) w
  refine h.mono ?_
  rintro e w' ⟨rfl, hw⟩
  refine ⟨rfl, ?_⟩
  rcases hw with rfl | ⟨t, rfl⟩
  · exact Below.refl _ _
  · exact Lib.bytesWorld_below _ _ _
theorem own_slice {W : World} {base : Nat} {t : TypeId} {k : IntKind} {v : Value} {l : List Nat} (h : Bs.Own W base t k v l) : ∃ a n c, v = .slice a n c := h.row.2.elim (fun h => ⟨_, _, _, h.1⟩) (fun ⟨g, cap, cur, hv, _⟩ => ⟨_, _, _, hv⟩)
theorem str_l (S : ByteArray) (k : Nat) (K : Int) (hK : K = k) (hk : k ≤ S.size) (W : World) : (Instr.sliceAt 9 (.string S) (some (.int .i64 K)) none none).run Tryz.prog W = .ok (.string (S.extract k S.size)) W := by
  subst hK
  rw [run_sliceAt_string _ _ _ _ _ _ Tryz.underlying9, Go.run_slice_string_l (h0 := by omega) (h1 := by omega) (ht := Tryz.underlying9)]
  rfl
theorem str_h (S : ByteArray) (k : Nat) (K : Int) (hK : K = k) (hk : k ≤ S.size) (W : World) : (Instr.sliceAt 9 (.string S) none (some (.int .i64 K)) none).run Tryz.prog W = .ok (.string (S.extract 0 k)) W := by
  subst hK
  rw [run_sliceAt_string _ _ _ _ _ _ Tryz.underlying9, Go.run_slice_string_h (h0 := by omega) (h2 := by omega) (ht := Tryz.underlying9)]
  rfl
theorem num_chunk (l : List UInt8) (s k : Nat) (hs : s ≤ k) (hk : k ≤ l.length) : num (l.take k) = num (l.take s) * 10 ^ (k - s) + num ((l.take k).drop s) := by
  have h := num_append ((l.take k).take s) ((l.take k).drop s)
  rw [List.take_append_drop] at h
  rw [h, List.take_take, Nat.min_eq_left hs, List.length_drop, List.length_take, Nat.min_eq_left hk]

set_option maxRecDepth 100000 in
set_option maxHeartbeats 2000000 in
theorem groupsOf_any (l : List UInt8) (hd : ∀ c ∈ l, isDig c) (hlen : l.length ≤ 1000) (w : World) :
    Calls Tryz.prog 57 #[.string (bs l)] w fun e w' => ∃ a n c, e = .returned (.slice a n c) ∧ IsZ w' a n c (zs (G (num l))) ∧ Below w.heap.size w w' := by
  obtain ⟨i0, hi, hz0, hz1, hz2⟩ := info_parts infoInt
  have hstart : bs l = bs (l.take l.length) := by rw [List.take_length]
  rw [hstart]
  obtain ⟨S0, hS0⟩ : ∃ S0, bs (l.take l.length) = S0 := ⟨_, rfl⟩
  rw [hS0]
  have HS0 := Lib.hid hS0
  clear hS0 hstart
  go_enter Tryz.func57, Tryz.ntmps57
  go_wp2_with fail
  go_loopw [0, 3] (fun u v wr => ∃ (k : Nat) (C : List Nat), k ≤ l.length ∧ u = .string (bs (l.take k)) ∧ Bs.Own wr w.heap.size 3 .i64 v C ∧ (∀ x ∈ C, x < 10000) ∧ C.length + k ≤ l.length ∧ V C + 10000 ^ C.length * num (l.take k) = num l ∧ Below w.heap.size w wr) (fun u _ _ => match u with | .string s => s.size | _ => 0)
  case atStart =>
    refine ⟨l.length, [], Nat.le_refl _, by rw [← HS0.out], ⟨rfl, .inr ⟨w.heap.size, 0, _, rfl, Nat.le_refl _, heap_alloc_new _ _, Nat.le_refl _, Nat.zero_le _, rfl, rfl⟩⟩, (fun x hx => by cases hx), by simp, by rw [List.take_length]; simp [V, val], (Below.refl _ w).alloc (Nat.le_refl _) _⟩
  case round =>
    obtain ⟨k, C, hk, rfl, hown, hC, hCl, hv, hw⟩ := hrel
    rcases Nat.eq_zero_or_pos k with h0 | h0
    · subst h0
      rw [List.take_zero] at hv ⊢
      have hv2 : V C = num l := by rw [← hv, show num ([] : List UInt8) = 0 from rfl, Nat.mul_zero, Nat.add_zero]
      obtain ⟨a3, n3, c3, he⟩ := own_slice hown
      subst he
      have hn3 : n3 = C.length := hown.len
      have ht := trimmed_any a3 n3 c3 C wr hown.isZ hC (by omega)
      rw [hv2] at ht
      have Ht := Lib.hid ht
      have hsz : (bs ([] : List UInt8)).size = 0 := rfl
      clear hown hC hv hv2 ht hCl hn3
      go_wp2_with (go_at_call 70; refine Ht.out.mono ?_; rintro e w4 ⟨m, rfl, hZ4, hb7⟩)
      go_ret
      exact ⟨_, _, _, rfl, hZ4, below_on hw hb7 hw.size⟩
    · obtain ⟨s, hs⟩ : ∃ s, k - 4 = s := ⟨_, rfl⟩
      have hs1 : s < k ∧ k ≤ s + 4 ∧ (s = 0 ∨ k = s + 4) := by omega
      have hmax : ∀ (w : World) (ts : Array TypeId) (t : TypeId), (Builtin.max_ ts t #[.int .i64 0, .int .i64 ((k : Int) - 4)]).run Tryz.prog w = .ok (.int .i64 (s : Int)) w := by
        intro w ts t
        rw [run_max_int2]
        congr 2
        split <;> omega
      obtain ⟨ch, hch⟩ : ∃ ch, (l.take k).drop s = ch := ⟨_, rfl⟩
      have hcl : ch.length = k - s := by rw [← hch, List.length_drop, List.length_take]; omega
      have hcd : ∀ c ∈ ch, isDig c := fun c hc => hd c (List.mem_of_mem_take (List.mem_of_mem_drop (by rw [hch]; exact hc)))
      have hcn := num_lt ch hcd
      have hcn4 : num ch < 10000 := Nat.lt_of_lt_of_le hcn (Nat.pow_le_pow_right (n := 10) (by omega) (show ch.length ≤ 4 by omega))
      have hnc := num_chunk l s k (by omega) hk
      rw [hch] at hnc
      have hat := atoi_any ch hcd (by intro e; rw [e] at hcl; simp at hcl; omega) (by omega)
      obtain ⟨S, hS⟩ : ∃ S, bs (l.take k) = S := ⟨_, rfl⟩
      have hSs : S.size = k := by rw [← hS, bs_size, List.length_take]; omega
      have hsl := str_l S s (s : Int) rfl (by omega)
      have hsh := str_h S s (s : Int) rfl (by omega)
      rw [show S.extract s S.size = bs ch by rw [hSs, ← hS, bs_extract, ← hch, List.take_of_length_le (by rw [List.length_drop, List.length_take]; omega)]] at hsl
      rw [show S.extract 0 s = bs (l.take s) by rw [← hS, bs_extract, List.drop_zero, List.take_take, Nat.sub_zero, Nat.min_eq_left (by omega)]] at hsh
      rw [hS]
      obtain ⟨q, hq⟩ : ∃ q, num ch = q := ⟨_, rfl⟩
      rw [hq] at hat hcn4 hnc
      have HV := Lib.hid (show V (C ++ [q]) + 10000 ^ (C ++ [q]).length * num (l.take s) = num l by
        rw [← hv, hnc, show V (C ++ [q]) = val 10000 (C ++ [q]) from rfl, val_append, List.length_append]
        show V C + 10000 ^ C.length * (q + 10000 * 0) + 10000 ^ (C.length + 1) * num (l.take s) = _
        rcases hs1.2.2 with h | h
        · rw [h, List.take_zero, show num ([] : List UInt8) = 0 from rfl, Nat.mul_zero, Nat.zero_mul, Nat.zero_add, Nat.mul_zero, Nat.add_zero, Nat.add_zero]
        · rw [h, show s + 4 - s = 4 by omega, Nat.mul_zero, Nat.add_zero, Nat.pow_succ, Nat.mul_add, show (10 : Nat) ^ 4 = 10000 from rfl, Nat.mul_comm (num (l.take s)) 10000, Nat.mul_assoc]; omega)
      have HA := Lib.hid hat
      have Hown := Lib.hid hown
      have HC := Lib.hid (And.intro hC hCl)
      have HS := Lib.hid hS
      clear hs hch hcl hcd hcn hnc hat hS hq hown hC hCl hv
      go_wp2_with (first | (go_at_call 47; refine (HA.out _).mono ?_; rintro e w4 ⟨rfl, hb4⟩; have hown4 := Hown.out.later hb4; have hw4 := below_on hw hb4 hw.size; have hs4 := hw4.size) | (at_builtin; refine wpList_push rfl _ _ 38 rfl w.heap.size 3 i0 (.int .i64 0) 8 Tryz.underlying38 hi hz0 hz1 hz2 rfl (by omega) .i64 _ C rfl (hown4.alloc _) ⟨w4.heap.size, 0, none⟩ 1 q rfl ?c1 ?c2 ?c3 ?_))
      case c1 => simp [Addr.add]
      case c2 => have := HC.out.2; omega
      case c3 => simp; omega
      intro v' w5 hown5 hb5
      have hw5 := (hw4.alloc hs4 (.cells #[.int .i64 (q : Int)] 3)).trans hb5
      have Hown5 := Lib.hid hown5
      clear hown4 hown5 hb4 hb5 hw4 hs4
      go_wp2_with fail
      go_roundw
      case rel =>
        refine ⟨s, C ++ [q], by omega, rfl, Hown5.out, fun x hx => ?_, by have := HC.out.2; rw [List.length_append]; simp; omega, HV.out, hw5⟩
        rcases List.mem_append.1 hx with hx | hx
        · exact HC.out.1 x hx
        · rw [List.mem_singleton.1 hx]; exact hcn4
      case measure =>
        show (bs (l.take s)).size < S.size
        rw [bs_size, List.length_take, hSs]; omega

end Go.Proofs.YtagcpjokajcdiaaGreatDoor

/-
  Layer 3: numbers with signs: from strings, and to strings.
-/
namespace Go.Proofs.YtagcpjokajcdiaaGreatDoor
open Go.RowKit Bs Ig

theorem hasPrefix45 (l : List UInt8) : Lib.hasPrefix l [45] = (match l with | 45 :: _ => true | _ => false) := by
  cases l with
  | nil => rfl
  | cons c r =>
    show ([45] : List UInt8).isPrefixOf (c :: r) = _
    by_cases h : c = 45
    · subst h; simp [List.isPrefixOf]
    · have : (45 == c) = false := by simp [Ne.symm h]
      simp only [List.isPrefixOf, this, Bool.false_and]
      split
      · rename_i h1; cases h1; exact absurd rfl h
      · rfl
theorem trim45 (l : List UInt8) : Lib.trimPrefix l [45] = body l := by
  unfold Lib.trimPrefix
  rw [hasPrefix45]
  cases l with
  | nil => rfl
  | cons c r =>
    by_cases h : c = 45
    · subst h; rfl
    · have hb : body (c :: r) = c :: r := by
        unfold body
        split
        · rename_i r2 h1; cases h1; exact absurd rfl h
        · rfl
      have hp : (match c :: r with | 45 :: _ => true | _ => false) = false := by
        split
        · rename_i r2 h1; cases h1; exact absurd rfl h
        · rfl
      rw [hp, hb]; rfl
theorem neg45 (z : Int) : Lib.hasPrefix (Lib.itoa z) [45] = decide (z < 0) := by
  rw [hasPrefix45]
  rcases int_cases z with ⟨n, rfl⟩ | ⟨n, hn, rfl⟩
  · rw [itoa_nat, show decide ((n : Int) < 0) = false by simp]
    split
    · rename_i r h; exact absurd h (dec_no45 _ _)
    · rfl
  · rw [itoa_neg _ hn, show decide (-(n : Int) < 0) = true by simp; omega]
    rfl
/-- the number z, as a value -/
def numV (z : Int) (a : Option Addr) (n c : Nat) : Value := .agg #[.bool (decide (z < 0)), .slice a n c]
theorem two_cells (b : Bool) (a : Option Addr) (n c : Nat) : (#[Value.bool b, Value.slice a n c] : Array Value).all (·.oneCell') = true := by simp [Value.oneCell']
theorem below_row {B : Nat} {a w : World} (h : Below B a w) {g : Nat} (hg : B ≤ g) (cs : Array Value) : Below B a (w.setRow g cs) :=
  ⟨h.os, h.tape, h.output, by rw [size_setRow]; exact h.size, fun k hk => (Go.setRow_other w g k cs (by omega)).trans (h.block k hk)⟩
theorem IsZ.setRow {W : World} {a : Option Addr} {n c g : Nat} {l : List Int} (h : IsZ W a n c l) {b0 : Bool} {s : Option Addr} {m d : Nat} {t : TypeId} {f : Nat × Nat} (hg : W.heap[g]? = some (.cells #[.bool b0, .slice s m d] t f)) (cs : Array Value) : IsZ (W.setRow g cs) a n c l := by
  refine ⟨h.len, h.cap, h.max, h.row.imp id (fun ⟨g', off, e, hI⟩ => ⟨g', off, e, fun i hi => ?_⟩)⟩
  have h1 := hI i hi
  have hne : g' ≠ g := by
    intro e
    subst e
    rw [cell_of_row _ _ _ _ _ _ hg] at h1
    rcases (show off + i = 0 ∨ off + i = 1 ∨ 2 ≤ off + i by omega) with h2 | h2 | h2
    · rw [h2] at h1; cases h1
    · rw [h2] at h1; cases h1
    · rw [Array.getElem?_eq_none (by simpa using h2)] at h1; cases h1
  unfold World.cell? at h1 ⊢
  rw [show (W.setRow g cs).heap[({ block := g', off := off + i } : Addr).block]? = W.heap[g']? from Go.setRow_other W g g' cs hne]
  exact h1
theorem big_pow : big = 10000 ^ 50 := by unfold big; rw [show (10000 : Nat) = 10 ^ 4 by decide, ← Nat.pow_mul]

set_option maxRecDepth 100000 in
set_option maxHeartbeats 1000000 in
theorem numberOf_any (z : Int) (hz : z.natAbs < big) (w : World) :
    Calls Tryz.prog 36 #[.string (bs (Lib.itoa z))] w fun e w' => ∃ a n c, e = .returned (numV z a n c) ∧ IsZ w' a n c (zs (G z.natAbs)) ∧ n ≤ 50 ∧ Below w.heap.size w w' := by
  have hc := Tryz.strings_CutPrefix (bs (Lib.itoa z)) ⟨#[45]⟩
  rw [show (bs (Lib.itoa z)).data.toList = Lib.itoa z from rfl, show (ByteArray.mk #[45]).data.toList = [45] from rfl, trim45, neg45, body_itoa] at hc
  have hg := groupsOf_any (Lib.decDigits z.natAbs) (dec_dig _) (Nat.le_trans ((dec_length_le _ 200 (by omega)).2 hz) (by omega))
  rw [num_dec] at hg
  have hn50 : ∀ (W : World) (a : Option Addr) (n c : Nat), IsZ W a n c (zs (G z.natAbs)) → n ≤ 50 := fun W a n c h => h.gle (by rw [← big_pow]; exact hz)
  have HN := Lib.hid hn50
  obtain ⟨b, hb⟩ : ∃ b, decide (z < 0) = b := ⟨_, rfl⟩
  unfold numV
  rw [hb] at hc ⊢
  have hcs : ∀ W, Calls Tryz.prog 56 #[.string (bs (Lib.itoa z)), .string ⟨#[45]⟩] W fun e w' => e = .returned (.tuple #[.string (bs (Lib.decDigits z.natAbs)), .bool b]) ∧ w' = W := hc
  have HC := Lib.hid hcs
  have HG := Lib.hid hg
  generalize bs (Lib.itoa z) = S at *
  generalize bs (Lib.decDigits z.natAbs) = T at *
  clear hc hcs hg hb hn50 hz
  have hb0 : Below w.heap.size w (w.alloc (.cells #[.bool false, .slice none 0 0] 47)) := (Below.refl _ w).alloc (Nat.le_refl _) _
  go_enter Tryz.func36, Tryz.ntmps36
  go_wp2_with (first | (go_at_call 56; refine (HC.out _).mono ?_; rintro e w1 ⟨rfl, rfl⟩) | (go_at_call 57; refine (HG.out _).mono ?_; rintro e w2 ⟨a, n, c, rfl, hz2, hb2⟩; have hrow2 := (hb2.block w.heap.size (by simp)).trans (heap_alloc_new w (.cells #[.bool false, .slice none 0 0] 47))) | (refine wpList_store_row rfl 47 _ _ rfl w.heap.size _ rfl rfl 47 _ hrow2 ?g2 ?g3 ?g4 ?_))
  case g2 => kernel_rfl
  case g3 => rfl
  case g4 => exact two_cells _ _ _ _
  have hB := below_row (hb0.trans (hb2.mono (by simp))) (Nat.le_refl _) #[.bool b, .slice a n c]
  exact bodyPost_ret (results_cell_row rfl _ _ w.heap.size 47 #[.bool b, .slice a n c] _ _ rfl (setRow_heap w2 w.heap.size _ _ _ _ hrow2) Tryz.underlying47 rfl (by kernel_rfl)) rfl ⟨a, n, c, rfl, hz2.setRow hrow2 _, HN.out _ _ _ _ hz2, hB⟩

/-- the string of a number, and the error beside it -/
def txt (z : Int) : List UInt8 := if z.natAbs < big then Lib.itoa z else []
def err (z : Int) : Int := if z.natAbs < big then 0 else 30
set_option maxRecDepth 100000 in
set_option maxHeartbeats 1000000 in
theorem valid_any (z : Int) (a : Option Addr) (n c : Nat) (w : World) (hl : IsZ w a n c (zs (G z.natAbs))) (hn : n ≤ 100000) (ht : TabP w) :
    Calls Tryz.prog 38 #[numV z a n c] w fun e w' => e = .returned (.tuple #[.string (bs (txt z)), .int .i64 (err z)]) ∧ Below w.heap.size w w' := by
  have hb0 : Below w.heap.size w (w.alloc (.cells #[.bool (decide (z < 0)), .slice a n c] 47)) := (Below.refl _ w).alloc (Nat.le_refl _) _
  have hdg := digits_any a n c z.natAbs _ (hl.later hb0) hn (ht.later hb0)
  have hlen := dec_length_le z.natAbs 200 (by omega)
  have hz := int_cases z
  unfold numV
  obtain ⟨b, hb⟩ : ∃ b, decide (z < 0) = b := ⟨_, rfl⟩
  rw [hb] at hdg hb0 ⊢
  obtain ⟨l, hll⟩ : ∃ l, Lib.decDigits z.natAbs = l := ⟨_, rfl⟩
  rw [hll] at hdg hlen
  have HD := Lib.hid hdg
  clear hl ht hdg
  rcases Nat.lt_or_ge z.natAbs big with hbig | hbig
  · have h1 : txt z = Lib.itoa z := if_pos hbig
    have h2 : err z = 0 := if_pos hbig
    have hle : l.length ≤ 200 := hlen.2 hbig
    rw [h1, h2]
    have hsz : (bs l).size = l.length := bs_size l
    have hdl : decide (200 < (l.length : Int)) = false := by simp; omega
    rcases hz with ⟨m, rfl⟩ | ⟨m, hm, rfl⟩
    · have hb' : b = false := by rw [← hb]; simp
      subst hb'
      rw [itoa_nat, show Lib.decDigits m = l by rw [← hll]; simp]
      clear hb hll hlen hbig h1 h2 hle
      go_enter Tryz.func38, Tryz.ntmps38
      go_wp2_with (go_at_call 39; refine HD.out.mono ?_; rintro e w1 ⟨rfl, hb1⟩; have hrow1 := (hb1.block w.heap.size (by simp)).trans (heap_alloc_new w (.cells #[.bool false, .slice a n c] 47)); have hc0 : w1.cell? ⟨w.heap.size, 0, none⟩ = some (.bool false) := (by rw [cell_of_row _ _ _ _ _ _ hrow1]; rfl))
      go_ret2
      exact ⟨rfl, hb0.trans (hb1.mono (by simp))⟩
    · have hb' : b = true := by rw [← hb]; simp; omega
      subst hb'
      rw [itoa_neg _ hm, show Lib.decDigits m = l by rw [← hll]; simp]
      have hnl : ¬ 9223372036854775807 < 1 + l.length := by omega
      clear hb hll hlen hbig h1 h2 hle
      go_enter Tryz.func38, Tryz.ntmps38
      go_wp2_with (go_at_call 39; refine HD.out.mono ?_; rintro e w1 ⟨rfl, hb1⟩; have hrow1 := (hb1.block w.heap.size (by simp)).trans (heap_alloc_new w (.cells #[.bool true, .slice a n c] 47)); have hc0 : w1.cell? ⟨w.heap.size, 0, none⟩ = some (.bool true) := (by rw [cell_of_row _ _ _ _ _ _ hrow1]; rfl))
      go_ret2
      exact ⟨by rw [show bs (45 :: l) = (⟨#[45]⟩ : ByteArray) ++ bs l from (bs_append [45] l).symm]; rfl, hb0.trans (hb1.mono (by simp))⟩
  · have h1 : txt z = [] := if_neg (by omega)
    have h2 : err z = 30 := if_neg (by omega)
    have hle : ¬ l.length ≤ 200 := fun h => by have := hlen.1 h; unfold big at hbig; omega
    rw [h1, h2]
    have hsz : (bs l).size = l.length := bs_size l
    have hdl : decide (200 < (l.length : Int)) = true := by simp; omega
    clear hb hll hlen hbig h1 h2 hle hz
    go_enter Tryz.func38, Tryz.ntmps38
    go_wp2_with (go_at_call 39; refine HD.out.mono ?_; rintro e w1 ⟨rfl, hb1⟩)
    go_ret2
    exact ⟨rfl, hb0.trans (hb1.mono (by simp))⟩

end Go.Proofs.YtagcpjokajcdiaaGreatDoor

/-
  Layer 3: numbers with signs: their order, sums and differences.
-/
namespace Go.Proofs.YtagcpjokajcdiaaGreatDoor
open Go.RowKit Bs Ig

theorem zero_row (w : World) : Below w.heap.size w (w.alloc (.cells #[.bool false, .slice none 0 0] 47)) := (Below.refl _ w).alloc (Nat.le_refl _) _
theorem numV_eq (b : Bool) (m : Nat) (a : Option Addr) (n c : Nat) : numV (if b then -(m : Int) else m) a n c = .agg #[.bool (b && decide (0 < m)), .slice a n c] := by
  unfold numV
  cases b with
  | false => simp
  | true =>
    by_cases h : 0 < m
    · rw [show decide ((if true = true then -(m : Int) else m) < 0) = true by simp; omega, show decide (0 < m) = true by simp; omega]; rfl
    · rw [show decide ((if true = true then -(m : Int) else m) < 0) = false by simp; omega, show decide (0 < m) = false by simp; omega]; rfl
theorem len_pos {W : World} {a : Option Addr} {n c m : Nat} (h : IsZ W a n c (zs (G m))) : (0 < n) ↔ (0 < m) := by
  have := h.glen
  have h2 : (G m).length = 0 ↔ m = 0 := dgs_len0
  omega

set_option maxRecDepth 100000 in
set_option maxHeartbeats 1000000 in
theorem signed_any (b : Bool) (a : Option Addr) (n c m : Nat) (w : World) (hl : IsZ w a n c (zs (G m))) :
    Calls Tryz.prog 51 #[.bool b, .slice a n c] w fun e w' => e = .returned (numV (if b then -(m : Int) else m) a n c) ∧ Below w.heap.size w w' := by
  have hcap := hl.cap
  have hlp := len_pos hl
  rw [numV_eq]
  have hz0 := zero_row w
  have hrow := heap_alloc_new w (.cells #[.bool false, .slice none 0 0] 47)
  cases b with
  | false =>
    rw [Bool.false_and]
    go_enter Tryz.func51, Tryz.ntmps51
    go_wp2_with (refine wpList_store_row rfl 47 _ _ rfl w.heap.size _ rfl rfl 47 _ hrow ?g2 ?g3 ?g4 ?_)
    case g2 => kernel_rfl
    case g3 => rfl
    case g4 => exact two_cells _ _ _ _
    exact bodyPost_ret (results_cell_row rfl _ _ w.heap.size 47 #[.bool false, .slice a n c] _ _ rfl (setRow_heap _ w.heap.size _ _ _ _ hrow) Tryz.underlying47 rfl (by kernel_rfl)) rfl ⟨rfl, below_row hz0 (Nat.le_refl _) _⟩
  | true =>
    rw [Bool.true_and]
    rcases Nat.eq_zero_or_pos n with h | h
    · rw [show decide (0 < m) = false by simp; omega]
      subst h
      go_enter Tryz.func51, Tryz.ntmps51
      go_wp2_with (refine wpList_store_row rfl 47 _ _ rfl w.heap.size _ rfl rfl 47 _ hrow ?g2 ?g3 ?g4 ?_)
      case g2 => kernel_rfl
      case g3 => rfl
      case g4 => exact two_cells _ _ _ _
      exact bodyPost_ret (results_cell_row rfl _ _ w.heap.size 47 #[.bool false, .slice a 0 c] _ _ rfl (setRow_heap _ w.heap.size _ _ _ _ hrow) Tryz.underlying47 rfl (by kernel_rfl)) rfl ⟨rfl, below_row hz0 (Nat.le_refl _) _⟩
    · rw [show decide (0 < m) = true by simp; omega]
      have hd : decide (0 < (n : Int)) = true := by simp; omega
      clear hlp hl
      go_enter Tryz.func51, Tryz.ntmps51
      go_wp2_with (refine wpList_store_row rfl 47 _ _ rfl w.heap.size _ rfl rfl 47 _ hrow ?g2 ?g3 ?g4 ?_)
      case g2 => kernel_rfl
      case g3 => rfl
      case g4 => exact two_cells _ _ _ _
      exact bodyPost_ret (results_cell_row rfl _ _ w.heap.size 47 #[.bool true, .slice a n c] _ _ rfl (setRow_heap _ w.heap.size _ _ _ _ hrow) Tryz.underlying47 rfl (by kernel_rfl)) rfl ⟨rfl, below_row hz0 (Nat.le_refl _) _⟩

/-- -1, 0 or 1 -/
def cmpZ (x y : Int) : Int := if x < y then -1 else if y < x then 1 else 0
/-- two boxes -/
theorem two_boxes (w : World) (bx bz : Bool) (a : Option Addr) (n c : Nat) (b : Option Addr) (k d : Nat) :
    Below w.heap.size w ((w.alloc (.cells #[.bool bx, .slice a n c] 47)).alloc (.cells #[.bool bz, .slice b k d] 47)) := ((Below.refl _ w).alloc (Nat.le_refl _) _).alloc (by simp) _

set_option maxRecDepth 100000 in
set_option maxHeartbeats 1000000 in
theorem ncompare_any (x y : Int) (a : Option Addr) (n c : Nat) (b : Option Addr) (k d : Nat) (w : World) (hl : IsZ w a n c (zs (G x.natAbs))) (hm : IsZ w b k d (zs (G y.natAbs))) (hn : n ≤ 1000000) (hk : k ≤ 1000000) :
    Calls Tryz.prog 49 #[numV x a n c, numV y b k d] w fun e w' => e = .returned (.int .i64 (cmpZ x y)) ∧ Below w.heap.size w w' := by
  have hB := two_boxes w (decide (x < 0)) (decide (y < 0)) a n c b k d
  have hc1 := compare_any a n c b k d x.natAbs y.natAbs _ (hl.later hB) (hm.later hB) hn hk
  have hc2 := compare_any b k d a n c y.natAbs x.natAbs _ (hm.later hB) (hl.later hB) hk hn
  unfold numV
  rcases Int.lt_or_le x 0 with hx | hx <;> rcases Int.lt_or_le y 0 with hy | hy
  · rw [show decide (x < 0) = true by simpa using hx, show decide (y < 0) = true by simpa using hy] at *
    have h1 : cmpZ x y = cmp y.natAbs x.natAbs := by unfold cmpZ cmp; repeat' split
                                                     all_goals omega
    rw [h1]
    have HC := Lib.hid hc2
    clear hl hm hc1 hc2 hx hy h1
    go_enter Tryz.func49, Tryz.ntmps49
    go_wp2_with (go_at_call 53; refine HC.out.mono ?_; rintro e w1 ⟨rfl, hb1⟩)
    go_ret
    exact ⟨rfl, hB.trans (hb1.mono (by simp; omega))⟩
  · rw [show decide (x < 0) = true by simpa using hx, show decide (y < 0) = false by simpa using hy] at *
    have h1 : cmpZ x y = -1 := if_pos (by omega)
    rw [h1]
    clear hl hm hc1 hc2 hx hy h1
    go_enter Tryz.func49, Tryz.ntmps49
    go_wp2_with fail
    go_ret
    exact ⟨rfl, hB⟩
  · rw [show decide (x < 0) = false by simpa using hx, show decide (y < 0) = true by simpa using hy] at *
    have h1 : cmpZ x y = 1 := by unfold cmpZ; rw [if_neg (by omega), if_pos (by omega)]
    rw [h1]
    clear hl hm hc1 hc2 hx hy h1
    go_enter Tryz.func49, Tryz.ntmps49
    go_wp2_with fail
    go_ret
    exact ⟨rfl, hB⟩
  · rw [show decide (x < 0) = false by simpa using hx, show decide (y < 0) = false by simpa using hy] at *
    have h1 : cmpZ x y = cmp x.natAbs y.natAbs := by unfold cmpZ cmp; repeat' split
                                                     all_goals omega
    rw [h1]
    have HC := Lib.hid hc1
    clear hl hm hc1 hc2 hx hy h1
    go_enter Tryz.func49, Tryz.ntmps49
    go_wp2_with (go_at_call 53; refine HC.out.mono ?_; rintro e w1 ⟨rfl, hb1⟩)
    go_ret
    exact ⟨rfl, hB.trans (hb1.mono (by simp; omega))⟩

end Go.Proofs.YtagcpjokajcdiaaGreatDoor

/-
  Layer 3: sums of numbers with signs.
-/
namespace Go.Proofs.YtagcpjokajcdiaaGreatDoor
open Go.RowKit Bs Ig

/-- the boxes of two numbers, and a cell for the result -/
structure Bx (w W : World) (bx : Bool) (a : Option Addr) (n c : Nat) (bz : Bool) (b : Option Addr) (k d : Nat) : Prop where
  below : Below w.heap.size w W
  r0 : W.heap[w.heap.size]? = some (.cells #[.bool bx, .slice a n c] 47 (0, 0))
  r1 : W.heap[w.heap.size + 1]? = some (.cells #[.bool bz, .slice b k d] 47 (0, 0))
  r2 : ∃ b0 s m e, W.heap[w.heap.size + 1 + 1]? = some (.cells #[.bool b0, .slice s m e] 47 (0, 0))
theorem Bx.start (w : World) (bx : Bool) (a : Option Addr) (n c : Nat) (bz : Bool) (b : Option Addr) (k d : Nat) :
    Bx w (((w.alloc (.cells #[.bool bx, .slice a n c] 47)).alloc (.cells #[.bool bz, .slice b k d] 47)).alloc (.cells #[.bool false, .slice none 0 0] 47)) bx a n c bz b k d := by
  refine ⟨(((Below.refl _ w).alloc (Nat.le_refl _) _).alloc (by simp) _).alloc (by simp; omega) _, ?_, ?_, ?_⟩
  · exact (heap_alloc_old _ _ (by simp; omega)).trans ((heap_alloc_old _ _ (by simp)).trans (heap_alloc_new _ _))
  · have := heap_alloc_new (w.alloc (.cells #[.bool bx, .slice a n c] 47)) (.cells #[.bool bz, .slice b k d] 47)
    simp only [World.size_alloc] at this
    exact (heap_alloc_old _ _ (by simp)).trans this
  · have := heap_alloc_new ((w.alloc (.cells #[.bool bx, .slice a n c] 47)).alloc (.cells #[.bool bz, .slice b k d] 47)) (.cells #[.bool false, .slice none 0 0] 47)
    simp only [World.size_alloc] at this
    exact ⟨_, _, _, _, this⟩
theorem Bx.later {w W W' : World} {bx bz : Bool} {a b : Option Addr} {n c k d : Nat} (h : Bx w W bx a n c bz b k d) (hb : Below W.heap.size W W') : Bx w W' bx a n c bz b k d := by
  obtain ⟨b0, s, m, e, h2⟩ := h.r2
  exact ⟨below_on h.below hb h.below.size, (hb.block _ (Array.getElem?_eq_some_iff.1 h.r0).1).trans h.r0, (hb.block _ (Array.getElem?_eq_some_iff.1 h.r1).1).trans h.r1, b0, s, m, e, (hb.block _ (Array.getElem?_eq_some_iff.1 h2).1).trans h2⟩
theorem Bx.c00 {w W : World} {bx bz : Bool} {a b : Option Addr} {n c k d : Nat} (h : Bx w W bx a n c bz b k d) : W.cell? ⟨w.heap.size, 0, none⟩ = some (.bool bx) := by rw [cell_of_row _ _ 0 _ _ _ h.r0]; rfl
theorem Bx.c01 {w W : World} {bx bz : Bool} {a b : Option Addr} {n c k d : Nat} (h : Bx w W bx a n c bz b k d) : W.cell? ⟨w.heap.size, 1, none⟩ = some (.slice a n c) := by rw [cell_of_row _ _ 1 _ _ _ h.r0]; rfl
theorem Bx.c10 {w W : World} {bx bz : Bool} {a b : Option Addr} {n c k d : Nat} (h : Bx w W bx a n c bz b k d) : W.cell? ⟨w.heap.size + 1, 0, none⟩ = some (.bool bz) := by rw [cell_of_row _ _ 0 _ _ _ h.r1]; rfl
theorem Bx.c11 {w W : World} {bx bz : Bool} {a b : Option Addr} {n c k d : Nat} (h : Bx w W bx a n c bz b k d) : W.cell? ⟨w.heap.size + 1, 1, none⟩ = some (.slice b k d) := by rw [cell_of_row _ _ 1 _ _ _ h.r1]; rfl
theorem far2 {W : World} {g : Nat} {v v' : Value} {p : Addr} {u : Option Value} (h : g ≠ p.block) (hu : W.cell? p = u) : ((W.setCell ⟨g, 0, none⟩ v).setCell ⟨g, 1, none⟩ v').cell? p = u := by
  rw [World.cell?_setCell_far _ _ _ _ h, World.cell?_setCell_far _ _ _ _ h]; exact hu
theorem ne0 (s : Nat) : s + 1 + 1 ≠ s := by omega
theorem ne1 (s : Nat) : s + 1 + 1 ≠ s + 1 := by omega
/-- what is stored as the result -/
theorem two_sets {W : World} {g : Nat} {b0 : Bool} {s : Option Addr} {m e : Nat} (h : W.heap[g]? = some (.cells #[.bool b0, .slice s m e] 47 (0, 0))) (b : Bool) (a : Option Addr) (n c : Nat) :
    ((W.setCell ⟨g, 0, none⟩ (.bool b)).setCell ⟨g, 1, none⟩ (.slice a n c)).heap[g]? = some (.cells #[.bool b, .slice a n c] 47 (0, 0)) := by
  have h1 := heap_setCell_same W g 0 _ _ (.bool b) h
  have h2 := heap_setCell_same _ g 1 _ _ (.slice a n c) h1
  exact h2
theorem IsZ.two {W : World} {g : Nat} {b0 : Bool} {s : Option Addr} {m e : Nat} (h : W.heap[g]? = some (.cells #[.bool b0, .slice s m e] 47 (0, 0))) (b : Bool) (a' : Option Addr) (n' c' : Nat) {a : Option Addr} {n c : Nat} {l : List Int} (hz : IsZ W a n c l) :
    IsZ ((W.setCell ⟨g, 0, none⟩ (.bool b)).setCell ⟨g, 1, none⟩ (.slice a' n' c')) a n c l := by
  refine ⟨hz.len, hz.cap, hz.max, hz.row.imp id (fun ⟨g', off, e, hI⟩ => ⟨g', off, e, fun i hi => ?_⟩)⟩
  have h1 := hI i hi
  have hne : g ≠ g' := by
    intro e
    subst e
    rw [cell_of_row _ _ _ _ _ _ h] at h1
    rcases (show off + i = 0 ∨ off + i = 1 ∨ 2 ≤ off + i by omega) with h2 | h2 | h2
    · rw [h2] at h1; cases h1
    · rw [h2] at h1; cases h1
    · rw [Array.getElem?_eq_none (by simpa using h2)] at h1; cases h1
  rw [World.cell?_setCell_far _ _ _ _ hne, World.cell?_setCell_far _ _ _ _ hne]
  exact h1
theorem same_sign (x y : Int) (h : decide (x < 0) = decide (y < 0)) : x + y = if decide (x < 0) = true then -((x.natAbs + y.natAbs : Nat) : Int) else ((x.natAbs + y.natAbs : Nat) : Int) := by
  by_cases hx : x < 0
  · have hy : y < 0 := by simpa [hx] using h.symm
    rw [if_pos (by simpa using hx)]; omega
  · have hy : ¬ y < 0 := by intro h2; simp [hx, h2] at h
    rw [if_neg (by simpa using hx)]; omega

theorem diff_sign_a (x y : Int) (h : ¬ decide (x < 0) = decide (y < 0)) (hxy : x.natAbs ≥ y.natAbs) : x + y = if decide (x < 0) = true then -((x.natAbs - y.natAbs : Nat) : Int) else ((x.natAbs - y.natAbs : Nat) : Int) := by
  by_cases hx : x < 0
  · have hy : ¬ y < 0 := by intro h2; simp [hx, h2] at h
    rw [if_pos (by simpa using hx)]; omega
  · have hy : y < 0 := by
      by_cases h2 : y < 0
      · exact h2
      · simp [hx, h2] at h
    rw [if_neg (by simpa using hx)]; omega
theorem diff_sign_b (x y : Int) (h : ¬ decide (x < 0) = decide (y < 0)) (hxy : x.natAbs < y.natAbs) : x + y = if decide (y < 0) = true then -((y.natAbs - x.natAbs : Nat) : Int) else ((y.natAbs - x.natAbs : Nat) : Int) := by
  rw [Int.add_comm]
  exact diff_sign_a y x (fun e => h e.symm) (by omega)

set_option maxRecDepth 100000 in
set_option maxHeartbeats 2000000 in
theorem nplus_any (x y : Int) (a : Option Addr) (n c : Nat) (b : Option Addr) (k d : Nat) (w : World) (hl : IsZ w a n c (zs (G x.natAbs))) (hm : IsZ w b k d (zs (G y.natAbs))) (hn : n ≤ 400) (hk : k ≤ 400) :
    Calls Tryz.prog 29 #[numV x a n c, numV y b k d] w fun e w' => ∃ a1 n1 c1, e = .returned (numV (x + y) a1 n1 c1) ∧ IsZ w' a1 n1 c1 (zs (G (x + y).natAbs)) ∧ Below w.heap.size w w' := by
  have hst := Bx.start w (decide (x < 0)) a n c (decide (y < 0)) b k d
  unfold numV
  rcases Decidable.em (decide (x < 0) = decide (y < 0)) with hs | hs
  · have hsum := same_sign x y hs
    obtain ⟨bx, hbx⟩ : ∃ bx, decide (x < 0) = bx := ⟨_, rfl⟩
    rw [← hs] at hst ⊢
    rw [hbx] at hst hsum ⊢
    obtain ⟨m, hm'⟩ : ∃ m, x.natAbs + y.natAbs = m := ⟨_, rfl⟩
    rw [hm'] at hsum
    have hab : (x + y).natAbs = m := by rw [hsum]; split <;> simp
    obtain ⟨bb, hbb⟩ : ∃ bb, (bx && decide (0 < m)) = bb := ⟨_, rfl⟩
    have hnv : ∀ a n c, numV (x + y) a n c = .agg #[.bool bb, .slice a n c] := fun a n c => by rw [hsum, numV_eq, hbb]
    have HS := Lib.hid (fun (W : World) (a : Option Addr) (n c : Nat) (h : IsZ W a n c (zs (G m))) => (show Calls Tryz.prog 51 #[.bool bx, .slice a n c] W (fun e w' => e = .returned (.agg #[.bool bb, .slice a n c]) ∧ Below W.heap.size W w') from (signed_any bx a n c m W h).mono (fun e w' h2 => by rw [numV_eq, hbb] at h2; exact h2)))
    have HR := Lib.hid (And.intro hnv hab)
    have HP := Lib.hid (fun (W : World) (hb : Bx w W bx a n c bx b k d) => plus_any a n c (G x.natAbs) b k d (G y.natAbs) x.natAbs y.natAbs W (hl.later hb.below) (hm.later hb.below) (G_lt _) (G_lt _) (V_G _) (V_G _) (by omega) (by omega))
    rw [hm'] at HP
    clear hl hm hs hbx hm' hsum hab hnv hbb
    go_enter Tryz.func29, Tryz.ntmps29
    go_wp2_with fail
    refine wp_world fun W hW => ?_
    rw [← hW] at hst
    have hd := hst.later (Below.refl _ W).drew
    have c0 := hst.c00
    have c1 := hst.c01
    have c2 := hst.c11
    clear hW
    go_region_held3 (fun w' => w'.cell? ⟨w.heap.size, 0, none⟩ = some (.bool bx) ∧ w'.cell? ⟨w.heap.size, 1, none⟩ = some (.slice a n c) ∧ w'.cell? ⟨w.heap.size + 1, 1, none⟩ = some (.slice b k d)) (first | exact ⟨far2 (ne0 _) k60, far2 (ne0 _) k61, far2 (ne1 _) k62⟩ | go_keep)
      (first
        | (go_at_call 52; (with_reducible refine (HP.out _ hd).mono ?_); rintro e w5 ⟨a5, n5, c5, rfl, z5, B5⟩; have x5 := hd.later B5; have k50 := x5.c00; have k51 := x5.c01; have k52 := x5.c11)
        | (go_at_call 51; (with_reducible refine (HS.out _ _ _ _ z5).mono ?_); rintro e w6 ⟨rfl, B6⟩; have x6 := x5.later B6; have k60 := x6.c00; have k61 := x6.c01; have k62 := x6.c11; have z6 := z5.later B6; obtain ⟨b0, s0, m0, e0, r6⟩ := x6.r2; have q0 : w6.cell? ⟨w.heap.size + 1 + 1, 0, none⟩ = some (.bool b0) := (by rw [cell_of_row _ _ 0 _ _ _ r6]; rfl); have q1 : w6.cell? ⟨w.heap.size + 1 + 1, 1, none⟩ = some (.slice s0 m0 e0) := (by rw [cell_of_row _ _ 1 _ _ _ r6]; rfl); have f0 : w6.frozen? ⟨w.heap.size + 1 + 1, 0, none⟩ = false := frozen_of_row _ _ 0 _ _ r6; have f1 : w6.frozen? ⟨w.heap.size + 1 + 1, 1, none⟩ = false := frozen_of_row _ _ 1 _ _ r6))
    have hfin := two_sets r6 bb (some a5) n5 c5
    have hz := IsZ.two r6 bb (some a5) n5 c5 z6
    have hB := (x6.below.setCell (p := ⟨w.heap.size + 1 + 1, 0, none⟩) (by show w.heap.size ≤ w.heap.size + 1 + 1; omega) (.bool bb)).setCell (p := ⟨w.heap.size + 1 + 1, 1, none⟩) (by show w.heap.size ≤ w.heap.size + 1 + 1; omega) (.slice (some a5) n5 c5)
    go_wp2_with fail
    exact bodyPost_ret (results_cell_row rfl _ _ (w.heap.size + 1 + 1) 47 #[.bool bb, .slice (some a5) n5 c5] _ _ rfl hfin Tryz.underlying47 rfl (by kernel_rfl)) rfl ⟨some a5, n5, c5, congrArg Ending.returned (HR.out.1 _ _ _).symm, by rw [HR.out.2]; exact hz, hB⟩
  · -- DIFFER
    obtain ⟨bx, hbx⟩ : ∃ bx, decide (x < 0) = bx := ⟨_, rfl⟩
    obtain ⟨bz, hbz⟩ : ∃ bz, decide (y < 0) = bz := ⟨_, rfl⟩
    have hc := compare_any a n c b k d x.natAbs y.natAbs _ (hl.later hst.below) (hm.later hst.below) (by omega) (by omega)
    rw [hbx, hbz] at hst hc ⊢
    have hne : (bx == bz) = false := by rw [← hbx, ← hbz]; simpa using hs
    have HB := Lib.hid hst
    rcases Nat.lt_or_ge x.natAbs y.natAbs with hxy | hxy
    · rw [cmp_lt hxy] at hc
      have HC := Lib.hid hc
      obtain ⟨m, hm'⟩ : ∃ m, y.natAbs - x.natAbs = m := ⟨_, rfl⟩
      obtain ⟨bb, hbb⟩ : ∃ bb, (bz && decide (0 < m)) = bb := ⟨_, rfl⟩
      have hsum : x + y = if bz = true then -(m : Int) else (m : Int) := by rw [← hbz, ← hm']; exact diff_sign_b x y hs hxy
      have hab : (x + y).natAbs = m := by rw [hsum]; split <;> simp
      have hnv : ∀ a n c, numV (x + y) a n c = .agg #[.bool bb, .slice a n c] := fun a n c => by rw [hsum, numV_eq, hbb]
      have HS := Lib.hid (fun (W : World) (a : Option Addr) (n c : Nat) (h : IsZ W a n c (zs (G m))) => (show Calls Tryz.prog 51 #[.bool bz, .slice a n c] W (fun e w' => e = .returned (.agg #[.bool bb, .slice a n c]) ∧ Below W.heap.size W w') from (signed_any bz a n c m W h).mono (fun e w' h2 => by rw [numV_eq, hbb] at h2; exact h2)))
      have HR := Lib.hid (And.intro hnv hab)
      have HP := Lib.hid (fun (W : World) (hb : Bx w W bz b k d bx a n c) => minus_any b k d (G y.natAbs) a n c (G x.natAbs) y.natAbs x.natAbs W (hm.later hb.below) (hl.later hb.below) (G_lt _) (G_lt _) (V_G _) (V_G _) (by omega) (by rw [← hl.glen, ← hm.glen]; exact dgs_length_mono (by omega)) (by omega))
      rw [hm'] at HP
      clear hl hm hs hbx hbz hm' hsum hab hnv hbb hc hst hxy
      go_enter Tryz.func29, Tryz.ntmps29
      go_wp2_with (first
        | (go_at_call 53; (with_reducible refine HC.out.mono ?_); rintro e w1 ⟨rfl, hb1⟩; have hst := HB.out.later hb1; obtain ⟨t0, t1, t2, t3, hr2⟩ := hst.r2; have hr0 := hst.r0; have hr1 := hst.r1; have hr1' : (w1.setRow w.heap.size #[.bool bz, .slice b k d]).heap[w.heap.size + 1]? = some (.cells #[.bool bz, .slice b k d] 47 (0, 0)) := (Go.setRow_other w1 w.heap.size _ _ (by omega)).trans hr1)
        | (refine wpList_load_row rfl 47 _ rfl (w.heap.size + 1) rfl 47 _ _ _ hr1 Tryz.underlying47 rfl ?l1 ?_)
        | (refine wpList_load_row rfl 47 _ rfl w.heap.size rfl 47 _ _ _ hr0 Tryz.underlying47 rfl ?l2 ?_)
        | (refine wpList_store_row rfl 47 _ _ rfl w.heap.size _ rfl rfl 47 _ hr0 ?s1 ?s2 ?s3 ?_)
        | (refine wpList_store_row rfl 47 _ _ rfl (w.heap.size + 1) _ rfl rfl 47 _ hr1' ?s4 ?s5 ?s6 ?_))
      case l1 => kernel_rfl
      case l2 => kernel_rfl
      case s1 => kernel_rfl
      case s2 => rfl
      case s3 => exact two_cells _ _ _ _
      case s4 => kernel_rfl
      case s5 => rfl
      case s6 => exact two_cells _ _ _ _
      refine wp_world fun W hW => ?_
      have hst : Bx w W bz b k d bx a n c := by
        rw [hW]
        refine ⟨below_row (below_row hst.below (Nat.le_refl _) _) (by omega) _, ?_, ?_, t0, t1, t2, t3, ?_⟩
        · exact (Go.setRow_other _ _ _ _ (by omega)).trans (setRow_heap w1 w.heap.size _ _ _ _ hr0)
        · exact setRow_heap _ (w.heap.size + 1) _ _ _ _ hr1'
        · exact (Go.setRow_other _ _ _ _ (by omega)).trans ((Go.setRow_other _ _ _ _ (by omega)).trans hr2)
      clear hW hr0 hr1 hr1' hr2 hb1
      have hd := hst.later (Below.refl _ W).drew
      have c0 := hst.c00
      have c1 := hst.c01
      have c2 := hst.c11
      go_region_held3 (fun w' => w'.cell? ⟨w.heap.size, 0, none⟩ = some (.bool bz) ∧ w'.cell? ⟨w.heap.size, 1, none⟩ = some (.slice b k d) ∧ w'.cell? ⟨w.heap.size + 1, 1, none⟩ = some (.slice a n c)) (first | exact ⟨far2 (ne0 _) k60, far2 (ne0 _) k61, far2 (ne1 _) k62⟩ | go_keep)
        (first
          | (go_at_call 54; (with_reducible refine (HP.out _ hd).mono ?_); rintro e w5 ⟨a5, n5, c5, rfl, z5, B5⟩; have x5 := hd.later B5; have k50 := x5.c00; have k51 := x5.c01; have k52 := x5.c11)
          | (go_at_call 51; (with_reducible refine (HS.out _ _ _ _ z5).mono ?_); rintro e w6 ⟨rfl, B6⟩; have x6 := x5.later B6; have k60 := x6.c00; have k61 := x6.c01; have k62 := x6.c11; have z6 := z5.later B6; obtain ⟨b0, s0, m0, e0, r6⟩ := x6.r2; have q0 : w6.cell? ⟨w.heap.size + 1 + 1, 0, none⟩ = some (.bool b0) := (by rw [cell_of_row _ _ 0 _ _ _ r6]; rfl); have q1 : w6.cell? ⟨w.heap.size + 1 + 1, 1, none⟩ = some (.slice s0 m0 e0) := (by rw [cell_of_row _ _ 1 _ _ _ r6]; rfl); have f0 : w6.frozen? ⟨w.heap.size + 1 + 1, 0, none⟩ = false := frozen_of_row _ _ 0 _ _ r6; have f1 : w6.frozen? ⟨w.heap.size + 1 + 1, 1, none⟩ = false := frozen_of_row _ _ 1 _ _ r6))
      have hfin := two_sets r6 bb (some a5) n5 c5
      have hz := IsZ.two r6 bb (some a5) n5 c5 z6
      have hB := (x6.below.setCell (p := ⟨w.heap.size + 1 + 1, 0, none⟩) (by show w.heap.size ≤ w.heap.size + 1 + 1; omega) (.bool bb)).setCell (p := ⟨w.heap.size + 1 + 1, 1, none⟩) (by show w.heap.size ≤ w.heap.size + 1 + 1; omega) (.slice (some a5) n5 c5)
      go_wp2_with fail
      exact bodyPost_ret (results_cell_row rfl _ _ (w.heap.size + 1 + 1) 47 #[.bool bb, .slice (some a5) n5 c5] _ _ rfl hfin Tryz.underlying47 rfl (by kernel_rfl)) rfl ⟨some a5, n5, c5, congrArg Ending.returned (HR.out.1 _ _ _).symm, by rw [HR.out.2]; exact hz, hB⟩
    · have hcg : decide (cmp x.natAbs y.natAbs < 0) = false := by unfold cmp; rw [if_neg (by omega)]; split <;> simp
      obtain ⟨u, hu⟩ : ∃ u, cmp x.natAbs y.natAbs = u := ⟨_, rfl⟩
      rw [hu] at hc hcg
      have HC := Lib.hid hc
      obtain ⟨m, hm'⟩ : ∃ m, x.natAbs - y.natAbs = m := ⟨_, rfl⟩
      obtain ⟨bb, hbb⟩ : ∃ bb, (bx && decide (0 < m)) = bb := ⟨_, rfl⟩
      have hsum : x + y = if bx = true then -(m : Int) else (m : Int) := by rw [← hbx, ← hm']; exact diff_sign_a x y hs hxy
      have hab : (x + y).natAbs = m := by rw [hsum]; split <;> simp
      have hnv : ∀ a n c, numV (x + y) a n c = .agg #[.bool bb, .slice a n c] := fun a n c => by rw [hsum, numV_eq, hbb]
      have HS := Lib.hid (fun (W : World) (a : Option Addr) (n c : Nat) (h : IsZ W a n c (zs (G m))) => (show Calls Tryz.prog 51 #[.bool bx, .slice a n c] W (fun e w' => e = .returned (.agg #[.bool bb, .slice a n c]) ∧ Below W.heap.size W w') from (signed_any bx a n c m W h).mono (fun e w' h2 => by rw [numV_eq, hbb] at h2; exact h2)))
      have HR := Lib.hid (And.intro hnv hab)
      have HP := Lib.hid (fun (W : World) (hb : Bx w W bx a n c bz b k d) => minus_any a n c (G x.natAbs) b k d (G y.natAbs) x.natAbs y.natAbs W (hl.later hb.below) (hm.later hb.below) (G_lt _) (G_lt _) (V_G _) (V_G _) (by omega) (by rw [← hm.glen, ← hl.glen]; exact dgs_length_mono (by omega)) (by omega))
      rw [hm'] at HP
      clear hl hm hs hbx hbz hm' hsum hab hnv hbb hc hst hxy hu
      go_enter Tryz.func29, Tryz.ntmps29
      go_wp2_with (go_at_call 53; (with_reducible refine HC.out.mono ?_); rintro e W ⟨rfl, hb1⟩)
      have hst := HB.out.later hb1
      clear hb1
      have hd := hst.later (Below.refl _ W).drew
      have c0 := hst.c00
      have c1 := hst.c01
      have c2 := hst.c11
      go_region_held3 (fun w' => w'.cell? ⟨w.heap.size, 0, none⟩ = some (.bool bx) ∧ w'.cell? ⟨w.heap.size, 1, none⟩ = some (.slice a n c) ∧ w'.cell? ⟨w.heap.size + 1, 1, none⟩ = some (.slice b k d)) (first | exact ⟨far2 (ne0 _) k60, far2 (ne0 _) k61, far2 (ne1 _) k62⟩ | go_keep)
        (first
          | (go_at_call 54; (with_reducible refine (HP.out _ hd).mono ?_); rintro e w5 ⟨a5, n5, c5, rfl, z5, B5⟩; have x5 := hd.later B5; have k50 := x5.c00; have k51 := x5.c01; have k52 := x5.c11)
          | (go_at_call 51; (with_reducible refine (HS.out _ _ _ _ z5).mono ?_); rintro e w6 ⟨rfl, B6⟩; have x6 := x5.later B6; have k60 := x6.c00; have k61 := x6.c01; have k62 := x6.c11; have z6 := z5.later B6; obtain ⟨b0, s0, m0, e0, r6⟩ := x6.r2; have q0 : w6.cell? ⟨w.heap.size + 1 + 1, 0, none⟩ = some (.bool b0) := (by rw [cell_of_row _ _ 0 _ _ _ r6]; rfl); have q1 : w6.cell? ⟨w.heap.size + 1 + 1, 1, none⟩ = some (.slice s0 m0 e0) := (by rw [cell_of_row _ _ 1 _ _ _ r6]; rfl); have f0 : w6.frozen? ⟨w.heap.size + 1 + 1, 0, none⟩ = false := frozen_of_row _ _ 0 _ _ r6; have f1 : w6.frozen? ⟨w.heap.size + 1 + 1, 1, none⟩ = false := frozen_of_row _ _ 1 _ _ r6))
      have hfin := two_sets r6 bb (some a5) n5 c5
      have hz := IsZ.two r6 bb (some a5) n5 c5 z6
      have hB := (x6.below.setCell (p := ⟨w.heap.size + 1 + 1, 0, none⟩) (by show w.heap.size ≤ w.heap.size + 1 + 1; omega) (.bool bb)).setCell (p := ⟨w.heap.size + 1 + 1, 1, none⟩) (by show w.heap.size ≤ w.heap.size + 1 + 1; omega) (.slice (some a5) n5 c5)
      go_wp2_with fail
      exact bodyPost_ret (results_cell_row rfl _ _ (w.heap.size + 1 + 1) 47 #[.bool bb, .slice (some a5) n5 c5] _ _ rfl hfin Tryz.underlying47 rfl (by kernel_rfl)) rfl ⟨some a5, n5, c5, congrArg Ending.returned (HR.out.1 _ _ _).symm, by rw [HR.out.2]; exact hz, hB⟩

end Go.Proofs.YtagcpjokajcdiaaGreatDoor
