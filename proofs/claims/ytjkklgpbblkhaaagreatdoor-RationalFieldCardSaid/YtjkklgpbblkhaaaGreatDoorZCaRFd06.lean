/-
  Put together by program out of these texts, in this order: Igr, Igg, Ign, Igs, Qbu.
-/
import Derived.Test.YtjkklgpbblkhaaaGreatDoorZCaRFd05
import Derived.Test.YtjkklgpbblkhaaaGreatDoorZCaRFd04
import Derived.Lib.AtoiErrMem
import Derived.Laws.ResultCell
import Derived.Laws.EntriesVeiled

/-
  Layer 3: roots of numbers in groups.
-/
namespace Go.Proofs.YtjkklgpbblkhaaaGreatDoor
open Go.RowKit Bs Ig

theorem IsZ.unique {W : World} {a : Option Addr} {n c : Nat} {l l' : List Int} (h : IsZ W a n c l) (h' : IsZ W a n c l') : l = l' := by
  refine List.ext_getElem? fun i => ?_
  rcases Nat.lt_or_ge i n with hi | hi
  · obtain ⟨g, off, e, hI⟩ := h.at (by omega)
    obtain ⟨g', off', e', hI'⟩ := h'.at (by omega)
    rw [e] at e'
    cases e'
    have h1 := hI i (by rw [h.len]; exact hi)
    have h2 := hI' i (by rw [h'.len]; exact hi)
    rw [h1] at h2
    rw [List.getD_eq_getElem?_getD, List.getD_eq_getElem?_getD] at h2
    rw [List.getElem?_eq_getElem (by rw [h.len]; exact hi), List.getElem?_eq_getElem (by rw [h'.len]; exact hi)] at h2 ⊢
    simp only [Option.getD_some] at h2
    injection h2 with h2
    injection h2 with _ h2
    rw [h2]
  · rw [List.getElem?_eq_none (by rw [h.len]; exact hi), List.getElem?_eq_none (by rw [h'.len]; exact hi)]
theorem zs_inj {l m : List Nat} (h : zs l = zs m) : l = m := by
  unfold zs at h
  exact (List.map_inj_right (fun _ _ h => Int.ofNat.inj h)).1 h
theorem G_inj {x y : Nat} (h : G x = G y) : x = y := dgs_inj h
/-- the number that a slice holds -/
theorem numOf : ∃ M : Value → World → Nat, ∀ (a : Option Addr) (n c x : Nat) (W : World), IsZ W a n c (zs (G x)) → M (.slice a n c) W = x := by
  refine ⟨fun v W => Classical.epsilon (fun x => ∃ a n c, v = .slice a n c ∧ IsZ W a n c (zs (G x))), fun a n c x W h => ?_⟩
  obtain ⟨a', n', c', e, h'⟩ := Classical.epsilon_spec (p := fun y => ∃ a' n' c', Value.slice a n c = .slice a' n' c' ∧ IsZ W a' n' c' (zs (G y))) ⟨x, a, n, c, rfl, h⟩
  cases e
  exact G_inj (zs_inj (h'.unique h))
theorem mkOwnN (w : World) (t : TypeId) (ht : Tryz.prog.underlying t = some (.slice 3)) (m : Nat) (hm : m ≤ 2000000) :
    ∃ w', (Instr.makeSlice t (.int .i64 (m : Int)) (.int .i64 (m : Int))).run Tryz.prog w = .ok (.slice (some ⟨w.heap.size, 0, none⟩) m m) w' ∧ Bs.Own w' w.heap.size 3 .i64 (.slice (some ⟨w.heap.size, 0, none⟩) m m) (List.replicate m 0) ∧ Below w.heap.size w w' ∧ w'.heap.size = w.heap.size + 1 := by
  obtain ⟨i0, hi, hz0, hz1, hz2⟩ := info_parts infoInt
  have hmx : m ≤ maxLen := by unfold maxLen; omega
  refine ⟨_, run_make w t 3 i0 (.int .i64 0) ht hi hz0 .i64 .i64 m m (by omega) (by omega) (by rw [hz2]; omega) (by omega), ?_, (Below.refl _ w).alloc (Nat.le_refl _) _, by simp⟩
  simp only [Int.toNat_natCast]
  refine ⟨?_⟩
  rw [List.length_replicate]
  refine ⟨by simp [iv], .inr ⟨w.heap.size, m, _, rfl, Nat.le_refl _, heap_alloc_new _ _, Nat.le_refl _, hmx, by rw [size_madeCells, hz1], ?_⟩⟩
  rw [hz1, Nat.mul_one]
  apply List.ext_getElem?
  intro i
  simp only [madeCells, iv, List.map_replicate, List.getElem?_take, List.getElem?_replicate]
  split
  · simp [Value.cells, Nat.mod_one, *]
  · rfl
theorem G_pow (p : Nat) : G (10000 ^ p) = List.replicate p 0 ++ [1] := by
  have hv : V (List.replicate p 0 ++ [1]) = 10000 ^ p := by
    show val 10000 _ = _
    rw [val_append, List.length_replicate]
    have : val 10000 (List.replicate p 0) = 0 := by
      induction p with
      | zero => rfl
      | succ p ih => rw [List.replicate_succ]; show 0 + 10000 * val 10000 _ = 0; rw [ih]
    rw [this]; simp [val]
  rw [← hv]
  refine dgs_val 9998 _ (fun x hx => ?_) (by simp)
  rcases List.mem_append.1 hx with hx | hx
  · rw [(List.mem_replicate.1 hx).2]; omega
  · rw [List.mem_singleton.1 hx]; omega
theorem G_small (z : Nat) (h0 : 0 < z) (h : z < 10000) : G z = [z] := by
  show dgs 9998 z = [z]
  rw [dgs_pos 9998 h0, show z % (9998 + 2) = z from Nat.mod_eq_of_lt h, show z / (9998 + 2) = 0 from Nat.div_eq_of_lt h, dgs_zero]
theorem IsZ.glen {W : World} {a : Option Addr} {n c x : Nat} (h : IsZ W a n c (zs (G x))) : (G x).length = n := by rw [← zs_length]; exact h.len
theorem IsZ.glt {W : World} {a : Option Addr} {n c x : Nat} (h : IsZ W a n c (zs (G x))) : x < 10000 ^ n := lt_pow_G h.glen
theorem IsZ.gle {W : World} {a : Option Addr} {n c x m : Nat} (h : IsZ W a n c (zs (G x))) (hx : x < 10000 ^ m) : n ≤ m := by rw [← h.glen]; exact G_len_le x m hx

end Go.Proofs.YtjkklgpbblkhaaaGreatDoor

/-
  Layer 3: the groups of a string of digits.
-/
namespace Go.Proofs.YtjkklgpbblkhaaaGreatDoor
open Go.RowKit Bs Ig

theorem atoi_any (l : List UInt8) (hd : ∀ c ∈ l, isDig c) (h0 : l ≠ []) (hl : l.length ≤ 4) (w : World) :
    Calls Tryz.prog 125 #[.string (bs l)] w fun e w' => e = .returned (.tuple #[.int .i64 (num l : Nat), .nilIface]) ∧ Below w.heap.size w w' := by
  have hn := num_lt l hd
  have h4 : 10 ^ l.length ≤ 10 ^ 4 := Nat.pow_le_pow_right (by omega) hl
  have h := Tryz.strconv_Atoi_ok (bs l) (by rw [bs_size]; omega) (num l : Nat) (atoi_small l hd h0 (by omega)) w
  refine h.mono ?_
  rintro e w' ⟨rfl, hw⟩
  refine ⟨rfl, ?_⟩
  rcases hw with rfl | ⟨t, rfl⟩
  · exact Below.refl _ _
  · exact Lib.bytesWorld_below _ _ _
theorem own_slice {W : World} {base : Nat} {t : TypeId} {k : IntKind} {v : Value} {l : List Nat} (h : Bs.Own W base t k v l) : ∃ a n c, v = .slice a n c := h.row.2.elim (fun h => ⟨_, _, _, h.1⟩) (fun ⟨g, cap, cur, hv, _⟩ => ⟨_, _, _, hv⟩)
theorem str_l (S : ByteArray) (k : Nat) (K : Int) (hK : K = k) (hk : k ≤ S.size) (W : World) : (Instr.sliceAt 9 (.string S) (some (.int .i64 K)) none none).run Tryz.prog W = .ok (.string (S.extract k S.size)) W := by
  subst hK
  rw [run_sliceAt_string _ _ _ _ _ _ Tryz.underlying9, Go.run_slice_string_l (h0 := by omega) (h1 := by omega) (ht := Tryz.underlying9)]
  rfl
theorem str_h (S : ByteArray) (k : Nat) (K : Int) (hK : K = k) (hk : k ≤ S.size) (W : World) : (Instr.sliceAt 9 (.string S) none (some (.int .i64 K)) none).run Tryz.prog W = .ok (.string (S.extract 0 k)) W := by
  subst hK
  rw [run_sliceAt_string _ _ _ _ _ _ Tryz.underlying9, Go.run_slice_string_h (h0 := by omega) (h2 := by omega) (ht := Tryz.underlying9)]
  rfl
theorem num_chunk (l : List UInt8) (s k : Nat) (hs : s ≤ k) (hk : k ≤ l.length) : num (l.take k) = num (l.take s) * 10 ^ (k - s) + num ((l.take k).drop s) := by
  have h := num_append ((l.take k).take s) ((l.take k).drop s)
  rw [List.take_append_drop] at h
  rw [h, List.take_take, Nat.min_eq_left hs, List.length_drop, List.length_take, Nat.min_eq_left hk]

set_option maxRecDepth 100000 in
set_option maxHeartbeats 2000000 in
theorem groupsOf_any (l : List UInt8) (hd : ∀ c ∈ l, isDig c) (hlen : l.length ≤ 1000) (w : World) :
    Calls Tryz.prog 107 #[.string (bs l)] w fun e w' => ∃ a n c, e = .returned (.slice a n c) ∧ IsZ w' a n c (zs (G (num l))) ∧ Below w.heap.size w w' := by
  obtain ⟨i0, hi, hz0, hz1, hz2⟩ := info_parts infoInt
  have hstart : bs l = bs (l.take l.length) := by rw [List.take_length]
  rw [hstart]
  obtain ⟨S0, hS0⟩ : ∃ S0, bs (l.take l.length) = S0 := ⟨_, rfl⟩
  rw [hS0]
  have HS0 := Lib.hid hS0
  clear hS0 hstart
  go_enter Tryz.func107, Tryz.ntmps107
  go_wp2_with fail
  go_loopw [0, 3] (fun u v wr => ∃ (k : Nat) (C : List Nat), k ≤ l.length ∧ u = .string (bs (l.take k)) ∧ Bs.Own wr w.heap.size 3 .i64 v C ∧ (∀ x ∈ C, x < 10000) ∧ C.length + k ≤ l.length ∧ V C + 10000 ^ C.length * num (l.take k) = num l ∧ Below w.heap.size w wr) (fun u _ _ => match u with | .string s => s.size | _ => 0)
  case atStart =>
    refine ⟨l.length, [], Nat.le_refl _, by rw [← HS0.out], ⟨rfl, .inr ⟨w.heap.size, 0, _, rfl, Nat.le_refl _, heap_alloc_new _ _, Nat.le_refl _, Nat.zero_le _, rfl, rfl⟩⟩, (fun x hx => by cases hx), by simp, by rw [List.take_length]; simp [V, val], (Below.refl _ w).alloc (Nat.le_refl _) _⟩
  case round =>
    obtain ⟨k, C, hk, rfl, hown, hC, hCl, hv, hw⟩ := hrel
    rcases Nat.eq_zero_or_pos k with h0 | h0
    · subst h0
      rw [List.take_zero] at hv ⊢
      have hv2 : V C = num l := by rw [← hv, show num ([] : List UInt8) = 0 from rfl, Nat.mul_zero, Nat.add_zero]
      obtain ⟨a3, n3, c3, he⟩ := own_slice hown
      subst he
      have hn3 : n3 = C.length := hown.len
      have ht := trimmed_any a3 n3 c3 C wr hown.isZ hC (by omega)
      rw [hv2] at ht
      have Ht := Lib.hid ht
      have hsz : (bs ([] : List UInt8)).size = 0 := rfl
      clear hown hC hv hv2 ht hCl hn3
      go_wp2_with (go_at_call 126; refine Ht.out.mono ?_; rintro e w4 ⟨m, rfl, hZ4, hb7⟩)
      go_ret
      exact ⟨_, _, _, rfl, hZ4, below_on hw hb7 hw.size⟩
    · obtain ⟨s, hs⟩ : ∃ s, k - 4 = s := ⟨_, rfl⟩
      have hs1 : s < k ∧ k ≤ s + 4 ∧ (s = 0 ∨ k = s + 4) := by omega
      have hmax : ∀ (w : World) (ts : Array TypeId) (t : TypeId), (Builtin.max_ ts t #[.int .i64 0, .int .i64 ((k : Int) - 4)]).run Tryz.prog w = .ok (.int .i64 (s : Int)) w := by
        intro w ts t
        rw [run_max_int2]
        congr 2
        split <;> omega
      obtain ⟨ch, hch⟩ : ∃ ch, (l.take k).drop s = ch := ⟨_, rfl⟩
      have hcl : ch.length = k - s := by rw [← hch, List.length_drop, List.length_take]; omega
      have hcd : ∀ c ∈ ch, isDig c := fun c hc => hd c (List.mem_of_mem_take (List.mem_of_mem_drop (by rw [hch]; exact hc)))
      have hcn := num_lt ch hcd
      have hcn4 : num ch < 10000 := Nat.lt_of_lt_of_le hcn (Nat.pow_le_pow_right (n := 10) (by omega) (show ch.length ≤ 4 by omega))
      have hnc := num_chunk l s k (by omega) hk
      rw [hch] at hnc
      have hat := atoi_any ch hcd (by intro e; rw [e] at hcl; simp at hcl; omega) (by omega)
      obtain ⟨S, hS⟩ : ∃ S, bs (l.take k) = S := ⟨_, rfl⟩
      have hSs : S.size = k := by rw [← hS, bs_size, List.length_take]; omega
      have hsl := str_l S s (s : Int) rfl (by omega)
      have hsh := str_h S s (s : Int) rfl (by omega)
      rw [show S.extract s S.size = bs ch by rw [hSs, ← hS, bs_extract, ← hch, List.take_of_length_le (by rw [List.length_drop, List.length_take]; omega)]] at hsl
      rw [show S.extract 0 s = bs (l.take s) by rw [← hS, bs_extract, List.drop_zero, List.take_take, Nat.sub_zero, Nat.min_eq_left (by omega)]] at hsh
      rw [hS]
      obtain ⟨q, hq⟩ : ∃ q, num ch = q := ⟨_, rfl⟩
      rw [hq] at hat hcn4 hnc
      have HV := Lib.hid (show V (C ++ [q]) + 10000 ^ (C ++ [q]).length * num (l.take s) = num l by
        rw [← hv, hnc, show V (C ++ [q]) = val 10000 (C ++ [q]) from rfl, val_append, List.length_append]
        show V C + 10000 ^ C.length * (q + 10000 * 0) + 10000 ^ (C.length + 1) * num (l.take s) = _
        rcases hs1.2.2 with h | h
        · rw [h, List.take_zero, show num ([] : List UInt8) = 0 from rfl, Nat.mul_zero, Nat.zero_mul, Nat.zero_add, Nat.mul_zero, Nat.add_zero, Nat.add_zero]
        · rw [h, show s + 4 - s = 4 by omega, Nat.mul_zero, Nat.add_zero, Nat.pow_succ, Nat.mul_add, show (10 : Nat) ^ 4 = 10000 from rfl, Nat.mul_comm (num (l.take s)) 10000, Nat.mul_assoc]; omega)
      have HA := Lib.hid hat
      have Hown := Lib.hid hown
      have HC := Lib.hid (And.intro hC hCl)
      have HS := Lib.hid hS
      clear hs hch hcl hcd hcn hnc hat hS hq hown hC hCl hv
      go_wp2_with (first | (go_at_call 125; refine (HA.out _).mono ?_; rintro e w4 ⟨rfl, hb4⟩; have hown4 := Hown.out.later hb4; have hw4 := below_on hw hb4 hw.size; have hs4 := hw4.size) | (at_builtin; refine wpList_push rfl _ _ 40 rfl w.heap.size 3 i0 (.int .i64 0) 8 Tryz.underlying40 hi hz0 hz1 hz2 rfl (by omega) .i64 _ C rfl (hown4.alloc _) ⟨w4.heap.size, 0, none⟩ 1 q rfl ?c1 ?c2 ?c3 ?_))
      case c1 => simp [Addr.add]
      case c2 => have := HC.out.2; omega
      case c3 => simp; omega
      intro v' w5 hown5 hb5
      have hw5 := (hw4.alloc hs4 (.cells #[.int .i64 (q : Int)] 3)).trans hb5
      have Hown5 := Lib.hid hown5
      clear hown4 hown5 hb4 hb5 hw4 hs4
      go_wp2_with fail
      go_roundw
      case rel =>
        refine ⟨s, C ++ [q], by omega, rfl, Hown5.out, fun x hx => ?_, by have := HC.out.2; rw [List.length_append]; simp; omega, HV.out, hw5⟩
        rcases List.mem_append.1 hx with hx | hx
        · exact HC.out.1 x hx
        · rw [List.mem_singleton.1 hx]; exact hcn4
      case measure =>
        show (bs (l.take s)).size < S.size
        rw [bs_size, List.length_take, hSs]; omega

end Go.Proofs.YtjkklgpbblkhaaaGreatDoor

/-
  Layer 3: numbers with signs: from strings, and to strings.
-/
namespace Go.Proofs.YtjkklgpbblkhaaaGreatDoor
open Go.RowKit Bs Ig

theorem hasPrefix45 (l : List UInt8) : Lib.hasPrefix l [45] = (match l with | 45 :: _ => true | _ => false) := by
  cases l with
  | nil => rfl
  | cons c r =>
    show ([45] : List UInt8).isPrefixOf (c :: r) = _
    by_cases h : c = 45
    · subst h; simp [List.isPrefixOf]
    · have : (45 == c) = false := by simp [Ne.symm h]
      simp only [List.isPrefixOf, this, Bool.false_and]
      split
      · rename_i h1; cases h1; exact absurd rfl h
      · rfl
theorem trim45 (l : List UInt8) : Lib.trimPrefix l [45] = body l := by
  unfold Lib.trimPrefix
  rw [hasPrefix45]
  cases l with
  | nil => rfl
  | cons c r =>
    by_cases h : c = 45
    · subst h; rfl
    · have hb : body (c :: r) = c :: r := by
        unfold body
        split
        · rename_i r2 h1; cases h1; exact absurd rfl h
        · rfl
      have hp : (match c :: r with | 45 :: _ => true | _ => false) = false := by
        split
        · rename_i r2 h1; cases h1; exact absurd rfl h
        · rfl
      rw [hp, hb]; rfl
theorem neg45 (z : Int) : Lib.hasPrefix (Lib.itoa z) [45] = decide (z < 0) := by
  rw [hasPrefix45]
  rcases int_cases z with ⟨n, rfl⟩ | ⟨n, hn, rfl⟩
  · rw [itoa_nat, show decide ((n : Int) < 0) = false by simp]
    split
    · rename_i r h; exact absurd h (dec_no45 _ _)
    · rfl
  · rw [itoa_neg _ hn, show decide (-(n : Int) < 0) = true by simp; omega]
    rfl
/-- the number z, as a value -/
def numV (z : Int) (a : Option Addr) (n c : Nat) : Value := .agg #[.bool (decide (z < 0)), .slice a n c]
theorem two_cells (b : Bool) (a : Option Addr) (n c : Nat) : (#[Value.bool b, Value.slice a n c] : Array Value).all (·.oneCell') = true := by simp [Value.oneCell']
theorem below_row {B : Nat} {a w : World} (h : Below B a w) {g : Nat} (hg : B ≤ g) (cs : Array Value) : Below B a (w.setRow g cs) :=
  ⟨h.os, h.tape, h.output, by rw [size_setRow]; exact h.size, fun k hk => (Go.setRow_other w g k cs (by omega)).trans (h.block k hk)⟩
theorem IsZ.setRow {W : World} {a : Option Addr} {n c g : Nat} {l : List Int} (h : IsZ W a n c l) {b0 : Bool} {s : Option Addr} {m d : Nat} {t : TypeId} {f : Nat × Nat} (hg : W.heap[g]? = some (.cells #[.bool b0, .slice s m d] t f)) (cs : Array Value) : IsZ (W.setRow g cs) a n c l := by
  refine ⟨h.len, h.cap, h.max, h.row.imp id (fun ⟨g', off, e, hI⟩ => ⟨g', off, e, fun i hi => ?_⟩)⟩
  have h1 := hI i hi
  have hne : g' ≠ g := by
    intro e
    subst e
    rw [cell_of_row _ _ _ _ _ _ hg] at h1
    rcases (show off + i = 0 ∨ off + i = 1 ∨ 2 ≤ off + i by omega) with h2 | h2 | h2
    · rw [h2] at h1; cases h1
    · rw [h2] at h1; cases h1
    · rw [Array.getElem?_eq_none (by simpa using h2)] at h1; cases h1
  unfold World.cell? at h1 ⊢
  rw [show (W.setRow g cs).heap[({ block := g', off := off + i } : Addr).block]? = W.heap[g']? from Go.setRow_other W g g' cs hne]
  exact h1
theorem big_pow : big = 10000 ^ 50 := by unfold big; rw [show (10000 : Nat) = 10 ^ 4 by decide, ← Nat.pow_mul]

set_option maxRecDepth 100000 in
set_option maxHeartbeats 1000000 in
theorem numberOf_any (z : Int) (hz : z.natAbs < big) (w : World) :
    Calls Tryz.prog 79 #[.string (bs (Lib.itoa z))] w fun e w' => ∃ a n c, e = .returned (numV z a n c) ∧ IsZ w' a n c (zs (G z.natAbs)) ∧ n ≤ 50 ∧ Below w.heap.size w w' := by
  have hc := Tryz.strings_CutPrefix (bs (Lib.itoa z)) ⟨#[45]⟩
  rw [show (bs (Lib.itoa z)).data.toList = Lib.itoa z from rfl, show (ByteArray.mk #[45]).data.toList = [45] from rfl, trim45, neg45, body_itoa] at hc
  have hg := groupsOf_any (Lib.decDigits z.natAbs) (dec_dig _) (Nat.le_trans ((dec_length_le _ 200 (by omega)).2 hz) (by omega))
  rw [num_dec] at hg
  have hn50 : ∀ (W : World) (a : Option Addr) (n c : Nat), IsZ W a n c (zs (G z.natAbs)) → n ≤ 50 := fun W a n c h => h.gle (by rw [← big_pow]; exact hz)
  have HN := Lib.hid hn50
  obtain ⟨b, hb⟩ : ∃ b, decide (z < 0) = b := ⟨_, rfl⟩
  unfold numV
  rw [hb] at hc ⊢
  have hcs : ∀ W, Calls Tryz.prog 106 #[.string (bs (Lib.itoa z)), .string ⟨#[45]⟩] W fun e w' => e = .returned (.tuple #[.string (bs (Lib.decDigits z.natAbs)), .bool b]) ∧ w' = W := hc
  have HC := Lib.hid hcs
  have HG := Lib.hid hg
  generalize bs (Lib.itoa z) = S at *
  generalize bs (Lib.decDigits z.natAbs) = T at *
  clear hc hcs hg hb hn50 hz
  have hb0 : Below w.heap.size w (w.alloc (.cells #[.bool false, .slice none 0 0] 91)) := (Below.refl _ w).alloc (Nat.le_refl _) _
  go_enter Tryz.func79, Tryz.ntmps79
  go_wp2_with (first | (go_at_call 106; refine (HC.out _).mono ?_; rintro e w1 ⟨rfl, rfl⟩) | (go_at_call 107; refine (HG.out _).mono ?_; rintro e w2 ⟨a, n, c, rfl, hz2, hb2⟩; have hrow2 := (hb2.block w.heap.size (by simp)).trans (heap_alloc_new w (.cells #[.bool false, .slice none 0 0] 91))) | (refine wpList_store_row rfl 91 _ _ rfl w.heap.size _ rfl rfl 91 _ hrow2 ?g2 ?g3 ?g4 ?_))
  case g2 => kernel_rfl
  case g3 => rfl
  case g4 => exact two_cells _ _ _ _
  have hB := below_row (hb0.trans (hb2.mono (by simp))) (Nat.le_refl _) #[.bool b, .slice a n c]
  exact bodyPost_ret (results_cell_row rfl _ _ w.heap.size 91 #[.bool b, .slice a n c] _ _ rfl (setRow_heap w2 w.heap.size _ _ _ _ hrow2) Tryz.underlying91 rfl (by kernel_rfl)) rfl ⟨a, n, c, rfl, hz2.setRow hrow2 _, HN.out _ _ _ _ hz2, hB⟩

/-- the string of a number, and the error beside it -/
def txt (z : Int) : List UInt8 := if z.natAbs < big then Lib.itoa z else []
def err (z : Int) : Int := if z.natAbs < big then 0 else 30
set_option maxRecDepth 100000 in
set_option maxHeartbeats 1000000 in
theorem valid_any (z : Int) (a : Option Addr) (n c : Nat) (w : World) (hl : IsZ w a n c (zs (G z.natAbs))) (hn : n ≤ 100000) (ht : TabP w) :
    Calls Tryz.prog 81 #[numV z a n c] w fun e w' => e = .returned (.tuple #[.string (bs (txt z)), .int .i64 (err z)]) ∧ Below w.heap.size w w' := by
  have hb0 : Below w.heap.size w (w.alloc (.cells #[.bool (decide (z < 0)), .slice a n c] 91)) := (Below.refl _ w).alloc (Nat.le_refl _) _
  have hdg := digits_any a n c z.natAbs _ (hl.later hb0) hn (ht.later hb0)
  have hlen := dec_length_le z.natAbs 200 (by omega)
  have hz := int_cases z
  unfold numV
  obtain ⟨b, hb⟩ : ∃ b, decide (z < 0) = b := ⟨_, rfl⟩
  rw [hb] at hdg hb0 ⊢
  obtain ⟨l, hll⟩ : ∃ l, Lib.decDigits z.natAbs = l := ⟨_, rfl⟩
  rw [hll] at hdg hlen
  have HD := Lib.hid hdg
  clear hl ht hdg
  rcases Nat.lt_or_ge z.natAbs big with hbig | hbig
  · have h1 : txt z = Lib.itoa z := if_pos hbig
    have h2 : err z = 0 := if_pos hbig
    have hle : l.length ≤ 200 := hlen.2 hbig
    rw [h1, h2]
    have hsz : (bs l).size = l.length := bs_size l
    have hdl : decide (200 < (l.length : Int)) = false := by simp; omega
    rcases hz with ⟨m, rfl⟩ | ⟨m, hm, rfl⟩
    · have hb' : b = false := by rw [← hb]; simp
      subst hb'
      rw [itoa_nat, show Lib.decDigits m = l by rw [← hll]; simp]
      clear hb hll hlen hbig h1 h2 hle
      go_enter Tryz.func81, Tryz.ntmps81
      go_wp2_with (go_at_call 82; refine HD.out.mono ?_; rintro e w1 ⟨rfl, hb1⟩; have hrow1 := (hb1.block w.heap.size (by simp)).trans (heap_alloc_new w (.cells #[.bool false, .slice a n c] 91)); have hc0 : w1.cell? ⟨w.heap.size, 0, none⟩ = some (.bool false) := (by rw [cell_of_row _ _ _ _ _ _ hrow1]; rfl))
      go_ret2
      exact ⟨rfl, hb0.trans (hb1.mono (by simp))⟩
    · have hb' : b = true := by rw [← hb]; simp; omega
      subst hb'
      rw [itoa_neg _ hm, show Lib.decDigits m = l by rw [← hll]; simp]
      have hnl : ¬ 9223372036854775807 < 1 + l.length := by omega
      clear hb hll hlen hbig h1 h2 hle
      go_enter Tryz.func81, Tryz.ntmps81
      go_wp2_with (go_at_call 82; refine HD.out.mono ?_; rintro e w1 ⟨rfl, hb1⟩; have hrow1 := (hb1.block w.heap.size (by simp)).trans (heap_alloc_new w (.cells #[.bool true, .slice a n c] 91)); have hc0 : w1.cell? ⟨w.heap.size, 0, none⟩ = some (.bool true) := (by rw [cell_of_row _ _ _ _ _ _ hrow1]; rfl))
      go_ret2
      exact ⟨by rw [show bs (45 :: l) = (⟨#[45]⟩ : ByteArray) ++ bs l from (bs_append [45] l).symm]; rfl, hb0.trans (hb1.mono (by simp))⟩
  · have h1 : txt z = [] := if_neg (by omega)
    have h2 : err z = 30 := if_neg (by omega)
    have hle : ¬ l.length ≤ 200 := fun h => by have := hlen.1 h; unfold big at hbig; omega
    rw [h1, h2]
    have hsz : (bs l).size = l.length := bs_size l
    have hdl : decide (200 < (l.length : Int)) = true := by simp; omega
    clear hb hll hlen hbig h1 h2 hle hz
    go_enter Tryz.func81, Tryz.ntmps81
    go_wp2_with (go_at_call 82; refine HD.out.mono ?_; rintro e w1 ⟨rfl, hb1⟩)
    go_ret2
    exact ⟨rfl, hb0.trans (hb1.mono (by simp))⟩

end Go.Proofs.YtjkklgpbblkhaaaGreatDoor

/-
  Layer 3: numbers with signs: their order, sums and differences.
-/
namespace Go.Proofs.YtjkklgpbblkhaaaGreatDoor
open Go.RowKit Bs Ig

theorem zero_row (w : World) : Below w.heap.size w (w.alloc (.cells #[.bool false, .slice none 0 0] 91)) := (Below.refl _ w).alloc (Nat.le_refl _) _
theorem numV_eq (b : Bool) (m : Nat) (a : Option Addr) (n c : Nat) : numV (if b then -(m : Int) else m) a n c = .agg #[.bool (b && decide (0 < m)), .slice a n c] := by
  unfold numV
  cases b with
  | false => simp
  | true =>
    by_cases h : 0 < m
    · rw [show decide ((if true = true then -(m : Int) else m) < 0) = true by simp; omega, show decide (0 < m) = true by simp; omega]; rfl
    · rw [show decide ((if true = true then -(m : Int) else m) < 0) = false by simp; omega, show decide (0 < m) = false by simp; omega]; rfl
theorem len_pos {W : World} {a : Option Addr} {n c m : Nat} (h : IsZ W a n c (zs (G m))) : (0 < n) ↔ (0 < m) := by
  have := h.glen
  have h2 : (G m).length = 0 ↔ m = 0 := dgs_len0
  omega

set_option maxRecDepth 100000 in
set_option maxHeartbeats 1000000 in
theorem signed_any (b : Bool) (a : Option Addr) (n c m : Nat) (w : World) (hl : IsZ w a n c (zs (G m))) :
    Calls Tryz.prog 111 #[.bool b, .slice a n c] w fun e w' => e = .returned (numV (if b then -(m : Int) else m) a n c) ∧ Below w.heap.size w w' := by
  have hcap := hl.cap
  have hlp := len_pos hl
  rw [numV_eq]
  have hz0 := zero_row w
  have hrow := heap_alloc_new w (.cells #[.bool false, .slice none 0 0] 91)
  cases b with
  | false =>
    rw [Bool.false_and]
    go_enter Tryz.func111, Tryz.ntmps111
    go_wp2_with (refine wpList_store_row rfl 91 _ _ rfl w.heap.size _ rfl rfl 91 _ hrow ?g2 ?g3 ?g4 ?_)
    case g2 => kernel_rfl
    case g3 => rfl
    case g4 => exact two_cells _ _ _ _
    exact bodyPost_ret (results_cell_row rfl _ _ w.heap.size 91 #[.bool false, .slice a n c] _ _ rfl (setRow_heap _ w.heap.size _ _ _ _ hrow) Tryz.underlying91 rfl (by kernel_rfl)) rfl ⟨rfl, below_row hz0 (Nat.le_refl _) _⟩
  | true =>
    rw [Bool.true_and]
    rcases Nat.eq_zero_or_pos n with h | h
    · rw [show decide (0 < m) = false by simp; omega]
      subst h
      go_enter Tryz.func111, Tryz.ntmps111
      go_wp2_with (refine wpList_store_row rfl 91 _ _ rfl w.heap.size _ rfl rfl 91 _ hrow ?g2 ?g3 ?g4 ?_)
      case g2 => kernel_rfl
      case g3 => rfl
      case g4 => exact two_cells _ _ _ _
      exact bodyPost_ret (results_cell_row rfl _ _ w.heap.size 91 #[.bool false, .slice a 0 c] _ _ rfl (setRow_heap _ w.heap.size _ _ _ _ hrow) Tryz.underlying91 rfl (by kernel_rfl)) rfl ⟨rfl, below_row hz0 (Nat.le_refl _) _⟩
    · rw [show decide (0 < m) = true by simp; omega]
      have hd : decide (0 < (n : Int)) = true := by simp; omega
      clear hlp hl
      go_enter Tryz.func111, Tryz.ntmps111
      go_wp2_with (refine wpList_store_row rfl 91 _ _ rfl w.heap.size _ rfl rfl 91 _ hrow ?g2 ?g3 ?g4 ?_)
      case g2 => kernel_rfl
      case g3 => rfl
      case g4 => exact two_cells _ _ _ _
      exact bodyPost_ret (results_cell_row rfl _ _ w.heap.size 91 #[.bool true, .slice a n c] _ _ rfl (setRow_heap _ w.heap.size _ _ _ _ hrow) Tryz.underlying91 rfl (by kernel_rfl)) rfl ⟨rfl, below_row hz0 (Nat.le_refl _) _⟩

/-- -1, 0 or 1 -/
def cmpZ (x y : Int) : Int := if x < y then -1 else if y < x then 1 else 0
/-- two boxes -/
theorem two_boxes (w : World) (bx bz : Bool) (a : Option Addr) (n c : Nat) (b : Option Addr) (k d : Nat) :
    Below w.heap.size w ((w.alloc (.cells #[.bool bx, .slice a n c] 91)).alloc (.cells #[.bool bz, .slice b k d] 91)) := ((Below.refl _ w).alloc (Nat.le_refl _) _).alloc (by simp) _

set_option maxRecDepth 100000 in
set_option maxHeartbeats 1000000 in
theorem ncompare_any (x y : Int) (a : Option Addr) (n c : Nat) (b : Option Addr) (k d : Nat) (w : World) (hl : IsZ w a n c (zs (G x.natAbs))) (hm : IsZ w b k d (zs (G y.natAbs))) (hn : n ≤ 1000000) (hk : k ≤ 1000000) :
    Calls Tryz.prog 83 #[numV x a n c, numV y b k d] w fun e w' => e = .returned (.int .i64 (cmpZ x y)) ∧ Below w.heap.size w w' := by
  have hB := two_boxes w (decide (x < 0)) (decide (y < 0)) a n c b k d
  have hc1 := compare_any a n c b k d x.natAbs y.natAbs _ (hl.later hB) (hm.later hB) hn hk
  have hc2 := compare_any b k d a n c y.natAbs x.natAbs _ (hm.later hB) (hl.later hB) hk hn
  unfold numV
  rcases Int.lt_or_le x 0 with hx | hx <;> rcases Int.lt_or_le y 0 with hy | hy
  · rw [show decide (x < 0) = true by simpa using hx, show decide (y < 0) = true by simpa using hy] at *
    have h1 : cmpZ x y = cmp y.natAbs x.natAbs := by unfold cmpZ cmp; repeat' split
                                                     all_goals omega
    rw [h1]
    have HC := Lib.hid hc2
    clear hl hm hc1 hc2 hx hy h1
    go_enter Tryz.func83, Tryz.ntmps83
    go_wp2_with (go_at_call 115; refine HC.out.mono ?_; rintro e w1 ⟨rfl, hb1⟩)
    go_ret
    exact ⟨rfl, hB.trans (hb1.mono (by simp; omega))⟩
  · rw [show decide (x < 0) = true by simpa using hx, show decide (y < 0) = false by simpa using hy] at *
    have h1 : cmpZ x y = -1 := if_pos (by omega)
    rw [h1]
    clear hl hm hc1 hc2 hx hy h1
    go_enter Tryz.func83, Tryz.ntmps83
    go_wp2_with fail
    go_ret
    exact ⟨rfl, hB⟩
  · rw [show decide (x < 0) = false by simpa using hx, show decide (y < 0) = true by simpa using hy] at *
    have h1 : cmpZ x y = 1 := by unfold cmpZ; rw [if_neg (by omega), if_pos (by omega)]
    rw [h1]
    clear hl hm hc1 hc2 hx hy h1
    go_enter Tryz.func83, Tryz.ntmps83
    go_wp2_with fail
    go_ret
    exact ⟨rfl, hB⟩
  · rw [show decide (x < 0) = false by simpa using hx, show decide (y < 0) = false by simpa using hy] at *
    have h1 : cmpZ x y = cmp x.natAbs y.natAbs := by unfold cmpZ cmp; repeat' split
                                                     all_goals omega
    rw [h1]
    have HC := Lib.hid hc1
    clear hl hm hc1 hc2 hx hy h1
    go_enter Tryz.func83, Tryz.ntmps83
    go_wp2_with (go_at_call 115; refine HC.out.mono ?_; rintro e w1 ⟨rfl, hb1⟩)
    go_ret
    exact ⟨rfl, hB.trans (hb1.mono (by simp; omega))⟩

end Go.Proofs.YtjkklgpbblkhaaaGreatDoor

/-
  Layer 4: a chain of steps, each of which is skipped after an error.
-/
namespace Go.Proofs.YtjkklgpbblkhaaaGreatDoor
open Go.RowKit Bs Ig

/-- a result in a box beside one in a slot -/
theorem results_row_tmp {P : Program} {fn : Func} {p u : Tmp} {ty : TypeId} (h : fn.results = #[.cell p ty, .tmp u]) (tmps : Array Value) (w : World) (g : Nat) (t : TypeId) (cs : Array Value) (fr : Nat × Nat) (d : TypeDesc)
    (hp : tmps.getD p undef = .pointer (some ⟨g, 0, none⟩)) (hg : w.heap[g]? = some (.cells cs t fr))
    (hu : P.underlying ty = some d) (hd : (match d with | .struct _ | .array _ _ => true | _ => false) = true) (hi : (P.info? ty).map (·.size) = some cs.size) :
    (results fn tmps).run P w = .ok (.tuple #[.agg cs, tmps.getD u undef]) w := by
  rw [results_cell_tmp h, hp]
  simp [asAddr, run_loadVar_row w g t ty cs fr d hg hu hd hi, Result.andThen]
theorem str2_cells (a b : ByteArray) : (#[Value.string a, Value.string b] : Array Value).all (·.oneCell') = true := by simp [Value.oneCell']
/-- a box with two strings -/
def IsB (W : World) (g : Nat) (a b : ByteArray) : Prop := W.heap[g]? = some (.cells #[.string a, .string b] 23 (0, 0))
theorem IsB.later {W W' : World} {g n : Nat} {a b : ByteArray} (h : IsB W g a b) (hb : Below n W W') (hg : g < n) : IsB W' g a b := (hb.block g hg).trans h
theorem IsB.lt {W : World} {g : Nat} {a b : ByteArray} (h : IsB W g a b) : g < W.heap.size := (Array.getElem?_eq_some_iff.1 h).1
theorem IsB.new (W : World) (a b : ByteArray) : IsB (W.alloc (.cells #[.string a, .string b] 23)) W.heap.size a b := heap_alloc_new _ _
theorem IsB.new' (W : World) (a b : ByteArray) (g : Nat) (hg : g = W.heap.size) : IsB (W.alloc (.cells #[.string a, .string b] 23)) g a b := by subst hg; exact IsB.new W a b
theorem IsB.alloc {W : World} {g : Nat} {a b : ByteArray} (h : IsB W g a b) (o : Obj) : IsB (W.alloc o) g a b := (heap_alloc_old _ _ h.lt).trans h
theorem IsB.c0 {W : World} {g : Nat} {a b : ByteArray} (h : IsB W g a b) : W.cell? ⟨g, 0, none⟩ = some (.string a) := by rw [cell_of_row _ _ 0 _ _ _ h]; rfl
theorem IsB.c1 {W : World} {g : Nat} {a b : ByteArray} (h : IsB W g a b) : W.cell? ⟨g, 1, none⟩ = some (.string b) := by rw [cell_of_row _ _ 1 _ _ _ h]; rfl
theorem IsB.f0 {W : World} {g : Nat} {a b : ByteArray} (h : IsB W g a b) : W.frozen? ⟨g, 0, none⟩ = false := frozen_of_row _ _ 0 _ _ h
theorem IsB.f1 {W : World} {g : Nat} {a b : ByteArray} (h : IsB W g a b) : W.frozen? ⟨g, 1, none⟩ = false := frozen_of_row _ _ 1 _ _ h

theorem two_strs {W : World} {g : Nat} {a b : ByteArray} (h : IsB W g a b) (c d : ByteArray) : IsB ((W.setCell ⟨g, 0, none⟩ (.string c)).setCell ⟨g, 1, none⟩ (.string d)) g c d := by
  have h1 := heap_setCell_same W g 0 _ _ (.string c) h
  exact heap_setCell_same _ g 1 _ _ (.string d) h1
theorem far_strs {W : World} {g k : Nat} {a b : ByteArray} (h : IsB W g a b) (hk : k ≠ g) (c d : ByteArray) : IsB ((W.setCell ⟨k, 0, none⟩ (.string c)).setCell ⟨k, 1, none⟩ (.string d)) g a b := by
  exact ((heap_setCell_other _ _ _ _ (Ne.symm hk)).trans (heap_setCell_other _ _ _ _ (Ne.symm hk))).trans h
/-- the step v takes what I tells of k to what it tells of k + 1 -/
def Step (I : Nat → ByteArray → ByteArray → Int → World → Prop) (k : Nat) (v : Value) : Prop :=
  ∃ (f : FuncId) (cap : Array Value), v = .func (.func f) #[] cap ∧ (∀ args w, (callFunc f args).run Tryz.prog w = .ok (.enter f args) w) ∧
    ∀ (N D : ByteArray) (W : World), I k N D 0 W → Calls Tryz.prog f (#[.agg #[.string N, .string D]] ++ cap) W fun e W' => ∃ N' D' e', e = .returned (.tuple #[.agg #[.string N', .string D'], .int .i64 e']) ∧ I (k + 1) N' D' e' W' ∧ Below W.heap.size W W'

set_option maxRecDepth 100000 in
set_option maxHeartbeats 4000000 in
theorem build_any (I : Nat → ByteArray → ByteArray → Int → World → Prop) (vals : List Value) (g off n c : Nat) (N D : ByteArray) (w : World) (hn : vals.length = n) (hn2 : n ≤ 100) (hnc : n ≤ c) (hg : g < w.heap.size)
    (hcells : ∀ i (h : i < vals.length), w.cell? ⟨g, off + i, none⟩ = some vals[i])
    (hpass : ∀ k N D e W, e ≠ 0 → I k N D e W → I (k + 1) N D e W) (hlater : ∀ k N D e A C, I k N D e A → Below w.heap.size A C → I k N D e C)
    (hsteps : ∀ k (h : k < vals.length), Step I k vals[k]) (h0 : I 0 N D 0 w) :
    Calls Tryz.prog 59 #[.agg #[.string N, .string D], .slice (some ⟨g, off, none⟩) n c] w fun e W' => ∃ N' D' e', I n N' D' e' W' ∧ Below w.heap.size w W' ∧
      (e' = 0 ∧ e = .returned (.tuple #[.agg #[.string N', .string D'], .int .i64 0]) ∨ e' ≠ 0 ∧ e = .returned (.tuple #[.agg #[.string ⟨#[]⟩, .string ⟨#[]⟩], .int .i64 40])) := by
  go_enter Tryz.func59, Tryz.ntmps59
  go_wp2_with fail
  go_loopw [6, 11] (fun q p wr => ∃ (N D : ByteArray) (e : Int) (i : Nat), q = .int .i64 e ∧ p = .int .i64 (i : Int) ∧ i ≤ n ∧ I i N D e wr ∧ IsB wr w.heap.size N D ∧ IsB wr (w.heap.size + 1) ⟨#[]⟩ ⟨#[]⟩ ∧ Below w.heap.size w wr) (fun _ p _ => (n - intOf p).toNat)
  case atStart => 
    have hB : Below w.heap.size w ((w.alloc (.cells #[.string N, .string D] 23)).alloc (.cells #[.string ⟨#[]⟩, .string ⟨#[]⟩] 23)) := ((Below.refl _ w).alloc (Nat.le_refl _) _).alloc (by simp) _
    exact ⟨N, D, 0, 0, rfl, rfl, Nat.zero_le _, hlater _ _ _ _ _ _ h0 hB, (IsB.new w N D).alloc _, IsB.new' _ _ _ _ (by simp), hB⟩
  case round =>
    obtain ⟨N, D, e, i, rfl, rfl, hi, hI, b0, b1, hw⟩ := hrel
    rcases Nat.lt_or_ge i n with h1 | h1
    · obtain ⟨f, cap, hv, eg, hcall⟩ := hsteps i (by omega)
      have hcell : wr.cell? ⟨g, off + i, none⟩ = some (.func (.func f) #[] cap) := by rw [← hv]; exact (hw.cell (p := ⟨g, off + i, none⟩) hg).trans (hcells i (by omega))
      have f1 : decide (i < n) = true := decide_eq_true h1
      rcases Decidable.em (e = 0) with he | he
      · subst he
        have HC := Lib.hid (hcall N D wr hI)
        have k0 := b0.c0
        have k1 := b0.c1
        clear hcall hsteps hcells hpass hv
        go_wp2_with (refine (HC.out).mono ?_; rintro e1 w1 ⟨N1, D1, e', rfl, hI1, B1⟩; have b2 := b0.later B1 b0.lt; have b3 := b1.later B1 b1.lt; have g0 := b2.f0; have g1 := b2.f1; have g2 := b2.c0; have g3 := b2.c1)
        have hw1 := below_on hw B1 hw.size
        go_roundw
        case rel => exact ⟨N1, D1, e', i + 1, rfl, by go_num, h1, hlater _ _ _ _ _ _ hI1 ((Below.refl _ w1).setCell (p := ⟨w.heap.size, 0, none⟩) (Nat.le_refl _) _ |>.setCell (p := ⟨w.heap.size, 1, none⟩) (Nat.le_refl _) _), two_strs b2 N1 D1, far_strs b3 (by omega) N1 D1, (hw1.setCell (p := ⟨w.heap.size, 0, none⟩) (Nat.le_refl _) _).setCell (p := ⟨w.heap.size, 1, none⟩) (Nat.le_refl _) _⟩
        case measure => simp [intOf]; omega
      · have he2 : (e == 0) = false := beq_false_of_ne he
        have HI := Lib.hid (hpass _ _ _ _ _ he hI)
        clear hcall hsteps hcells hpass hv
        go_wp2_with fail
        go_roundw
        case rel => exact ⟨N, D, e, i + 1, rfl, by go_num, h1, HI.out, b0, b1, hw⟩
        case measure => simp [intOf]; omega
    · obtain rfl : i = n := by omega
      have f1 : decide (i < i) = false := decide_eq_false (by omega)
      have k0 := b0.c0
      have k1 := b0.c1
      have f2 := b1.f0
      have f3 := b1.f1
      have f4 := b1.c0
      have f5 := b1.c1
      clear hsteps hcells hpass
      rcases Decidable.em (e = 0) with he | he
      · subst he
        go_wp2_with fail
        exact bodyPost_ret (results_row_tmp rfl _ _ (w.heap.size + 1) 23 #[.string N, .string D] _ _ rfl (two_strs b1 N D) Tryz.underlying23 rfl (by kernel_rfl)) rfl ⟨N, D, 0, hlater _ _ _ _ _ _ hI (((Below.refl _ wr).setCell (p := ⟨w.heap.size + 1, 0, none⟩) (by show w.heap.size ≤ w.heap.size + 1; omega) _).setCell (p := ⟨w.heap.size + 1, 1, none⟩) (by show w.heap.size ≤ w.heap.size + 1; omega) _), (hw.setCell (p := ⟨w.heap.size + 1, 0, none⟩) (by show w.heap.size ≤ w.heap.size + 1; omega) _).setCell (p := ⟨w.heap.size + 1, 1, none⟩) (by show w.heap.size ≤ w.heap.size + 1; omega) _, .inl ⟨rfl, rfl⟩⟩
      · have he2 : (e == 0) = false := beq_false_of_ne he
        have he3 : (e != 0) = true := by rw [bne, he2]; rfl
        go_wp2_with fail
        exact bodyPost_ret (results_row_tmp rfl _ _ (w.heap.size + 1) 23 #[.string ⟨#[]⟩, .string ⟨#[]⟩] _ _ rfl (two_strs b1 ⟨#[]⟩ ⟨#[]⟩) Tryz.underlying23 rfl (by kernel_rfl)) rfl ⟨N, D, e, hlater _ _ _ _ _ _ hI (((Below.refl _ wr).setCell (p := ⟨w.heap.size + 1, 0, none⟩) (by show w.heap.size ≤ w.heap.size + 1; omega) _).setCell (p := ⟨w.heap.size + 1, 1, none⟩) (by show w.heap.size ≤ w.heap.size + 1; omega) _), (hw.setCell (p := ⟨w.heap.size + 1, 0, none⟩) (by show w.heap.size ≤ w.heap.size + 1; omega) _).setCell (p := ⟨w.heap.size + 1, 1, none⟩) (by show w.heap.size ≤ w.heap.size + 1; omega) _, .inr ⟨he, rfl⟩⟩

/-- what a step makes of a fraction: two strings and an error -/
abbrev Stp := ByteArray → ByteArray → ByteArray × ByteArray × Int
def runS : List Stp → ByteArray → ByteArray → Int → ByteArray × ByteArray × Int
  | [], N, D, e => (N, D, e)
  | F :: r, N, D, e => if e = 0 then runS r (F N D).1 (F N D).2.1 (F N D).2.2 else runS r N D e
def finS (x : ByteArray × ByteArray × Int) : ByteArray × ByteArray × Int := if x.2.2 = 0 then (x.1, x.2.1, 0) else (⟨#[]⟩, ⟨#[]⟩, 40)
def buildS (l : List Stp) (N D : ByteArray) : ByteArray × ByteArray × Int := finS (runS l N D 0)
theorem runS_snoc (l : List Stp) (F : Stp) (N D : ByteArray) (e : Int) :
    runS (l ++ [F]) N D e = if (runS l N D e).2.2 = 0 then F (runS l N D e).1 (runS l N D e).2.1 else runS l N D e := by
  induction l generalizing N D e with
  | nil => rfl
  | cons G r ih =>
    simp only [List.cons_append, runS]
    split <;> exact ih _ _ _
/-- the value v, as it was made in the world w0, is a function that does F -/
def Does (w0 : World) (v : Value) (F : Stp) : Prop :=
  ∃ (f : FuncId) (cap : Array Value), v = .func (.func f) #[] cap ∧ (∀ args w, (callFunc f args).run Tryz.prog w = .ok (.enter f args) w) ∧
    ∀ (N D : ByteArray) (W : World), Below w0.heap.size w0 W → Calls Tryz.prog f (#[.agg #[.string N, .string D]] ++ cap) W fun e W' => e = .returned (.tuple #[.agg #[.string (F N D).1, .string (F N D).2.1], .int .i64 (F N D).2.2]) ∧ Below W.heap.size W W'
theorem Does.later {w0 w1 : World} {v : Value} {F : Stp} (h : Does w0 v F) (hb : Below w0.heap.size w0 w1) : Does w1 v F := by
  obtain ⟨f, cap, hv, eg, hc⟩ := h
  exact ⟨f, cap, hv, eg, fun N D W hW => hc N D W (below_on hb hW hb.size)⟩
/-- the value v is a function of two strings that answers as op -/
def DoesOp (w0 : World) (v : Value) (op : ByteArray → ByteArray → ByteArray × Int) : Prop :=
  ∃ (f : FuncId) (cap : Array Value), v = .func (.func f) #[] cap ∧ (∀ args w, (callFunc f args).run Tryz.prog w = .ok (.enter f args) w) ∧
    ∀ (x y : ByteArray) (W : World), Below w0.heap.size w0 W → Calls Tryz.prog f (#[.string x, .string y] ++ cap) W fun e W' => e = .returned (.tuple #[.string (op x y).1, .int .i64 (op x y).2]) ∧ Below W.heap.size W W'
theorem DoesOp.later {w0 w1 : World} {v : Value} {F} (h : DoesOp w0 v F) (hb : Below w0.heap.size w0 w1) : DoesOp w1 v F := by
  obtain ⟨f, cap, hv, eg, hc⟩ := h
  exact ⟨f, cap, hv, eg, fun N D W hW => hc N D W (below_on hb hW hb.size)⟩
theorem build_does (fs : List Stp) (vals : List Value) (g off n c : Nat) (N D : ByteArray) (w : World) (hn : vals.length = n) (hf : fs.length = n) (hn2 : n ≤ 100) (hnc : n ≤ c) (hg : g < w.heap.size)
    (hcells : ∀ i (h : i < vals.length), w.cell? ⟨g, off + i, none⟩ = some vals[i]) (hdo : ∀ i (h : i < vals.length) (h' : i < fs.length), Does w vals[i] fs[i]) :
    Calls Tryz.prog 59 #[.agg #[.string N, .string D], .slice (some ⟨g, off, none⟩) n c] w fun e W' => e = .returned (.tuple #[.agg #[.string (buildS fs N D).1, .string (buildS fs N D).2.1], .int .i64 (buildS fs N D).2.2]) ∧ Below w.heap.size w W' := by
  refine (build_any (fun k N' D' e W => Below w.heap.size w W ∧ runS (fs.take k) N D 0 = (N', D', e) ∧ k ≤ n ∨ n < k) vals g off n c N D w hn hn2 hnc hg hcells ?_ ?_ ?_ ?_).mono ?_
  · rintro k N' D' e W he (⟨h1, h2, h3⟩ | h)
    · rcases Nat.lt_or_ge k n with h4 | h4
      · refine .inl ⟨h1, ?_, h4⟩
        rw [List.take_succ_eq_append_getElem (by omega), runS_snoc, h2, if_neg he]
      · exact .inr (by omega)
    · exact .inr (by omega)
  · rintro k N' D' e A C (⟨h1, h2, h3⟩ | h) hAC
    · exact .inl ⟨h1.trans hAC, h2, h3⟩
    · exact .inr h
  · intro k hk
    obtain ⟨f, cap, hv, eg, hc⟩ := hdo k hk (by omega)
    refine ⟨f, cap, hv, eg, ?_⟩
    rintro N' D' W (⟨h1, h2, h3⟩ | h)
    · refine (hc N' D' W h1).mono ?_
      rintro e W' ⟨rfl, hb⟩
      refine ⟨_, _, _, rfl, .inl ⟨below_on h1 hb h1.size, ?_, by omega⟩, hb⟩
      rw [List.take_succ_eq_append_getElem (by omega), runS_snoc, h2]
      rfl
    · omega
  · exact .inl ⟨Below.refl _ _, rfl, Nat.zero_le _⟩
  · rintro e W' ⟨N', D', e', hI, hb, he⟩
    obtain ⟨_, h2, _⟩ := hI.resolve_right (by omega)
    rw [List.take_of_length_le (by omega)] at h2
    unfold buildS finS
    rw [h2]
    rcases he with ⟨rfl, rfl⟩ | ⟨h0, rfl⟩
    · exact ⟨rfl, hb⟩
    · simp only [if_neg h0]
      exact ⟨trivial, hb⟩

end Go.Proofs.YtjkklgpbblkhaaaGreatDoor
