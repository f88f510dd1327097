/-
  Put together by program out of these texts, in this order: Igd, Igy, Tbr, Rgr, Igu.
-/
import Derived.Lib.ItoaNum
import Derived.Lib.AtoiAll
import Derived.Test.YtjkklgpbblkhaaaGreatDoorZCaRFd00
import Derived.Test.YtjkklgpbblkhaaaGreatDoorZCaRFd03
import Derived.Lib.AppendIntMem
import Derived.Stop.LaidErr
import Derived.LaidSub
import Derived.Lay
import Derived.RangeFuncCalls
import Derived.OrdersIn
import Derived.OrdersHeld
import Derived.Deep.RegionHeld
import Derived.OwnWalkIn
import Derived.Laws.OwnMore

/-
  Layer 3, numerals: what a string of decimal digits stands for. Nothing of the program stands here.
-/
namespace Go.Proofs.YtjkklgpbblkhaaaGreatDoor.Ig
open Go

/-- a byte that is a digit -/
def isDig (c : UInt8) : Prop := 48 ≤ c.toNat ∧ c.toNat ≤ 57
instance (c : UInt8) : Decidable (isDig c) := inferInstanceAs (Decidable (_ ∧ _))
/-- what digits stand for, behind a number -/
def numA (a : Nat) : List UInt8 → Nat
  | [] => a
  | c :: r => numA (a * 10 + (c.toNat - 48)) r
def num (l : List UInt8) : Nat := numA 0 l
theorem numA_append (a : Nat) (l m : List UInt8) : numA a (l ++ m) = numA (numA a l) m := by
  induction l generalizing a with
  | nil => rfl
  | cons c r ih => exact ih _
theorem numA_eq (a : Nat) (l : List UInt8) : numA a l = a * 10 ^ l.length + num l := by
  induction l generalizing a with
  | nil => show a = a * 1 + 0; omega
  | cons c r ih =>
    show numA (a * 10 + (c.toNat - 48)) r = a * 10 ^ (r.length + 1) + numA (0 * 10 + (c.toNat - 48)) r
    rw [ih, ih (0 * 10 + (c.toNat - 48)), Nat.pow_succ, Nat.add_mul, Nat.zero_mul, Nat.zero_add, Nat.mul_assoc, Nat.mul_comm 10]; omega
theorem num_append (l m : List UInt8) : num (l ++ m) = num l * 10 ^ m.length + num m := by rw [num, numA_append, numA_eq]; rfl
theorem num_snoc (l : List UInt8) (c : UInt8) : num (l ++ [c]) = num l * 10 + (c.toNat - 48) := by rw [num, numA_append]; rfl
theorem num_cons (c : UInt8) (l : List UInt8) : num (c :: l) = (c.toNat - 48) * 10 ^ l.length + num l := by
  show numA (0 * 10 + (c.toNat - 48)) l = _
  rw [numA_eq]; simp
theorem num_lt (l : List UInt8) (h : ∀ c ∈ l, isDig c) : num l < 10 ^ l.length := by
  induction l with
  | nil => show 0 < 1; omega
  | cons c r ih =>
    have hc := h c (List.mem_cons_self ..)
    have := ih fun y hy => h y (List.mem_cons_of_mem _ hy)
    rw [num_cons, List.length_cons, Nat.pow_succ]
    have h9 : c.toNat - 48 ≤ 9 := by have := hc.2; omega
    have := Nat.mul_le_mul_right (10 ^ r.length) h9
    omega
theorem dec_small {u : Nat} (h : u < 10) : Lib.decDigits u = [UInt8.ofNat (48 + u)] := by rw [Lib.decDigits, dif_pos h]
theorem dec_big {u : Nat} (h : 10 ≤ u) : Lib.decDigits u = Lib.decDigits (u / 10) ++ [UInt8.ofNat (48 + u % 10)] := by rw [Lib.decDigits, dif_neg (by omega)]
theorem dig_toNat {d : Nat} (h : d < 10) : (UInt8.ofNat (48 + d)).toNat = 48 + d := by
  rw [UInt8.toNat_ofNat']; exact Nat.mod_eq_of_lt (by omega)
theorem dig_ok {d : Nat} (h : d < 10) : isDig (UInt8.ofNat (48 + d)) := by unfold isDig; rw [dig_toNat h]; omega
theorem dec_dig (n : Nat) : ∀ c ∈ Lib.decDigits n, isDig c := by
  induction n using Nat.strongRecOn with
  | _ n ih =>
    rcases Nat.lt_or_ge n 10 with h | h
    · rw [dec_small h]; intro c hc; rw [List.mem_singleton.1 hc]; exact dig_ok h
    · rw [dec_big h]; intro c hc
      rcases List.mem_append.1 hc with hc | hc
      · exact ih _ (by omega) c hc
      · rw [List.mem_singleton.1 hc]; exact dig_ok (by omega)
theorem num_dec (n : Nat) : num (Lib.decDigits n) = n := by
  induction n using Nat.strongRecOn with
  | _ n ih =>
    rcases Nat.lt_or_ge n 10 with h | h
    · rw [dec_small h, show [UInt8.ofNat (48 + n)] = [] ++ [UInt8.ofNat (48 + n)] from rfl, num_snoc, dig_toNat h]; show 0 * 10 + (48 + n - 48) = n; omega
    · rw [dec_big h, num_snoc, ih _ (by omega), dig_toNat (by omega)]; omega
theorem dec_inj {n m : Nat} (h : Lib.decDigits n = Lib.decDigits m) : n = m := by rw [← num_dec n, h, num_dec]
theorem dec_ne (n : Nat) : Lib.decDigits n ≠ [] := by
  intro h
  rcases Nat.lt_or_ge n 10 with h1 | h1
  · rw [dec_small h1] at h; cases h
  · rw [dec_big h1] at h; simp at h
theorem dec_pos (n : Nat) : 0 < (Lib.decDigits n).length := List.length_pos_iff.2 (dec_ne n)
/-- the first digit is not 0, but for 0 itself -/
theorem dec_head (n : Nat) (h : 0 < n) : ∃ c r, Lib.decDigits n = c :: r ∧ 49 ≤ c.toNat ∧ c.toNat ≤ 57 := by
  induction n using Nat.strongRecOn with
  | _ n ih =>
    rcases Nat.lt_or_ge n 10 with h1 | h1
    · exact ⟨_, _, dec_small h1, by rw [dig_toNat h1]; omega, by rw [dig_toNat h1]; omega⟩
    · obtain ⟨c, r, e, h2, h3⟩ := ih (n / 10) (by omega) (by omega)
      exact ⟨c, r ++ [UInt8.ofNat (48 + n % 10)], by rw [dec_big h1, e]; rfl, h2, h3⟩
theorem byte_ext {c d : UInt8} (h : c.toNat = d.toNat) : c = d := UInt8.toNat_inj.1 h
/-- digits, the first of which is not 0, are the numeral of what they stand for -/
theorem dec_num (l : List UInt8) (h : ∀ c ∈ l, isDig c) (c : UInt8) (r : List UInt8) (hl : l = c :: r) (h0 : 49 ≤ c.toNat) : Lib.decDigits (num l) = l := by
  obtain ⟨n, hn⟩ : ∃ n, l.length = n := ⟨_, rfl⟩
  induction n generalizing l r with
  | zero => subst hl; cases hn
  | succ n ih =>
    rcases List.eq_nil_or_concat r with hr | ⟨r', x, hr⟩
    · subst hl hr
      have hc := h c (List.mem_cons_self ..)
      have e : num [c] = c.toNat - 48 := by show 0 * 10 + (c.toNat - 48) = _; omega
      rw [e, dec_small (by have := hc.2; omega)]
      congr 1
      exact byte_ext (by rw [dig_toNat (by have := hc.2; omega)]; omega)
    · rw [List.concat_eq_append] at hr
      have hx := h x (by rw [hl, hr]; simp)
      have e := ih (c :: r') (fun y hy => h y (by rw [hl, hr]; rw [← List.cons_append]; exact List.mem_append_left _ hy)) r' rfl (by rw [hl, hr] at hn; simp at hn ⊢; omega)
      have hp : 0 < num (c :: r') := by rw [num_cons]; have : 0 < 10 ^ r'.length := Nat.pow_pos (by omega); have := Nat.mul_le_mul_right (10 ^ r'.length) (show 1 ≤ c.toNat - 48 by omega); omega
      rw [hl, hr, ← List.cons_append, num_snoc, dec_big (by omega)]
      have hx2 := hx.2
      have hx1 := hx.1
      rw [show (num (c :: r') * 10 + (x.toNat - 48)) / 10 = num (c :: r') by omega, e, show (num (c :: r') * 10 + (x.toNat - 48)) % 10 = x.toNat - 48 by omega]
      congr 2
      exact byte_ext (by rw [dig_toNat (by omega)]; omega)
theorem dec_length (n : Nat) : (Lib.decDigits n).length = Lib.nDigits n := by rw [Lib.decDigits_eq]; simp
theorem dec_length_le (n k : Nat) (hk : 0 < k) : (Lib.decDigits n).length ≤ k ↔ n < 10 ^ k := by
  constructor
  · intro h
    have := num_lt _ (dec_dig n)
    rw [num_dec] at this
    exact Nat.lt_of_lt_of_le this (Nat.pow_le_pow_right (by omega) h)
  · intro h
    rcases Nat.eq_zero_or_pos n with h0 | h0
    · subst h0; rw [dec_small (by omega)]; exact hk
    obtain ⟨c, r, e, h2, h3⟩ := dec_head n h0
    rcases Nat.lt_or_ge k (Lib.decDigits n).length with h1 | h1
    · have e2 := num_dec n
      rw [e, num_cons] at e2
      rw [e, List.length_cons] at h1
      have h4 := Nat.pow_le_pow_right (n := 10) (by omega) (show k ≤ r.length by omega)
      have h5 := Nat.mul_le_mul_right (10 ^ r.length) (show 1 ≤ c.toNat - 48 by omega)
      omega
    · exact h1
/-- four digits -/
def d4 (g : Nat) : List UInt8 := [UInt8.ofNat (48 + g / 1000), UInt8.ofNat (48 + g / 100 % 10), UInt8.ofNat (48 + g / 10 % 10), UInt8.ofNat (48 + g % 10)]
theorem dec_group (g m : Nat) (hg : g < 10000) (hm : 0 < m) : Lib.decDigits (g + 10000 * m) = Lib.decDigits m ++ d4 g := by
  rw [dec_big (by omega), dec_big (by omega), dec_big (by omega), dec_big (by omega)]
  rw [show (g + 10000 * m) / 10 / 10 / 10 / 10 = m by omega, show (g + 10000 * m) / 10 / 10 / 10 % 10 = g / 1000 by omega, show (g + 10000 * m) / 10 / 10 % 10 = g / 100 % 10 by omega, show (g + 10000 * m) / 10 % 10 = g / 10 % 10 by omega, show (g + 10000 * m) % 10 = g % 10 by omega]
  simp [d4]
theorem dec_5 (g : Nat) (hg : g < 10000) : Lib.decDigits (10000 + g) = 49 :: d4 g := by
  rw [show 10000 + g = g + 10000 * 1 by omega, dec_group g 1 hg (by omega), dec_small (by omega)]; rfl
/-! integers -/
theorem itoa_nat (n : Nat) : Lib.itoa (n : Int) = Lib.decDigits n := by unfold Lib.itoa; rw [if_neg (by omega), Int.toNat_natCast]
theorem itoa_neg (n : Nat) (h : 0 < n) : Lib.itoa (-(n : Int)) = 45 :: Lib.decDigits n := by unfold Lib.itoa; rw [if_pos (by omega), Int.natAbs_neg, Int.natAbs_natCast]
theorem int_cases (z : Int) : (∃ n : Nat, z = n) ∨ (∃ n : Nat, 0 < n ∧ z = -(n : Int)) := by
  rcases Int.lt_or_le z 0 with h | h
  · exact .inr ⟨z.natAbs, by omega, by omega⟩
  · exact .inl ⟨z.natAbs, by omega⟩
theorem dec_no45 (n : Nat) (r : List UInt8) : Lib.decDigits n ≠ 45 :: r := by
  intro h
  have := dec_dig n 45 (by rw [h]; exact List.mem_cons_self ..)
  exact absurd this (by decide)
theorem itoa_inj {x y : Int} (h : Lib.itoa x = Lib.itoa y) : x = y := by
  rcases int_cases x with ⟨n, rfl⟩ | ⟨n, hn, rfl⟩ <;> rcases int_cases y with ⟨m, rfl⟩ | ⟨m, hm, rfl⟩
  · rw [itoa_nat, itoa_nat] at h; rw [dec_inj h]
  · rw [itoa_nat, itoa_neg _ hm] at h; exact absurd h (dec_no45 _ _)
  · rw [itoa_nat, itoa_neg _ hn] at h; exact absurd h.symm (dec_no45 _ _)
  · rw [itoa_neg _ hn, itoa_neg _ hm] at h; rw [dec_inj (List.cons.inj h).2]
/-- the greatest numbers -/
def big : Nat := 10 ^ 200
/-- the strings that are integers -/
def IsI (s : List UInt8) : Prop := ∃ z : Int, z.natAbs < big ∧ s = Lib.itoa z
/-- what of a string are digits: what stands behind a sign -/
def body (s : List UInt8) : List UInt8 := match s with
  | 45 :: r => r
  | l => l
theorem body_dec (n : Nat) : body (Lib.decDigits n) = Lib.decDigits n := by
  unfold body
  split
  · rename_i r h; exact absurd h (dec_no45 _ _)
  · rfl
theorem body_itoa (z : Int) : body (Lib.itoa z) = Lib.decDigits z.natAbs := by
  rcases int_cases z with ⟨n, rfl⟩ | ⟨n, hn, rfl⟩
  · rw [itoa_nat, body_dec]; rfl
  · rw [itoa_neg _ hn, Int.natAbs_neg]; rfl
/-- what makes a string an integer -/
theorem isI_iff (s : List UInt8) : IsI s ↔ s = [48] ∨ (0 < (body s).length ∧ (body s).length ≤ 200 ∧ (body s).getD 0 0 ≠ 48 ∧ ∀ i, i < (body s).length → isDig ((body s).getD i 0)) := by
  constructor
  · rintro ⟨z, hz, rfl⟩
    rcases Nat.eq_zero_or_pos z.natAbs with h0 | h0
    · left
      obtain rfl : z = 0 := by omega
      exact itoa_nat 0 |>.trans (dec_small (by omega))
    · right
      rw [body_itoa]
      obtain ⟨c, r, e, h2, h3⟩ := dec_head _ h0
      refine ⟨dec_pos _, (dec_length_le _ _ (by omega)).2 hz, ?_, fun i hi => ?_⟩
      · rw [e]; intro h; simp only [List.getD_cons_zero] at h; rw [h] at h2; exact absurd h2 (by decide)
      · rw [List.getD_eq_getElem?_getD, List.getElem?_eq_getElem hi]; exact dec_dig _ _ (List.getElem_mem hi)
  · rintro (rfl | ⟨h1, h2, h3, h4⟩)
    · exact ⟨0, Nat.pow_pos (by omega), by rw [show (0 : Int) = ((0 : Nat) : Int) from rfl, itoa_nat, dec_small (by omega)]; rfl⟩
    · have hd : ∀ c ∈ body s, isDig c := by
        intro c hc
        obtain ⟨i, hi, rfl⟩ := List.getElem_of_mem hc
        have := h4 i hi
        rwa [List.getD_eq_getElem?_getD, List.getElem?_eq_getElem hi] at this
      have hn : num (body s) < big := Nat.lt_of_lt_of_le (num_lt _ hd) (Nat.pow_le_pow_right (by omega) h2)
      have hdec : Lib.decDigits (num (body s)) = body s ∧ 0 < num (body s) := by
        generalize body s = b at *
        cases b with
        | nil => simp at h1
        | cons c r =>
          have hc := hd c (List.mem_cons_self ..)
          have h49 : 49 ≤ c.toNat := by
            rcases Nat.lt_or_ge c.toNat 49 with h | h
            · exact absurd (byte_ext (d := 48) (by have := hc.1; show c.toNat = 48; omega)) h3
            · exact h
          refine ⟨dec_num _ hd c r rfl h49, ?_⟩
          rw [num_cons]
          have : 0 < 10 ^ r.length := Nat.pow_pos (by omega)
          have := Nat.mul_le_mul_right (10 ^ r.length) (show 1 ≤ c.toNat - 48 by omega)
          omega
      have hs : s = body s ∨ s = 45 :: body s := by unfold body; split <;> simp
      rcases hs with hs | hs
      · exact ⟨(num (body s) : Nat), by simpa using hn, by rw [itoa_nat, hdec.1]; exact hs⟩
      · exact ⟨-((num (body s) : Nat) : Int), by simpa using hn, by rw [itoa_neg _ hdec.2, hdec.1]; exact hs⟩
/-! strconv.Atoi -/
theorem parse_ok (l : List UInt8) (a : Nat) (h : ∀ c ∈ l, isDig c) (hb : numA a l < 1844674407370955162) : Lib.parseUint10 a l = .ok (numA a l) := by
  induction l generalizing a with
  | nil => rfl
  | cons c r ih =>
    have hc := h c (List.mem_cons_self ..)
    have hle : a * 10 + (c.toNat - 48) ≤ numA (a * 10 + (c.toNat - 48)) r := by
      rw [numA_eq]
      have : 1 ≤ 10 ^ r.length := Nat.pow_pos (by omega)
      have := Nat.mul_le_mul_left (a * 10 + (c.toNat - 48)) this
      omega
    have hb' : numA (a * 10 + (c.toNat - 48)) r < 1844674407370955162 := hb
    unfold Lib.parseUint10
    rw [if_pos (show 48 ≤ c.toNat ∧ c.toNat ≤ 57 from hc), if_neg (by omega), if_neg (by omega), ih _ (fun y hy => h y (List.mem_cons_of_mem _ hy)) hb']
    rfl
theorem atoi_small (l : List UInt8) (h : ∀ c ∈ l, isDig c) (h0 : l ≠ []) (hb : num l < 1844674407370955162) : Lib.atoiAll l = .ok (num l : Nat) := by
  cases l with
  | nil => exact absurd rfl h0
  | cons c r =>
    have hc := h c (List.mem_cons_self ..)
    have hc1 := hc.1
    have e : Lib.parseMag (c :: r) = .ok (num (c :: r)) := by
      unfold Lib.parseMag
      rw [if_neg h0]
      exact parse_ok _ 0 h hb
    unfold Lib.atoiAll
    simp only
    rw [if_neg (by omega), e]
    simp only
    rw [if_neg (by omega), if_neg (by omega), if_neg (by omega)]

end Go.Proofs.YtjkklgpbblkhaaaGreatDoor.Ig

/-
  Layer 3: the digits of a number in groups.
-/
namespace Go.Proofs.YtjkklgpbblkhaaaGreatDoor
open Go.RowKit Bs Ig Go.Shelf Go.Sort
attribute [local go_sem] Oper.semAt_some

/-- the library's table of powers of ten -/
def TabP (W : World) : Prop := Lib.TabIs Tryz.prog W "internal/strconv.uint64pow10" .u64 Lib.pow10Tab
theorem TabP.later {W W' : World} (h : TabP W) (hb : Below W.heap.size W W') : TabP W' := Lib.tabBelow_of_tabIs h W' hb
theorem below_grow (w : World) (k : Nat) (os : Array Obj) : Below w.heap.size w (grow (w.drewN k) os) :=
  ⟨rfl, rfl, rfl, by simp [grow], fun i hi => by
    show ((w.drewN k).heap ++ os)[i]? = _
    rw [Array.getElem?_append_left (by exact hi)]
    rfl⟩
theorem itoa_any (n : Nat) (N : Int) (hN : N = n) (hn : n ≤ 9223372036854775807) (w : World) (ht : TabP w) :
    Calls Tryz.prog 95 #[.int .i64 N] w fun e w' => e = .returned (.string (bs (Lib.decDigits n))) ∧ Below w.heap.size w w' := by
  subst hN
  refine (Tryz.strconv_Itoa n (by omega) (by omega) w ht).mono ?_
  rintro e w' ⟨rfl, k, os, rfl⟩
  refine ⟨?_, below_grow w k os⟩
  rw [itoa_nat]; rfl
/-- a builder that holds the bytes l -/
def Bld (w : World) (b : Nat) (l : List UInt8) (W : World) : Prop := Lib.BuilderAtF 117 5 w.heap.size b (.pointer (some ⟨b, 0, none⟩)) (Lib.byteCells l) W
theorem bldF_kept {T e : TypeId} {B b : Nat} {p : Value} {l : List Value} {A C : World} (h : Lib.BuilderAtF T e B b p l A) (hk : Rfn.CellsKept A C) : Lib.BuilderAtF T e B b p l C := by
  obtain ⟨hB, v, hb, hown, hne⟩ := h
  refine ⟨hB, v, hk.same _ _ hb rfl, ⟨hown.1, ?_⟩, hne⟩
  rcases hown.2 with h | ⟨g, cap, cur, fz, hv, h1, h2, h3⟩
  · exact .inl h
  · exact .inr ⟨g, cap, cur, fz, hv, h1, hk.same _ _ h2 rfl, h3⟩
theorem Bld.kept {w : World} {b : Nat} {l : List UInt8} {A C : World} (h : Bld w b l A) (hk : Rfn.CellsKept A C) : Bld w b l C := bldF_kept h hk
theorem strCells_bs (l : List UInt8) : Lib.strCells (bs l) = Lib.byteCells l := rfl
theorem byteCells_append (l m : List UInt8) : Lib.byteCells l ++ Lib.byteCells m = Lib.byteCells (l ++ m) := by simp [Lib.byteCells]
theorem keeps_others {W W' : World} {e : TypeId} {b : Nat} {c : Array Value} {t : TypeId} {f : Nat × Nat} (hb : W.heap[b]? = some (.cells c t f)) (h : Lib.OthersKept e (some b) W W') (hs : W.heap.size ≤ W'.heap.size) : KeepsOthers W W' :=
  ⟨hs, fun k o hk ho => h k o hk (by intro e; cases e; rw [hb] at hk; cases hk; cases ho) (by rintro c fz rfl; cases ho)⟩
theorem d4_slice (g : Nat) (hg : g < 10000) (W : World) : (Instr.sliceAt 9 (.string (bs (Lib.decDigits (10000 + g)))) (some (.int .i64 1)) none none).run Tryz.prog W = .ok (.string (bs (d4 g))) W := by
  rw [dec_5 g hg]
  rw [run_sliceAt_string _ _ _ _ _ _ Tryz.underlying9]
  have hsz : (bs (49 :: d4 g)).size = 5 := by rw [bs_size]; rfl
  rw [Go.run_slice_string_l (h0 := by omega) (h1 := by rw [hsz]; decide) (ht := Tryz.underlying9), hsz]
  rw [show (1 : Int).toNat = 1 from rfl, bs_extract]
  rfl

theorem dec_len_of {x m K : Nat} (hK : 0 < K) (hm : 4 * m ≤ K) (h : x < 10000 ^ m) : (Lib.decDigits x).length ≤ K := by
  refine (dec_length_le _ K hK).2 (Nat.lt_of_lt_of_le h ?_)
  rw [show (10000 : Nat) = 10 ^ 4 by decide, ← Nat.pow_mul]
  exact Nat.pow_le_pow_right (by omega) hm
set_option maxRecDepth 100000 in
set_option maxHeartbeats 2000000 in
theorem digits_any (a : Option Addr) (n c x : Nat) (w : World) (hl : IsZ w a n c (zs (G x))) (hn : n ≤ 100000) (ht : TabP w) :
    Calls Tryz.prog 82 #[.slice a n c] w fun e w' => e = .returned (.string (bs (Lib.decDigits x))) ∧ Below w.heap.size w w' := by
  have hxl : (G x).length = n := by rw [← zs_length]; exact hl.len
  have hcap := hl.cap
  refine (callsIn_wide (n := 3)).1 ?_
  refine callsIn_of_wp_marks Tryz.func82 rfl trivial ?_ rfl
  simp only [Tryz.ntmps82, List.size_toArray, List.length_cons, List.length_nil, Nat.reduceAdd, Nat.reduceSub, Array.replicate_succ, Array.replicate_zero, List.push_toArray, List.append_toArray, List.nil_append, List.cons_append]
  rcases Nat.eq_zero_or_pos n with h0 | h0
  · subst h0
    obtain rfl : x = 0 := dgs_len0.1 hxl
    rw [dec_small (by omega)]
    clear hl hxl
    gi_wp2
    exact ⟨_, results_tmp rfl _ _ _, rfl, Below.refl _ _⟩
  · obtain ⟨m, rfl⟩ : ∃ m, n = m + 1 := ⟨n - 1, by omega⟩
    obtain ⟨g0, off, rfl, hI⟩ := hl.at h0
    have hc := hI m (by rw [zs_length]; omega)
    rw [zs_getD, show (G x).getD m 0 = x / 10000 ^ m % 10000 from dgs_getD 9998 x m] at hc
    have hxb : x < 10000 ^ (m + 1) := lt_pow_G hxl
    have hx0 : 0 < x := by
      rcases Nat.eq_zero_or_pos x with h | h
      · rw [h, show G 0 = [] from dgs_zero 9998] at hxl; simp at hxl
      · exact h
    have hlow : 10000 ^ m ≤ x := by
      have := dgs_le_pow 9998 x hx0
      rw [show (dgs 9998 x).length = m + 1 from hxl] at this
      exact this
    have hq0 : 0 < x / 10000 ^ m := Nat.div_pos hlow (Nat.pow_pos (by omega))
    have hq1 : x / 10000 ^ m < 10000 := Nat.div_lt_of_lt_mul (by rw [← Nat.pow_succ]; exact hxb)
    rw [Nat.mod_eq_of_lt hq1] at hc
    have hsh := fun (W : World) => slc_h W 89 Tryz.underlying89 (some ⟨g0, off, none⟩) (m + 1) c m (m : Int) rfl (by omega) (by kernel_rfl)
    obtain ⟨t, htt⟩ : ∃ t, x / 10000 ^ m = t := ⟨_, rfl⟩
    rw [htt] at hc hq1
    have hdec : decide (((m + 1 : Nat) : Int) = 0) = false := by simp; omega
    have e1 : ((m + 1 : Nat) : Int) - 1 = (m : Int) := by omega
    have hb0 : Below w.heap.size w (w.alloc (.cells #[.pointer none, .slice none 0 0] 117)) := (Below.refl _ w).alloc (Nat.le_refl _) _
    have hbl0 : Lib.IsBuilderF 117 5 w.heap.size w.heap.size [] (w.alloc (.cells #[.pointer none, .slice none 0 0] 117)) :=
      .inl ⟨Nat.le_refl _, .slice none 0 0, heap_alloc_new _ _, World.ownsRowF_nil _ _ _ _, by intro e; cases e⟩
    have hcA : (w.alloc (.cells #[.pointer none, .slice none 0 0] 117)).cell? ⟨g0, off + m, none⟩ = some (.int .i64 (t : Int)) := (hb0.cell (p := ⟨g0, off + m, none⟩) (block_lt_of_cell hc)).trans hc
    have HI1 := Lib.hid (itoa_any t t rfl (by omega) _ (ht.later hb0))
    have Hx := Lib.hid (And.intro hl (And.intro ht (And.intro hxl hbl0)))
    have Htt := Lib.hid htt
    have Hq0 := Lib.hid hq0
    have htl : (Lib.decDigits t).length ≤ 4 := (dec_length_le t 4 (by omega)).2 (by omega)
    have Htl := Lib.hid htl
    clear hl ht hxl hI hlow hxb htt hx0 hbl0 hq0 hc htl
    gi_wp2_with (refine ⟨trivial, ?_⟩; gi_at_call 95; refine (callsIn_wide.2 HI1.out).mono ?_; rintro e w1 ⟨rfl, hb1⟩)
    have hb1w := hb0.trans (hb1.mono (by simp))
    have hbl1 : Lib.IsBuilderF 117 5 w.heap.size w.heap.size [] w1 := Hx.out.2.2.2.imp (fun h => bldF_kept h (Rfn.CellsKept.of_below hb1)) (fun h => bldF_kept h (Rfn.CellsKept.of_below hb1))
    have HW1 := Lib.hid (writeString_any w.heap.size w.heap.size [] (bs (Lib.decDigits t)) w1 hbl1 (by rw [bs_size]; have := Htl.out; simp; omega) hb1w.size)
    clear hbl1 hcA
    gi_wp2_with (first | (refine ⟨trivial, ?_⟩; gi_at_call 112; refine (callsIn_wide.2 HW1.out).mono ?_; rintro e w2 ⟨rfl, hbl2, hb2, hk2⟩) | (refine ⟨trivial, ?_⟩; gi_at_call 113; refine (callsIn_wide.2 (backward_any _ _ _ _)).mono ?_; rintro e w' ⟨rfl, rfl⟩))
    refine wpIn_world fun W0 hW0 => ?_
    have hb2w := hb1w.trans hb2
    have hb3 : Below w2.heap.size w2 W0 := by rw [hW0]; exact (Below.refl _ w2).alloc (Nat.le_refl _) _
    have hs2 : w.heap.size < w2.heap.size := hbl2.lt
    have hB0 : Below w.heap.size w W0 := hb2w.trans (hb3.mono hb2w.size)
    have hbl3 : Bld w w.heap.size (Lib.decDigits (x / 10000 ^ m)) W0 := by
      rw [Htt.out]
      exact bldF_kept (by rw [List.nil_append] at hbl2; exact hbl2) (Rfn.CellsKept.of_below hb3)
    have hrow : W0.heap[w2.heap.size]? = some (.cells #[.slice (some ⟨g0, off, none⟩) m c] 89 (0, 0)) := by rw [hW0]; exact heap_alloc_new _ _
    have hbn : w.heap.size ≠ w2.heap.size := by omega
    have hsW : W0.heap.size = w2.heap.size + 1 := by rw [hW0]; simp
    clear hW0 hb3 hbl2 hk2 hb1 hb2 HW1 HI1 hb0 hb1w hb2w
    generalize w2.heap.size = bk at *
    refine Rfn.wpIn_rangeFunc_need rfl (by omega) (gf := 131) (lb := #[.pointer (some ⟨bk, 0, none⟩)]) rfl trivial (enters_of Tryz.func131 (by kernel_rfl) rfl)
      (back_yields bk (some ⟨g0, off, none⟩) m c ((G x).take m) W0 (by omega) (by rw [List.length_take, Hx.out.2.2.1]; omega)) (Below.refl _ _) (fun _ => rfl)
      (fun j W => Bld w w.heap.size (Lib.decDigits (x / 10000 ^ (m - j))) W ∧ W.heap[bk]? = some (.cells #[.slice (some ⟨g0, off, none⟩) m c] 89 (0, 0)) ∧ Below w.heap.size w W)
      (fun _ _ _ => False)
      (fun j A C h hb hk => ⟨h.1.kept hk, hk.same _ _ h.2.1 rfl, h.2.2.trans (hb.mono hB0.size)⟩)
      (fun cd j A C h hb _ => h)
      (fun j W h => ⟨by rw [cell_of_row _ _ 0 _ _ _ h.2.1]; rfl, by rw [← zs_take]; exact (Hx.out.1.later h.2.2).take (by omega)⟩) ⟨by rw [Nat.sub_zero]; exact hbl3, hrow, hB0⟩ ?round ?done ?stop
    case stop =>
      rintro D cd j W hD hDW h hdef
      exact h.elim
    case done =>
      rintro D W hD hDW ⟨h1, h2, h3⟩ hdef
      rw [bks_length, List.length_take, Hx.out.2.2.1, show m - min m (m + 1) = 0 by omega, Nat.pow_zero, Nat.div_one] at h1
      have HS := Lib.hid (Tryz.Builder_String_any_k w.heap.size w.heap.size (Lib.decDigits x) W (.inr h1) h3.size)
      have Hdef := Lib.hid hdef
      have hbd : D ≠ w.heap.size := by omega
      clear h1 h2 hdef
      gi_wp2_with (refine ⟨trivial, ?_⟩; gi_at_call 114; refine (callsIn_wide.2 HS.out).mono ?_; rintro e w9 ⟨rfl, _, hb9, hk9⟩)
      have hd9 := hk9 D _ Hdef.out (by intro e; cases e; exact hbd rfl) (by rintro c fz e; cases e)
      refine ⟨by simp, .inl ⟨_, _, rfl, run_takeDeferred hd9, ?_⟩⟩
      exact ⟨_, results_tmp rfl _ _ _, rfl, (h3.trans hb9).trans (belowK_b (w := W0) (n₀ := w.heap.size) (by omega) _ D _ _ hD hd9 rfl rfl)⟩
    case round =>
      rintro q j hj W hq hqW ⟨h1, h2, h3⟩
      rw [bks_length, List.length_take, Hx.out.2.2.1, show min m (m + 1) = m by omega] at hj
      rw [bks_get, List.length_take, Hx.out.2.2.1, show min m (m + 1) = m by omega]
      obtain ⟨I, hI⟩ : ∃ I, m - 1 - j = I := ⟨_, rfl⟩
      rw [hI]
      have hI1 : m - j = I + 1 := by omega
      have hIn : I < m := by omega
      have HI := Lib.hid (show m - (j + 1) = I by omega)
      have hgd : ((G x).take m).getD I 0 = x / 10000 ^ I % 10000 := by
        rw [List.getD_eq_getElem?_getD, List.getElem?_take, if_pos hIn, ← List.getD_eq_getElem?_getD]; exact dgs_getD 9998 x I
      rw [hgd]
      rw [hI1] at h1
      have hstep := div_step 9998 x I
      rw [show (9998 + 2 : Nat) = 10000 from rfl] at hstep
      have hpos : 0 < x / 10000 ^ (I + 1) := by
        refine Nat.lt_of_lt_of_le Hq0.out (Nat.div_le_div_left (Nat.pow_le_pow_right (by omega) (by omega)) (Nat.pow_pos (by omega)))
      obtain ⟨g, hg⟩ : ∃ g, x / 10000 ^ I % 10000 = g := ⟨_, rfl⟩
      have hg1 : g < 10000 := by rw [← hg]; exact Nat.mod_lt _ (by omega)
      rw [hg] at hstep ⊢
      have hdec2 := dec_group g (x / 10000 ^ (I + 1)) hg1 hpos
      rw [← hstep] at hdec2
      simp only [bkEnc]
      have Hdd := Lib.hid hdec2
      have H1 := Lib.hid h1
      have H2 := Lib.hid h2
      clear hdec2 hstep hpos hg hgd hI hI1 hj h1 h2
      gi_wp2
      refine ⟨KeepsOthers.refl _, fun W2 hbu hck => ?_⟩
      have h31 := H1.out.kept hck
      have h32 := hck.same _ _ H2.out rfl
      have h33 := h3.trans (Rfn.But.below hbu (by have := hB0.size; omega : w.heap.size ≤ q))
      have HI2 := Lib.hid (itoa_any (10000 + g) (10000 + (g : Int)) (by omega) (by omega) W2 (Hx.out.2.1.later h33))
      have hd4 := fun W => d4_slice g hg1 W
      have Hk := Lib.hid (And.intro h31 h32)
      clear hck hbu h31 h32
      gi_wp2_with (refine ⟨trivial, ?_⟩; gi_at_call 95; refine (CallsIn.inRound q (callsIn_wide.2 HI2.out)).mono ?_; rintro e w4 ⟨rfl, hb4⟩)
      have hb4w := h33.trans (hb4.mono h33.size)
      have hbl4 : Bld w w.heap.size (Lib.decDigits (x / 10000 ^ (I + 1))) w4 := Hk.out.1.kept (Rfn.CellsKept.of_below hb4)
      have hrow4 := (hb4.block _ (Array.getElem?_eq_some_iff.1 Hk.out.2).1).trans Hk.out.2
      have hlen : (Lib.byteCells (Lib.decDigits (x / 10000 ^ (I + 1)))).length ≤ 1000000 := by
        rw [Lib.byteCells_length]
        have h1 := lt_pow_G Hx.out.2.2.1
        exact dec_len_of (by omega) (by omega) (Nat.lt_of_le_of_lt (Nat.div_le_self _ _) h1)
      have HW4 := Lib.hid (writeString_any w.heap.size w.heap.size _ (bs (d4 g)) w4 (.inr hbl4) (by rw [bs_size]; have : (d4 g).length = 4 := rfl; omega) hb4w.size)
      have Hr4 := Lib.hid (And.intro hbl4 hrow4)
      clear hbl4 hrow4 hlen
      refine ⟨trivial, ?_⟩
      refine (CallsIn.inRound q (callsIn_wide.2 HW4.out)).mono ?_
      rintro e w5 ⟨rfl, hbl5, hb5, hk5⟩
      obtain ⟨_, v4, hbrow, _⟩ := Hr4.out.1
      have hko5 := keeps_others hbrow hk5 hb5.size
      have hrow5 := hk5 bk _ Hr4.out.2 (by intro e; cases e; exact hbn rfl) (by rintro c fz e; cases e)
      rw [strCells_bs, byteCells_append, ← Hdd.out] at hbl5
      have H5 := Lib.hid (And.intro hbl5 (And.intro hrow5 hko5))
      clear hbl5 hrow5 hko5 hk5 hbrow
      gi_wp2
      exact ⟨(keeps_below hb4).trans H5.out.2.2, by rw [HI.out]; exact H5.out.1, H5.out.2.1, hb4w.trans hb5⟩

end Go.Proofs.YtjkklgpbblkhaaaGreatDoor

/-
  What the rows of layer 4 list: of these only the table of the decimal powers is read; and a world for the witnesses.
-/
namespace Go.Proofs.YtjkklgpbblkhaaaGreatDoor.Tab
open Go.RowKit Go.ChangeShapes Go.WideShapes Go.ChangeAt

theorem own : ownKnob Tryz.prog.godebug = none := by kernel_rfl
theorem laidOut : laidOutB Tryz.prog = true := by kernel_rfl
theorem gTab : Tryz.prog.globalNamed "internal/strconv.uint64pow10" = some 1 := by kernel_rfl
theorem gTabType : (Tryz.prog.globals[1]?).map (·.type) = some 166 := by kernel_rfl
theorem cellsT : Tryz.prog.cellsOf 166 = 20 := by kernel_rfl
theorem cellsE : Tryz.prog.cellsOf 137 = 1 := by kernel_rfl
/-- the rows' list -/
abbrev laidList : List (String × DataW Unit) := [("math/bits.deBruijn32tab", Rows.laid_math_bits_deBruijn32tab), ("math/bits.deBruijn64tab", Rows.laid_math_bits_deBruijn64tab), ("internal/strconv.uint64pow10", Rows.laid_internal_strconv_uint64pow10), ("strconv.ErrRange", Rows.laid_strconv_ErrRange), ("strconv.ErrSyntax", Rows.laid_strconv_ErrSyntax)]
theorem table {W : World} (h : laidMetH Tryz.prog laidList W) : TabP W := by
  have h1 := (laidMetH_iff.1 h).1
  have h2 : laidMet Tryz.prog [("internal/strconv.uint64pow10", Rows.laid_internal_strconv_uint64pow10)] W := h1.filter fun x => x.1 == "internal/strconv.uint64pow10"
  exact Lib.tabIs_of_head (rest := []) gTab gTabType Tryz.underlying166 Tryz.underlying137 cellsE cellsT h2
/-- a world for the witness -/
noncomputable def laidWorld (os : Os) : World := World.laidAll Tryz.prog os laidList
theorem laidWorld_os (os : Os) : (laidWorld os).os = os := World.laidAll_os _ _ _
theorem laid_met (os : Os) (args : Array Value) : laidMet Tryz.prog laidList ((laidWorld os).forCall (fun _ _ => 0) ⟨#[], args, []⟩).memory :=
  laidMet_laidAll _ (by kernel_rfl) (by kernel_rfl)
end Go.Proofs.YtjkklgpbblkhaaaGreatDoor.Tab

/-
  A region that draws its order of evaluation, inside a round of a range over a function: by the laws for worlds that meet a condition. Nothing of this program stands here.
-/
namespace Go.Proofs.YtjkklgpbblkhaaaGreatDoor.Rgr
open Go
variable {P : Program} {ops : Array Oper} {Q : Exit → Act → World → Prop}

theorem wpOpsIn_round {l n : Nat} (hd : ∀ (i : Nat) (o : Oper), ops[i]? = some o → ∀ c, o.op ≠ .defer c) (hQ : ¬ LetsOut Q) :
    ∀ (order : List Nat) (a : Act) (w : World), wpOps P ops Q order a w → wpOpsIn (Fence.wide.inRound l) n P ops Q order a w
  | [], _, _, h => h
  | i :: rest, a, w, h => by
    rw [wpOpsIn_cons]
    rw [wpOps_cons] at h
    unfold wpOp at h
    unfold wpOpIn
    cases hi : ops[i]? with
    | none =>
      simp only [hi] at h ⊢
      exact wpOpsIn_round hd hQ rest a w h
    | some o =>
      simp only [hi] at h ⊢
      split
      · rename_i hw
        simp only [hw, if_true] at h
        rcases h with h | ⟨_, hl⟩
        · refine ⟨fun f _ => trivial, ?_⟩
          rw [Oper.semAt_eq _ _ _ (hd i o hi)]
          unfold Oper.wp at h
          generalize (execOp a.eval o).run P w = r at *
          cases r with
          | ok x w' =>
            cases x with
            | value v => exact wpOpsIn_round hd hQ rest _ _ h
            | skip => exact wpOpsIn_round hd hQ rest _ _ h
            | defer d => exact wpOpsIn_round hd hQ rest _ _ h
            | enter f args =>
              refine ⟨fun hx => (by simp [Fence.wide] at hx), CallsIn.inRound l (callsIn_wide.2 (Calls.mono h fun e w'' he => ?_))⟩
              cases e with
              | returned v => exact wpOpsIn_round hd hQ rest _ _ he
              | panicked c => exact he
              | outgrown => exact he
            | row row args =>
              refine ⟨fun hx => (by simp [Fence.wide] at hx), fun c cs _ => ?_⟩
              obtain ⟨v, w'', hr, hs⟩ := h c cs
              exact ⟨v, w'', wpOpsIn_round hd hQ rest _ _ hr, stepsIn_wide.2 hs⟩
            | _ => exact h.elim
          | halt x w' => cases x <;> exact h
        · exact absurd hl hQ
      · rename_i hw
        simp only [hw] at h
        exact ⟨fun f _ => trivial, wpOpsIn_round hd hQ rest _ _ h⟩

/-- no operation is a 'defer' -/
def noDefer (ops : Array Oper) : Bool := ops.all fun o => match o.op with | .defer _ => false | _ => true
theorem noDefer_spec (h : noDefer ops = true) (i : Nat) (o : Oper) (hi : ops[i]? = some o) (c : Call) : o.op ≠ .defer c := by
  intro e
  obtain ⟨hlt, rfl⟩ := Array.getElem?_eq_some_iff.1 hi
  have := (Array.all_eq_true.1 h) i hlt
  rw [e] at this
  cases this

theorem wpIn_region_held {l n id : Nat} {S : World → Prop} {a : Act} {w : World} (hm : P.follows .mixedOrders = true) (hd : noDefer ops = true) (hQ : ¬ LetsOut Q)
    (h : wpAnyH P .any ops Q S ops.size (Array.replicate ops.size false) a w.drew) : (Code.region id ops true).wpIn (Fence.wide.inRound l) n P Q a w :=
  wpIn_region_draw fun t => by
    simp only [Region.schedule, hm, Bool.true_or, if_true]
    exact wpOpsIn_round (noDefer_spec hd) hQ _ _ _ (wpAny_sound ops.size t _ a _ (wpAny_of_held _ _ _ _ h))

end Go.Proofs.YtjkklgpbblkhaaaGreatDoor.Rgr

/-
  An append of a slice of another named type, inside a fence. Nothing of this program stands here.
-/
namespace Go.Proofs.YtjkklgpbblkhaaaGreatDoor
open Go

theorem append_types {P : Program} (w : World) (t u ty e e' : TypeId) (ht : P.underlying t = some (.slice e)) (hu : P.underlying u = some (.slice e')) (a b : Value) :
    (Builtin.append_ #[t, u] ty #[a, b]).run P w = (Builtin.append_ #[t, t] ty #[a, b]).run P w := by
  unfold Builtin.append_
  simp only [Sem.run_bind, run_underlying ht, Result.andThen, List.getElem?_toArray, List.getElem?_cons_zero, List.getElem?_cons_succ]
  cases a with
  | slice p n c =>
    simp only [Sem.run_bind, run_underlying ht, run_underlying hu, Result.andThen]
  | _ => rfl

theorem wpListIn_append_two {F : Fence} {n : Nat} {P : Program} (w : World) {ops : Array Oper} {rest : List Oper} {o : Oper} {a : Act} {Q : Exit → Act → World → Prop}
    (hg : o.guard = none) (s x : Operand) (t u : TypeId) (hop : o.op = Op.call { callee := Callee.builtin Builtin.append, args := #[s, x], argTypes := #[t, u] })
    (base : Nat) (e : TypeId) (i : TypeInfo) (z : Value) (size bytes : Nat) (h1 : P.underlying t = some (.slice e)) (hu : P.underlying u = some (.slice e)) (h2 : P.info? e = some i) (h3 : i.zero = some z) (h4 : i.size = size) (h5 : i.bytes = bytes) (h6 : z.cells.size = size) (h7 : 0 < size)
    (v : Value) (k : Nat) (xs : List Value) (hs : a.eval s = v) (hown : w.ownsRow base e size v k xs) (ad : Addr) (m c : Nat) (news : List Value) (hx : a.eval x = .slice (some ad) m c) (hn : news.length = m * size)
    (hc : ∀ j u, news[j]? = some u → w.cell? (ad.add j) = some u) (h1c : ∀ u ∈ news, u.oneCell' = true) (b1 : k + m ≤ maxLen) (b2 : (k + m) * bytes ≤ 140737488355328) (b3 : base ≤ w.heap.size)
    (hK : ∀ v' w', w'.ownsRow base e size v' (k + m) (xs ++ news) → w.grownBy w' v.ownBlock → (v' = .slice none 0 0 ↔ v = .slice none 0 0 ∧ m = 0) → wpListIn F n P ops Q rest (a.put o.dst v') w') :
    wpListIn F n P ops Q (o :: rest) a w := by
  refine wpListIn_plain hg fun K hK' => ?_
  obtain ⟨v', w', hrun, r1, r2, r3⟩ := run_append_own (P := P) w base t o.type e i z size bytes h1 h2 h3 h4 h5 h6 h7 v k xs hown ad m c news hn hc h1c b1 b2 b3
  rw [← append_types w t u o.type e e h1 hu] at hrun
  unfold Oper.wpIn
  refine ⟨?_, ?_⟩
  · simp [Oper.about, hop, resolve, Target.leads, Sem.run_pure]
  · rw [Oper.semAt_plain F _ _ (by rw [hop]; intro c hc'; cases hc')]
    simp [execOp, hop, resolve, invoke, builtin, hs, hx, hrun, Result.andThen]
    exact hK' _ _ (hK v' w' r1 r2 r3)

end Go.Proofs.YtjkklgpbblkhaaaGreatDoor
