/-
  Put together by program out of these texts, in this order: Rie, Rif, Rva3, Jba, Jmd.
-/
import Derived.Test.YtjkklgpbblkhaaaGreatDoorZCaRFd15
import Derived.BigQuiet
import Derived.Test.YtjkklgpbblkhaaaGreatDoorZCaRFd04
import Derived.Test.YtjkklgpbblkhaaaGreatDoorZCaRFd13

/-
  Layer 3, the reference: products of lists of digits.
-/
namespace Go.Proofs.YtjkklgpbblkhaaaGreatDoor
open Go.RowKit Bs Ig

theorem zs_set (l : List Nat) (i v : Nat) : (zs l).set i (v : Int) = zs (l.set i v) := by unfold zs; rw [List.map_set]

set_option maxRecDepth 100000 in
set_option maxHeartbeats 4000000 in
theorem rtimes_any (a : Option Addr) (n c : Nat) (b : Option Addr) (k d : Nat) (x y : Nat) (w : World) (hl : IsZ w a n c (zs (D x))) (hm : IsZ w b k d (zs (D y))) (hn : n ≤ 1000) (hk : k ≤ 1000) :
    Calls Tryz.prog 76 #[.slice a n c, .slice b k d] w fun e w' => ∃ a' n' c', e = .returned (.slice a' n' c') ∧ IsZ w' a' n' c' (zs (D (x * y))) ∧ Below w.heap.size w w' := by
  have hxl := D_len hl
  have hyl := D_len hm
  have hnc := hl.cap
  have hkd := hm.cap
  obtain ⟨w1, hmk, hco1, hb1, hs1⟩ := mkCols w 40 Tryz.underlying40 (n + k) (by omega)
  rw [show ((n + k : Nat) : Int) = (n : Int) + (k : Int) by omega] at hmk
  have Hco1 := Lib.hid hco1
  have Hb1 := Lib.hid hb1
  clear hco1 hb1 hs1
  go_enter Tryz.func76, Tryz.ntmps76
  go_wp2_with fail
  go_loopw [6] (fun p wr => ∃ (O : List Nat) (i : Nat), p = .int .i64 (i : Int) ∧ i ≤ n ∧ To x y k (n + k) O i ∧ Cols wr w.heap.size (some ⟨w.heap.size, 0, none⟩) (n + k) (n + k) (zs O) ∧ Below w.heap.size w wr) (fun p _ => (n - intOf p).toNat)
  case atStart =>
    refine ⟨List.replicate (n + k) 0, 0, rfl, Nat.zero_le _, ⟨by simp, fun z hz => by rw [List.eq_of_mem_replicate hz]; omega, ?_, fun j _ => ?_⟩, ?_, Hb1.out⟩
    · rw [Nat.pow_zero, Nat.mod_one, Nat.zero_mul]
      generalize n + k = N
      induction N with
      | zero => rfl
      | succ N ih => rw [List.replicate_succ, Ig.val, ih]
    · rw [List.getD_eq_getElem?_getD, List.getElem?_replicate]; split <;> rfl
    · have h := Hco1.out
      rw [show List.replicate (n + k) (0 : Int) = zs (List.replicate (n + k) 0) by simp [zs]] at h
      exact h
  case round =>
    obtain ⟨O, i, rfl, hi, hto, hco, hw⟩ := hrel
    rcases Nat.lt_or_ge i n with h1 | h1
    · have hdx := dgs_getD 8 x i
      have hu9 : x / 10 ^ i % 10 < 10 := Nat.mod_lt _ (by omega)
      have hti := hto.inner
      obtain ⟨u, hu⟩ : ∃ u, x / 10 ^ i % 10 = u := ⟨_, rfl⟩
      rw [show (8 + 2 : Nat) = 10 from rfl, hu] at hdx
      rw [hu] at hu9
      have Hu := Lib.hid hu
      have Hti := Lib.hid hti
      have Hco := Lib.hid hco
      have Hw := Lib.hid hw
      have f1 : decide (i < n) = true := decide_eq_true h1
      clear hu hti hto hco hw hmk
      go_wp2_with fail
      go_loopw [7, 8] (fun r p wq => ∃ (O : List Nat) (q cr : Nat), r = .int .i64 (cr : Int) ∧ p = .int .i64 (q : Int) ∧ Ti x y k (n + k) O i q cr ∧ Cols wq w.heap.size (some ⟨w.heap.size, 0, none⟩) (n + k) (n + k) (zs O) ∧ Below w.heap.size w wq) (fun _ p _ => (k + 2 - intOf p).toNat)
      case atStart => exact ⟨O, 0, 0, rfl, rfl, Hti.out, Hco.out, Hw.out⟩
      case round =>
        obtain ⟨O, q, cr, rfl, rfl, hti, hco, hw⟩ := hrel
        have hcr := hti.car
        have hend := hti.end_
        rcases Decidable.em (q < k ∨ 0 < cr) with hgo | hno
        · have hqk : q ≤ k := by omega
          have hnx := hti.next hyl hgo (by omega)
          have hdy := dgs_getD 8 y q
          have hv9 : y / 10 ^ q % 10 < 10 := Nat.mod_lt _ (by omega)
          have hv0 : k ≤ q → y / 10 ^ q % 10 = 0 := fun h => by rw [div_high hyl h]
          obtain ⟨v, hv⟩ : ∃ v, y / 10 ^ q % 10 = v := ⟨_, rfl⟩
          rw [show (8 + 2 : Nat) = 10 from rfl, hv] at hdy
          rw [hv] at hnx hv9 hv0
          rw [Hu.out] at hnx
          obtain ⟨g, hg, hB, hcc⟩ := hco.at (by omega)
          cases hg
          obtain ⟨hc1, hf1⟩ := hcc (i + q) (by omega)
          rw [zs_getD] at hc1
          have ho9 : O.getD (i + q) 0 < 10 := by
            rw [List.getD_eq_getElem?_getD, List.getElem?_eq_getElem (by have := hti.len; omega)]
            exact hti.lt _ (List.getElem_mem _)
          obtain ⟨o, ho⟩ : ∃ o, O.getD (i + q) 0 = o := ⟨_, rfl⟩
          rw [ho] at hc1 ho9 hnx
          obtain ⟨p, hp⟩ : ∃ p, u * v = p := ⟨_, rfl⟩
          have hp9 : p ≤ 81 := by rw [← hp]; exact Nat.mul_le_mul (show u ≤ 9 by omega) (show v ≤ 9 by omega)
          have hp2 : (u : Int) * (v : Int) = (p : Int) := by rw [← hp]; simp
          rw [hp] at hnx
          obtain ⟨s1, hs1⟩ : ∃ s1, (o + cr + p) % 10 = s1 := ⟨_, rfl⟩
          obtain ⟨s2, hs2⟩ : ∃ s2, (o + cr + p) / 10 = s2 := ⟨_, rfl⟩
          rw [hs1, hs2] at hnx
          have Hnx := Lib.hid hnx
          have Hco2 := Lib.hid (fun (W : World) (hb : Below wr.heap.size wr W) => by have h := (hco.later hb).set (i + q) (by omega) (s1 : Int); rw [zs_set] at h; exact h)
          have hb1 : s1 < 10 := by omega
          have hb2 : s2 < 10 := by omega
          have Hw2 := Lib.hid hw
          rcases Nat.lt_or_ge q k with h2 | h2
          · obtain ⟨ga, offa, rfl, hIa⟩ := (hl.later hw).at (by omega)
            have hcu := hIa i (by rw [zs_length]; omega)
            rw [zs_getD, show (D x).getD i 0 = u from hdx] at hcu
            obtain ⟨gb, offb, rfl, hIb⟩ := (hm.later hw).at (by omega)
            have hcv := hIb q (by rw [zs_length]; omega)
            rw [zs_getD, show (D y).getD q 0 = v from hdy] at hcv
            obtain ⟨t1, t2⟩ := tm10 (o + cr + p) ((o : Int) + (cr : Int) + (p : Int)) (by omega)
            rw [hs1] at t1
            rw [hs2] at t2
            have f2 : decide (q < k) = true := decide_eq_true h2
            clear hs1 hs2 hnx hdy hdx hv hv0 hcc hti hco hw hl hm hIa hIb hxl hyl ho hp hend hgo
            go_wp2_with fail
            go_quiet (fail)
            have e1 : (wr.drewN nq).cell? ⟨w.heap.size, i + q, none⟩ = some (.int .i64 (o : Int)) := hc1
            have e2 : (wr.drewN nq).frozen? ⟨w.heap.size, i + q, none⟩ = false := hf1
            have hd := below_drewN (Below.refl wr.heap.size wr) nq
            have Hco3 := Lib.hid (Hco2.out _ hd)
            have Hw3 := Lib.hid (below_drewN Hw2.out nq)
            clear hc1 hf1 hcu hcv hd Hco2
            generalize wr.drewN nq = W2 at *
            go_wp2_with fail
            go_roundw
            case rel => exact ⟨O.set (i + q) s1, q + 1, s2, rfl, by go_num, Hnx.out, Hco3.out, Hw3.out.setCell (p := ⟨w.heap.size, i + q, none⟩) (Nat.le_refl _) _⟩
            case measure => simp [intOf]; omega
          · have hvz := hv0 h2
            have hpz : p = 0 := by rw [← hp, hvz, Nat.mul_zero]
            obtain ⟨t1, t2⟩ := tm10 (o + cr + p) ((o : Int) + (cr : Int)) (by omega)
            rw [hs1] at t1
            rw [hs2] at t2
            have f2 : decide (q < k) = false := decide_eq_false (by omega)
            have f3 : decide (0 < cr) = true := decide_eq_true (by omega)
            clear hs1 hs2 hnx hdy hdx hv hv0 hcc hti hco hw hl hm hxl hyl ho hp hgo hpz hvz
            go_wp2_with fail
            go_roundw
            case rel => exact ⟨O.set (i + q) s1, q + 1, s2, rfl, by go_num, Hnx.out, Hco2.out _ (Below.refl _ _), Hw2.out.setCell (p := ⟨w.heap.size, i + q, none⟩) (Nat.le_refl _) _⟩
            case measure => simp [intOf]; omega
        · obtain rfl : cr = 0 := by omega
          have hout := Lib.hid (hti.outer hyl (by omega))
          have Hco2 := Lib.hid hco
          have Hw2 := Lib.hid hw
          have f2 : decide (q < k) = false := decide_eq_false (by omega)
          clear hti hco hw hend
          go_wp2_with fail
          go_roundw
          case rel => exact ⟨O, i + 1, by go_num, by omega, hout.out, Hco2.out, Hw2.out⟩
          case measure => simp [intOf]; omega
    · obtain rfl : n = i := by omega
      have hd := hto.done hxl
      have ht := fun (W : World) (hb : Below wr.heap.size wr W) => rtrim_any (some ⟨w.heap.size, 0, none⟩) (n + k) (n + k) O W (hco.isZ.later hb) hto.lt (by omega)
      rw [hd] at ht
      have HT := Lib.hid ht
      have Hw := Lib.hid hw
      have f1 : decide (n < n) = false := decide_eq_false (by omega)
      clear hd hw hco hto hl hm hxl hyl ht hmk
      go_wp2_with (go_at_call 104; (with_reducible refine (HT.out _ (Below.refl _ _)).mono ?_); rintro e w5 ⟨m, rfl, z5, B5⟩)
      go_ret
      exact ⟨_, m, _, rfl, z5, below_on Hw.out B5 Hw.out.size⟩

end Go.Proofs.YtjkklgpbblkhaaaGreatDoor

/-
  Layer 3, the reference: quotients of lists of digits, the numbers alone.
-/
namespace Go.Proofs.YtjkklgpbblkhaaaGreatDoor
open Go.RowKit Bs Ig

/-- what a round of the division keeps: j digits are left -/
structure Do (x y n : Nat) (O : List Nat) (j R : Nat) : Prop where
  len : O.length = n
  lt : ∀ z ∈ O, z < 10
  sum : Ig.val 10 O = x / 10 ^ j / y * 10 ^ j
  rem : R = x / 10 ^ j % y
  low : ∀ i, i < j → O.getD i 0 = 0
/-- what a subtraction keeps: the digit i of the quotient is c so far -/
structure Di (x y n : Nat) (O : List Nat) (i c R : Nat) : Prop where
  len : O.length = n
  lt : ∀ z ∈ O, z < 10
  sum : Ig.val 10 O = (x / 10 ^ (i + 1) / y * 10 + c) * 10 ^ i
  digit : O.getD i 0 = c
  rem : R + c * y = 10 * (x / 10 ^ (i + 1) % y) + x / 10 ^ i % 10
  low : ∀ k, k < i → O.getD k 0 = 0
theorem div_step (x i : Nat) : x / 10 ^ i = 10 * (x / 10 ^ (i + 1)) + x / 10 ^ i % 10 := by
  rw [Nat.pow_succ, ← Nat.div_div_eq_div_mul]; omega
theorem Do.start {x y n : Nat} (hx : (D x).length = n) : Do x y n (List.replicate n 0) n 0 := by
  have e : x / 10 ^ n = 0 := Nat.div_eq_of_lt (D_lt_pow hx)
  refine ⟨by simp, fun z hz => by rw [List.eq_of_mem_replicate hz]; omega, ?_, by rw [e, Nat.zero_mod], fun i _ => ?_⟩
  · rw [e, Nat.zero_div, Nat.zero_mul]
    clear e hx
    induction n with
    | zero => rfl
    | succ N ih => rw [List.replicate_succ, Ig.val, ih]
  · rw [List.getD_eq_getElem?_getD, List.getElem?_replicate]; split <;> rfl
theorem Do.inner {x y n : Nat} {O : List Nat} {i R : Nat} (h : Do x y n O (i + 1) R) : Di x y n O i 0 (10 * R + x / 10 ^ i % 10) := by
  refine ⟨h.len, h.lt, ?_, h.low i (by omega), ?_, fun k hk => h.low k (by omega)⟩
  · rw [h.sum]
    generalize x / 10 ^ (i + 1) / y = X
    rw [show X * 10 + 0 = X * 10 from rfl, Nat.pow_succ, Nat.mul_comm (10 ^ i) 10, Nat.mul_assoc]
  · rw [h.rem, Nat.zero_mul, Nat.add_zero]
theorem Di.small {x y n : Nat} {O : List Nat} {i c R : Nat} (h : Di x y n O i c R) (hy : 0 < y) (hR : y ≤ R) : c + 1 < 10 := by
  have h1 := Nat.mod_lt (x / 10 ^ (i + 1)) hy
  have h2 : x / 10 ^ i % 10 < 10 := Nat.mod_lt _ (by omega)
  have h3 := h.rem
  rcases Nat.lt_or_ge (c + 1) 10 with hc | hc
  · exact hc
  · have := Nat.mul_le_mul_right y (show 9 ≤ c by omega)
    omega
theorem Di.next {x y n : Nat} {O : List Nat} {i c R : Nat} (h : Di x y n O i c R) (hy : 0 < y) (hR : y ≤ R) (hi : i < n) : Di x y n (O.set i (c + 1)) i (c + 1) (R - y) := by
  have hc := h.small hy hR
  refine ⟨by rw [List.length_set]; exact h.len, fun z hz => ?_, ?_, ?_, ?_, fun k hk => ?_⟩
  · rcases List.mem_or_eq_of_mem_set hz with hz | hz
    · exact h.lt z hz
    · omega
  · have hv := val_setN 10 O i (c + 1) (by rw [h.len]; exact hi)
    rw [h.digit, h.sum, Nat.add_mul, Nat.mul_comm (10 ^ i) c, Nat.mul_comm (10 ^ i) (c + 1)] at hv
    rw [Nat.add_mul]
    omega
  · rw [List.getD_eq_getElem?_getD, List.getElem?_set_self (by rw [h.len]; exact hi)]; rfl
  · rw [← h.rem, Nat.add_mul]; omega
  · rw [List.getD_eq_getElem?_getD, List.getElem?_set_ne (by omega), ← List.getD_eq_getElem?_getD]
    exact h.low k hk
theorem Di.outer {x y n : Nat} {O : List Nat} {i c R : Nat} (h : Di x y n O i c R) (hR : R < y) : Do x y n O i R := by
  have e : x / 10 ^ i = R + y * (x / 10 ^ (i + 1) / y * 10 + c) := by
    rw [div_step x i]
    have h1 := Nat.div_add_mod (x / 10 ^ (i + 1)) y
    have h2 := h.rem
    rw [Nat.mul_add, ← Nat.mul_assoc]
    generalize y * (x / 10 ^ (i + 1) / y) = A at *
    generalize x / 10 ^ (i + 1) = B at *
    rw [Nat.mul_comm c y] at h2
    omega
  refine ⟨h.len, h.lt, ?_, ?_, h.low⟩
  · rw [h.sum]
    congr 1
    rw [e, Nat.add_mul_div_left _ _ (by omega), Nat.div_eq_of_lt hR, Nat.zero_add]
  · rw [e, Nat.add_mul_mod_self_left, Nat.mod_eq_of_lt hR]
theorem Do.done {x y n : Nat} {O : List Nat} {R : Nat} (h : Do x y n O 0 R) : Ig.val 10 O = x / y ∧ R = x % y := by
  have h1 := h.sum
  have h2 := h.rem
  rw [Nat.pow_zero, Nat.div_one] at h1 h2
  exact ⟨by rw [h1, Nat.mul_one], h2⟩

end Go.Proofs.YtjkklgpbblkhaaaGreatDoor

/-
  Layer 3, the reference: which strings are integers.
-/
namespace Go.Proofs.YtjkklgpbblkhaaaGreatDoor
open Go.RowKit Bs Ig

/-- the bytes of B are digits, B is neither empty nor too long, and it begins with no 0 -/
def DigS (B : ByteArray) : Prop := ∀ i (h : i < B.size), 48 ≤ (B[i]'h).toNat ∧ (B[i]'h).toNat ≤ 57
theorem isI_str (s : ByteArray) : IsI s.data.toList ↔ s.data.toList = [48] ∨ (0 < (body s.data.toList).length ∧ (body s.data.toList).length ≤ 200 ∧ (body s.data.toList).getD 0 0 ≠ 48 ∧ ∀ i, i < (body s.data.toList).length → isDig ((body s.data.toList).getD i 0)) := isI_iff _
theorem getD_str (B : ByteArray) (i : Nat) (h : i < B.size) : B.data.toList.getD i 0 = B[i]'h := by
  rw [List.getD_eq_getElem?_getD, List.getElem?_eq_getElem (show i < B.data.toList.length from h)]; rfl

theorem post_b {Post : Ending → World → Prop} {W : World} {b c : Bool} (h : b = c) (hp : Post (.returned (.bool c)) W) : Post (.returned (.bool b)) W := by subst h; exact hp
set_option maxRecDepth 100000 in
set_option maxHeartbeats 4000000 in
/-- behind the sign: the string B, which is s or what stands behind the sign -/
theorem rvalid_any (s : ByteArray) (hs : s.size ≤ 9223372036854775807) (w : World) :
    Calls Tryz.prog 61 #[.string s] w fun e w' => ∃ r : Bool, e = .returned (.bool r) ∧ (r = true ↔ IsI s.data.toList) ∧ w' = w := by
  suffices h : ∀ (Post : Ending → World → Prop), (∀ r : Bool, (r = true ↔ IsI s.data.toList) → Post (.returned (.bool r)) w) → Calls Tryz.prog 61 #[.string s] w Post from h _ fun r hr => ⟨r, rfl, hr, rfl⟩
  intro Post hPost
  have hcase : (∃ (h : 0 < s.size), (s[0]'h).toNat = 45 ∧ s.data.toList = 45 :: (s.extract 1 s.size).data.toList) ∨ ((s.size = 0 ∨ ∃ (h : 0 < s.size), (s[0]'h).toNat ≠ 45) ∧ body s.data.toList = s.data.toList) := by
    rcases Nat.eq_zero_or_pos s.size with h | h
    · refine .inr ⟨.inl h, ?_⟩
      have : s.data.toList = [] := List.length_eq_zero_iff.1 h
      rw [this]; rfl
    · obtain ⟨c, r, hl⟩ : ∃ c r, s.data.toList = c :: r := by
        cases hd : s.data.toList with
        | nil => have : s.data.toList.length = s.size := rfl; rw [hd] at this; simp at this; omega
        | cons c r => exact ⟨c, r, rfl⟩
      have h0 : s[0]'h = c := by have := getD_str s 0 h; rw [hl] at this; exact this.symm
      by_cases hc : c = 45
      · subst hc
        refine .inl ⟨h, by rw [h0]; rfl, ?_⟩
        have hx := bs_extract s.data.toList 1 s.size
        rw [bs_bytes, hl] at hx
        rw [hx, hl]
        show _ = 45 :: (bs _).data.toList
        simp only [bs, List.drop_succ_cons, List.drop_zero]
        rw [List.take_of_length_le (by have : s.data.toList.length = s.size := rfl; rw [hl] at this; simp at this; omega)]
      · refine .inr ⟨.inr ⟨h, fun e => hc ?_⟩, ?_⟩
        · rw [h0] at e; exact UInt8.toNat_inj.1 e
        · rw [hl]; unfold body; split
          · rename_i e; exact (hc (List.cons.inj e).1).elim
          · rfl
  -- what is left behind the sign
  have key : ∀ (B : ByteArray) (neg : Bool), body s.data.toList = B.data.toList → (neg = true → s.data.toList ≠ [48]) → (neg = false → s.data.toList = B.data.toList) →
      (IsI s.data.toList ↔ ((neg = false ∧ B.data.toList = [48]) ∨ (0 < B.size ∧ B.size ≤ 200 ∧ (∃ h : 0 < B.size, (B[0]'h).toNat ≠ 48) ∧ DigS B))) := by
    intro B neg hb h1 h2
    rw [isI_str, hb]
    have hlen : B.data.toList.length = B.size := rfl
    constructor
    · rintro (h | ⟨g1, g2, g3, g4⟩)
      · cases neg with
        | true => exact (h1 rfl h).elim
        | false => exact .inl ⟨rfl, by rw [← h2 rfl]; exact h⟩
      · rw [hlen] at g1 g2 g4
        refine .inr ⟨g1, g2, ⟨g1, fun e => g3 ?_⟩, fun i hi => ?_⟩
        · rw [getD_str B 0 g1]; exact UInt8.toNat_inj.1 e
        · have := g4 i hi; rw [getD_str B i hi] at this; exact this
    · rintro (⟨h, h'⟩ | ⟨g1, g2, ⟨g3, g3'⟩, g4⟩)
      · left; rw [h2 h]; exact h'
      · right
        rw [hlen]
        refine ⟨g1, g2, fun e => g3' ?_, fun i hi => ?_⟩
        · rw [getD_str B 0 g1] at e; rw [e]; rfl
        · rw [getD_str B i hi]; exact g4 i hi
  have fin : ∀ (B : ByteArray) (neg : Bool), body s.data.toList = B.data.toList → (neg = true → s.data.toList ≠ [48] ∧ B.data.toList ≠ [48]) → (neg = false → s.data.toList = B.data.toList) → ∀ r : Bool,
      (r = true ↔ (0 < B.size ∧ B.size ≤ 200 ∧ (B.data.toList = [48] ∨ ∃ h : 0 < B.size, (B[0]'h).toNat ≠ 48) ∧ DigS B)) → Post (.returned (.bool r)) w := by
    intro B neg hb h1 h2 r hr
    refine hPost r ?_
    rw [hr, key B neg hb (fun h => (h1 h).1) h2]
    constructor
    · rintro ⟨a1, a2, a3 | a3, a4⟩
      · cases neg with
        | true => exact ((h1 rfl).2 a3).elim
        | false => exact .inl ⟨rfl, a3⟩
      · exact .inr ⟨a1, a2, a3, a4⟩
    · rintro (⟨_, h⟩ | ⟨a1, a2, a3, a4⟩)
      · have hsz : B.size = 1 := by have : B.data.toList.length = B.size := rfl; rw [h] at this; exact this.symm
        refine ⟨by omega, by omega, .inl h, fun i hi => ?_⟩
        have hi0 : i = 0 := by omega
        subst hi0
        have := getD_str B 0 hi
        rw [h] at this
        rw [← this]; decide
      · exact ⟨a1, a2, .inr a3, a4⟩
  rcases hcase with ⟨h0, h45, hl⟩ | ⟨hno, hbody⟩
  · -- a sign
    obtain ⟨B, hB⟩ : ∃ B, s.extract 1 s.size = B := ⟨_, rfl⟩
    rw [hB] at hl
    have hbody : body s.data.toList = B.data.toList := by rw [hl]; rfl
    have g1 : decide (0 < s.size) = true := decide_eq_true h0
    have g2 : decide (1 ≤ s.size) = true := decide_eq_true h0
    have g3 : decide (0 < (s.size : Int)) = true := decide_eq_true (by omega)
    have g4 : decide (1 ≤ (s.size : Int)) = true := decide_eq_true (by omega)
    have hBs : B.size ≤ 9223372036854775807 := by rw [← hB, ByteArray.size_extract]; omega
    have hne : s.data.toList ≠ [48] := by rw [hl]; intro e; exact absurd (List.cons.inj e).1 (by decide)
    obtain ⟨z, hz⟩ : ∃ z, (B.toList == [48]) = z := ⟨_, rfl⟩
    have hzl : z = true ↔ B.data.toList = [48] := by rw [← hz, toList_eq]; simp
    cases z with
    | true =>
      have hr := hPost false ⟨fun h => (by cases h), fun h => by
        rcases (isI_str s).1 h with h | ⟨_, _, h, _⟩
        · exact (hne h).elim
        · rw [hbody, hzl.1 rfl] at h; exact (h rfl).elim⟩
      have Hr := Lib.hid hr
      clear key fin hr hzl hbody hl hne hPost
      go_enter Tryz.func61, Tryz.ntmps61
      go_wp2_with fail
      all_goals first | exact Hr.out | (go_ret; exact Hr.out)
    | false =>
      have fin := fin B true hbody (fun _ => ⟨hne, fun h => by have := hzl.2 h; cases this⟩) (fun h => by cases h)
      clear key hzl hbody hl hne hPost
      go_enter Tryz.func61, Tryz.ntmps61
      go_wp2_with fail
      go_loopw [3] (fun p wr => ∃ i : Nat, p = .int .i64 (i : Int) ∧ i ≤ B.size ∧ (∀ j (h : j < B.size), j < i → 48 ≤ (B[j]'h).toNat ∧ (B[j]'h).toNat ≤ 57) ∧ wr = w) (fun p _ => (B.size - intOf p).toNat)
      case atStart => exact ⟨0, rfl, Nat.zero_le _, fun j _ h => absurd h (Nat.not_lt_zero j), rfl⟩
      case round =>
        obtain ⟨i, rfl, hi, hall, rfl⟩ := hrel
        rcases Nat.lt_or_ge i B.size with h1 | h1
        · obtain ⟨k, hk⟩ : ∃ k, (B[i]'h1).toNat = k := ⟨_, rfl⟩
          have e1 : decide ((i : Int) < (B.size : Int)) = true := decide_eq_true (by omega)
          have e2 : decide (i < B.size) = true := decide_eq_true h1
          rcases Decidable.em (48 ≤ k ∧ k ≤ 57) with ⟨hd1, hd2⟩ | hd
          · have d1 : decide ((k : Int) < 48) = false := decide_eq_false (by omega)
            have d2 : decide (57 < (k : Int)) = false := decide_eq_false (by omega)
            have d3 : decide (k < 48) = false := decide_eq_false (by omega)
            have d4 : decide (57 < k) = false := decide_eq_false (by omega)
            have HA := Lib.hid (show ∀ j (h : j < B.size), j < i + 1 → 48 ≤ (B[j]'h).toNat ∧ (B[j]'h).toNat ≤ 57 from fun j h hj => by
              rcases Nat.lt_or_ge j i with h2 | h2
              · exact hall j h h2
              · have : j = i := by omega
                subst this
                rw [hk]; omega)
            clear hall fin
            go_wp2_with fail
            go_roundw
            case rel => exact ⟨i + 1, by go_num, h1, HA.out, by trivial⟩
            case measure => simp [intOf]; omega
          · have hr := fin false ⟨fun h => (by cases h), fun ⟨_, _, _, h4⟩ => (hd (by have := h4 i h1; rw [hk] at this; exact this)).elim⟩
            have Hr := Lib.hid hr
            clear hall fin hr
            rcases Nat.lt_or_ge k 48 with h2 | h2
            · have d1 : decide ((k : Int) < 48) = true := decide_eq_true (by omega)
              have d3 : decide (k < 48) = true := decide_eq_true h2
              go_wp2_with fail
              all_goals first | exact Hr.out | (refine post_b ?_ Hr.out; first | rfl | (simp; omega) | (simp only [bne_iff_ne, ne_eq, beq_iff_eq]; omega)) | (go_ret; exact Hr.out) | (go_ret; refine post_b ?_ Hr.out; first | rfl | (simp; omega))
            · have d1 : decide ((k : Int) < 48) = false := decide_eq_false (by omega)
              have d2 : decide (57 < (k : Int)) = true := decide_eq_true (by omega)
              have d3 : decide (k < 48) = false := decide_eq_false (by omega)
              have d4 : decide (57 < k) = true := decide_eq_true (by omega)
              go_wp2_with fail
              all_goals first | exact Hr.out | (refine post_b ?_ Hr.out; first | rfl | (simp; omega) | (simp only [bne_iff_ne, ne_eq, beq_iff_eq]; omega)) | (go_ret; exact Hr.out) | (go_ret; refine post_b ?_ Hr.out; first | rfl | (simp; omega))
        · obtain rfl : i = B.size := by omega
          have e1 : decide ((B.size : Int) < (B.size : Int)) = false := decide_eq_false (by omega)
          have e2 : decide (B.size < B.size) = false := decide_eq_false (by omega)
          have hdig : DigS B := fun j h => hall j h h
          rcases Nat.eq_zero_or_pos B.size with h2 | h2
          · have Hr := Lib.hid (fin false ⟨fun h => (by cases h), fun ⟨h, _⟩ => absurd h (by omega)⟩)
            have e3 : decide (0 < B.size) = false := decide_eq_false (by omega)
            have e4 : decide (0 < (B.size : Int)) = false := decide_eq_false (by omega)
            clear hall fin hdig
            go_wp2_with fail
            all_goals first | exact Hr.out | (refine post_b ?_ Hr.out; first | rfl | (simp; omega) | (simp only [bne_iff_ne, ne_eq, beq_iff_eq]; omega)) | (go_ret; exact Hr.out) | (go_ret; refine post_b ?_ Hr.out; first | rfl | (simp; omega))
          · have e3 : decide (0 < B.size) = true := decide_eq_true h2
            have e4 : decide (0 < (B.size : Int)) = true := decide_eq_true (by omega)
            rcases Nat.lt_or_ge 200 B.size with h3 | h3
            · have Hr := Lib.hid (fin false ⟨fun h => (by cases h), fun ⟨_, h, _⟩ => absurd h (by omega)⟩)
              have e5 : decide ((B.size : Int) ≤ 200) = false := decide_eq_false (by omega)
              have e6 : decide (B.size ≤ 200) = false := decide_eq_false (by omega)
              clear hall fin hdig
              go_wp2_with fail
              all_goals first | exact Hr.out | (refine post_b ?_ Hr.out; first | rfl | (simp; omega) | (simp only [bne_iff_ne, ne_eq, beq_iff_eq]; omega)) | (go_ret; exact Hr.out) | (go_ret; refine post_b ?_ Hr.out; first | rfl | (simp; omega))
            · have e5 : decide ((B.size : Int) ≤ 200) = true := decide_eq_true (by omega)
              have e6 : decide (B.size ≤ 200) = true := decide_eq_true (by omega)
              obtain ⟨z, hz⟩ : ∃ z, (B.toList == [48]) = z := ⟨_, rfl⟩
              obtain ⟨k, hk⟩ : ∃ k, (B[0]'h2).toNat = k := ⟨_, rfl⟩
              have hzl : z = true ↔ B.data.toList = [48] := by rw [← hz, toList_eq]; simp
              cases z with
              | true =>
                exact absurd (‹(B.toList == [48]) = false›.symm.trans ‹(B.toList == [48]) = true›) (by decide)
              | false =>
                have hnz : B.data.toList ≠ [48] := fun h => by have := hzl.2 h; cases this
                rcases Decidable.em (k = 48) with h48 | h48
                · have Hr := Lib.hid (fin false ⟨fun h => (by cases h), fun ⟨_, _, h, _⟩ => by
                    rcases h with h | ⟨_, h⟩
                    · exact (hnz h).elim
                    · rw [hk] at h; exact (h h48).elim⟩)
                  subst h48
                  clear hall fin hdig hzl hnz
                  go_wp2_with fail
                  all_goals first | exact Hr.out | (refine post_b ?_ Hr.out; first | rfl | (simp; omega) | (simp only [bne_iff_ne, ne_eq, beq_iff_eq]; omega)) | (go_ret; exact Hr.out) | (go_ret; refine post_b ?_ Hr.out; first | rfl | (simp; omega))
                · have Hr := Lib.hid (fin true ⟨fun _ => ⟨h2, h3, .inr ⟨h2, by rw [hk]; exact h48⟩, hdig⟩, fun _ => rfl⟩)
                  have D5 := Lib.hid (show ((k : Int) != 48) = true by simp; omega)
                  have d6 : (k != 48) = true := by simp; omega
                  have d7 : ((k : Int) == 48) = false := beq_false_of_ne (by omega)
                  clear hall fin hdig hzl hnz
                  go_wp2_with fail
                  all_goals first | exact Hr.out | (refine post_b ?_ Hr.out; first | rfl | (simp; omega) | (simp only [bne_iff_ne, ne_eq, beq_iff_eq]; omega)) | (go_ret; exact Hr.out) | (go_ret; refine post_b ?_ Hr.out; first | rfl | (simp; omega))
  · have fin := fin s false hbody (fun h => by cases h) (fun _ => rfl)
    obtain ⟨B, rfl⟩ : ∃ B, B = s := ⟨_, rfl⟩
    clear key hPost
    rcases hno with h0 | ⟨h0, h45⟩
    · have g1 : decide (0 < B.size) = false := decide_eq_false (by omega)
      have g3 : decide (0 < (B.size : Int)) = false := decide_eq_false (by omega)
      clear hbody
      go_enter Tryz.func61, Tryz.ntmps61
      go_wp2_with fail
      go_loopw [3] (fun p wr => ∃ i : Nat, p = .int .i64 (i : Int) ∧ i ≤ B.size ∧ (∀ j (h : j < B.size), j < i → 48 ≤ (B[j]'h).toNat ∧ (B[j]'h).toNat ≤ 57) ∧ wr = w) (fun p _ => (B.size - intOf p).toNat)
      case atStart => exact ⟨0, rfl, Nat.zero_le _, fun j _ h => absurd h (Nat.not_lt_zero j), rfl⟩
      case round =>
        obtain ⟨i, rfl, hi, hall, rfl⟩ := hrel
        rcases Nat.lt_or_ge i B.size with h1 | h1
        · omega
        · obtain rfl : i = B.size := by omega
          have e1 : decide ((B.size : Int) < (B.size : Int)) = false := decide_eq_false (by omega)
          have e2 : decide (B.size < B.size) = false := decide_eq_false (by omega)
          have hdig : DigS B := fun j h => hall j h h
          rcases Nat.eq_zero_or_pos B.size with h2 | h2
          · have Hr := Lib.hid (fin false ⟨fun h => (by cases h), fun ⟨h, _⟩ => absurd h (by omega)⟩)
            have e3 : decide (0 < B.size) = false := decide_eq_false (by omega)
            have e4 : decide (0 < (B.size : Int)) = false := decide_eq_false (by omega)
            clear hall fin hdig
            go_wp2_with fail
            all_goals first | exact Hr.out | (refine post_b ?_ Hr.out; first | rfl | (simp; omega) | (simp only [bne_iff_ne, ne_eq, beq_iff_eq]; omega)) | (go_ret; exact Hr.out) | (go_ret; refine post_b ?_ Hr.out; first | rfl | (simp; omega))
          · omega
    · have g1 : decide (0 < B.size) = true := decide_eq_true h0
      have g3 : decide (0 < (B.size : Int)) = true := decide_eq_true (by omega)
      obtain ⟨q, hq⟩ : ∃ q, (B[0]'h0).toNat = q := ⟨_, rfl⟩
      rw [hq] at h45
      have g5 : ((q : Int) == 45) = false := beq_false_of_ne (by omega)
      have g6 : (q == 45) = false := beq_false_of_ne (by omega)
      clear hbody
      go_enter Tryz.func61, Tryz.ntmps61
      go_wp2_with fail
      go_loopw [3] (fun p wr => ∃ i : Nat, p = .int .i64 (i : Int) ∧ i ≤ B.size ∧ (∀ j (h : j < B.size), j < i → 48 ≤ (B[j]'h).toNat ∧ (B[j]'h).toNat ≤ 57) ∧ wr = w) (fun p _ => (B.size - intOf p).toNat)
      case atStart => exact ⟨0, rfl, Nat.zero_le _, fun j _ h => absurd h (Nat.not_lt_zero j), rfl⟩
      case round =>
        obtain ⟨i, rfl, hi, hall, rfl⟩ := hrel
        rcases Nat.lt_or_ge i B.size with h1 | h1
        · obtain ⟨k, hk⟩ : ∃ k, (B[i]'h1).toNat = k := ⟨_, rfl⟩
          have e1 : decide ((i : Int) < (B.size : Int)) = true := decide_eq_true (by omega)
          have e2 : decide (i < B.size) = true := decide_eq_true h1
          rcases Decidable.em (48 ≤ k ∧ k ≤ 57) with ⟨hd1, hd2⟩ | hd
          · have d1 : decide ((k : Int) < 48) = false := decide_eq_false (by omega)
            have d2 : decide (57 < (k : Int)) = false := decide_eq_false (by omega)
            have d3 : decide (k < 48) = false := decide_eq_false (by omega)
            have d4 : decide (57 < k) = false := decide_eq_false (by omega)
            have HA := Lib.hid (show ∀ j (h : j < B.size), j < i + 1 → 48 ≤ (B[j]'h).toNat ∧ (B[j]'h).toNat ≤ 57 from fun j h hj => by
              rcases Nat.lt_or_ge j i with h2 | h2
              · exact hall j h h2
              · have : j = i := by omega
                subst this
                rw [hk]; omega)
            clear hall fin
            go_wp2_with fail
            go_roundw
            case rel => exact ⟨i + 1, by go_num, h1, HA.out, by trivial⟩
            case measure => simp [intOf]; omega
          · have hr := fin false ⟨fun h => (by cases h), fun ⟨_, _, _, h4⟩ => (hd (by have := h4 i h1; rw [hk] at this; exact this)).elim⟩
            have Hr := Lib.hid hr
            clear hall fin hr
            rcases Nat.lt_or_ge k 48 with h2 | h2
            · have d1 : decide ((k : Int) < 48) = true := decide_eq_true (by omega)
              have d3 : decide (k < 48) = true := decide_eq_true h2
              go_wp2_with fail
              all_goals first | exact Hr.out | (refine post_b ?_ Hr.out; first | rfl | (simp; omega) | (simp only [bne_iff_ne, ne_eq, beq_iff_eq]; omega)) | (go_ret; exact Hr.out) | (go_ret; refine post_b ?_ Hr.out; first | rfl | (simp; omega))
            · have d1 : decide ((k : Int) < 48) = false := decide_eq_false (by omega)
              have d2 : decide (57 < (k : Int)) = true := decide_eq_true (by omega)
              have d3 : decide (k < 48) = false := decide_eq_false (by omega)
              have d4 : decide (57 < k) = true := decide_eq_true (by omega)
              go_wp2_with fail
              all_goals first | exact Hr.out | (refine post_b ?_ Hr.out; first | rfl | (simp; omega) | (simp only [bne_iff_ne, ne_eq, beq_iff_eq]; omega)) | (go_ret; exact Hr.out) | (go_ret; refine post_b ?_ Hr.out; first | rfl | (simp; omega))
        · obtain rfl : i = B.size := by omega
          have e1 : decide ((B.size : Int) < (B.size : Int)) = false := decide_eq_false (by omega)
          have e2 : decide (B.size < B.size) = false := decide_eq_false (by omega)
          have hdig : DigS B := fun j h => hall j h h
          rcases Nat.eq_zero_or_pos B.size with h2 | h2
          · have Hr := Lib.hid (fin false ⟨fun h => (by cases h), fun ⟨h, _⟩ => absurd h (by omega)⟩)
            have e3 : decide (0 < B.size) = false := decide_eq_false (by omega)
            have e4 : decide (0 < (B.size : Int)) = false := decide_eq_false (by omega)
            clear hall fin hdig
            go_wp2_with fail
            all_goals first | exact Hr.out | (refine post_b ?_ Hr.out; first | rfl | (simp; omega) | (simp only [bne_iff_ne, ne_eq, beq_iff_eq]; omega)) | (go_ret; exact Hr.out) | (go_ret; refine post_b ?_ Hr.out; first | rfl | (simp; omega))
          · have e3 : decide (0 < B.size) = true := decide_eq_true h2
            have e4 : decide (0 < (B.size : Int)) = true := decide_eq_true (by omega)
            rcases Nat.lt_or_ge 200 B.size with h3 | h3
            · have Hr := Lib.hid (fin false ⟨fun h => (by cases h), fun ⟨_, h, _⟩ => absurd h (by omega)⟩)
              have e5 : decide ((B.size : Int) ≤ 200) = false := decide_eq_false (by omega)
              have e6 : decide (B.size ≤ 200) = false := decide_eq_false (by omega)
              clear hall fin hdig
              go_wp2_with fail
              all_goals first | exact Hr.out | (refine post_b ?_ Hr.out; first | rfl | (simp; omega) | (simp only [bne_iff_ne, ne_eq, beq_iff_eq]; omega)) | (go_ret; exact Hr.out) | (go_ret; refine post_b ?_ Hr.out; first | rfl | (simp; omega))
            · have e5 : decide ((B.size : Int) ≤ 200) = true := decide_eq_true (by omega)
              have e6 : decide (B.size ≤ 200) = true := decide_eq_true (by omega)
              obtain ⟨z, hz⟩ : ∃ z, (B.toList == [48]) = z := ⟨_, rfl⟩
              obtain ⟨k, hk⟩ : ∃ k, (B[0]'h2).toNat = k := ⟨_, rfl⟩
              have hzl : z = true ↔ B.data.toList = [48] := by rw [← hz, toList_eq]; simp
              cases z with
              | true =>
                have Hr := Lib.hid (fin true ⟨fun _ => ⟨h2, h3, .inl (hzl.1 rfl), hdig⟩, fun _ => rfl⟩)
                clear hall fin hdig hzl
                go_wp2_with fail
                all_goals first | exact Hr.out | (refine post_b ?_ Hr.out; first | rfl | (simp; omega) | (simp only [bne_iff_ne, ne_eq, beq_iff_eq]; omega)) | (go_ret; exact Hr.out) | (go_ret; refine post_b ?_ Hr.out; first | rfl | (simp; omega))
              | false =>
                have hnz : B.data.toList ≠ [48] := fun h => by have := hzl.2 h; cases this
                rcases Decidable.em (k = 48) with h48 | h48
                · have Hr := Lib.hid (fin false ⟨fun h => (by cases h), fun ⟨_, _, h, _⟩ => by
                    rcases h with h | ⟨_, h⟩
                    · exact (hnz h).elim
                    · rw [hk] at h; exact (h h48).elim⟩)
                  subst h48
                  clear hall fin hdig hzl hnz
                  go_wp2_with fail
                  all_goals first | exact Hr.out | (refine post_b ?_ Hr.out; first | rfl | (simp; omega) | (simp only [bne_iff_ne, ne_eq, beq_iff_eq]; omega)) | (go_ret; exact Hr.out) | (go_ret; refine post_b ?_ Hr.out; first | rfl | (simp; omega))
                · have Hr := Lib.hid (fin true ⟨fun _ => ⟨h2, h3, .inr ⟨h2, by rw [hk]; exact h48⟩, hdig⟩, fun _ => rfl⟩)
                  have D5 := Lib.hid (show ((k : Int) != 48) = true by simp; omega)
                  have d6 : (k != 48) = true := by simp; omega
                  have d7 : ((k : Int) == 48) = false := beq_false_of_ne (by omega)
                  clear hall fin hdig hzl hnz
                  go_wp2_with fail
                  all_goals first | exact Hr.out | (refine post_b ?_ Hr.out; first | rfl | (simp; omega) | (simp only [bne_iff_ne, ne_eq, beq_iff_eq]; omega)) | (go_ret; exact Hr.out) | (go_ret; refine post_b ?_ Hr.out; first | rfl | (simp; omega))

end Go.Proofs.YtjkklgpbblkhaaaGreatDoor

/-
  Layer 3, for the laws: what the functions of the package answer, the numerals as a letter.
-/
namespace Go.Proofs.YtjkklgpbblkhaaaGreatDoor
open Go.RowKit Bs Ig

/-- where a law stands: what was there is as it was, and the table lies where it lay -/
structure Now (w W : World) : Prop where
  below : Below w.heap.size w W
  tab : TabP W
theorem Now.start {w : World} (h : TabP w) : Now w w := ⟨Below.refl _ _, h⟩
theorem Now.step {w W W' : World} (h : Now w W) (hb : Below W.heap.size W W') : Now w W' := ⟨below_on h.below hb h.below.size, h.tab.later hb⟩

theorem int_bigs {n : Int} (h : isInt n) : n.natAbs < big := Nat.lt_trans (show n.natAbs < 10000000000000000000 by have := h.1; have := h.2; omega) (by decide +kernel)
theorem lt_bb {n : Nat} (h : n < big) : n < big * big := Nat.lt_of_lt_of_le h big_sq
theorem lit_0 : Lib.itoa 0 = [48] := by rw [show (0 : Int) = ((0 : Nat) : Int) from rfl, itoa_nat, dec_small (by omega)]; rfl
theorem gcd_big {x y : Int} (hx : x.natAbs < big) (hy : y.natAbs < big) : Int.gcd x y < big := by
  rcases Nat.eq_zero_or_pos y.natAbs with h | h
  · unfold Int.gcd; rw [h, Nat.gcd_zero_right]; exact hx
  · exact Nat.lt_of_le_of_lt (Nat.gcd_le_right _ h) hy
end Go.Proofs.YtjkklgpbblkhaaaGreatDoor

/-
  Layer 3: the integers that strings determine.
-/
namespace Go.Proofs.YtjkklgpbblkhaaaGreatDoor
open Go.RowKit Bs Ig

/-- digits, the least first, as bytes, the greatest first -/
def dl (l : List Nat) : List Nat := (l.map fun d => 48 + d).reverse
theorem dl_lt (l : List Nat) (h : ∀ x ∈ l, x < 10) : ∀ b ∈ dl l, 48 ≤ b ∧ b ≤ 57 := by
  intro b hb
  obtain ⟨d, hd, rfl⟩ := List.mem_map.1 (List.mem_reverse.1 hb)
  have := h d hd
  omega
theorem ub_length (l : List Nat) : (ub l).length = l.length := by simp [ub]
/-- what such bytes spell -/
theorem dl_num (neg : Bool) (l : List Nat) (h : ∀ x ∈ l, x < 10) (h0 : 0 < l.length) (hlast : l.getD (l.length - 1) 0 ≠ 0) :
    ∃ z : Int, z.natAbs < 10 ^ l.length ∧ ub ((if neg = true then [45] else []) ++ dl l) = Lib.itoa z := by
  have hb := dl_lt l h
  have hd : ∀ c ∈ ub (dl l), isDig c := by
    intro c hc
    obtain ⟨b, hb1, rfl⟩ := List.mem_map.1 hc
    have := hb b hb1
    unfold isDig
    rw [show (UInt8.ofNat b).toNat = b by rw [UInt8.toNat_ofNat']; exact Nat.mod_eq_of_lt (by omega)]
    exact this
  obtain ⟨r, x, hx⟩ : ∃ r x, l = r ++ [x] := by
    rcases List.eq_nil_or_concat l with e | ⟨r, x, e⟩
    · rw [e] at h0; cases h0
    · exact ⟨r, x, by rw [e, List.concat_eq_append]⟩
  have hx0 : x ≠ 0 := by
    rw [hx] at hlast
    simpa using hlast
  have hx9 : x < 10 := h x (by rw [hx]; simp)
  have hdl : ub (dl l) = UInt8.ofNat (48 + x) :: ub (dl r) := by
    rw [hx]; simp [dl, ub]
  have hnum := dec_num (ub (dl l)) hd _ _ hdl (by rw [UInt8.toNat_ofNat', Nat.mod_eq_of_lt (by omega)]; omega)
  have hlt := num_lt _ hd
  rw [ub_length, show (dl l).length = l.length by simp [dl]] at hlt
  cases neg with
  | false => exact ⟨(num (ub (dl l)) : Nat), by rw [Int.natAbs_natCast]; exact hlt, by rw [itoa_nat, hnum]; rfl⟩
  | true =>
    have hpos : 0 < num (ub (dl l)) := by
      rw [hdl, num_cons, UInt8.toNat_ofNat', Nat.mod_eq_of_lt (by omega)]
      have h1 : 0 < 10 ^ (ub (dl r)).length := Nat.pow_pos (by omega)
      have := Nat.mul_le_mul_right (10 ^ (ub (dl r)).length) (show 1 ≤ 48 + x - 48 by omega)
      omega
    exact ⟨-((num (ub (dl l)) : Nat) : Int), by rw [Int.natAbs_neg, Int.natAbs_natCast]; exact hlt, by rw [itoa_neg _ hpos, hnum]; rfl⟩

set_option maxRecDepth 100000 in
set_option maxHeartbeats 1000000 in
theorem trim_any (a : Option Addr) (n c : Nat) (l : List Nat) (w : World) (hl : IsZ w a n c (zs l)) (h : ∀ x ∈ l, x < 10) (hn : n ≤ 1000000) :
    Calls Tryz.prog 104 #[.slice a n c] w fun e w' => ∃ m, e = .returned (.slice a m c) ∧ m ≤ n ∧ IsZ w' a m c (zs (l.take m)) ∧ (m = 0 ∨ l.getD (m - 1) 0 ≠ 0) ∧ Below w.heap.size w w' := by
  have hll : l.length = n := by rw [← zs_length]; exact hl.len
  have hc := hl.cap
  have hm := hl.max
  go_enter Tryz.func104, Tryz.ntmps104
  go_wp2_with fail
  go_loopw [0] (fun v wr => ∃ m : Nat, m ≤ n ∧ v = .slice a m c ∧ Below w.heap.size w wr) (fun v _ => lenOf v)
  case atStart => exact ⟨n, Nat.le_refl _, rfl, Below.refl _ _⟩
  case round =>
    obtain ⟨m, hmn, rfl, hw⟩ := hrel
    have hfin := ((hl.later hw).take hmn)
    rw [zs_take] at hfin
    rcases Nat.eq_zero_or_pos m with h0 | h0
    · subst h0
      have Hf := Lib.hid hfin
      clear hl h hfin
      go_wp2_with fail
      go_ret
      exact ⟨0, rfl, Nat.zero_le _, Hf.out, .inl rfl, hw⟩
    · obtain ⟨g, off, rfl, hI⟩ := (hl.later hw).at (by omega)
      have hcell := hI (m - 1) (by rw [zs_length]; omega)
      rw [zs_getD] at hcell
      obtain ⟨x, hx⟩ : ∃ x, l.getD (m - 1) 0 = x := ⟨_, rfl⟩
      have HX := Lib.hid hx
      rw [hx] at hcell
      rcases Nat.eq_zero_or_pos x with hx0 | hx0
      · subst hx0
        have hsl := slc_h wr 40 Tryz.underlying40 (some ⟨g, off, none⟩) m c (m - 1) ((m : Int) - 1) (by omega) (by omega) (by kernel_rfl)
        clear hl h hI hx hfin
        go_wp2_with fail
        go_roundw
        case rel => exact ⟨m - 1, by omega, by go_num, hw⟩
        case measure => simp [lenOf]; omega
      · have hx1 : decide ((x : Int) = 0) = false := by simp; omega
        have Hf := Lib.hid hfin
        clear hl h hI hx hfin
        go_wp2_with fail
        go_ret
        exact ⟨m, rfl, hmn, Hf.out, .inr (by rw [HX.out]; omega), hw⟩

end Go.Proofs.YtjkklgpbblkhaaaGreatDoor
