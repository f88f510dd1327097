/-
  Put together by program out of these texts, in this order: Iga, Igo, Igc, Igf, Igk, Igl.
-/
import Derived.Test.YtjkklgpbblkhaaaGreatDoorZCaRFd00
import Derived.WalkKit
import Derived.Laws.MakeOwn
import Derived.Laws.CopyRow
import Derived.Lib.SliceRun

/-
  Layer 3, arithmetic: what the ways of the program rest on. Nothing of the program stands here.
-/
namespace Go.Proofs.YtjkklgpbblkhaaaGreatDoor.Ig

/-! how many times m contains d, as far as their heads tell -/
theorem least_le (m d P : Nat) (hP : 0 < P) (hd : 0 < d) : m / P / (d / P + 1) ≤ m / d := by
  rw [Nat.le_div_iff_mul_le hd]
  have h1 : d ≤ P * (d / P + 1) := by have := Nat.mod_add_div d P; have := Nat.mod_lt d hP; rw [Nat.mul_add, Nat.mul_one]; omega
  calc m / P / (d / P + 1) * d ≤ m / P / (d / P + 1) * (P * (d / P + 1)) := Nat.mul_le_mul_left _ h1
    _ = P * (m / P / (d / P + 1) * (d / P + 1)) := by rw [Nat.mul_left_comm]
    _ ≤ P * (m / P) := Nat.mul_le_mul_left _ (Nat.div_mul_le_self _ _)
    _ ≤ m := Nat.mul_div_le m P
theorem le_most (m d P : Nat) (hP : 0 < P) (hd : 0 < d / P) : m / d ≤ m / P / (d / P) := by
  rw [Nat.le_div_iff_mul_le hd, Nat.le_div_iff_mul_le hP]
  calc m / d * (d / P) * P = m / d * (d / P * P) := Nat.mul_assoc _ _ _
    _ ≤ m / d * d := Nat.mul_le_mul_left _ (Nat.div_mul_le_self _ _)
    _ ≤ m := Nat.div_mul_le_self _ _
theorem countP_lt (n k : Nat) (hk : k ≤ n) : (List.range n).countP (fun i => decide (i < k)) = k := by
  induction n generalizing k with
  | zero => simp; omega
  | succ n ih =>
    rw [List.range_succ, List.countP_append]
    rcases Nat.lt_or_ge n k with h | h
    · obtain rfl : k = n + 1 := by omega
      have : (List.range n).countP (fun i => decide (i < n + 1)) = (List.range n).countP (fun i => decide (i < n)) := by
        apply List.countP_congr; intro i hi; simp at hi ⊢; omega
      rw [this, ih n (Nat.le_refl _)]; simp
    · rw [ih k h]; simp; omega
/-! roots -/
def rt : Nat → Nat
  | 0 => 0
  | n + 1 => if (rt n + 1) * (rt n + 1) ≤ n + 1 then rt n + 1 else rt n
theorem rt_spec (n : Nat) : rt n * rt n ≤ n ∧ n < (rt n + 1) * (rt n + 1) := by
  induction n with
  | zero => exact ⟨Nat.le_refl _, by decide⟩
  | succ n ih =>
    obtain ⟨h1, h2⟩ := ih
    unfold rt
    generalize rt n = r at *
    by_cases h : (r + 1) * (r + 1) ≤ n + 1
    · rw [if_pos h]
      refine ⟨h, ?_⟩
      have : (r + 1 + 1) * (r + 1 + 1) = (r + 1) * (r + 1) + 2 * r + 3 := by
        rw [Nat.add_mul (r + 1) 1, Nat.mul_add]; omega
      omega
    · rw [if_neg h]; exact ⟨by omega, by omega⟩
theorem sq_lt {a b : Nat} (h : a * a < b * b) : a < b := by
  rcases Nat.lt_or_ge a b with h1 | h1
  · exact h1
  · have := Nat.mul_le_mul h1 h1; omega
theorem rt_unique (n r : Nat) (h1 : r * r ≤ n) (h2 : n < (r + 1) * (r + 1)) : r = rt n := by
  obtain ⟨h3, h4⟩ := rt_spec n
  have := sq_lt (Nat.lt_of_le_of_lt h1 h4)
  have := sq_lt (Nat.lt_of_le_of_lt h3 h2)
  omega
theorem rt_sq (n : Nat) : rt (n * n) = n := (rt_unique _ _ (Nat.le_refl _) (by rw [Nat.add_mul, Nat.mul_add]; omega)).symm
theorem rt_le (n : Nat) : rt n ≤ n := by
  have h := (rt_spec n).1
  generalize rt n = r at *
  rcases Nat.eq_zero_or_pos r with h0 | h0
  · omega
  · have := Nat.mul_le_mul_left r (show 1 ≤ r from h0); omega
theorem amgm (a b : Nat) : 4 * (a * b) ≤ (a + b) * (a + b) := by
  rw [Nat.add_mul, Nat.mul_add, Nat.mul_add, Nat.mul_comm b a]
  rcases Nat.le_total a b with h | h
  · obtain ⟨c, rfl⟩ := Nat.exists_eq_add_of_le h
    have : (a + c) * (a + c) = a * a + a * c + (c * a + c * c) := by rw [Nat.add_mul, Nat.mul_add, Nat.mul_add]
    have : a * (a + c) = a * a + a * c := Nat.mul_add _ _ _
    have : c * a = a * c := Nat.mul_comm _ _
    omega
  · obtain ⟨c, rfl⟩ := Nat.exists_eq_add_of_le h
    have : (b + c) * (b + c) = b * b + b * c + (c * b + c * c) := by rw [Nat.add_mul, Nat.mul_add, Nat.mul_add]
    have : (b + c) * b = b * b + c * b := Nat.add_mul _ _ _
    have : c * b = b * c := Nat.mul_comm _ _
    omega
/-- a step of Newton's does not pass the root -/
theorem newton (n r : Nat) (hr : 0 < r) : n < ((r + n / r) / 2 + 1) * ((r + n / r) / 2 + 1) := by
  have h1 : n < r * (n / r + 1) := by have := Nat.mod_add_div n r; have := Nat.mod_lt n hr; rw [Nat.mul_add, Nat.mul_one]; omega
  have h2 := amgm r (n / r + 1)
  generalize n / r = q at *
  obtain ⟨t, ht⟩ : ∃ t, (r + q) / 2 = t := ⟨_, rfl⟩
  rw [ht]
  have h3 : r + (q + 1) ≤ 2 * (t + 1) := by omega
  have h4 := Nat.mul_le_mul h3 h3
  have h5 : 2 * (t + 1) * (2 * (t + 1)) = 4 * ((t + 1) * (t + 1)) := by rw [Nat.mul_mul_mul_comm]
  omega
/-- the step that does not descend has reached it -/
theorem newton_stop (n r : Nat) (hn : n < (r + 1) * (r + 1)) (h : r ≤ (r + n / r) / 2) : r = rt n := by
  refine rt_unique n r ?_ hn
  have h1 : r ≤ n / r := by omega
  exact Nat.le_trans (Nat.mul_le_mul_left r h1) (Nat.mul_div_le n r)
/-! columns that are set -/
theorem vali_set (b : Nat) (l : List Int) (i : Nat) (v : Int) (hi : i < l.length) : vali b (l.set i v) = vali b l + (b ^ i : Nat) * (v - l.getD i 0) := by
  induction l generalizing i with
  | nil => simp at hi
  | cons x r ih =>
    cases i with
    | zero => show v + b * vali b r = x + b * vali b r + (b ^ 0 : Nat) * (v - x); simp; omega
    | succ i =>
      show x + b * vali b (r.set i v) = x + b * vali b r + (b ^ (i + 1) : Nat) * (v - r.getD i 0)
      rw [ih i (by simpa using hi), Int.mul_add, Nat.pow_succ, Int.natCast_mul, Int.mul_comm ((b ^ i : Nat) : Int) b, Int.mul_assoc]; omega
theorem vali_zero (b n : Nat) : vali b (List.replicate n 0) = 0 := by
  induction n with
  | zero => rfl
  | succ n ih => rw [List.replicate_succ]; show 0 + b * vali b _ = 0; rw [ih]; simp
theorem val_take_succ (b : Nat) (l : List Nat) (i : Nat) (hi : i < l.length) : val b (l.take (i + 1)) = val b (l.take i) + b ^ i * l.getD i 0 := by
  rw [List.take_add_one, List.getElem?_eq_getElem hi, val_append, List.getD_eq_getElem?_getD, List.getElem?_eq_getElem hi]
  simp [val, Nat.min_eq_left (Nat.le_of_lt hi)]
theorem val_full (b : Nat) (l : List Nat) (n : Nat) (hn : l.length ≤ n) : val b (l.take n) = val b l := by rw [List.take_of_length_le hn]
/-! division, a group more -/
theorem div_group (n d p b : Nat) (hb : 0 < b) (hd : 0 < d) :
    (n / p % b + b * (n / (p * b) % d)) / d < b ∧ n / p / d = (n / p % b + b * (n / (p * b) % d)) / d + b * (n / (p * b) / d) ∧ n / p % d = (n / p % b + b * (n / (p * b) % d)) % d := by
  rw [← Nat.div_div_eq_div_mul]
  generalize n / p = N
  have h1 : N = N % b + b * (N / b) := (Nat.mod_add_div N b).symm
  have h2 := (Nat.mod_add_div (N / b) d).symm
  have h3 := Nat.mod_lt N hb
  have h4 := Nat.mod_lt (N / b) hd
  generalize N % b = r at *
  generalize N / b = q at *
  generalize q % d = s at *
  generalize q / d = t at *
  have e : N = (r + b * s) + d * (b * t) := by rw [h1, h2, Nat.mul_add, Nat.mul_left_comm b d t]; omega
  refine ⟨?_, ?_, ?_⟩
  · apply Nat.div_lt_of_lt_mul
    have := Nat.mul_le_mul_left b (show s + 1 ≤ d from h4)
    rw [Nat.mul_add, Nat.mul_one, Nat.mul_comm b d] at this
    omega
  · rw [e, Nat.add_mul_div_left _ _ hd]
  · rw [e, Nat.add_mul_mod_self_left]

end Go.Proofs.YtjkklgpbblkhaaaGreatDoor.Ig

/-
  Layer 3, memory: slices of integers; a number without its last groups that are 0.
-/
namespace Go.Proofs.YtjkklgpbblkhaaaGreatDoor
open Go.RowKit Bs Ig

theorem wp_world {P : Program} {c : Code} {Q : Exit → Act → World → Prop} {a : Act} {W : World} (h : ∀ W', W' = W → Code.wp P c Q a W') : Code.wp P c Q a W := h W rfl
/-- numbers as integers -/
def zs (l : List Nat) : List Int := l.map (fun (x : Nat) => (x : Int))
theorem zs_length (l : List Nat) : (zs l).length = l.length := by simp [zs]
theorem zs_getD (l : List Nat) (i : Nat) : (zs l).getD i 0 = ((l.getD i 0 : Nat) : Int) := by
  unfold zs
  rw [List.getD_eq_getElem?_getD, List.getD_eq_getElem?_getD, List.getElem?_map]
  cases l[i]? <;> rfl
theorem zs_take (l : List Nat) (n : Nat) : (zs l).take n = zs (l.take n) := by unfold zs; rw [List.map_take]
theorem zs_drop (l : List Nat) (n : Nat) : (zs l).drop n = zs (l.drop n) := by unfold zs; rw [List.map_drop]
theorem zs_append (l m : List Nat) : zs (l ++ m) = zs l ++ zs m := by unfold zs; rw [List.map_append]
/-- the integers l lie in block g from 'off' on -/
def IntsAt (W : World) (g off : Nat) (l : List Int) : Prop := ∀ i, i < l.length → W.cell? ⟨g, off + i, none⟩ = some (.int .i64 (l.getD i 0))
theorem IntsAt.lt {W : World} {g off : Nat} {l : List Int} (h : IntsAt W g off l) (hl : 0 < l.length) : g < W.heap.size := block_lt_of_cell (h 0 hl)
theorem IntsAt.later {W W' : World} {g off : Nat} {l : List Int} (h : IntsAt W g off l) (hb : Below W.heap.size W W') : IntsAt W' g off l := fun i hi =>
  (hb.cell (p := ⟨g, off + i, none⟩) (block_lt_of_cell (h i hi))).trans (h i hi)
theorem IntsAt.take {W : World} {g off : Nat} {l : List Int} (h : IntsAt W g off l) (k : Nat) : IntsAt W g off (l.take k) := fun i hi => by
  rw [List.length_take] at hi
  rw [h i (by omega)]
  simp [List.getD_eq_getElem?_getD, show i < k by omega]
theorem IntsAt.drop {W : World} {g off : Nat} {l : List Int} (h : IntsAt W g off l) (k : Nat) : IntsAt W g (off + k) (l.drop k) := fun i hi => by
  rw [List.length_drop] at hi
  rw [Nat.add_assoc, h (k + i) (by omega)]
  simp [List.getD_eq_getElem?_getD, List.getElem?_drop]
/-- the slice (a, n, c) holds the integers l -/
structure IsZ (W : World) (a : Option Addr) (n c : Nat) (l : List Int) : Prop where
  len : l.length = n
  cap : n ≤ c
  max : c ≤ maxLen
  row : n = 0 ∨ ∃ g off, a = some ⟨g, off, none⟩ ∧ IntsAt W g off l
theorem IsZ.at {W : World} {a : Option Addr} {n c : Nat} {l : List Int} (h : IsZ W a n c l) (hn : 0 < n) : ∃ g off, a = some ⟨g, off, none⟩ ∧ IntsAt W g off l := h.row.resolve_left (by omega)
theorem IsZ.later {W W' : World} {a : Option Addr} {n c : Nat} {l : List Int} (h : IsZ W a n c l) (hb : Below W.heap.size W W') : IsZ W' a n c l :=
  ⟨h.len, h.cap, h.max, h.row.imp id (fun ⟨g, off, e, hp⟩ => ⟨g, off, e, hp.later hb⟩)⟩
theorem IsZ.nil (W : World) (a : Option Addr) (c : Nat) (hc : c ≤ maxLen) : IsZ W a 0 c [] := ⟨rfl, Nat.zero_le _, hc, .inl rfl⟩
theorem IntsAt.isZ {W : World} {g off n c : Nat} {l : List Int} (h : IntsAt W g off l) (hn : l.length = n) (hc : n ≤ c) (hm : c ≤ maxLen) : IsZ W (some ⟨g, off, none⟩) n c l := ⟨hn, hc, hm, .inr ⟨g, off, rfl, h⟩⟩
theorem IsZ.take {W : World} {a : Option Addr} {n c m : Nat} {l : List Int} (h : IsZ W a n c l) (hm : m ≤ n) : IsZ W a m c (l.take m) :=
  ⟨by rw [List.length_take, h.len]; omega, Nat.le_trans hm h.cap, h.max, h.row.elim (fun h0 => .inl (by omega)) (fun ⟨g, off, e, hp⟩ => .inr ⟨g, off, e, hp.take m⟩)⟩
/-- the groups of a number -/
abbrev G (n : Nat) : List Nat := dgs 9998 n
abbrev V (l : List Nat) : Nat := val 10000 l
theorem G_lt (n : Nat) : ∀ x ∈ G n, x < 10000 := dgs_lt 9998 n
theorem V_G (n : Nat) : V (G n) = n := val_dgs 9998 n

theorem add_zero' (a : Addr) : a.add 0 = a := by unfold Addr.add; split <;> simp_all
theorem if_map0 (a : Option Addr) (p : Prop) [Decidable p] : (if p then a else a.map (·.add 0)) = a := by
  cases a with
  | none => exact ite_self _
  | some a => simp only [Option.map_some, add_zero', ite_self]
/-- a slice's beginning -/
theorem slc_h (W : World) (t : TypeId) (ht : Tryz.prog.underlying t = some (.slice (Tryz.prog.elem t))) (a : Option Addr) (n c k : Nat) (K : Int) (hK : K = k) (hk : k ≤ c) (hs : (sizeOf (Tryz.prog.elem t)).run Tryz.prog W = .ok 1 W) :
    (Instr.sliceAt t (.slice a n c) none (some (.int .i64 K)) none).run Tryz.prog W = .ok (.slice a k c) W := by
  subst hK
  rw [Go.run_sliceAt_slice _ t _ _ _ _ ht, Go.run_slice_h _ t a n c ht .i64 _ (by omega) (by omega), hs]
  simp only [Result.andThen, sliced, Int.toNat_natCast, Nat.sub_zero, Nat.zero_mul, if_map0]
/-- a slice's end -/
theorem slc_l (W : World) (t : TypeId) (ht : Tryz.prog.underlying t = some (.slice (Tryz.prog.elem t))) (a : Option Addr) (n c k : Nat) (K : Int) (hK : K = k) (hk : k ≤ n) (hs : (sizeOf (Tryz.prog.elem t)).run Tryz.prog W = .ok 1 W) :
    (Instr.sliceAt t (.slice a n c) (some (.int .i64 K)) none none).run Tryz.prog W = .ok (.slice (if c = k then a else a.map (·.add k)) (n - k) (c - k)) W := by
  subst hK
  rw [Go.run_sliceAt_slice _ t _ _ _ _ ht, Go.run_slice_l _ t a n c ht .i64 _ (by omega) (by omega), hs]
  simp only [Result.andThen, sliced, Int.toNat_natCast, Nat.mul_one]

set_option maxRecDepth 100000 in
set_option maxHeartbeats 1000000 in
/-- trimmed -/
theorem trimmed_any (a : Option Addr) (n c : Nat) (l : List Nat) (w : World) (hl : IsZ w a n c (zs l)) (h : ∀ x ∈ l, x < 10000) (hn : n ≤ 1000000) :
    Calls Tryz.prog 126 #[.slice a n c] w fun e w' => ∃ m, e = .returned (.slice a m c) ∧ IsZ w' a m c (zs (G (V l))) ∧ Below w.heap.size w w' := by
  have hll : l.length = n := by rw [← zs_length]; exact hl.len
  have hc := hl.cap
  have hm := hl.max
  go_enter Tryz.func126, Tryz.ntmps126
  go_wp2_with fail
  go_loopw [0] (fun v wr => ∃ m : Nat, m ≤ n ∧ v = .slice a m c ∧ V (l.take m) = V l ∧ Below w.heap.size w wr) (fun v _ => lenOf v)
  case atStart => exact ⟨n, Nat.le_refl _, rfl, by rw [← hll, List.take_length], Below.refl _ _⟩
  case round =>
    obtain ⟨m, hmn, rfl, hv, hw⟩ := hrel
    rcases Nat.eq_zero_or_pos m with h0 | h0
    · subst h0
      have hfin : IsZ wr a 0 c (zs (G (V l))) := by
        rw [← hv]; show IsZ wr a 0 c (zs (G 0)); rw [show G 0 = [] from dgs_zero 9998]; exact IsZ.nil _ _ _ hm
      clear hl hv h
      go_wp2_with fail
      go_ret
      exact ⟨_, rfl, hfin.later (Below.refl _ _), hw⟩
    · obtain ⟨g, off, rfl, hI⟩ := (hl.later hw).at (by omega)
      have hcell := hI (m - 1) (by rw [zs_length]; omega)
      rw [zs_getD] at hcell
      obtain ⟨x, hx⟩ : ∃ x, l.getD (m - 1) 0 = x := ⟨_, rfl⟩
      rw [hx] at hcell
      rcases Nat.eq_zero_or_pos x with hx0 | hx0
      · subst hx0
        have hv2 : V (l.take (m - 1)) = V l := by
          rw [← hv]
          have := val_take 10000 l (m - 1) (by omega) hx
          rwa [Nat.sub_add_cancel h0] at this
        have hsl := slc_h wr 40 Tryz.underlying40 (some ⟨g, off, none⟩) m c (m - 1) ((m : Int) - 1) (by omega) (by omega) (by kernel_rfl)
        clear hl hv h hI hx
        go_wp2_with fail
        go_roundw
        case rel => exact ⟨m - 1, by omega, by go_num, hv2, hw⟩
        case measure => simp [lenOf]; omega
      · have hd : l.take m = G (V l) := dgs_take 9998 l m (by omega) h hv (.inr (by rw [hx]; omega))
        have hfin := ((hl.later hw).take hmn)
        rw [zs_take, hd] at hfin
        have hx1 : decide ((x : Int) = 0) = false := by simp; omega
        clear hl hv h hI hx hd
        go_wp2_with fail
        go_ret
        exact ⟨_, rfl, hfin.later (Below.refl _ _), hw⟩

end Go.Proofs.YtjkklgpbblkhaaaGreatDoor

/-
  Layer 3: the number that columns add up to.
-/
namespace Go.Proofs.YtjkklgpbblkhaaaGreatDoor
open Go.RowKit Bs Ig

/-- one element more, and what becomes of the other blocks -/
theorem wpList_pushG {P : Program} {w : World} {ops : Array Oper} {rest : List Oper} {o : Oper} {a : Act} {Q : Exit → Act → World → Prop} (hgd : o.guard = none) (s x : Operand) (st : TypeId)
    (ho : o.op = .call { callee := .builtin .append, args := #[s, x], argTypes := #[st, st] })
    (base : Nat) (t : TypeId) (i : TypeInfo) (z : Value) (bytes : Nat) (ht : P.underlying st = some (.slice t)) (hi : P.info? t = some i) (hz : i.zero = some z)
    (hsize : i.size = 1) (hby : i.bytes = bytes) (hzs : z.cells.size = 1) (hb8 : bytes ≤ 8)
    (k : IntKind) (v : Value) (l : List Nat) (hs : a.eval s = v) (hown : Own w base t k v l) (ad : Addr) (c : Nat) (y : Nat) (hx : a.eval x = .slice (some ad) 1 c)
    (hc : w.cell? (ad.add 0) = some (.int k (y : Int))) (hlen : l.length ≤ 2000000) (hbase : base ≤ w.heap.size)
    (h : ∀ v' w', Own w' base t k v' (l ++ [y]) → w.grownBy w' v.ownBlock → wpList P ops Q rest (a.put o.dst v') w') : wpList P ops Q (o :: rest) a w := by
  refine wpList_append_own w hgd s x st ho base t i z 1 bytes ht hi hz hsize hby hzs (by omega) v l.length (iv k l) hs hown.row ad 1 c [.int k (y : Int)] hx rfl ?_ ?_ ?_ ?_ hbase ?_
  · intro j u hj
    match j, hj with
    | 0, hj => simp at hj; subst hj; exact hc
  · intro u hu; simp at hu; subst hu; rfl
  · unfold maxLen; omega
  · have : (l.length + 1) * bytes ≤ 2000001 * 8 := Nat.mul_le_mul (by omega) hb8
    omega
  · intro v' w' hown' hgrow _
    refine h v' w' ⟨?_⟩ hgrow
    rw [iv_append, List.length_append]
    exact hown'

theorem tmod_cases (s : Int) : (s.tmod 10000 = s % 10000 ∧ 0 ≤ s.tmod 10000) ∨ (s.tmod 10000 + 10000 = s % 10000 ∧ s.tmod 10000 < 0) := by
  rcases Int.le_total 0 s with h | h
  · left
    have e := Int.tmod_eq_emod_of_nonneg (b := 10000) h
    exact ⟨e, by omega⟩
  · obtain ⟨m, rfl⟩ : ∃ m, s = -m := ⟨-s, by omega⟩
    have e := Int.tmod_eq_emod_of_nonneg (a := m) (b := 10000) (by omega)
    rw [Int.neg_tmod, e]
    omega
theorem quo_exact (s : Int) : (s - s % 10000).tdiv 10000 = s / 10000 := by
  rw [show s - s % 10000 = 10000 * (s / 10000) by omega, Int.mul_tdiv_cancel_left _ (by omega)]

theorem infoInt : (Tryz.prog.info? 3).map (fun i => (i.zero, i.size, i.bytes)) = some (some (.int .i64 0), 1, 8) := by kernel_rfl
/-- the cell of 'out', and what it holds -/
structure Out (W : World) (B go : Nat) (L : List Nat) : Prop where
  row : ∃ v, W.heap[go]? = some (.cells #[v] 89 (0, 0)) ∧ Own W B 3 .i64 v L
  ge : B ≤ go

set_option maxRecDepth 100000 in
set_option maxHeartbeats 1000000 in
theorem carried1_any (B go : Nat) (carry column : Int) (L : List Nat) (w : World) (ho : Out w B go L) (hB : B ≤ w.heap.size) (h1 : -1000000000000000 ≤ carry ∧ carry ≤ 1000000000000000) (h2 : -1000000000000000 ≤ column ∧ column ≤ 1000000000000000) (hL : L.length ≤ 2000000) :
    Calls Tryz.prog 149 #[.int .i64 carry, .int .i64 column, .pointer (some ⟨go, 0, none⟩)] w fun e w' => e = .returned (.int .i64 ((column + carry) / 10000)) ∧ Out w' B go (L ++ [((column + carry) % 10000).toNat]) ∧ Below B w w' := by
  obtain ⟨⟨v, hrow, hown⟩, hge⟩ := ho
  obtain ⟨i0, hi, hz0, hz1, hz2⟩ := info_parts infoInt
  have hcell : w.cell? ⟨go, 0, none⟩ = some v := by rw [cell_of_row _ _ 0 _ _ _ hrow]; rfl
  have hfr : w.frozen? ⟨go, 0, none⟩ = false := frozen_of_row _ _ 0 _ _ hrow
  have e1 : (column + carry) - (column + carry) % 10000 = 10000 * ((column + carry) / 10000) := by omega
  have e2 := tmod_cases (column + carry)
  have e3 := quo_exact (column + carry)
  have hr0 : 0 ≤ (column + carry) % 10000 ∧ (column + carry) % 10000 < 10000 := by omega
  have hs0 : -2000000000000000 ≤ column + carry ∧ column + carry ≤ 2000000000000000 := by omega
  obtain ⟨s, hs⟩ : ∃ s, column + carry = s := ⟨_, rfl⟩
  rw [hs] at e1 e2 e3 hr0 hs0
  obtain ⟨r, hr⟩ : ∃ r : Nat, s % 10000 = (r : Int) := ⟨(s % 10000).toNat, by omega⟩
  obtain ⟨q, hq⟩ : ∃ q, s / 10000 = q := ⟨_, rfl⟩
  have HF := Lib.hid (show (column + carry) / 10000 = q ∧ ((column + carry) % 10000).toNat = r by rw [hs, hr, hq]; exact ⟨rfl, Int.toNat_natCast r⟩)
  rw [HF.out.1, HF.out.2]
  have hq0 : -1000000000000000 ≤ q ∧ q ≤ 1000000000000000 := by omega
  rw [hr] at e1 e2 e3 hr0
  rw [hq] at e1 e3
  have Hlen := Lib.hid hL
  have hs1 := hB
  clear hr hq e1 h1 h2 HF hL
  have fin : ∀ (v' : Value) (w' : World), Own w' B 3 .i64 v' (L ++ [r]) → (w.alloc (.cells #[.int .i64 (r : Int)] 3)).grownBy w' v.ownBlock → (∃ a n c, v' = .slice a n c) ∧ w'.cell? ⟨go, 0, none⟩ = some v ∧ w'.frozen? ⟨go, 0, none⟩ = false ∧ Out (w'.setCell ⟨go, 0, none⟩ v') B go (L ++ [r]) ∧ Below B w (w'.setCell ⟨go, 0, none⟩ v') := by
    intro v' w' hown' hg
    have hgo : go < w.heap.size := (Array.getElem?_eq_some_iff.1 hrow).1
    have hne : some go ≠ v.ownBlock := by
      intro e
      rcases hown.row.2 with ⟨rfl, _⟩ | ⟨g, cap, cur, rfl, _, hrow2, _⟩
      · cases e
      · cases e; rw [hrow] at hrow2; injection hrow2 with h1; injection h1 with h1 h2; exact absurd h2 (by decide)
    have hrow' : w'.heap[go]? = some (.cells #[v] 89 (0, 0)) := (hg.block go (by simp; omega) hne).trans ((heap_alloc_old w _ hgo).trans hrow)
    have hne' : v'.ownBlock ≠ some go := by
      intro e
      rcases hown'.row.2 with ⟨rfl, _⟩ | ⟨g, cap, cur, rfl, _, hrow2, _⟩
      · cases e
      · cases e; rw [hrow'] at hrow2; injection hrow2 with h1; injection h1 with h1 h2; exact absurd h2 (by decide)
    have hb : Below B w w' := ((Below.refl B w).alloc hB _).grown hg (by simp; omega) hown.block
    refine ⟨hown'.row.2.elim (fun h => ⟨_, _, _, h.1⟩) (fun ⟨g, cap, cur, hv, _⟩ => ⟨_, _, _, hv⟩), by rw [cell_of_row _ _ 0 _ _ _ hrow']; rfl, frozen_of_row _ _ 0 _ _ hrow', ⟨⟨v', ?_, ?_⟩, hge⟩, hb.setCell (p := ⟨go, 0, none⟩) hge _⟩
    · rw [heap_setCell_same _ go 0 _ _ _ hrow']; rfl
    · refine ⟨hown'.row.1, ?_⟩
      rcases hown'.row.2 with h0 | ⟨g, cap, cur, hv, h1, h2, h3⟩
      · exact .inl h0
      · exact .inr ⟨g, cap, cur, hv, h1, (heap_setCell_other w' ⟨go, 0, none⟩ g _ (by intro e; apply hne'; rw [hv, e]; rfl)).trans h2, h3⟩
  rcases e2 with ⟨e2, e4⟩ | ⟨e2, e4⟩
  · have e5 : decide (s.tmod 10000 < 0) = false := by simp; omega
    rw [e2] at e5 e4
    clear hge
    go_enter Tryz.func149, Tryz.ntmps149
    go_wp2_with (at_builtin; refine wpList_pushG rfl _ _ 89 rfl B 3 i0 (.int .i64 0) 8 Tryz.underlying89 hi hz0 hz1 hz2 rfl (by omega) .i64 v L rfl (hown.alloc _) ⟨w.heap.size, 0, none⟩ 1 r rfl ?c1 ?c2 ?c3 ?_)
    case c1 => simp [Addr.add]
    case c2 => exact Nat.le_trans Hlen.out (by omega)
    case c3 => simp; omega
    intro v' w' hown' hg
    obtain ⟨⟨a', n', c', rfl⟩, f1, f2, f3, f4⟩ := fin v' w' hown' hg
    clear fin hg hown' hown hcell hfr hrow
    go_wp2_with fail
    go_ret
    exact ⟨rfl, f3, f4⟩
  · have e5 : decide (s.tmod 10000 < 0) = true := by simp; omega
    have e6 : s.tmod 10000 = (r : Int) - 10000 := by omega
    rw [e6] at e5 e4
    clear hge e2
    go_enter Tryz.func149, Tryz.ntmps149
    go_wp2_with (at_builtin; refine wpList_pushG rfl _ _ 89 rfl B 3 i0 (.int .i64 0) 8 Tryz.underlying89 hi hz0 hz1 hz2 rfl (by omega) .i64 v L rfl (hown.alloc _) ⟨w.heap.size, 0, none⟩ 1 r rfl ?c1 ?c2 ?c3 ?_)
    case c1 => simp [Addr.add]
    case c2 => exact Nat.le_trans Hlen.out (by omega)
    case c3 => simp; omega
    intro v' w' hown' hg
    obtain ⟨⟨a', n', c', rfl⟩, f1, f2, f3, f4⟩ := fin v' w' hown' hg
    clear fin hg hown' hown hcell hfr hrow
    go_wp2_with fail
    go_ret
    exact ⟨rfl, f3, f4⟩

end Go.Proofs.YtjkklgpbblkhaaaGreatDoor

/-
  Layer 3: columns folded, and the number that they add up to.
-/
namespace Go.Proofs.YtjkklgpbblkhaaaGreatDoor
open Go.RowKit Bs Ig

theorem Out.later {W W' : World} {B go : Nat} {L : List Nat} (h : Out W B go L) (hb : Below W.heap.size W W') : Out W' B go L := by
  obtain ⟨⟨v, hrow, hown⟩, hge⟩ := h
  exact ⟨⟨v, (hb.block go ((Array.getElem?_eq_some_iff.1 hrow).1)).trans hrow, hown.later hb⟩, hge⟩
set_option maxRecDepth 100000 in
set_option maxHeartbeats 1000000 in
theorem fold_any (B go : Nat) (a : Option Addr) (n c : Nat) (Z : List Int) (w : World) (hZ : IsZ w a n c Z) (hbd : ∀ x ∈ Z, -1000000000000000 ≤ x ∧ x ≤ 1000000000000000) (ho : Out w B go []) (hB : B ≤ w.heap.size) (hn : n ≤ 1000000)
    (hg : ∀ g off, a = some ⟨g, off, none⟩ → 0 < n → g < B) :
    Calls Tryz.prog 148 #[.slice a n c, .int .i64 0, .func (.func 149) #[] #[.pointer (some ⟨go, 0, none⟩)]] w fun e w' => e = .returned (.int .i64 (cry 10000 Z 0)) ∧ Out w' B go (outs 10000 Z 0) ∧ Below B w w' := by
  have hcap := hZ.cap
  have hll := hZ.len
  go_enter Tryz.func148, Tryz.ntmps148
  go_wp2_with fail
  go_loopw [1, 11] (fun s i wr => ∃ k : Nat, k ≤ n ∧ i = .int .i64 k ∧ s = .int .i64 (cry 10000 (Z.take k) 0) ∧ Out wr B go (outs 10000 (Z.take k) 0) ∧ Below B w wr) (fun _ i _ => n - (intOf i).toNat)
  case atStart => exact ⟨0, by omega, rfl, rfl, ho, Below.refl _ _⟩
  case round =>
    obtain ⟨k, hk, rfl, rfl, hout, hw⟩ := hrel
    rcases Nat.lt_or_ge k n with hkn | hkn
    · obtain ⟨g, off, rfl, hI⟩ := hZ.at (by omega)
      have hgB := hg g off rfl (by omega)
      have hcell : wr.cell? ⟨g, off + k, none⟩ = some (.int .i64 (Z.getD k 0)) := (hw.cell (p := ⟨g, off + k, none⟩) hgB).trans (hI k (by omega))
      have hcb := cry_bound 10000 1000000000000000 (Z.take k) 0 (by omega) (fun x hx => hbd x (List.mem_of_mem_take hx)) (by omega)
      have hxb : -1000000000000000 ≤ Z.getD k 0 ∧ Z.getD k 0 ≤ 1000000000000000 := by
        rw [List.getD_eq_getElem?_getD, List.getElem?_eq_getElem (by omega)]; exact hbd _ (List.getElem_mem (by omega))
      have htk : Z.take (k + 1) = Z.take k ++ [Z.getD k 0] := by
        rw [List.take_add_one, List.getElem?_eq_getElem (by omega), List.getD_eq_getElem?_getD, List.getElem?_eq_getElem (by omega)]; rfl
      have hcr := cry_snoc 10000 (Z.take k) (Z.getD k 0) 0
      have hou := outs_snoc 10000 (Z.take k) (Z.getD k 0) 0
      have hol := outs_length 10000 (Z.take k) 0
      rw [← htk] at hcr hou
      have hc1 := carried1_any B go (cry 10000 (Z.take k) 0) (Z.getD k 0) (outs 10000 (Z.take k) 0) wr hout (Nat.le_trans hB hw.size) hcb hxb (by rw [hol, List.length_take]; omega)
      generalize Z.getD k 0 = x at *
      generalize cry 10000 (Z.take k) 0 = cr at *
      generalize outs 10000 (Z.take k) 0 = ou at *
      rw [show ((10000 : Nat) : Int) = 10000 from rfl] at hcr hou
      rw [← hcr, ← hou] at hc1
      have HC := Lib.hid hc1
      clear hZ hbd ho hI hgB hcb hxb htk hcr hou hol hg hout hc1
      go_wp2_with (go_at_call 149; refine HC.out.mono ?_; rintro e w' ⟨rfl, ho', hb'⟩)
      go_roundw
      case rel => exact ⟨k + 1, by omega, by go_num, rfl, ho', hw.trans hb'⟩
      case measure => simp [intOf]; omega
    · obtain rfl : n = k := by omega
      rw [List.take_of_length_le (by omega)] at hout ⊢
      clear hZ hbd ho hg
      go_wp2_with fail
      go_ret
      exact ⟨rfl, hout, hw⟩

end Go.Proofs.YtjkklgpbblkhaaaGreatDoor

/-
  Layer 3: the number that columns add up to, whole.
-/
namespace Go.Proofs.YtjkklgpbblkhaaaGreatDoor
open Go.RowKit Bs Ig

/-- a slice that is made with room alone -/
theorem mkOwn (w : World) (t : TypeId) (ht : Tryz.prog.underlying t = some (.slice 3)) (m : Nat) (hm : m ≤ 2000000) :
    ∃ w', (Instr.makeSlice t (.int .i64 0) (.int .i64 (m : Int))).run Tryz.prog w = .ok (.slice (some ⟨w.heap.size, 0, none⟩) 0 m) w' ∧ Own w' w.heap.size 3 .i64 (.slice (some ⟨w.heap.size, 0, none⟩) 0 m) [] ∧ Below w.heap.size w w' ∧ w'.heap.size = w.heap.size + 1 := by
  obtain ⟨i0, hi, hz0, hz1, hz2⟩ := info_parts infoInt
  have hmx : m ≤ maxLen := by unfold maxLen; omega
  refine ⟨_, run_make w t 3 i0 (.int .i64 0) ht hi hz0 .i64 .i64 0 m (by omega) (by omega) (by rw [hz2]; omega) (by omega), ?_, (Below.refl _ w).alloc (Nat.le_refl _) _, by simp⟩
  refine ⟨rfl, .inr ⟨w.heap.size, m, _, rfl, Nat.le_refl _, heap_alloc_new _ _, Nat.zero_le _, hmx, by rw [size_madeCells, hz1]; simp, by simp [iv]⟩⟩

theorem Bs.Own.isZ {W : World} {base n c : Nat} {a : Option Addr} {l : List Nat} (h : Own W base 3 .i64 (.slice a n c) l) : IsZ W a n c (zs l) := by
  have hn : n = l.length := h.len
  refine ⟨by rw [zs_length, hn], ?_, ?_, ?_⟩
  · rcases h.row.2 with ⟨e, h0⟩ | ⟨g, cap, cur, e, _, _, h1, _⟩
    · cases e; exact Nat.le_refl _
    · cases e; exact h1
  · rcases h.row.2 with ⟨e, h0⟩ | ⟨g, cap, cur, e, _, _, _, h1, _⟩
    · cases e; exact Nat.zero_le _
    · cases e; exact h1
  · rcases Nat.eq_zero_or_pos n with h0 | h0
    · exact .inl h0
    · right
      obtain ⟨g, cap, e, _, _, hc⟩ := h.cells (by omega)
      cases e
      exact ⟨g, 0, rfl, fun i hi => by rw [Nat.zero_add, hc i (by rw [zs_length] at hi; exact hi), zs_getD]⟩

set_option maxRecDepth 100000 in
set_option maxHeartbeats 1000000 in
theorem carried_any (a : Option Addr) (n c N : Nat) (Z : List Int) (w : World) (hZ : IsZ w a n c Z) (hbd : ∀ x ∈ Z, -1000000000000000 ≤ x ∧ x ≤ 1000000000000000) (hn : n ≤ 100000) (hv : vali 10000 Z = (N : Nat)) (hN : N < 10000 ^ (n + 1)) :
    Calls Tryz.prog 128 #[.slice a n c] w fun e w' => ∃ a' n' c', e = .returned (.slice (some a') n' c') ∧ IsZ w' (some a') n' c' (zs (G N)) ∧ Below w.heap.size w w' := by
  have hcap := hZ.cap
  have hll := hZ.len
  obtain ⟨w1, hmk, hown1, hb1, hs1⟩ := mkOwn w 89 Tryz.underlying89 (n + 1) (by omega)
  rw [show ((n + 1 : Nat) : Int) = (n : Int) + 1 by omega] at hmk
  go_enter Tryz.func128, Tryz.ntmps128
  go_wp2_with fail
  have hb2 : Below w.heap.size w (w1.alloc (.cells #[.slice (some ⟨w.heap.size, 0, none⟩) 0 (n + 1)] 89)) := hb1.alloc (by omega) _
  have hout : Out (w1.alloc (.cells #[.slice (some ⟨w.heap.size, 0, none⟩) 0 (n + 1)] 89)) w.heap.size (w.heap.size + 1) [] :=
    ⟨⟨_, by rw [← hs1]; exact heap_alloc_new _ _, hown1.alloc _⟩, by omega⟩
  refine (fold_any w.heap.size (w.heap.size + 1) a n c Z _ (hZ.later hb2) hbd hout hb2.size (by omega) (fun g off e hn0 => by
    subst e
    obtain ⟨g', off', e', hI⟩ := hZ.at hn0
    cases e'
    exact hI.lt (by omega))).mono ?_
  rintro e w2 ⟨rfl, ⟨⟨v, hrow, hown⟩, _⟩, hb3⟩
  have hb4 := hb2.trans hb3
  obtain ⟨cc, hcc, hcry, hval⟩ := carried_val 10000 (by omega) Z N hv (by rw [hll]; exact hN)
  have hol : (outs 10000 Z 0).length = n := by rw [outs_length, hll]
  have hlt : ∀ x ∈ outs 10000 Z 0 ++ [cc], x < 10000 := by
    intro x hx
    rcases List.mem_append.1 hx with hx | hx
    · exact outs_lt 10000 (by omega) Z 0 x hx
    · rw [List.mem_singleton.1 hx]; exact hcc
  rw [hcry]
  obtain ⟨L, hL⟩ : ∃ L, outs 10000 Z 0 = L := ⟨_, rfl⟩
  rw [hL] at hown hol hlt hval
  obtain ⟨i0, hi, hz0, hz1, hz2⟩ := info_parts infoInt
  have hcell : w2.cell? ⟨w.heap.size + 1, 0, none⟩ = some v := by rw [cell_of_row _ _ 0 _ _ _ hrow]; rfl
  obtain ⟨a1, n1, c1, rfl⟩ : ∃ a n c, v = .slice a n c := hown.row.2.elim (fun h => ⟨_, _, _, h.1⟩) (fun ⟨g, cap, cur, hv, _⟩ => ⟨_, _, _, hv⟩)
  have Hol := Lib.hid hol
  have Hval := Lib.hid hval
  have Hlt := Lib.hid hlt
  have hs4 := hb4.size
  clear hZ hbd hb3 hb2 hout hL hcry hval hlt hol hown1 hb1 hmk hs1 hv hN hll hrow
  go_wp2_with (at_builtin; refine wpList_push rfl _ _ 89 rfl w.heap.size 3 i0 (.int .i64 0) 8 Tryz.underlying89 hi hz0 hz1 hz2 rfl (by omega) .i64 _ L rfl (hown.alloc _) ⟨w2.heap.size, 0, none⟩ 1 cc rfl ?c1 ?c2 ?c3 ?_)
  case c1 => simp [Addr.add]
  case c2 => rw [Hol.out]; omega
  case c3 => simp; omega
  intro v' w3 hown3 hb5
  have hb6 := (hb4.alloc hs4 _).trans hb5
  obtain ⟨a3, n3, c3, rfl⟩ : ∃ a n c, v' = .slice (some a) n c := by
    obtain ⟨g, cap, hv, _⟩ := hown3.cells (by simp)
    exact ⟨_, _, _, hv⟩
  have hn3 := hown3.len
  rw [List.length_append, Hol.out] at hn3
  have ht := trimmed_any (some a3) n3 c3 (L ++ [cc]) w3 hown3.isZ Hlt.out (by have : n3 = n + 1 := hn3; omega)
  rw [show V (L ++ [cc]) = N from Hval.out] at ht
  clear hown hown3 hb5 hb4 hcell
  go_wp2_with (go_at_call 126; refine ht.mono ?_; rintro e w4 ⟨m, rfl, hZ4, hb7⟩)
  go_ret
  exact ⟨_, _, _, rfl, hZ4, below_on hb6 hb7 hb6.size⟩

end Go.Proofs.YtjkklgpbblkhaaaGreatDoor

/-
  Layer 3: columns that are written; a slice's copy.
-/
namespace Go.Proofs.YtjkklgpbblkhaaaGreatDoor
open Go.RowKit Bs Ig

/-- the slice (a, n, c) holds the integers Z, at or behind the block B, and they may be written -/
structure Cols (W : World) (B : Nat) (a : Option Addr) (n c : Nat) (Z : List Int) : Prop where
  len : Z.length = n
  cap : n ≤ c
  max : c ≤ maxLen
  row : n = 0 ∨ ∃ g cur, a = some ⟨g, 0, none⟩ ∧ B ≤ g ∧ W.heap[g]? = some (.cells cur 3 (0, 0)) ∧ cur.toList.take n = Z.map (Value.int .i64)
theorem Cols.at {W : World} {B n c : Nat} {a : Option Addr} {Z : List Int} (h : Cols W B a n c Z) (hn : 0 < n) :
    ∃ g, a = some ⟨g, 0, none⟩ ∧ B ≤ g ∧ ∀ i, i < n → W.cell? ⟨g, i, none⟩ = some (.int .i64 (Z.getD i 0)) ∧ W.frozen? ⟨g, i, none⟩ = false := by
  obtain ⟨g, cur, ha, hB, hrow, ht⟩ := h.row.resolve_left (by omega)
  refine ⟨g, ha, hB, fun i hi => ⟨?_, frozen_of_row _ _ i _ _ hrow⟩⟩
  have hl := h.len
  rw [cell_of_row W g i _ _ _ hrow, ← Array.getElem?_toList]
  have e1 : cur.toList[i]? = (cur.toList.take n)[i]? := by rw [List.getElem?_take, if_pos hi]
  rw [e1, ht, List.getElem?_map, List.getElem?_eq_getElem (by omega), List.getD_eq_getElem?_getD, List.getElem?_eq_getElem (by omega)]; rfl
theorem Cols.isZ {W : World} {B n c : Nat} {a : Option Addr} {Z : List Int} (h : Cols W B a n c Z) : IsZ W a n c Z := by
  refine ⟨h.len, h.cap, h.max, ?_⟩
  rcases Nat.eq_zero_or_pos n with h0 | h0
  · exact .inl h0
  · obtain ⟨g, ha, _, hc⟩ := h.at h0
    exact .inr ⟨g, 0, ha, fun i hi => by rw [Nat.zero_add]; exact (hc i (by rw [← h.len]; exact hi)).1⟩
theorem Cols.later {W W' : World} {B n c : Nat} {a : Option Addr} {Z : List Int} (h : Cols W B a n c Z) (hb : Below W.heap.size W W') : Cols W' B a n c Z :=
  ⟨h.len, h.cap, h.max, h.row.imp id (fun ⟨g, cur, ha, hB, hrow, ht⟩ => ⟨g, cur, ha, hB, (hb.block g ((Array.getElem?_eq_some_iff.1 hrow).1)).trans hrow, ht⟩)⟩
theorem Cols.set {W : World} {B g n c : Nat} {Z : List Int} (h : Cols W B (some ⟨g, 0, none⟩) n c Z) (i : Nat) (hi : i < n) (y : Int) : Cols (W.setCell ⟨g, i, none⟩ (.int .i64 y)) B (some ⟨g, 0, none⟩) n c (Z.set i y) := by
  refine ⟨by rw [List.length_set]; exact h.len, h.cap, h.max, .inr ?_⟩
  obtain ⟨g', cur, ha, hB, hrow, ht⟩ := h.row.resolve_left (by omega)
  cases ha
  refine ⟨g, _, rfl, hB, heap_setCell_same W g i _ _ _ hrow, ?_⟩
  rw [Array.toList_setIfInBounds, List.take_set, ht, List.map_set]
theorem Bs.Own.cols {W : World} {base n c : Nat} {a : Option Addr} {l : List Nat} (h : Own W base 3 .i64 (.slice a n c) l) : Cols W base a n c (zs l) := by
  have hz := h.isZ
  refine ⟨hz.len, hz.cap, hz.max, ?_⟩
  rcases h.row.2 with ⟨e, h0⟩ | ⟨g, cap, cur, e, hB, hrow, _, _, _, ht⟩
  · left; have := h.len; have : n = l.length := this; omega
  · cases e
    refine .inr ⟨g, cur, rfl, hB, hrow, ?_⟩
    rw [Nat.mul_one] at ht
    rw [ht]; simp [iv, zs]
/-- a slice of zeros that is made -/
theorem mkCols (w : World) (t : TypeId) (ht : Tryz.prog.underlying t = some (.slice 3)) (m : Nat) (hm : m ≤ 2000000) :
    ∃ w', (Instr.makeSlice t (.int .i64 (m : Int)) (.int .i64 (m : Int))).run Tryz.prog w = .ok (.slice (some ⟨w.heap.size, 0, none⟩) m m) w' ∧ Cols w' w.heap.size (some ⟨w.heap.size, 0, none⟩) m m (List.replicate m 0) ∧ Below w.heap.size w w' ∧ w'.heap.size = w.heap.size + 1 := by
  obtain ⟨i0, hi, hz0, hz1, hz2⟩ := info_parts infoInt
  have hmx : m ≤ maxLen := by unfold maxLen; omega
  refine ⟨_, run_make w t 3 i0 (.int .i64 0) ht hi hz0 .i64 .i64 m m (by omega) (by omega) (by rw [hz2]; omega) (by omega), ?_, (Below.refl _ w).alloc (Nat.le_refl _) _, by simp⟩
  simp only [Int.toNat_natCast]
  refine ⟨by simp, Nat.le_refl _, hmx, .inr ⟨w.heap.size, _, rfl, Nat.le_refl _, heap_alloc_new _ _, ?_⟩⟩
  rw [hz1, Nat.mul_one]
  apply List.ext_getElem?
  intro i
  simp only [madeCells, List.map_replicate, List.getElem?_take, List.getElem?_replicate]
  split
  · simp [Value.cells, Nat.mod_one, *]
  · rfl

set_option maxRecDepth 100000 in
set_option maxHeartbeats 1000000 in
theorem clone_any (a : Option Addr) (n c : Nat) (l : List Nat) (w : World) (hl : IsZ w a n c (zs l)) (hn : n ≤ 1000000) :
    Calls Tryz.prog 129 #[.slice a n c] w fun e w' => ∃ a' n' c', e = .returned (.slice a' n' c') ∧ Own w' w.heap.size 3 .i64 (.slice a' n' c') l ∧ Below w.heap.size w w' := by
  have hll : l.length = n := by rw [← zs_length]; exact hl.len
  obtain ⟨i0, hi, hz0, hz1, hz2⟩ := info_parts infoInt
  have hcap := hl.cap
  have q49 : ∀ (w : World) (a : Option Addr) (n c n' c' : Nat), (binOp .eql 89 (.slice a n c) (.slice none n' c')).run Tryz.prog w = .ok (.bool a.isNone) w := fun w a n c n' c' => Lib.run_eql_slice_nil w _ _ a n c n' c' Tryz.underlying89
  cases a with
  | none =>
    have h0 : n = 0 := by
      rcases Nat.eq_zero_or_pos n with h | h
      · exact h
      · obtain ⟨g, off, e, _⟩ := hl.at h; cases e
    obtain rfl : l = [] := List.length_eq_zero_iff.1 (by omega)
    clear hl
    go_enter Tryz.func129, Tryz.ntmps129
    go_wp2_with fail
    go_ret
    exact ⟨_, _, _, rfl, Own.nil _ _ _ _, Below.refl _ _⟩
  | some ad =>
    have hcell : ∀ (W : World), Below w.heap.size w W → ∀ j u, (iv .i64 l)[j]? = some u → W.cell? (ad.add j) = some u := by
      intro W hW j u hj
      have hjn : j < n := by
        rcases Nat.lt_or_ge j n with h1 | h1
        · exact h1
        · rw [List.getElem?_eq_none (by rw [iv_length]; omega)] at hj; cases hj
      obtain ⟨g, off, e, hI⟩ := hl.at (by omega)
      cases e
      have hadd : (⟨g, off, none⟩ : Addr).add j = ⟨g, off + j, none⟩ := by unfold Addr.add; split <;> simp_all
      have hc := hI j (by rw [zs_length]; omega)
      rw [hadd, (hW.cell (p := ⟨g, off + j, none⟩) (block_lt_of_cell hc)).trans hc, zs_getD]
      simp only [iv, List.getElem?_map, List.getElem?_eq_getElem (show j < l.length by omega), Option.map_some, Option.some.injEq] at hj
      rw [← hj, List.getD_eq_getElem?_getD, List.getElem?_eq_getElem (show j < l.length by omega)]; rfl
    have Hcell := Lib.hid hcell
    have Hll := Lib.hid hll
    clear hcell hl hll
    go_enter Tryz.func129, Tryz.ntmps129
    go_wp2_with (at_builtin; refine wpList_append_own _ rfl _ _ 89 rfl w.heap.size 3 i0 (.int .i64 0) 1 8 Tryz.underlying89 hi hz0 hz1 hz2 rfl (by omega) (.slice (some ⟨w.heap.size, 0, none⟩) 0 0) 0 [] rfl ⟨rfl, .inr ⟨w.heap.size, 0, _, rfl, Nat.le_refl _, heap_alloc_new _ _, Nat.le_refl _, Nat.zero_le _, rfl, rfl⟩⟩ ad n c (iv .i64 l) rfl ?q1 ?q2 ?q3 ?q4 ?q5 ?q6 ?_)
    case q1 => rw [iv_length, Hll.out, Nat.mul_one]
    case q2 => exact Hcell.out _ ((Below.refl _ w).alloc (Nat.le_refl _) _)
    case q3 => intro u hu; simp only [iv, List.mem_map] at hu; obtain ⟨b, _, rfl⟩ := hu; rfl
    case q4 => unfold maxLen; omega
    case q5 => omega
    case q6 => simp
    intro v' w1 hown hg _
    have hown2 : Own w1 w.heap.size 3 .i64 v' l := ⟨by rw [Hll.out]; simpa using hown⟩
    have hb : Below w.heap.size w w1 := ((Below.refl _ w).alloc (Nat.le_refl _) _).grown hg (by simp) (by intro k hk; simp [Value.ownBlock] at hk; omega)
    obtain ⟨a3, n3, c3, rfl⟩ : ∃ a n c, v' = .slice a n c := hown2.row.2.elim (fun h => ⟨_, _, _, h.1⟩) (fun ⟨g, cap, cur, hv, _⟩ => ⟨_, _, _, hv⟩)
    clear hown hg Hcell Hll
    go_wp2_with fail
    go_ret
    exact ⟨_, _, _, rfl, hown2, hb⟩

end Go.Proofs.YtjkklgpbblkhaaaGreatDoor
