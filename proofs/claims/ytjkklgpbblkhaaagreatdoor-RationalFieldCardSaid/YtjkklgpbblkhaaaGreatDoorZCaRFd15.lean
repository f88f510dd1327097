/-
  Put together by program out of these texts, in this order: Ria, Rib, Ric, Rid.
-/
import Derived.Test.YtjkklgpbblkhaaaGreatDoorZCaRFd01

/-
  Layer 3, the reference: the order of two lists of digits, and their sum.
-/
namespace Go.Proofs.YtjkklgpbblkhaaaGreatDoor
open Go.RowKit Bs Ig

/-- the decimal digits of n, the least first -/
def D (n : Nat) : List Nat := dgs 8 n
theorem D_lt (n : Nat) : ∀ x ∈ D n, x < 10 := dgs_lt 8 n
theorem D_val (n : Nat) : val 10 (D n) = n := val_dgs 8 n
theorem D_len {W : World} {a : Option Addr} {n c x : Nat} (h : IsZ W a n c (zs (D x))) : (D x).length = n := by rw [← zs_length]; exact h.len
theorem D_lt_pow {x n : Nat} (h : (D x).length = n) : x < 10 ^ n := by have := dgs_lt_pow 8 x; rwa [show (dgs 8 x).length = n from h] at this
theorem D_le_pow {x n : Nat} (h : (D x).length = n) (hx : 0 < n) : 10 ^ (n - 1) ≤ x := by
  have h0 : 0 < x := Nat.pos_of_ne_zero fun e => by subst e; rw [show D 0 = [] from dgs_zero 8] at h; simp at h; omega
  have := dgs_le_pow 8 x h0
  rwa [show (dgs 8 x).length = n from h] at this
/-- digits without a 0 in front are the digits of what they stand for -/
theorem D_of (l : List Nat) (z : Nat) (h : ∀ x ∈ l, x < 10) (hv : val 10 l = z) (hl : l = [] ∨ 10 ^ (l.length - 1) ≤ z) : l = D z := by
  rcases List.eq_nil_or_concat l with e | ⟨r, x, e⟩
  · subst e; subst hv; exact (dgs_zero 8).symm
  · have hne : l ≠ [] := by rw [e]; simp
    have hl := hl.resolve_left hne
    rw [List.concat_eq_append] at e
    have hlast : x ≠ 0 := by
      intro h0
      subst h0
      have hv2 : val 10 r = z := by rw [← hv, e, val_snoc0]
      have hl2 : l.length = r.length + 1 := by rw [e]; simp
      have hlt := val_lt 10 r (fun y hy => h y (by rw [e]; exact List.mem_append_left _ hy))
      rw [hl2, Nat.add_sub_cancel] at hl
      omega
    rw [← hv]
    refine (dgs_val 8 l h ?_).symm
    rw [e]
    simpa using hlast
theorem mod_step (x i : Nat) : x % 10 ^ (i + 1) = x % 10 ^ i + 10 ^ i * (x / 10 ^ i % 10) := Nat.mod_pow_succ

set_option maxRecDepth 100000 in
set_option maxHeartbeats 1000000 in
theorem order_any (a : Option Addr) (n c : Nat) (b : Option Addr) (k d : Nat) (x y : Nat) (w : World) (hl : IsZ w a n c (zs (D x))) (hm : IsZ w b k d (zs (D y))) (hn : n ≤ 1000000) (hk : k ≤ 1000000) :
    Calls Tryz.prog 87 #[.slice a n c, .slice b k d] w fun e w' => e = .returned (.int .i64 (cmp x y)) ∧ Below w.heap.size w w' := by
  have hxl := D_len hl
  have hyl := D_len hm
  have hnc := hl.cap
  have hkd := hm.cap
  rcases Decidable.em (n = k) with hnk | hnk
  · subst hnk
    have hst := same_top 8 x y (by rw [show (dgs 8 x).length = n from hxl, show (dgs 8 y).length = n from hyl])
    rw [show (dgs 8 x).length = n from hxl] at hst
    go_enter Tryz.func87, Tryz.ntmps87
    go_wp2_with fail
    go_loopw [5] (fun u wr => ∃ j : Nat, j ≤ n ∧ u = .int .i64 ((j : Int) - 1) ∧ x / 10 ^ j = y / 10 ^ j ∧ Below w.heap.size w wr) (fun u _ => (intOf u + 1).toNat)
    case atStart => exact ⟨n, Nat.le_refl _, rfl, hst, Below.refl _ _⟩
    case round =>
      obtain ⟨j, hj, rfl, he, hw⟩ := hrel
      rcases Nat.eq_zero_or_pos j with h0 | h0
      · subst h0
        rw [Nat.pow_zero, Nat.div_one, Nat.div_one] at he
        subst he
        clear hl hm
        go_wp2_with fail
        go_ret
        exact ⟨by rw [cmp_self]; rfl, hw⟩
      · obtain ⟨i, rfl⟩ : ∃ i, j = i + 1 := ⟨j - 1, by omega⟩
        obtain ⟨g, off, rfl, hI⟩ := (hl.later hw).at (by omega)
        obtain ⟨g2, off2, rfl, hI2⟩ := (hm.later hw).at (by omega)
        have hc1 := hI i (by rw [zs_length]; omega)
        have hc2 := hI2 i (by rw [zs_length]; omega)
        rw [zs_getD] at hc1 hc2
        have e1 : ((i + 1 : Nat) : Int) - 1 = (i : Int) := by omega
        rw [e1]
        have hat := cmp_at 8 x y i he
        have hsm := same_step 8 x y i he
        obtain ⟨u, hu⟩ : ∃ u, (D x).getD i 0 = u := ⟨_, rfl⟩
        obtain ⟨v, hv⟩ : ∃ v, (D y).getD i 0 = v := ⟨_, rfl⟩
        rw [show (dgs 8 x).getD i 0 = u from hu, show (dgs 8 y).getD i 0 = v from hv] at hat hsm
        rw [hu] at hc1
        rw [hv] at hc2
        rcases Nat.lt_trichotomy u v with h | h | h
        · have h1 : ((u : Int) == (v : Int)) = false := beq_false_of_ne (by omega)
          have h2 : decide ((u : Int) < (v : Int)) = true := decide_eq_true (by omega)
          have h3 : (u == v) = false := beq_false_of_ne (by omega)
          have h4 : decide (u < v) = true := decide_eq_true h
          have Hc := Lib.hid (show cmp x y = -1 by rw [hat (by omega), cmp_lt h])
          clear hl hm hI hI2 hat hsm hu hv he hst
          go_wp2_with fail
          go_quiet (fail)
          have d1 : (wr.drewN nq).cell? ⟨g, off + i, none⟩ = some (.int .i64 (u : Int)) := hc1
          have d2 : (wr.drewN nq).cell? ⟨g2, off2 + i, none⟩ = some (.int .i64 (v : Int)) := hc2
          have hw2 := below_drewN hw nq
          clear hc1 hc2 hw
          generalize wr.drewN nq = W2 at *
          go_wp2_with fail
          go_quiet (fail)
          go_wp2_with fail
          go_ret
          exact ⟨by rw [Hc.out]; rfl, below_drewN hw2 nq⟩
        · have he2 := hsm h
          subst h
          clear hl hm hI hI2 hat hsm hu hv hst
          have He := Lib.hid he2
          clear he he2
          go_wp2_with fail
          go_quiet (fail)
          have hw2 := below_drewN hw nq
          go_wp2_with fail
          go_roundw
          case rel => exact ⟨i, by omega, by go_num, He.out, hw2⟩
          case measure => simp [intOf]
        · have h1 : ((u : Int) == (v : Int)) = false := beq_false_of_ne (by omega)
          have h2 : decide ((u : Int) < (v : Int)) = false := decide_eq_false (by omega)
          have h3 : (u == v) = false := beq_false_of_ne (by omega)
          have h4 : decide (u < v) = false := decide_eq_false (by omega)
          have Hc := Lib.hid (show cmp x y = 1 by rw [hat (by omega), cmp_gt h])
          clear hl hm hI hI2 hat hsm hu hv he hst
          go_wp2_with fail
          go_quiet (fail)
          have d1 : (wr.drewN nq).cell? ⟨g, off + i, none⟩ = some (.int .i64 (u : Int)) := hc1
          have d2 : (wr.drewN nq).cell? ⟨g2, off2 + i, none⟩ = some (.int .i64 (v : Int)) := hc2
          have hw2 := below_drewN hw nq
          clear hc1 hc2 hw
          generalize wr.drewN nq = W2 at *
          go_wp2_with fail
          go_quiet (fail)
          go_wp2_with fail
          go_ret
          exact ⟨by rw [Hc.out]; rfl, below_drewN hw2 nq⟩
  · have h1 : ((n : Int) == (k : Int)) = false := beq_false_of_ne (by omega)
    have h3 : (n == k) = false := beq_false_of_ne hnk
    rcases Nat.lt_or_gt_of_ne hnk with h | h
    · have h2 : decide ((n : Int) < (k : Int)) = true := decide_eq_true (by omega)
      have h4 : decide (n < k) = true := decide_eq_true h
      rw [cmp_lt (dgs_length_lt (k := 8) (by rw [show (dgs 8 x).length = n from hxl, show (dgs 8 y).length = k from hyl]; exact h))]
      clear hl hm
      go_enter Tryz.func87, Tryz.ntmps87
      go_wp2_with fail
      go_ret
      exact ⟨rfl, Below.refl _ _⟩
    · have h2 : decide ((n : Int) < (k : Int)) = false := decide_eq_false (by omega)
      have h4 : decide (n < k) = false := decide_eq_false (by omega)
      rw [cmp_gt (dgs_length_lt (k := 8) (by rw [show (dgs 8 x).length = n from hxl, show (dgs 8 y).length = k from hyl]; exact h))]
      clear hl hm
      go_enter Tryz.func87, Tryz.ntmps87
      go_wp2_with fail
      go_ret
      exact ⟨rfl, Below.refl _ _⟩

end Go.Proofs.YtjkklgpbblkhaaaGreatDoor

/-
  Layer 3, the reference: sums of lists of digits.
-/
namespace Go.Proofs.YtjkklgpbblkhaaaGreatDoor
open Go.RowKit Bs Ig

theorem own_sl {W : World} {base : Nat} {t : TypeId} {k : IntKind} {v : Value} {l : List Nat} (h : Bs.Own W base t k v l) : ∃ a n c, v = .slice a n c := h.row.2.elim (fun h => ⟨_, _, _, h.1⟩) (fun ⟨g, cap, cur, hv, _⟩ => ⟨_, _, _, hv⟩)
theorem tm10 (N : Nat) (E : Int) (h : E = (N : Int)) : E.tmod 10 = ((N % 10 : Nat) : Int) ∧ E.tdiv 10 = ((N / 10 : Nat) : Int) := by
  subst h
  exact ⟨(Int.ofNat_tmod N 10).symm, (Int.ofNat_tdiv N 10).symm⟩
/-- what a round of the sum keeps -/
structure Pl (x y n k : Nat) (C : List Nat) (cr i : Nat) : Prop where
  len : C.length = i
  lt : ∀ z ∈ C, z < 10
  sum : Ig.val 10 C + 10 ^ i * cr = x % 10 ^ i + y % 10 ^ i
  car : cr ≤ 1
  top : i = 0 ∨ 10 ^ (i - 1) ≤ x + y
  end_ : i ≤ max n k ∨ i = max n k + 1 ∧ cr = 0
theorem Pl.start (x y n k : Nat) : Pl x y n k [] 0 0 := ⟨rfl, fun z hz => (by cases hz), by simp [Ig.val, Nat.mod_one], by omega, .inl rfl, .inl (Nat.zero_le _)⟩
theorem div_high {x n i : Nat} (h : (D x).length = n) (hi : n ≤ i) : x / 10 ^ i = 0 := Nat.div_eq_of_lt (Nat.lt_of_lt_of_le (D_lt_pow h) (Nat.pow_le_pow_right (by omega) hi))
theorem Pl.next {x y n k : Nat} {C : List Nat} {cr i : Nat} (h : Pl x y n k C cr i) (hx : (D x).length = n) (hy : (D y).length = k) (hgo : i < n ∨ i < k ∨ 0 < cr) :
    Pl x y n k (C ++ [(cr + x / 10 ^ i % 10 + y / 10 ^ i % 10) % 10]) ((cr + x / 10 ^ i % 10 + y / 10 ^ i % 10) / 10) (i + 1) := by
  obtain ⟨h1, h2, h3, h4, h5, h6⟩ := h
  have hu : x / 10 ^ i % 10 < 10 := Nat.mod_lt _ (by omega)
  have hv : y / 10 ^ i % 10 < 10 := Nat.mod_lt _ (by omega)
  have hN := Nat.mod_add_div (cr + x / 10 ^ i % 10 + y / 10 ^ i % 10) 10
  refine ⟨by rw [List.length_append, h1]; rfl, fun z hz => ?_, ?_, by omega, .inr ?_, ?_⟩
  · rcases List.mem_append.1 hz with hz | hz
    · exact h2 z hz
    · rw [List.mem_singleton.1 hz]; exact Nat.mod_lt _ (by omega)
  · rw [val_append, h1, mod_step, mod_step, Nat.pow_succ]
    obtain ⟨N, hNe⟩ : ∃ N, cr + x / 10 ^ i % 10 + y / 10 ^ i % 10 = N := ⟨_, rfl⟩
    rw [hNe] at hN ⊢
    have key : 10 ^ i * (N % 10) + 10 ^ i * 10 * (N / 10) = 10 ^ i * cr + 10 ^ i * (x / 10 ^ i % 10) + 10 ^ i * (y / 10 ^ i % 10) := by
      rw [Nat.mul_assoc, ← Nat.mul_add, hN, ← hNe, Nat.mul_add, Nat.mul_add]
    show Ig.val 10 C + 10 ^ i * (N % 10) + 10 ^ i * 10 * (N / 10) = _
    omega
  · rw [Nat.add_sub_cancel]
    rcases hgo with h | h | h
    · have := D_le_pow hx (by omega)
      have := Nat.pow_le_pow_right (n := 10) (by omega) (show i ≤ n - 1 by omega)
      omega
    · have := D_le_pow hy (by omega)
      have := Nat.pow_le_pow_right (n := 10) (by omega) (show i ≤ k - 1 by omega)
      omega
    · have e1 := Nat.mod_le x (10 ^ i)
      have e2 := Nat.mod_le y (10 ^ i)
      have e3 : 10 ^ i ≤ 10 ^ i * cr := Nat.le_mul_of_pos_right _ h
      omega
  · rcases Nat.lt_or_ge i (max n k) with h | h
    · exact .inl (by omega)
    · right
      have e1 := div_high hx (show n ≤ i by omega)
      have e2 := div_high hy (show k ≤ i by omega)
      rw [e1, e2]
      refine ⟨by omega, by simp; omega⟩
theorem Pl.done {x y n k : Nat} {C : List Nat} {i : Nat} (h : Pl x y n k C 0 i) (hx : (D x).length = n) (hy : (D y).length = k) (h1 : n ≤ i) (h2 : k ≤ i) : C = D (x + y) := by
  have e1 : x % 10 ^ i = x := Nat.mod_eq_of_lt (Nat.lt_of_lt_of_le (D_lt_pow hx) (Nat.pow_le_pow_right (by omega) h1))
  have e2 : y % 10 ^ i = y := Nat.mod_eq_of_lt (Nat.lt_of_lt_of_le (D_lt_pow hy) (Nat.pow_le_pow_right (by omega) h2))
  have hv := h.sum
  rw [e1, e2, Nat.mul_zero, Nat.add_zero] at hv
  refine D_of C (x + y) h.lt hv ?_
  rcases h.top with h0 | h0
  · exact .inl (List.length_eq_zero_iff.1 (by rw [h.len]; exact h0))
  · right; rw [h.len]; exact h0


set_option maxRecDepth 100000 in
set_option maxHeartbeats 2000000 in
theorem rplus_any (a : Option Addr) (n c : Nat) (b : Option Addr) (k d : Nat) (x y : Nat) (w : World) (hl : IsZ w a n c (zs (D x))) (hm : IsZ w b k d (zs (D y))) (hn : n ≤ 100000) (hk : k ≤ 100000) :
    Calls Tryz.prog 85 #[.slice a n c, .slice b k d] w fun e w' => ∃ a' n' c', e = .returned (.slice a' n' c') ∧ IsZ w' a' n' c' (zs (D (x + y))) ∧ Below w.heap.size w w' := by
  have hxl := D_len hl
  have hyl := D_len hm
  have hnc := hl.cap
  have hkd := hm.cap
  obtain ⟨i0, hi, hz0, hz1, hz2⟩ := info_parts infoInt
  go_enter Tryz.func85, Tryz.ntmps85
  go_wp2_with fail
  go_loopw [5, 6, 7] (fun u v q wr => ∃ (C : List Nat) (cr i : Nat), v = .int .i64 (cr : Int) ∧ q = .int .i64 (i : Int) ∧ Pl x y n k C cr i ∧ Bs.Own wr w.heap.size 3 .i64 u C ∧ Below w.heap.size w wr) (fun _ _ q _ => (n + k + 2 - intOf q).toNat)
  case atStart => exact ⟨[], 0, 0, rfl, rfl, Pl.start x y n k, Bs.Own.nil _ _ _ _, Below.refl _ _⟩
  case round =>
    obtain ⟨C, cr, i, rfl, rfl, hp, hown, hw⟩ := hrel
    have hcr := hp.car
    have hlen := hp.len
    have hend := hp.end_
    have hs := hw.size
    rcases Decidable.em (i < n ∨ i < k ∨ 0 < cr) with hgo | hno
    · have hnx := hp.next hxl hyl hgo
      have hdx := dgs_getD 8 x i
      have hdy := dgs_getD 8 y i
      have hu0 : n ≤ i → x / 10 ^ i % 10 = 0 := fun h => by rw [div_high hxl h]
      have hv0 : k ≤ i → y / 10 ^ i % 10 = 0 := fun h => by rw [div_high hyl h]
      have hu9 : x / 10 ^ i % 10 < 10 := Nat.mod_lt _ (by omega)
      have hv9 : y / 10 ^ i % 10 < 10 := Nat.mod_lt _ (by omega)
      obtain ⟨u, hu⟩ : ∃ u, x / 10 ^ i % 10 = u := ⟨_, rfl⟩
      obtain ⟨v, hv⟩ : ∃ v, y / 10 ^ i % 10 = v := ⟨_, rfl⟩
      rw [hu, hv] at hnx
      rw [hu] at hu0 hu9
      rw [hv] at hv0 hv9
      rw [show (8 + 2 : Nat) = 10 from rfl, hu] at hdx
      rw [show (8 + 2 : Nat) = 10 from rfl, hv] at hdy
      have Hnx := Lib.hid hnx
      have hC : C.length ≤ 2000000 := by omega
      have HC := Lib.hid hC
      have Hown := Lib.hid hown
      have Hw := Lib.hid hw
      have ha : i < n → ∃ g off, a = some ⟨g, off, none⟩ ∧ wr.cell? ⟨g, off + i, none⟩ = some (.int .i64 (u : Int)) := fun h => by
        obtain ⟨g, off, e, hI⟩ := (hl.later hw).at (by omega)
        have hc := hI i (by rw [zs_length]; omega)
        rw [zs_getD, show (D x).getD i 0 = u from hdx] at hc
        exact ⟨g, off, e, hc⟩
      have hb : i < k → ∃ g off, b = some ⟨g, off, none⟩ ∧ wr.cell? ⟨g, off + i, none⟩ = some (.int .i64 (v : Int)) := fun h => by
        obtain ⟨g, off, e, hI⟩ := (hm.later hw).at (by omega)
        have hc := hI i (by rw [zs_length]; omega)
        rw [zs_getD, show (D y).getD i 0 = v from hdy] at hc
        exact ⟨g, off, e, hc⟩
      clear hnx hdx hdy hu hv hp hl hm hxl hyl hlen hC hown hw
      rcases Nat.lt_or_ge i n with h1 | h1 <;> rcases Nat.lt_or_ge i k with h2 | h2
      · obtain ⟨g, off, rfl, hc1⟩ := ha h1
        obtain ⟨g2, off2, rfl, hc2⟩ := hb h2
        obtain ⟨t1, t2⟩ := tm10 (cr + u + v) ((cr : Int) + (u : Int) + (v : Int)) (by omega)
        obtain ⟨s1, hs1⟩ : ∃ s1, (cr + u + v) % 10 = s1 := ⟨_, rfl⟩
        obtain ⟨s2, hs2⟩ : ∃ s2, (cr + u + v) / 10 = s2 := ⟨_, rfl⟩
        have Hs := Lib.hid (And.intro hs1 hs2)
        have b1 : s1 < 10 := by omega
        have b2 : s2 ≤ 2 := by omega
        have b3 : i ≤ n + k + 1 := by omega
        rw [hs1] at t1
        rw [hs2] at t2
        have f1 : decide (i < n) = true := decide_eq_true h1
        have f2 : decide (i < k) = true := decide_eq_true h2
        clear hs1 hs2 ha hb hu0 hv0 hgo hend
        go_wp2_with (at_builtin; refine wpList_push rfl _ _ 40 rfl w.heap.size 3 i0 (.int .i64 0) 8 Tryz.underlying40 hi hz0 hz1 hz2 rfl (by omega) .i64 _ C rfl (Hown.out.alloc _) ⟨wr.heap.size, 0, none⟩ 1 s1 rfl ?c1 ?c2 ?c3 ?_)
        case c1 => simp [Addr.add]
        case c2 => exact HC.out
        case c3 => simp; omega
        intro v' w1 hown' hb'
        have Hown2 := Lib.hid hown'
        have Hw2 := Lib.hid ((Hw.out.alloc hs _).trans hb')
        clear hown' hb'
        go_wp2_with fail
        go_roundw
        case rel => exact ⟨C ++ [s1], s2, i + 1, rfl, by go_num, by rw [← Hs.out.1, ← Hs.out.2]; exact Hnx.out, Hown2.out, Hw2.out⟩
        case measure => simp [intOf]; omega
      · obtain ⟨g, off, rfl, hc1⟩ := ha h1
        have hv := hv0 h2
        obtain ⟨t1, t2⟩ := tm10 (cr + u + v) ((cr : Int) + (u : Int)) (by omega)
        obtain ⟨s1, hs1⟩ : ∃ s1, (cr + u + v) % 10 = s1 := ⟨_, rfl⟩
        obtain ⟨s2, hs2⟩ : ∃ s2, (cr + u + v) / 10 = s2 := ⟨_, rfl⟩
        have Hs := Lib.hid (And.intro hs1 hs2)
        have b1 : s1 < 10 := by omega
        have b2 : s2 ≤ 2 := by omega
        have b3 : i ≤ n + k + 1 := by omega
        rw [hs1] at t1
        rw [hs2] at t2
        have f1 : decide (i < n) = true := decide_eq_true h1
        have f2 : decide (i < k) = false := decide_eq_false (by omega)
        clear hs1 hs2 ha hb hu0 hv0 hgo hend
        go_wp2_with (at_builtin; refine wpList_push rfl _ _ 40 rfl w.heap.size 3 i0 (.int .i64 0) 8 Tryz.underlying40 hi hz0 hz1 hz2 rfl (by omega) .i64 _ C rfl (Hown.out.alloc _) ⟨wr.heap.size, 0, none⟩ 1 s1 rfl ?c1 ?c2 ?c3 ?_)
        case c1 => simp [Addr.add]
        case c2 => exact HC.out
        case c3 => simp; omega
        intro v' w1 hown' hb'
        have Hown2 := Lib.hid hown'
        have Hw2 := Lib.hid ((Hw.out.alloc hs _).trans hb')
        clear hown' hb'
        go_wp2_with fail
        go_roundw
        case rel => exact ⟨C ++ [s1], s2, i + 1, rfl, by go_num, by rw [← Hs.out.1, ← Hs.out.2]; exact Hnx.out, Hown2.out, Hw2.out⟩
        case measure => simp [intOf]; omega
      · have hu := hu0 h1
        obtain ⟨g2, off2, rfl, hc2⟩ := hb h2
        obtain ⟨t1, t2⟩ := tm10 (cr + u + v) ((cr : Int) + (v : Int)) (by omega)
        obtain ⟨s1, hs1⟩ : ∃ s1, (cr + u + v) % 10 = s1 := ⟨_, rfl⟩
        obtain ⟨s2, hs2⟩ : ∃ s2, (cr + u + v) / 10 = s2 := ⟨_, rfl⟩
        have Hs := Lib.hid (And.intro hs1 hs2)
        have b1 : s1 < 10 := by omega
        have b2 : s2 ≤ 2 := by omega
        have b3 : i ≤ n + k + 1 := by omega
        rw [hs1] at t1
        rw [hs2] at t2
        have f1 : decide (i < n) = false := decide_eq_false (by omega)
        have f2 : decide (i < k) = true := decide_eq_true h2
        clear hs1 hs2 ha hb hu0 hv0 hgo hend
        go_wp2_with (at_builtin; refine wpList_push rfl _ _ 40 rfl w.heap.size 3 i0 (.int .i64 0) 8 Tryz.underlying40 hi hz0 hz1 hz2 rfl (by omega) .i64 _ C rfl (Hown.out.alloc _) ⟨wr.heap.size, 0, none⟩ 1 s1 rfl ?c1 ?c2 ?c3 ?_)
        case c1 => simp [Addr.add]
        case c2 => exact HC.out
        case c3 => simp; omega
        intro v' w1 hown' hb'
        have Hown2 := Lib.hid hown'
        have Hw2 := Lib.hid ((Hw.out.alloc hs _).trans hb')
        clear hown' hb'
        go_wp2_with fail
        go_roundw
        case rel => exact ⟨C ++ [s1], s2, i + 1, rfl, by go_num, by rw [← Hs.out.1, ← Hs.out.2]; exact Hnx.out, Hown2.out, Hw2.out⟩
        case measure => simp [intOf]; omega
      · have hu := hu0 h1
        have hv := hv0 h2
        obtain ⟨t1, t2⟩ := tm10 (cr + u + v) ((cr : Int)) (by omega)
        obtain ⟨s1, hs1⟩ : ∃ s1, (cr + u + v) % 10 = s1 := ⟨_, rfl⟩
        obtain ⟨s2, hs2⟩ : ∃ s2, (cr + u + v) / 10 = s2 := ⟨_, rfl⟩
        have Hs := Lib.hid (And.intro hs1 hs2)
        have b1 : s1 < 10 := by omega
        have b2 : s2 ≤ 2 := by omega
        have b3 : i ≤ n + k + 1 := by omega
        rw [hs1] at t1
        rw [hs2] at t2
        have f1 : decide (i < n) = false := decide_eq_false (by omega)
        have f2 : decide (i < k) = false := decide_eq_false (by omega)
        have f3 : decide (0 < cr) = true := decide_eq_true (by omega)
        clear hs1 hs2 ha hb hu0 hv0 hgo hend
        go_wp2_with (at_builtin; refine wpList_push rfl _ _ 40 rfl w.heap.size 3 i0 (.int .i64 0) 8 Tryz.underlying40 hi hz0 hz1 hz2 rfl (by omega) .i64 _ C rfl (Hown.out.alloc _) ⟨wr.heap.size, 0, none⟩ 1 s1 rfl ?c1 ?c2 ?c3 ?_)
        case c1 => simp [Addr.add]
        case c2 => exact HC.out
        case c3 => simp; omega
        intro v' w1 hown' hb'
        have Hown2 := Lib.hid hown'
        have Hw2 := Lib.hid ((Hw.out.alloc hs _).trans hb')
        clear hown' hb'
        go_wp2_with fail
        go_roundw
        case rel => exact ⟨C ++ [s1], s2, i + 1, rfl, by go_num, by rw [← Hs.out.1, ← Hs.out.2]; exact Hnx.out, Hown2.out, Hw2.out⟩
        case measure => simp [intOf]; omega
    · obtain rfl : cr = 0 := by omega
      obtain ⟨a', n', c', rfl⟩ := own_sl hown
      have hd := hp.done hxl hyl (by omega) (by omega)
      have hz := hown.isZ
      rw [hd] at hz
      have Hz := Lib.hid hz
      have Hw := Lib.hid hw
      have f1 : decide (i < n) = false := decide_eq_false (by omega)
      have f2 : decide (i < k) = false := decide_eq_false (by omega)
      clear hd hz hw hown hp hl hm hxl hyl hlen hend
      go_wp2_with fail
      go_ret
      exact ⟨a', n', c', rfl, Hz.out, Hw.out⟩

end Go.Proofs.YtjkklgpbblkhaaaGreatDoor

/-
  Layer 3, the reference: lists without zeros in front; differences of lists of digits.
-/
namespace Go.Proofs.YtjkklgpbblkhaaaGreatDoor
open Go.RowKit Bs Ig

set_option maxRecDepth 100000 in
set_option maxHeartbeats 1000000 in
theorem rtrim_any (a : Option Addr) (n c : Nat) (l : List Nat) (w : World) (hl : IsZ w a n c (zs l)) (h : ∀ x ∈ l, x < 10) (hn : n ≤ 1000000) :
    Calls Tryz.prog 104 #[.slice a n c] w fun e w' => ∃ m, e = .returned (.slice a m c) ∧ IsZ w' a m c (zs (D (val 10 l))) ∧ Below w.heap.size w w' := by
  have hll : l.length = n := by rw [← zs_length]; exact hl.len
  have hc := hl.cap
  have hm := hl.max
  go_enter Tryz.func104, Tryz.ntmps104
  go_wp2_with fail
  go_loopw [0] (fun v wr => ∃ m : Nat, m ≤ n ∧ v = .slice a m c ∧ val 10 (l.take m) = val 10 l ∧ Below w.heap.size w wr) (fun v _ => lenOf v)
  case atStart => exact ⟨n, Nat.le_refl _, rfl, by rw [← hll, List.take_length], Below.refl _ _⟩
  case round =>
    obtain ⟨m, hmn, rfl, hv, hw⟩ := hrel
    rcases Nat.eq_zero_or_pos m with h0 | h0
    · subst h0
      have hfin : IsZ wr a 0 c (zs (D (val 10 l))) := by
        rw [← hv]; show IsZ wr a 0 c (zs (D 0)); rw [show D 0 = [] from dgs_zero 8]; exact IsZ.nil _ _ _ hm
      have Hf := Lib.hid hfin
      clear hl hv h hfin
      go_wp2_with fail
      go_ret
      exact ⟨_, rfl, Hf.out, hw⟩
    · obtain ⟨g, off, rfl, hI⟩ := (hl.later hw).at (by omega)
      have hcell := hI (m - 1) (by rw [zs_length]; omega)
      rw [zs_getD] at hcell
      obtain ⟨x, hx⟩ : ∃ x, l.getD (m - 1) 0 = x := ⟨_, rfl⟩
      rw [hx] at hcell
      rcases Nat.eq_zero_or_pos x with hx0 | hx0
      · subst hx0
        have hv2 : val 10 (l.take (m - 1)) = val 10 l := by
          rw [← hv]
          have := val_take 10 l (m - 1) (by omega) hx
          rwa [Nat.sub_add_cancel h0] at this
        have hsl := slc_h wr 40 Tryz.underlying40 (some ⟨g, off, none⟩) m c (m - 1) ((m : Int) - 1) (by omega) (by omega) (by kernel_rfl)
        have Hv := Lib.hid hv2
        clear hl hv h hI hx hv2
        go_wp2_with fail
        go_roundw
        case rel => exact ⟨m - 1, by omega, by go_num, Hv.out, hw⟩
        case measure => simp [lenOf]; omega
      · have hd : l.take m = D (val 10 l) := dgs_take 8 l m (by omega) h hv (.inr (by rw [hx]; omega))
        have hfin := ((hl.later hw).take hmn)
        rw [zs_take, hd] at hfin
        have hx1 : decide ((x : Int) = 0) = false := by simp; omega
        have Hf := Lib.hid hfin
        clear hl hv h hI hx hd hfin
        go_wp2_with fail
        go_ret
        exact ⟨_, rfl, Hf.out, hw⟩

/-- what a round of the difference keeps -/
structure Mi (x y n : Nat) (C : List Nat) (br i : Nat) : Prop where
  len : C.length = i
  lt : ∀ z ∈ C, z < 10
  sum : Ig.val 10 C + y % 10 ^ i = x % 10 ^ i + 10 ^ i * br
  bor : br ≤ 1
  top : i ≤ n
theorem Mi.start (x y n : Nat) : Mi x y n [] 0 0 := ⟨rfl, fun z hz => (by cases hz), by simp [Ig.val, Nat.mod_one], by omega, Nat.zero_le _⟩
theorem Mi.next {x y n : Nat} {C : List Nat} {br i dg br' : Nat} (h : Mi x y n C br i) (hi : i < n) (hd : dg + br + y / 10 ^ i % 10 = x / 10 ^ i % 10 + 10 * br') (h9 : dg < 10) (h1 : br' ≤ 1) :
    Mi x y n (C ++ [dg]) br' (i + 1) := by
  obtain ⟨a1, a2, a3, a4, a5⟩ := h
  refine ⟨by rw [List.length_append, a1]; rfl, fun z hz => ?_, ?_, h1, hi⟩
  · rcases List.mem_append.1 hz with hz | hz
    · exact a2 z hz
    · rw [List.mem_singleton.1 hz]; exact h9
  · rw [val_append, a1, mod_step, mod_step, Nat.pow_succ]
    have key := congrArg (fun t => 10 ^ i * t) hd
    simp only [Nat.mul_add] at key
    rw [← Nat.mul_assoc] at key
    show Ig.val 10 C + 10 ^ i * dg + _ = _
    omega
theorem Mi.done {x y n : Nat} {C : List Nat} {br : Nat} (h : Mi x y n C br n) (hx : (D x).length = n) (hxy : y ≤ x) : Ig.val 10 C = x - y := by
  have e1 : x % 10 ^ n = x := Nat.mod_eq_of_lt (D_lt_pow hx)
  have e2 : y % 10 ^ n = y := Nat.mod_eq_of_lt (Nat.lt_of_le_of_lt hxy (D_lt_pow hx))
  have hv := h.sum
  have hlt := val_lt 10 C h.lt
  rw [h.len] at hlt
  rw [e1, e2] at hv
  have hb := h.bor
  rcases (show br = 0 ∨ br = 1 by omega) with rfl | rfl <;> omega

set_option maxRecDepth 100000 in
set_option maxHeartbeats 2000000 in
theorem rminus_new (a : Option Addr) (n c : Nat) (b : Option Addr) (k d : Nat) (x y : Nat) (w : World) (hl : IsZ w a n c (zs (D x))) (hm : IsZ w b k d (zs (D y))) (hxy : y ≤ x) (hn : n ≤ 100000) :
    Calls Tryz.prog 86 #[.slice a n c, .slice b k d] w fun e w' => ∃ a' n' c', e = .returned (.slice a' n' c') ∧ IsZ w' a' n' c' (zs (D (x - y))) ∧ Below w.heap.size w w' ∧ (∀ j, (Value.slice a' n' c').ownBlock = some j → w.heap.size ≤ j) := by
  have hxl := D_len hl
  have hyl := D_len hm
  have hnc := hl.cap
  have hkd := hm.cap
  obtain ⟨i0, hi, hz0, hz1, hz2⟩ := info_parts infoInt
  go_enter Tryz.func86, Tryz.ntmps86
  go_wp2_with fail
  go_loopw [5, 6, 7] (fun u v q wr => ∃ (C : List Nat) (br i : Nat), v = .int .i64 (br : Int) ∧ q = .int .i64 (i : Int) ∧ Mi x y n C br i ∧ Bs.Own wr w.heap.size 3 .i64 u C ∧ Below w.heap.size w wr) (fun _ _ q _ => (n - intOf q).toNat)
  case atStart => exact ⟨[], 0, 0, rfl, rfl, Mi.start x y n, Bs.Own.nil _ _ _ _, Below.refl _ _⟩
  case round =>
    obtain ⟨C, br, i, rfl, rfl, hp, hown, hw⟩ := hrel
    have hbr := hp.bor
    have hlen := hp.len
    have htop := hp.top
    have hs := hw.size
    rcases Nat.lt_or_ge i n with h1 | h1
    · have hdx := dgs_getD 8 x i
      have hdy := dgs_getD 8 y i
      have hv0 : k ≤ i → y / 10 ^ i % 10 = 0 := fun h => by rw [div_high hyl h]
      have hu9 : x / 10 ^ i % 10 < 10 := Nat.mod_lt _ (by omega)
      have hv9 : y / 10 ^ i % 10 < 10 := Nat.mod_lt _ (by omega)
      have hnx := fun (dg br' : Nat) hd h9 hb => hp.next (dg := dg) (br' := br') h1 hd h9 hb
      obtain ⟨u, hu⟩ : ∃ u, x / 10 ^ i % 10 = u := ⟨_, rfl⟩
      obtain ⟨v, hv⟩ : ∃ v, y / 10 ^ i % 10 = v := ⟨_, rfl⟩
      rw [hu, hv] at hnx
      rw [hu] at hu9
      rw [hv] at hv0 hv9
      rw [show (8 + 2 : Nat) = 10 from rfl, hu] at hdx
      rw [show (8 + 2 : Nat) = 10 from rfl, hv] at hdy
      have Hnx := Lib.hid hnx
      have HC := Lib.hid (show C.length ≤ 2000000 by omega)
      have Hown := Lib.hid hown
      have Hw := Lib.hid hw
      obtain ⟨g, off, rfl, hI⟩ := (hl.later hw).at (by omega)
      have hc1 := hI i (by rw [zs_length]; omega)
      rw [zs_getD, show (D x).getD i 0 = u from hdx] at hc1
      have hb : i < k → ∃ g off, b = some ⟨g, off, none⟩ ∧ wr.cell? ⟨g, off + i, none⟩ = some (.int .i64 (v : Int)) := fun h => by
        obtain ⟨g, off, e, hI⟩ := (hm.later hw).at (by omega)
        have hc := hI i (by rw [zs_length]; omega)
        rw [zs_getD, show (D y).getD i 0 = v from hdy] at hc
        exact ⟨g, off, e, hc⟩
      have f1 : decide (i < n) = true := decide_eq_true h1
      clear hnx hdx hdy hu hv hp hl hm hxl hyl hlen hown hw hI hxy
      rcases Nat.lt_or_ge i k with h2 | h2 <;> rcases Nat.lt_or_ge u (br + v) with h3 | h3
      · obtain ⟨g2, off2, rfl, hc2⟩ := hb h2
        have f2 : decide (i < k) = true := decide_eq_true h2
        have f3 : decide ((u : Int) - (br : Int) - (v : Int) < 0) = true := decide_eq_true (by omega)
        obtain ⟨s1, hs1⟩ : ∃ s1 : Nat, (u : Int) - (br : Int) - (v : Int) + 10 = (s1 : Int) := ⟨((u : Int) - (br : Int) - (v : Int) + 10).toNat, by omega⟩
        have HN := Lib.hid (Hnx.out s1 1 (by omega) (by omega) (by omega))
        have hs9 : s1 < 10 := by omega
        clear hb hv0
        go_wp2_with (at_builtin; refine wpList_push rfl _ _ 40 rfl w.heap.size 3 i0 (.int .i64 0) 8 Tryz.underlying40 hi hz0 hz1 hz2 rfl (by omega) .i64 _ C rfl (Hown.out.alloc _) ⟨wr.heap.size, 0, none⟩ 1 s1 rfl ?c1 ?c2 ?c3 ?_)
        case c1 => simp [Addr.add]
        case c2 => exact HC.out
        case c3 => simp; omega
        intro v' w1 hown' hb'
        have Hown2 := Lib.hid hown'
        have Hw2 := Lib.hid ((Hw.out.alloc hs _).trans hb')
        clear hown' hb'
        go_wp2_with fail
        go_roundw
        case rel => exact ⟨C ++ [s1], 1, i + 1, rfl, by go_num, HN.out, Hown2.out, Hw2.out⟩
        case measure => simp [intOf]; omega
      · obtain ⟨g2, off2, rfl, hc2⟩ := hb h2
        have f2 : decide (i < k) = true := decide_eq_true h2
        have f3 : decide ((u : Int) - (br : Int) - (v : Int) < 0) = false := decide_eq_false (by omega)
        obtain ⟨s1, hs1⟩ : ∃ s1 : Nat, (u : Int) - (br : Int) - (v : Int) = (s1 : Int) := ⟨((u : Int) - (br : Int) - (v : Int)).toNat, by omega⟩
        have HN := Lib.hid (Hnx.out s1 0 (by omega) (by omega) (by omega))
        have hs9 : s1 < 10 := by omega
        clear hb hv0
        go_wp2_with (at_builtin; refine wpList_push rfl _ _ 40 rfl w.heap.size 3 i0 (.int .i64 0) 8 Tryz.underlying40 hi hz0 hz1 hz2 rfl (by omega) .i64 _ C rfl (Hown.out.alloc _) ⟨wr.heap.size, 0, none⟩ 1 s1 rfl ?c1 ?c2 ?c3 ?_)
        case c1 => simp [Addr.add]
        case c2 => exact HC.out
        case c3 => simp; omega
        intro v' w1 hown' hb'
        have Hown2 := Lib.hid hown'
        have Hw2 := Lib.hid ((Hw.out.alloc hs _).trans hb')
        clear hown' hb'
        go_wp2_with fail
        go_roundw
        case rel => exact ⟨C ++ [s1], 0, i + 1, rfl, by go_num, HN.out, Hown2.out, Hw2.out⟩
        case measure => simp [intOf]; omega
      · have hv := hv0 h2
        have f2 : decide (i < k) = false := decide_eq_false (by omega)
        have f3 : decide ((u : Int) - (br : Int) < 0) = true := decide_eq_true (by omega)
        obtain ⟨s1, hs1⟩ : ∃ s1 : Nat, (u : Int) - (br : Int) + 10 = (s1 : Int) := ⟨((u : Int) - (br : Int) + 10).toNat, by omega⟩
        have HN := Lib.hid (Hnx.out s1 1 (by omega) (by omega) (by omega))
        have hs9 : s1 < 10 := by omega
        clear hb hv0
        go_wp2_with (at_builtin; refine wpList_push rfl _ _ 40 rfl w.heap.size 3 i0 (.int .i64 0) 8 Tryz.underlying40 hi hz0 hz1 hz2 rfl (by omega) .i64 _ C rfl (Hown.out.alloc _) ⟨wr.heap.size, 0, none⟩ 1 s1 rfl ?c1 ?c2 ?c3 ?_)
        case c1 => simp [Addr.add]
        case c2 => exact HC.out
        case c3 => simp; omega
        intro v' w1 hown' hb'
        have Hown2 := Lib.hid hown'
        have Hw2 := Lib.hid ((Hw.out.alloc hs _).trans hb')
        clear hown' hb'
        go_wp2_with fail
        go_roundw
        case rel => exact ⟨C ++ [s1], 1, i + 1, rfl, by go_num, HN.out, Hown2.out, Hw2.out⟩
        case measure => simp [intOf]; omega
      · have hv := hv0 h2
        have f2 : decide (i < k) = false := decide_eq_false (by omega)
        have f3 : decide ((u : Int) - (br : Int) < 0) = false := decide_eq_false (by omega)
        obtain ⟨s1, hs1⟩ : ∃ s1 : Nat, (u : Int) - (br : Int) = (s1 : Int) := ⟨((u : Int) - (br : Int)).toNat, by omega⟩
        have HN := Lib.hid (Hnx.out s1 0 (by omega) (by omega) (by omega))
        have hs9 : s1 < 10 := by omega
        clear hb hv0
        go_wp2_with (at_builtin; refine wpList_push rfl _ _ 40 rfl w.heap.size 3 i0 (.int .i64 0) 8 Tryz.underlying40 hi hz0 hz1 hz2 rfl (by omega) .i64 _ C rfl (Hown.out.alloc _) ⟨wr.heap.size, 0, none⟩ 1 s1 rfl ?c1 ?c2 ?c3 ?_)
        case c1 => simp [Addr.add]
        case c2 => exact HC.out
        case c3 => simp; omega
        intro v' w1 hown' hb'
        have Hown2 := Lib.hid hown'
        have Hw2 := Lib.hid ((Hw.out.alloc hs _).trans hb')
        clear hown' hb'
        go_wp2_with fail
        go_roundw
        case rel => exact ⟨C ++ [s1], 0, i + 1, rfl, by go_num, HN.out, Hown2.out, Hw2.out⟩
        case measure => simp [intOf]; omega
    · obtain rfl : n = i := by omega
      obtain ⟨a', n', c', rfl⟩ := own_sl hown
      have hd := hp.done hxl hxy
      have hz := hown.isZ
      have hn' : n' = n := by have := hown.len; rw [hlen] at this; exact this
      have HJ := Lib.hid (fun j (h : (Value.slice a' n' c').ownBlock = some j) => hown.block j h)
      have ht := fun (W : World) (hb : Below wr.heap.size wr W) => rtrim_any a' n' c' C W (hz.later hb) hp.lt (by omega)
      rw [hd] at ht
      have HT := Lib.hid ht
      have Hw := Lib.hid hw
      have f1 : decide (n < n) = false := decide_eq_false (by omega)
      clear hd hz hw hown hp hl hm hxl hyl hlen htop ht hn'
      go_wp2_with (go_at_call 104; (with_reducible refine (HT.out _ (Below.refl _ _)).mono ?_); rintro e w5 ⟨m, rfl, z5, B5⟩)
      go_ret
      exact ⟨a', m, c', rfl, z5, below_on Hw.out B5 Hw.out.size, fun j h => HJ.out j (by cases a' <;> exact h)⟩
theorem rminus_any (a : Option Addr) (n c : Nat) (b : Option Addr) (k d : Nat) (x y : Nat) (w : World) (hl : IsZ w a n c (zs (D x))) (hm : IsZ w b k d (zs (D y))) (hxy : y ≤ x) (hn : n ≤ 100000) :
    Calls Tryz.prog 86 #[.slice a n c, .slice b k d] w fun e w' => ∃ a' n' c', e = .returned (.slice a' n' c') ∧ IsZ w' a' n' c' (zs (D (x - y))) ∧ Below w.heap.size w w' :=
  (rminus_new a n c b k d x y w hl hm hxy hn).mono fun _ _ ⟨a', n', c', h1, h2, h3, _⟩ => ⟨a', n', c', h1, h2, h3⟩

end Go.Proofs.YtjkklgpbblkhaaaGreatDoor

/-
  Layer 3, the reference: products of lists of digits, the numbers alone.
-/
namespace Go.Proofs.YtjkklgpbblkhaaaGreatDoor
open Go.RowKit Bs Ig

theorem val_setN (b : Nat) (l : List Nat) (i v : Nat) (hi : i < l.length) : val b (l.set i v) + b ^ i * l.getD i 0 = val b l + b ^ i * v := by
  induction l generalizing i with
  | nil => simp at hi
  | cons x r ih =>
    cases i with
    | zero => simp [val]; omega
    | succ i =>
      have := ih i (by simp at hi; omega)
      simp only [List.set_cons_succ, List.getD_cons_succ, val, Nat.pow_succ]
      rw [Nat.mul_comm (b ^ i) b, Nat.mul_assoc, Nat.mul_assoc]
      have h2 := congrArg (fun t => b * t) this
      simp only [Nat.mul_add] at h2
      omega
/-- what a round of the outer loop keeps -/
structure To (x y kb N : Nat) (O : List Nat) (i : Nat) : Prop where
  len : O.length = N
  lt : ∀ z ∈ O, z < 10
  sum : Ig.val 10 O = x % 10 ^ i * y
  top : ∀ j, i + kb ≤ j → O.getD j 0 = 0
/-- what a round of the inner loop keeps -/
structure Ti (x y kb N : Nat) (O : List Nat) (i q cr : Nat) : Prop where
  len : O.length = N
  lt : ∀ z ∈ O, z < 10
  sum : Ig.val 10 O + 10 ^ (i + q) * cr = x % 10 ^ i * y + 10 ^ i * (x / 10 ^ i % 10) * (y % 10 ^ q)
  car : cr < 10
  top : ∀ j, i + kb + (q - kb) ≤ j → O.getD j 0 = 0
  end_ : q ≤ kb ∨ q = kb + 1 ∧ cr = 0
theorem To.inner {x y kb N : Nat} {O : List Nat} {i : Nat} (h : To x y kb N O i) : Ti x y kb N O i 0 0 :=
  ⟨h.len, h.lt, by rw [h.sum]; simp [Nat.mod_one], by omega, fun j hj => h.top j (by omega), .inl (Nat.zero_le _)⟩
theorem Ti.outer {x y kb N : Nat} {O : List Nat} {i q : Nat} (h : Ti x y kb N O i q 0) (hy : (D y).length = kb) (hq : kb ≤ q) : To x y kb N O (i + 1) := by
  have e : y % 10 ^ q = y := Nat.mod_eq_of_lt (Nat.lt_of_lt_of_le (D_lt_pow hy) (Nat.pow_le_pow_right (by omega) hq))
  have hs := h.sum
  rw [e, Nat.mul_zero, Nat.add_zero, ← Nat.add_mul, ← mod_step] at hs
  refine ⟨h.len, h.lt, hs, fun j hj => h.top j ?_⟩
  have := h.end_
  omega
theorem Ti.next {x y kb N : Nat} {O : List Nat} {i q cr : Nat} (h : Ti x y kb N O i q cr) (hy : (D y).length = kb) (hgo : q < kb ∨ 0 < cr) (hN : i + q < N) :
    Ti x y kb N (O.set (i + q) ((O.getD (i + q) 0 + cr + x / 10 ^ i % 10 * (y / 10 ^ q % 10)) % 10)) i (q + 1) ((O.getD (i + q) 0 + cr + x / 10 ^ i % 10 * (y / 10 ^ q % 10)) / 10) := by
  obtain ⟨h1, h2, h3, h4, h5, h6⟩ := h
  have hv := val_setN 10 O (i + q) ((O.getD (i + q) 0 + cr + x / 10 ^ i % 10 * (y / 10 ^ q % 10)) % 10) (by omega)
  have ho : O.getD (i + q) 0 < 10 := by
    rw [List.getD_eq_getElem?_getD, List.getElem?_eq_getElem (by omega)]
    exact h2 _ (List.getElem_mem _)
  have hu9 : x / 10 ^ i % 10 < 10 := Nat.mod_lt _ (by omega)
  have hv9 : y / 10 ^ q % 10 < 10 := Nat.mod_lt _ (by omega)
  have huv : x / 10 ^ i % 10 * (y / 10 ^ q % 10) ≤ 9 * 9 := Nat.mul_le_mul (by omega) (by omega)
  have hend : q < kb ∨ (q = kb ∧ (O.getD (i + q) 0 + cr + x / 10 ^ i % 10 * (y / 10 ^ q % 10)) / 10 = 0) := by
    rcases Nat.lt_or_ge q kb with hq | hq
    · exact .inl hq
    · right
      have h0 : O.getD (i + q) 0 = 0 := h5 _ (by omega)
      rw [div_high hy hq, h0]
      simp
      omega
  obtain ⟨o, hoe⟩ : ∃ o, O.getD (i + q) 0 = o := ⟨_, rfl⟩
  rw [hoe] at hv ho hend ⊢
  have hm := mod_step y q
  obtain ⟨u, hu⟩ : ∃ u, x / 10 ^ i % 10 = u := ⟨_, rfl⟩
  obtain ⟨v, hve⟩ : ∃ v, y / 10 ^ q % 10 = v := ⟨_, rfl⟩
  rw [hu] at h3 hv hend huv hu9 ⊢
  rw [hve] at hv hend huv hv9 hm ⊢
  have hN' := Nat.mod_add_div (o + cr + u * v) 10
  obtain ⟨M, hM⟩ : ∃ M, o + cr + u * v = M := ⟨_, rfl⟩
  rw [hM] at hv hend hN' ⊢
  refine ⟨by rw [List.length_set]; exact h1, fun z hz => ?_, ?_, by omega, fun j hj => ?_, ?_⟩
  · rcases List.mem_or_eq_of_mem_set hz with hz | hz
    · exact h2 z hz
    · subst hz; exact Nat.mod_lt _ (by omega)
  · have key : 10 ^ (i + q) * (M % 10) + 10 ^ (i + q + 1) * (M / 10) = 10 ^ (i + q) * o + 10 ^ (i + q) * cr + 10 ^ (i + q) * (u * v) := by
      rw [Nat.pow_succ, Nat.mul_assoc, ← Nat.mul_add, hN', ← hM, Nat.mul_add, Nat.mul_add]
    have e2 : 10 ^ i * u * (10 ^ q * v) = 10 ^ (i + q) * (u * v) := by
      rw [Nat.pow_add, Nat.mul_assoc, Nat.mul_assoc, Nat.mul_left_comm u]
    rw [show i + (q + 1) = i + q + 1 by omega, hm, hu, Nat.mul_add, e2]
    omega
  · rw [List.getD_eq_getElem?_getD, List.getElem?_set_ne (by omega), ← List.getD_eq_getElem?_getD]
    exact h5 j (by omega)
  · rcases hend with h | ⟨h, h0⟩
    · exact .inl (by omega)
    · exact .inr ⟨by omega, h0⟩
theorem To.done {x y kb N n : Nat} {O : List Nat} (h : To x y kb N O n) (hx : (D x).length = n) : Ig.val 10 O = x * y := by
  rw [h.sum, Nat.mod_eq_of_lt (D_lt_pow hx)]

end Go.Proofs.YtjkklgpbblkhaaaGreatDoor
