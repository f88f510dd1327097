/-
  Layer 3: a search for the number of times.
-/
import Derived.Test.YtieaelipgieaoaaDoorIgh
namespace Go.Proofs.YtieaelipgieaoaaDoor
open Go.RowKit Bs Ig Go.Shelf

theorem G_len_le (z m : Nat) (h : z < 10000 ^ m) : (G z).length ≤ m := dgs_length_le 9998 m z h
theorem lt_pow_G {x n : Nat} (h : (G x).length = n) : x < 10000 ^ n := by have := dgs_lt_pow 9998 x; rwa [show (dgs 9998 x).length = n from h] at this
theorem cmp_geq (x z : Nat) : decide (0 ≤ cmp x z) = decide (z ≤ x) := by
  unfold cmp
  split
  · simp; omega
  · split
    · simp; omega
    · simp; omega
/-- one integer, made as a slice -/
theorem one_isZ (w : World) (q : Nat) : IsZ (w.alloc (.cells #[.int .i64 (q : Int)] 3)) (some ⟨w.heap.size, 0, none⟩) 1 1 (zs [q]) := by
  refine IntsAt.isZ (fun i hi => ?_) rfl (Nat.le_refl _) (by unfold maxLen; omega)
  have : i = 0 := by simp [zs] at hi; omega
  subst this
  rw [cell_of_row _ _ 0 _ _ _ (heap_alloc_new _ _)]; rfl
theorem V_one (q : Nat) : V [q] = q := by simp [V, val]

set_option maxRecDepth 100000 in
set_option maxHeartbeats 1000000 in
theorem holds_any (a : Option Addr) (n c : Nat) (b : Option Addr) (k d : Nat) (x y q : Nat) (w : World) (hl : IsZ w a n c (zs (G x))) (hm : IsZ w b k d (zs (G y))) (hq : q < 10000) (hn : n ≤ 1000) (hk : k ≤ 999) :
    Calls Tryd.prog 82 #[.slice a n c, .slice b k d, .int .i64 (q : Int)] w fun e w' => e = .returned (.bool (decide (y * q ≤ x))) ∧ Below w.heap.size w w' := by
  have hyl : (G y).length = k := by rw [← zs_length]; exact hm.len
  have hB : Below w.heap.size w (w.alloc (.cells #[.int .i64 (q : Int)] 3)) := (Below.refl _ w).alloc (Nat.le_refl _) _
  have ht := times_any b k d (G y) (some ⟨w.heap.size, 0, none⟩) 1 1 [q] y q _ (hm.later hB) (one_isZ w q) (G_lt y) (fun z hz => by rw [List.mem_singleton.1 hz]; exact hq) (V_G y) (V_one q) (by omega) (by omega)
  have hlen : (G (y * q)).length ≤ 1000 := by
    refine Nat.le_trans (G_len_le (y * q) (k + 1) ?_) (by omega)
    rw [Nat.pow_succ]
    exact Nat.mul_lt_mul'' (lt_pow_G hyl) hq
  have hcg := cmp_geq x (y * q)
  generalize y * q = z at *
  obtain ⟨r, hr⟩ : ∃ r, decide (z ≤ x) = r := ⟨_, rfl⟩
  rw [hr] at hcg ⊢
  have Hl := Lib.hid hl
  have Ht := Lib.hid ht
  have Hlen := Lib.hid hlen
  clear hr hl hm ht hlen hyl
  go_enter Tryd.func82, Tryd.ntmps82
  go_wp2_with (go_at_call 48; refine Ht.out.mono ?_; rintro e w1 ⟨a1, n1, c1, rfl, hz1, hb1⟩)
  have hn1 : n1 ≤ 1000 := by rw [← hz1.len, zs_length]; exact Hlen.out
  have hb2 := below_on hB hb1 hB.size
  have hc := compare_any a n c (some a1) n1 c1 x z w1 (Hl.out.later hb2) hz1 (by omega) (by omega)
  generalize cmp x z = t at *
  clear hz1 hb1 hB hn1
  go_wp2_with (go_at_call 46; refine hc.mono ?_; rintro e w2 ⟨rfl, hb3⟩)
  go_ret
  exact ⟨rfl, below_on hb2 hb3 hb2.size⟩

/-- what the closure reads -/
structure CtN (W : World) (b1 b2 b3 : Nat) (a : Option Addr) (n c : Nat) (b : Option Addr) (k d : Nat) (x y l : Nat) : Prop where
  fn : W.cell? ⟨b1, 0, none⟩ = some (.func (.func 82) #[.slice a n c] #[])
  dv : W.cell? ⟨b2, 0, none⟩ = some (.slice b k d)
  ls : W.cell? ⟨b3, 0, none⟩ = some (.int .i64 (l : Int))
  hl : IsZ W a n c (zs (G x))
  hm : IsZ W b k d (zs (G y))
theorem CtN.later {W W' : World} {b1 b2 b3 n c k d x y l : Nat} {a b : Option Addr} (h : CtN W b1 b2 b3 a n c b k d x y l) (hb : Below W.heap.size W W') : CtN W' b1 b2 b3 a n c b k d x y l :=
  ⟨(hb.cell (p := ⟨b1, 0, none⟩) (block_lt_of_cell h.fn)).trans h.fn, (hb.cell (p := ⟨b2, 0, none⟩) (block_lt_of_cell h.dv)).trans h.dv, (hb.cell (p := ⟨b3, 0, none⟩) (block_lt_of_cell h.ls)).trans h.ls, h.hl.later hb, h.hm.later hb⟩

set_option maxRecDepth 100000 in
set_option maxHeartbeats 1000000 in
theorem contains1_any (b1 b2 b3 : Nat) (a : Option Addr) (n c : Nat) (b : Option Addr) (k d : Nat) (x y l i t : Nat) (w : World) (h : CtN w b1 b2 b3 a n c b k d x y l) (hq : l + i + 1 < 10000) (hn : n ≤ 1000) (hk : k ≤ 999) (ht : y * (l + i + 1) ≤ x ↔ i < t) :
    Calls Tryd.prog 84 #[.int .i64 (i : Int), .pointer (some ⟨b1, 0, none⟩), .pointer (some ⟨b2, 0, none⟩), .pointer (some ⟨b3, 0, none⟩)] w fun e w' => e = .returned (.bool (decide (t ≤ i))) ∧ Below w.heap.size w w' := by
  have hh := holds_any a n c b k d x y (l + i + 1) w h.hl h.hm hq hn hk
  rw [show ((l + i + 1 : Nat) : Int) = (l : Int) + i + 1 by omega, show decide (y * (l + i + 1) ≤ x) = decide (i < t) by simp [ht]] at hh
  obtain ⟨h1, h2, h3, _, _⟩ := h
  have hr : decide (t ≤ i) = !decide (i < t) := by rcases Nat.lt_or_ge i t with h | h <;> simp [h] <;> omega
  rw [hr]
  generalize decide (i < t) = r at *
  clear ht hr
  go_enter Tryd.func84, Tryd.ntmps84
  go_wp2_with (go_at_call 82; refine hh.mono ?_; rintro e w2 ⟨rfl, hb3⟩)
  go_ret
  exact ⟨rfl, hb3⟩

set_option maxRecDepth 100000 in
set_option maxHeartbeats 1000000 in
theorem search_any (m t : Nat) (cb : Array Value) (w : World) (ht : t ≤ m) (hm : m ≤ 1000000)
    (hf : ∀ (W : World) (i : Nat), Below w.heap.size w W → i < m → Calls Tryd.prog 84 (#[.int .i64 (i : Int)] ++ cb) W fun e W' => e = .returned (.bool (decide (t ≤ i))) ∧ Below W.heap.size W W') :
    Calls Tryd.prog 83 #[.int .i64 (m : Int), .func (.func 84) #[] cb] w fun e w' => e = .returned (.int .i64 (t : Int)) ∧ Below w.heap.size w w' := by
  have HF := Lib.hid hf
  clear hf
  go_enter Tryd.func83, Tryd.ntmps83
  go_wp2_with fail
  go_loopw [5, 6] (fun u v wr => ∃ i j : Nat, i ≤ t ∧ t ≤ j ∧ j ≤ m ∧ u = .int .i64 i ∧ v = .int .i64 j ∧ Below w.heap.size w wr) (fun u v _ => (intOf v - intOf u).toNat)
  case atStart => exact ⟨0, m, by omega, by omega, by omega, rfl, rfl, Below.refl _ _⟩
  case round =>
    obtain ⟨i, j, hi, hj, hjm, rfl, rfl, hw⟩ := hrel
    rcases Nat.lt_or_ge i j with hij | hij
    · obtain ⟨h, hh⟩ : ∃ h, (i + j) / 2 = h := ⟨_, rfl⟩
      have hh2 : (((i : Int) + j) / 2) = (h : Int) := by omega
      have hh1 : i ≤ h ∧ h < j := by omega
      have hc := HF.out wr h hw (by omega)
      clear hh
      rcases Nat.lt_or_ge h t with hht | hht
      · have hdec : decide (t ≤ h) = false := by simp; omega
        rw [hdec] at hc
        clear hdec
        go_wp2_with (go_at_call 84; refine hc.mono ?_; rintro e w2 ⟨rfl, hb3⟩)
        go_roundw
        case rel => exact ⟨h + 1, j, by omega, hj, hjm, by go_num, rfl, below_on hw hb3 hw.size⟩
        case measure => simp [intOf]; omega
      · have hdec : decide (t ≤ h) = true := by simp; omega
        rw [hdec] at hc
        clear hdec
        go_wp2_with (go_at_call 84; refine hc.mono ?_; rintro e w2 ⟨rfl, hb3⟩)
        go_roundw
        case rel => exact ⟨i, h, hi, hht, by omega, rfl, rfl, below_on hw hb3 hw.size⟩
        case measure => simp [intOf]; omega
    · obtain rfl : t = i := by omega
      go_wp2_with fail
      go_ret
      exact ⟨rfl, hw⟩

theorem store_new {P : Program} (W : World) (n : Nat) (x v : Value) (t : TypeId) (hn : n = W.heap.size) (hv : v.oneCell' = true) : (store ⟨n, 0, none⟩ v).run P (W.alloc (.cells #[x] t)) = .ok () (W.alloc (.cells #[v] t)) := by
  subst hn
  rw [run_store _ _ _ _ _ hv, cell_of_row _ _ 0 _ _ _ (heap_alloc_new _ _), frozen_of_row _ _ 0 _ _ (heap_alloc_new _ _)]
  show Result.ok () _ = _
  rw [World.setCell_alloc_at _ _ _ _ _ rfl]
  rfl

set_option maxRecDepth 100000 in
set_option maxHeartbeats 1000000 in
theorem contains_any (a : Option Addr) (n c : Nat) (b : Option Addr) (k d : Nat) (x y : Nat) (w : World) (hl : IsZ w a n c (zs (G x))) (hm : IsZ w b k d (zs (G y))) (hy : 0 < y) (hxy : x < 10000 * y) (hn : n ≤ k + 1) (hk : k ≤ 999) :
    Calls Tryd.prog 67 #[.slice a n c, .slice b k d] w fun e w' => e = .returned (.int .i64 (x / y : Nat)) ∧ Below w.heap.size w w' := by
  have hyl : (G y).length = k := by rw [← zs_length]; exact hm.len
  have hP : 0 < 10000 ^ (k - 3) := Nat.pow_pos (by omega)
  have hk0 : 0 < k := by
    rcases Nat.eq_zero_or_pos k with h | h
    · rw [h] at hyl; have := dgs_len0.1 hyl; omega
    · exact h
  have hp := pow_head y k (k - 3) hyl hy (by omega)
  have h1 := least_le x y (10000 ^ (k - 3)) hP hy
  have h2 := le_most x y (10000 ^ (k - 3)) hP hp
  have hq : x / y < 10000 := Nat.div_lt_of_lt_mul (by rw [Nat.mul_comm]; exact hxy)
  obtain ⟨l, hll⟩ : ∃ l, x / 10000 ^ (k - 3) / (y / 10000 ^ (k - 3) + 1) = l := ⟨_, rfl⟩
  obtain ⟨u, hu⟩ : ∃ u, min (x / 10000 ^ (k - 3) / (y / 10000 ^ (k - 3))) 9999 = u := ⟨_, rfl⟩
  have hb0 : Below w.heap.size w (w.alloc (.cells #[.slice b k d] 49)) := (Below.refl _ w).alloc (Nat.le_refl _) _
  have hbd := bounds_any a n c b k d x y (k - 3) _ (hl.later hb0) (hm.later hb0) rfl hy hn (by omega)
  rw [hll, hu] at hbd
  have hlq : l ≤ x / y := by rw [← hll]; exact h1
  have hqu : x / y ≤ u := by rw [← hu]; omega
  have hu9 : u ≤ 9999 := by rw [← hu]; omega
  have hiff : ∀ i, y * (l + i + 1) ≤ x ↔ i < x / y - l := by
    intro i
    rw [Nat.mul_comm, ← Nat.le_div_iff_mul_le hy]
    omega
  generalize x / y = q at *
  have Hl := Lib.hid (And.intro hl hm)
  clear hll hu h1 h2 hp hP hyl hl hm hxy hy
  go_enter Tryd.func67, Tryd.ntmps67
  go_wp2_with (go_at_call 81; refine hbd.mono ?_; rintro e w1 ⟨rfl, hb1⟩; have hst := store_new (P := Tryd.prog) (w1.alloc (.cells #[.int .i64 (l : Int)] 3)) (w1.heap.size + 1) .nilFunc (.func (.func 82) #[.slice a n c] #[]) 105 (by simp) rfl)
  refine wp_world fun W hW => ?_
  have hb2 := below_on hb0 hb1 hb0.size
  have hs1 : w.heap.size < w1.heap.size := Nat.lt_of_lt_of_le (by simp) hb1.size
  have hW3 : Below w1.heap.size w1 W := by rw [hW]; exact ((Below.refl _ w1).alloc (Nat.le_refl _) _).alloc (by simp) _
  have hbW := below_on hb2 hW3 hb2.size
  have hct : CtN W (w1.heap.size + 1) w.heap.size w1.heap.size a n c b k d x y l := by
    refine ⟨?_, ?_, ?_, Hl.out.1.later hbW, Hl.out.2.later hbW⟩
    · rw [hW]
      have := heap_alloc_new (w1.alloc (.cells #[.int .i64 (l : Int)] 3)) (.cells #[.func (.func 82) #[.slice a n c] #[]] 105)
      simp only [World.size_alloc] at this
      rw [cell_of_row _ _ 0 _ _ _ this]; rfl
    · refine (hW3.cell (p := ⟨w.heap.size, 0, none⟩) hs1).trans ((hb1.cell (p := ⟨w.heap.size, 0, none⟩) (by simp)).trans ?_)
      rw [cell_of_row _ _ 0 _ _ _ (heap_alloc_new _ _)]; rfl
    · rw [hW, cell_of_row _ _ 0 _ _ _ ((heap_alloc_old _ _ (by simp)).trans (heap_alloc_new _ _))]; rfl
  have hls := hct.ls
  have HS := Lib.hid (fun (W' : World) (hb : Below W.heap.size W W') => search_any (u - l) (q - l) #[.pointer (some ⟨w1.heap.size + 1, 0, none⟩), .pointer (some ⟨w.heap.size, 0, none⟩), .pointer (some ⟨w1.heap.size, 0, none⟩)] W' (by omega) (by omega)
    (fun W2 i h2 hi => contains1_any _ _ _ a n c b k d x y l i (q - l) W2 ((hct.later hb).later h2) (by omega) (by omega) hk (hiff i)))
  have e1 : ((u - l : Nat) : Int) = (u : Int) - l := by omega
  have e2 : ((q - l : Nat) : Int) = (q : Int) - l := by omega
  rw [e1, e2] at HS
  have hwr : IntKind.i64.wrap ((u : Int) - l) = (u : Int) - l := by rw [IntKind.wrap_i64]; omega
  have hwq : IntKind.i64.wrap ((l : Int) + ((q : Int) - l)) = (q : Int) := by rw [IntKind.wrap_i64]; omega
  clear hW hst hb2 hW3 hb1 hb0 Hl hct hiff e1 e2 hbd
  go_region_held3 (fun w' => w'.cell? ⟨w1.heap.size, 0, none⟩ = some (.int .i64 (l : Int))) (go_keep)
    (first | (go_at_call 83; (with_reducible refine (HS.out _ (Below.refl _ _).drew).mono ?_); rintro e w5 ⟨rfl, B6⟩; have k5 : w5.cell? ⟨w1.heap.size, 0, none⟩ = some (.int .i64 (l : Int)) := (B6.cell (p := ⟨w1.heap.size, 0, none⟩) (block_lt_of_cell hls)).trans hls))
  clear HS
  go_wp2_with fail
  go_ret
  exact ⟨rfl, below_on hbW (below_undrew B6) hbW.size⟩

end Go.Proofs.YtieaelipgieaoaaDoor
