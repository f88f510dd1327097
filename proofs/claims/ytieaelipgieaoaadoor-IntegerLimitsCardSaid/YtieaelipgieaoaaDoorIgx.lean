/-
  Layer 3: products of numbers in groups.
-/
import Derived.Test.YtieaelipgieaoaaDoorIgp
namespace Go.Proofs.YtieaelipgieaoaaDoor
open Go.RowKit Bs Ig

theorem sum_step (A Y P X M q J : Nat) (h : 10000 ^ (P + J) = 10000 ^ P * 10000 ^ J) : A * Y + 10000 ^ P * X * (M + 10000 ^ J * q) = A * Y + 10000 ^ P * X * M + 10000 ^ (P + J) * (X * q) := by
  rw [h, Nat.mul_add, Nat.add_assoc]
  congr 1
  congr 1
  rw [Nat.mul_assoc, Nat.mul_assoc, Nat.mul_left_comm X]
set_option maxRecDepth 100000 in
set_option maxHeartbeats 1000000 in
theorem times_any (a : Option Addr) (n c : Nat) (l : List Nat) (b : Option Addr) (k d : Nat) (m : List Nat) (x y : Nat) (w : World) (hl : IsZ w a n c (zs l)) (hm : IsZ w b k d (zs m)) (hl4 : ∀ x ∈ l, x < 10000) (hm4 : ∀ x ∈ m, x < 10000)
    (hx : V l = x) (hy : V m = y) (hk : k ≤ 1000) (hn : n ≤ 1000) :
    Calls Tryd.prog 48 #[.slice a n c, .slice b k d] w fun e w' => ∃ a' n' c', e = .returned (.slice (some a') n' c') ∧ IsZ w' (some a') n' c' (zs (G (x * y))) ∧ Below w.heap.size w w' := by
  have hll : l.length = n := by rw [← zs_length]; exact hl.len
  have hml : m.length = k := by rw [← zs_length]; exact hm.len
  have hnc := hl.cap
  have hkd := hm.cap
  have hprod : x * y < 10000 ^ (n + k + 1) := by
    have h1 := val_lt 10000 l hl4
    rw [show val 10000 l = x from hx, hll] at h1
    have h2 := val_lt 10000 m hm4
    rw [show val 10000 m = y from hy, hml] at h2
    rw [Nat.pow_succ, Nat.pow_add]
    have h3 := Nat.mul_le_mul (Nat.le_of_lt h1) (Nat.le_of_lt h2)
    have h4 : 0 < 10000 ^ n * 10000 ^ k := Nat.mul_pos (Nat.pow_pos (by omega)) (Nat.pow_pos (by omega))
    omega
  have Hprod := Lib.hid hprod
  obtain ⟨w1, hmk, hco1, hb1, hs1⟩ := mkCols w 48 Tryd.underlying48 (n + k) (by omega)
  rw [show ((n + k : Nat) : Int) = (n : Int) + k by omega] at hmk
  clear hprod
  go_enter Tryd.func48, Tryd.ntmps48
  go_wp2_with fail
  clear hmk hs1
  go_loopw [18] (fun i wr => ∃ (I : Nat) (Z : List Int), I ≤ n ∧ i = .int .i64 I ∧ Cols wr w.heap.size (some ⟨w.heap.size, 0, none⟩) (n + k) (n + k) Z ∧ vali 10000 Z = (V (l.take I) * y : Nat) ∧ (∀ z ∈ Z, 0 ≤ z ∧ z ≤ 100000000 * ((I * k : Nat) : Int)) ∧ Below w.heap.size w wr) (fun i _ => n - (intOf i).toNat)
  case atStart => exact ⟨0, _, by omega, rfl, hco1, by rw [vali_zero]; simp [V, val], fun z hz => by rw [(List.mem_replicate.1 hz).2]; omega, hb1⟩
  case round =>
    clear hco1 hb1
    obtain ⟨I, Z, hI, rfl, hco, hv, hbd, hw⟩ := hrel
    rcases Nat.lt_or_ge I n with hIn | hIn
    · obtain ⟨g1, o1, rfl, hc1⟩ := hl.later_at hw I hIn
      rw [zs_getD] at hc1
      have hlt1 := getD_lt l hl4 I
      have Hts1 := Lib.hid (val_take_succ 10000 l I (by omega))
      obtain ⟨x1, hx1⟩ : ∃ x1, l.getD I 0 = x1 := ⟨_, rfl⟩
      rw [hx1] at hc1 hlt1 Hts1
      have Hl := Lib.hid (And.intro hl hl4)
      have Hx := Lib.hid (And.intro hx hll)
      have HIk := Lib.hid (show (I + 1) * k = I * k + k ∧ I * k ≤ 1000000 by
        refine ⟨by rw [Nat.add_mul, Nat.one_mul], ?_⟩
        exact Nat.le_trans (Nat.mul_le_mul (show I ≤ 1000 by omega) hk) (by omega))
      clear hl hl4 hx hll hx1
      go_wp2_with fail
      go_loopw [25] (fun i wr => ∃ (J : Nat) (Z : List Int), J ≤ k ∧ i = .int .i64 J ∧ Cols wr w.heap.size (some ⟨w.heap.size, 0, none⟩) (n + k) (n + k) Z ∧ vali 10000 Z = (V (l.take I) * y + 10000 ^ I * x1 * V (m.take J) : Nat) ∧ (∀ z ∈ Z, 0 ≤ z ∧ z ≤ 100000000 * ((I * k : Nat) + (J : Int))) ∧ Below w.heap.size w wr) (fun i _ => k - (intOf i).toNat)
      case atStart => exact ⟨0, Z, by omega, rfl, hco, by rw [hv]; simp [V, val], fun z hz => by have := hbd z hz; omega, hw⟩
      case round =>
        clear hco hv hbd hw hc1
        obtain ⟨J, Z, hJ, rfl, hco, hv, hbd, hw⟩ := hrel
        rcases Nat.lt_or_ge J k with hJk | hJk
        · obtain ⟨g2, o2, rfl, hc2⟩ := hm.later_at hw J hJk
          obtain ⟨g1, hg1, hB1, hc1⟩ := hco.at (by omega)
          cases hg1
          obtain ⟨hc1, hf1⟩ := hc1 (I + J) (by omega)
          rw [zs_getD] at hc2
          have hlt := getD_lt m hm4 J
          have hZl := hco.len
          have hz := hbd _ (getD_mem Z (I + J) (by omega))
          obtain ⟨y1, hy1⟩ : ∃ y1, m.getD J 0 = y1 := ⟨_, rfl⟩
          have hts := val_take_succ 10000 m J (by omega)
          rw [hy1] at hc2 hlt hts
          have hset := hco.set (I + J) (by omega) (Z.getD (I + J) 0 + (x1 * y1 : Nat))
          have hvs := vali_set 10000 Z (I + J) (Z.getD (I + J) 0 + (x1 * y1 : Nat)) (by omega)
          have hxy : x1 * y1 ≤ 100000000 := Nat.le_trans (Nat.mul_le_mul (Nat.le_of_lt hlt1) (Nat.le_of_lt hlt)) (by omega)
          obtain ⟨q, hq⟩ : ∃ q, x1 * y1 = q := ⟨_, rfl⟩
          have hq2 : (x1 : Int) * (y1 : Int) = (q : Int) := by rw [← hq]; simp
          have hT := HIk.out.2
          have HF := Lib.hid (show ∃ Z', Cols (wr.setCell ⟨w.heap.size, I + J, none⟩ (.int .i64 (Z.getD (I + J) 0 + (q : Nat)))) w.heap.size (some ⟨w.heap.size, 0, none⟩) (n + k) (n + k) Z' ∧ vali 10000 Z' = (V (l.take I) * y + 10000 ^ I * x1 * V (m.take (J + 1)) : Nat) ∧ (∀ z ∈ Z', 0 ≤ z ∧ z ≤ 100000000 * ((I * k : Nat) + ((J + 1 : Nat) : Int))) by
            rw [← hq]
            refine ⟨_, hset, ?_, ?_⟩
            · rw [hvs, hv, show V (m.take (J + 1)) = V (m.take J) + 10000 ^ J * y1 from hts, sum_step _ _ _ _ _ _ _ (Nat.pow_add ..)]
              rw [show Z.getD (I + J) 0 + ((x1 * y1 : Nat) : Int) - Z.getD (I + J) 0 = ((x1 * y1 : Nat) : Int) by omega]
              rw [← Int.natCast_mul, ← Int.natCast_add]
            · intro z hz'
              rw [hq] at hz'
              rcases List.mem_or_eq_of_mem_set hz' with h | h
              · have := hbd z h; omega
              · subst h; omega)
          generalize Z.getD (I + J) 0 = z at *
          generalize I * k = T at *
          rw [hq] at hxy
          clear hm hm4 hy hbd hv hset hvs hts hco hZl hml hy1 hq
          go_wp2_with fail
          go_roundw
          case rel =>
            obtain ⟨Z', h1, h2, h3⟩ := HF.out
            exact ⟨J + 1, Z', by omega, by go_num, h1, h2, h3, hw.setCell (p := ⟨w.heap.size, I + J, none⟩) (Nat.le_refl _) _⟩
          case measure => simp [intOf]; omega
        · obtain rfl : k = J := by omega
          rw [show V (m.take k) = y by rw [← hy]; exact val_full _ _ _ (by omega)] at hv
          go_wp2_with fail
          go_roundw
          case rel =>
            refine ⟨I + 1, Z, by omega, by go_num, hco, ?_, fun z hz => ?_, hw⟩
            · rw [hv, show V (l.take (I + 1)) = V (l.take I) + 10000 ^ I * x1 from Hts1.out, Nat.add_mul]
            · have := hbd z hz; rw [HIk.out.1]; omega
          case measure => simp [intOf]; omega
    · obtain rfl : n = I := by omega
      rw [show V (l.take n) = x by rw [← hx]; exact val_full _ _ _ (by omega)] at hv
      have hT : n * k ≤ 1000000 := Nat.le_trans (Nat.mul_le_mul hn hk) (by omega)
      have hcar := carried_any (some ⟨w.heap.size, 0, none⟩) (n + k) (n + k) (x * y) Z wr hco.isZ (fun z hz => by have := hbd z hz; omega) (by omega) hv Hprod.out
      have Hcar := Lib.hid hcar
      clear hl hm hl4 hm4 hx hy hbd hv hco hll hml hcar hT
      go_wp2_with (go_at_call 62; refine Hcar.out.mono ?_; rintro e w4 ⟨a4, n4, c4, rfl, hZ4, hb7⟩)
      go_ret
      exact ⟨_, _, _, rfl, hZ4, below_on hw hb7 hw.size⟩

end Go.Proofs.YtieaelipgieaoaaDoor
