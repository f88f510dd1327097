/-
  Put together by program out of these texts, in this order: Igp, Igx, Rfn, Igb.
-/
import Derived.Test.YtjkklgpbblkhaaaGreatDoorZCaRFd01
import Derived.RangeFuncNested
import Derived.RangeFuncBound
import Derived.RangeFuncCalls
import Derived.RangeFuncLeaves
import Derived.RangeFuncFrom
import Derived.Below
import Derived.Shelf.RegionOpen

/-
  Layer 3: sums, differences and products of numbers in groups.
-/
namespace Go.Proofs.YtjkklgpbblkhaaaGreatDoor
open Go.RowKit Bs Ig

theorem copy_none {P : Program} (w : World) (dT sT ty elem : TypeId) (a : Addr) (b : Option Addr) (dLen dCap c : Nat) (hu : P.underlying dT = some (.slice elem)) (hs : ((P.info? elem).map (·.size)).isSome = true) :
    (Builtin.copy_ #[dT, sT] ty #[.slice (some a) dLen dCap, .slice b 0 c]).run P w = .ok (goInt 0) w := by
  cases hq : P.info? elem with
  | none => simp [hq] at hs
  | some i => cases b <;> simp [Builtin.copy_, run_underlying hu, Builtin.lenOf, Builtin.firstCells, sizeOf, typeInfo, hq, storeCells, loadCells, loadCellsFrom]
theorem max_run {P : Program} (s k m : Nat) (h : m = max s k) (w : World) (ts : Array TypeId) (t : TypeId) :
    (Builtin.max_ ts t #[.int .i64 (s : Int), .int .i64 (k : Int)]).run P w = .ok (.int .i64 (m : Int)) w := by
  rw [run_max_int2]
  congr 2
  subst h
  split <;> omega
theorem getD_lt (l : List Nat) (h : ∀ x ∈ l, x < 10000) (i : Nat) : l.getD i 0 < 10000 := by
  rw [List.getD_eq_getElem?_getD]
  rcases Nat.lt_or_ge i l.length with hi | hi
  · rw [List.getElem?_eq_getElem hi]; exact h _ (List.getElem_mem hi)
  · rw [List.getElem?_eq_none hi]; exact Nat.zero_lt_succ _
theorem getD_mem (l : List Int) (i : Nat) (hi : i < l.length) : l.getD i 0 ∈ l := by
  rw [List.getD_eq_getElem?_getD, List.getElem?_eq_getElem hi]; exact List.getElem_mem hi
theorem IsZ.later_at {W W' : World} {a : Option Addr} {n c : Nat} {l : List Int} (h : IsZ W a n c l) (hb : Below W.heap.size W W') (i : Nat) (hi : i < n) : ∃ g off, a = some ⟨g, off, none⟩ ∧ W'.cell? ⟨g, off + i, none⟩ = some (.int .i64 (l.getD i 0)) := by
  obtain ⟨g, off, e, hI⟩ := h.at (by omega)
  exact ⟨g, off, e, (hI.later hb) i (by rw [h.len]; exact hi)⟩

set_option maxRecDepth 100000 in
set_option maxHeartbeats 1000000 in
theorem minus_any (a : Option Addr) (n c : Nat) (l : List Nat) (b : Option Addr) (k d : Nat) (m : List Nat) (x y : Nat) (w : World) (hl : IsZ w a n c (zs l)) (hm : IsZ w b k d (zs m)) (hl4 : ∀ x ∈ l, x < 10000) (hm4 : ∀ x ∈ m, x < 10000)
    (hx : V l = x) (hy : V m = y) (hxy : y ≤ x) (hkn : k ≤ n) (hn : n ≤ 1000) :
    Calls Tryz.prog 110 #[.slice a n c, .slice b k d] w fun e w' => ∃ a' n' c', e = .returned (.slice (some a') n' c') ∧ IsZ w' (some a') n' c' (zs (G (x - y))) ∧ Below w.heap.size w w' := by
  have hll : l.length = n := by rw [← zs_length]; exact hl.len
  have hml : m.length = k := by rw [← zs_length]; exact hm.len
  have hkd := hm.cap
  have hxb := val_lt 10000 l hl4
  rw [show val 10000 l = x from hx, hll] at hxb
  have Hcl := Lib.hid (clone_any a n c l w hl (by omega))
  go_enter Tryz.func110, Tryz.ntmps110
  go_wp2_with (go_at_call 129; refine Hcl.out.mono ?_; rintro e w1 ⟨a1, n1, c1, rfl, hown, hb1⟩)
  obtain rfl : n1 = n := by have := hown.len; have h2 : n1 = l.length := this; omega
  have hco := hown.cols
  go_loopw [12] (fun i wr => ∃ (j : Nat) (Z : List Int), j ≤ k ∧ i = .int .i64 j ∧ Cols wr w.heap.size a1 n1 c1 Z ∧ vali 10000 Z = (x : Int) - V (m.take j) ∧ (∀ z ∈ Z, -10000 * (j : Int) ≤ z ∧ z ≤ 10000) ∧ Below w.heap.size w wr) (fun i _ => k - (intOf i).toNat)
  case atStart => exact ⟨0, zs l, by omega, rfl, hco, by rw [show zs l = l.map (fun (x : Nat) => (x : Int)) from rfl, vali_cast, show val 10000 l = x from hx]; simp [V, val], fun z hz => by
    simp only [zs, List.mem_map] at hz; obtain ⟨q, hq, rfl⟩ := hz; have := hl4 q hq; omega, hb1⟩
  case round =>
    clear hco hown hb1
    obtain ⟨j, Z, hj, rfl, hco, hv, hbd, hw⟩ := hrel
    rcases Nat.lt_or_ge j k with hjk | hjk
    · obtain ⟨g2, o2, rfl, hc2⟩ := hm.later_at hw j hjk
      obtain ⟨g1, rfl, hB1, hc1⟩ := hco.at (by omega)
      obtain ⟨hc1, hf1⟩ := hc1 j (by omega)
      rw [zs_getD] at hc2
      have hlt := getD_lt m hm4 j
      have hZl := hco.len
      have hz := hbd _ (getD_mem Z j (by omega))
      have hset := hco.set j (by omega) (Z.getD j 0 - (m.getD j 0 : Nat))
      have hvs := vali_set 10000 Z j (Z.getD j 0 - (m.getD j 0 : Nat)) (by omega)
      have hts := val_take_succ 10000 m j (by omega)
      have HF := Lib.hid (show ∃ Z', Cols (wr.setCell ⟨g1, j, none⟩ (.int .i64 (Z.getD j 0 - (m.getD j 0 : Nat)))) w.heap.size (some ⟨g1, 0, none⟩) n1 c1 Z' ∧ vali 10000 Z' = (x : Int) - V (m.take (j + 1)) ∧ (∀ z ∈ Z', -10000 * ((j + 1 : Nat) : Int) ≤ z ∧ z ≤ 10000) by
        refine ⟨_, hset, ?_, ?_⟩
        · rw [hvs, hv, show V (m.take (j + 1)) = _ from hts, Int.natCast_add, Int.natCast_mul]
          rw [show Z.getD j 0 - ((m.getD j 0 : Nat) : Int) - Z.getD j 0 = -((m.getD j 0 : Nat) : Int) by omega, Int.mul_neg]
          show (x : Int) - V (m.take j) + -_ = (x : Int) - (V (m.take j) + _)
          omega
        · intro z hz'
          rcases List.mem_or_eq_of_mem_set hz' with h | h
          · have := hbd z h; omega
          · subst h; omega)
      generalize Z.getD j 0 = z at *
      generalize m.getD j 0 = y1 at *
      clear hl hm hl4 hm4 hx hy hbd hv hset hvs hts hco hZl Hcl hll hml
      go_wp2_with fail
      go_roundw
      case rel =>
        obtain ⟨Z', h1, h2, h3⟩ := HF.out
        exact ⟨j + 1, Z', by omega, by go_num, h1, h2, h3, hw.setCell (p := ⟨g1, j, none⟩) hB1 _⟩
      case measure => simp [intOf]; omega
    · obtain rfl : k = j := by omega
      rw [show V (m.take k) = y by rw [← hy]; exact val_full _ _ _ (by omega)] at hv
      have hcar := carried_any a1 n1 c1 (x - y) Z wr hco.isZ (fun z hz => by have := hbd z hz; omega) (by omega) (by rw [hv]; omega) (by
        rw [Nat.pow_succ]; have : 1 ≤ 10000 ^ n1 := Nat.pow_pos (by omega); omega)
      have Hcar := Lib.hid hcar
      clear hl hm hl4 hm4 hx hy hbd hv hco Hcl hll hml hcar hxb
      go_wp2_with (go_at_call 128; refine Hcar.out.mono ?_; rintro e w4 ⟨a4, n4, c4, rfl, hZ4, hb7⟩)
      go_ret
      exact ⟨_, _, _, rfl, hZ4, below_on hw hb7 hw.size⟩

theorem vali_cast_app (l : List Nat) (q : Nat) : vali 10000 (zs l ++ List.replicate q 0) = (V l : Nat) := by
  rw [vali_append, vali_zero, show zs l = l.map (fun (x : Nat) => (x : Int)) from rfl, vali_cast]
  show ((val 10000 l : Nat) : Int) + _ * 0 = _
  rw [Int.mul_zero, Int.add_zero]
/-- what copy leaves in columns of zeros -/
theorem copy_cols (w w1 : World) (a : Option Addr) (n c p : Nat) (l : List Nat) (g : Nat) (ts : TypeId) (hl : IsZ w1 a n c (zs l)) (hn : n ≤ p) (hco : Cols w1 w.heap.size (some ⟨g, 0, none⟩) p p (List.replicate p 0)) (hb : Below w.heap.size w w1) (hg : g = w.heap.size) :
    ∃ w2, (Builtin.copy_ #[40, 89] ts #[.slice (some ⟨g, 0, none⟩) p p, .slice a n c]).run Tryz.prog w1 = .ok (goInt n) w2 ∧ Cols w2 w.heap.size (some ⟨g, 0, none⟩) p p (zs l ++ List.replicate (p - n) 0) ∧ Below w.heap.size w w2 := by
  have hll : l.length = n := by rw [← zs_length]; exact hl.len
  rcases Nat.eq_zero_or_pos n with h0 | h0
  · subst h0
    obtain rfl : l = [] := List.length_eq_zero_iff.1 hll
    exact ⟨w1, copy_none w1 _ _ _ _ _ _ _ _ _ Tryz.underlying40 (by kernel_rfl), by simpa [zs] using hco, hb⟩
  · obtain ⟨g0, off, rfl, hI⟩ := hl.at h0
    obtain ⟨g', cur, e, hB, hrow, ht⟩ := hco.row.resolve_left (by omega)
    cases e
    have hcs : ((zs l).map (Value.int .i64)).length = n := by rw [List.length_map, zs_length, hll]
    have htl : cur.toList.length ≥ p := by
      have := congrArg List.length ht
      rw [List.length_take, List.length_map, List.length_replicate] at this
      omega
    refine ⟨w1.setRow g (cur.toList.take 0 ++ (zs l).map (Value.int .i64) ++ cur.toList.drop (0 + n)).toArray, ?_, ?_, ?_⟩
    · have hrun := run_copy_row Tryz.prog w1 40 89 ts 3 g 0 p p ⟨g0, off, none⟩ n c cur 3 ((zs l).map (Value.int .i64)) Tryz.underlying40 (by kernel_rfl) hrow (by rw [hcs]; exact (Nat.min_eq_left hn).symm) (fun j v hj => by
        have hadd : (⟨g0, off, none⟩ : Addr).add j = ⟨g0, off + j, none⟩ := by unfold Addr.add; split <;> simp_all
        obtain ⟨hjl, hjv⟩ := List.getElem?_eq_some_iff.1 hj
        rw [List.length_map] at hjl
        rw [hadd, hI j hjl, ← hjv, List.getElem_map, List.getD_eq_getElem?_getD, List.getElem?_eq_getElem hjl]; rfl) (by rw [hcs]; have : cur.toList.length = cur.size := Array.length_toList; omega) (fun v hv => by obtain ⟨q, _, rfl⟩ := List.mem_map.1 hv; rfl)
      rw [hcs] at hrun
      exact hrun
    · refine ⟨by rw [List.length_append, zs_length, List.length_replicate]; omega, Nat.le_refl _, hco.max, .inr ⟨g, _, rfl, hB, Go.setRow_heap w1 g _ _ _ _ hrow, ?_⟩⟩
      have hd : (cur.toList.drop n).take (p - n) = List.replicate (p - n) (Value.int .i64 0) := by
        rw [← List.drop_take, ht, List.map_replicate, List.drop_replicate]
      rw [List.take_zero, List.nil_append, Nat.zero_add, List.take_append, List.take_of_length_le (by omega), hcs, hd, List.map_append, List.map_replicate]
    · exact ⟨hb.os, hb.tape, hb.output, by rw [size_setRow]; exact hb.size, fun k hk => (Go.setRow_other w1 g k _ (by omega)).trans (hb.block k hk)⟩

set_option maxRecDepth 100000 in
set_option maxHeartbeats 1000000 in
theorem plus_any (a : Option Addr) (n c : Nat) (l : List Nat) (b : Option Addr) (k d : Nat) (m : List Nat) (x y : Nat) (w : World) (hl : IsZ w a n c (zs l)) (hm : IsZ w b k d (zs m)) (hl4 : ∀ x ∈ l, x < 10000) (hm4 : ∀ x ∈ m, x < 10000)
    (hx : V l = x) (hy : V m = y) (hk : k ≤ 1000) (hn : n ≤ 1000) :
    Calls Tryz.prog 109 #[.slice a n c, .slice b k d] w fun e w' => ∃ a' n' c', e = .returned (.slice (some a') n' c') ∧ IsZ w' (some a') n' c' (zs (G (x + y))) ∧ Below w.heap.size w w' := by
  have hll : l.length = n := by rw [← zs_length]; exact hl.len
  have hml : m.length = k := by rw [← zs_length]; exact hm.len
  have hnc := hl.cap
  have hkd := hm.cap
  obtain ⟨p, hp⟩ : ∃ p, p = max n k := ⟨_, rfl⟩
  have hxb := val_lt 10000 l hl4
  rw [show val 10000 l = x from hx, hll] at hxb
  have hyb := val_lt 10000 m hm4
  rw [show val 10000 m = y from hy, hml] at hyb
  have hpn : n ≤ p := by omega
  have hpk : k ≤ p := by omega
  have hp1 : p ≤ 1000 := by omega
  have hsum : x + y < 10000 ^ (p + 1) := by
    have h1 := Nat.pow_le_pow_right (n := 10000) (by omega) hpn
    have h2 := Nat.pow_le_pow_right (n := 10000) (by omega) hpk
    rw [Nat.pow_succ]; omega
  have hmax := fun (w : World) (ts : Array TypeId) (t : TypeId) => max_run (P := Tryz.prog) n k p hp w ts t
  obtain ⟨w1, hmk, hco1, hb1, hs1⟩ := mkCols w 40 Tryz.underlying40 p (by omega)
  obtain ⟨w2, hcp, hco2, hb2⟩ := copy_cols w w1 a n c p l w.heap.size 3 (hl.later hb1) hpn hco1 hb1 rfl
  clear hp hxb hyb hco1
  go_enter Tryz.func109, Tryz.ntmps109
  go_wp2_with fail
  clear hmax hmk hcp hs1
  go_loopw [19] (fun i wr => ∃ (j : Nat) (Z : List Int), j ≤ k ∧ i = .int .i64 j ∧ Cols wr w.heap.size (some ⟨w.heap.size, 0, none⟩) p p Z ∧ vali 10000 Z = (x : Int) + V (m.take j) ∧ (∀ z ∈ Z, 0 ≤ z ∧ z ≤ 10000 * ((j : Int) + 1)) ∧ Below w.heap.size w wr) (fun i _ => k - (intOf i).toNat)
  case atStart => exact ⟨0, _, by omega, rfl, hco2, by rw [vali_cast_app, hx]; simp [V, val], fun z hz => by
    rcases List.mem_append.1 hz with hz | hz
    · simp only [zs, List.mem_map] at hz; obtain ⟨q, hq, rfl⟩ := hz; have := hl4 q hq; omega
    · rw [(List.mem_replicate.1 hz).2]; omega, hb2⟩
  case round =>
    clear hco2 hb1 hb2
    obtain ⟨j, Z, hj, rfl, hco, hv, hbd, hw⟩ := hrel
    rcases Nat.lt_or_ge j k with hjk | hjk
    · obtain ⟨g2, o2, rfl, hc2⟩ := hm.later_at hw j hjk
      obtain ⟨g1, hg1, hB1, hc1⟩ := hco.at (by omega)
      cases hg1
      obtain ⟨hc1, hf1⟩ := hc1 j (by omega)
      rw [zs_getD] at hc2
      have hlt := getD_lt m hm4 j
      have hZl := hco.len
      have hz := hbd _ (getD_mem Z j (by omega))
      have hset := hco.set j (by omega) (Z.getD j 0 + (m.getD j 0 : Nat))
      have hvs := vali_set 10000 Z j (Z.getD j 0 + (m.getD j 0 : Nat)) (by omega)
      have hts := val_take_succ 10000 m j (by omega)
      have HF := Lib.hid (show ∃ Z', Cols (wr.setCell ⟨w.heap.size, j, none⟩ (.int .i64 (Z.getD j 0 + (m.getD j 0 : Nat)))) w.heap.size (some ⟨w.heap.size, 0, none⟩) p p Z' ∧ vali 10000 Z' = (x : Int) + V (m.take (j + 1)) ∧ (∀ z ∈ Z', 0 ≤ z ∧ z ≤ 10000 * (((j + 1 : Nat) : Int) + 1)) by
        refine ⟨_, hset, ?_, ?_⟩
        · rw [hvs, hv, show V (m.take (j + 1)) = _ from hts, Int.natCast_add, Int.natCast_mul]
          rw [show Z.getD j 0 + ((m.getD j 0 : Nat) : Int) - Z.getD j 0 = ((m.getD j 0 : Nat) : Int) by omega]
          show (x : Int) + V (m.take j) + _ = (x : Int) + (V (m.take j) + _)
          omega
        · intro z hz'
          rcases List.mem_or_eq_of_mem_set hz' with h | h
          · have := hbd z h; omega
          · subst h; omega)
      generalize Z.getD j 0 = z at *
      generalize m.getD j 0 = y1 at *
      clear hl hm hl4 hm4 hx hy hbd hv hset hvs hts hco hZl hll hml hsum
      go_wp2_with fail
      go_roundw
      case rel =>
        obtain ⟨Z', h1, h2, h3⟩ := HF.out
        exact ⟨j + 1, Z', by omega, by go_num, h1, h2, h3, hw.setCell (p := ⟨w.heap.size, j, none⟩) (Nat.le_refl _) _⟩
      case measure => simp [intOf]; omega
    · obtain rfl : k = j := by omega
      rw [show V (m.take k) = y by rw [← hy]; exact val_full _ _ _ (by omega)] at hv
      have hcar := carried_any (some ⟨w.heap.size, 0, none⟩) p p (x + y) Z wr hco.isZ (fun z hz => by have := hbd z hz; omega) (by omega) (by rw [hv]; omega) hsum
      have Hcar := Lib.hid hcar
      clear hl hm hl4 hm4 hx hy hbd hv hco hll hml hcar hsum
      go_wp2_with (go_at_call 128; refine Hcar.out.mono ?_; rintro e w4 ⟨a4, n4, c4, rfl, hZ4, hb7⟩)
      go_ret
      exact ⟨_, _, _, rfl, hZ4, below_on hw hb7 hw.size⟩

end Go.Proofs.YtjkklgpbblkhaaaGreatDoor

/-
  Layer 3: products of numbers in groups.
-/
namespace Go.Proofs.YtjkklgpbblkhaaaGreatDoor
open Go.RowKit Bs Ig

theorem sum_step (A Y P X M q J : Nat) (h : 10000 ^ (P + J) = 10000 ^ P * 10000 ^ J) : A * Y + 10000 ^ P * X * (M + 10000 ^ J * q) = A * Y + 10000 ^ P * X * M + 10000 ^ (P + J) * (X * q) := by
  rw [h, Nat.mul_add, Nat.add_assoc]
  congr 1
  congr 1
  rw [Nat.mul_assoc, Nat.mul_assoc, Nat.mul_left_comm X]
set_option maxRecDepth 100000 in
set_option maxHeartbeats 1000000 in
theorem times_any (a : Option Addr) (n c : Nat) (l : List Nat) (b : Option Addr) (k d : Nat) (m : List Nat) (x y : Nat) (w : World) (hl : IsZ w a n c (zs l)) (hm : IsZ w b k d (zs m)) (hl4 : ∀ x ∈ l, x < 10000) (hm4 : ∀ x ∈ m, x < 10000)
    (hx : V l = x) (hy : V m = y) (hk : k ≤ 1000) (hn : n ≤ 1000) :
    Calls Tryz.prog 122 #[.slice a n c, .slice b k d] w fun e w' => ∃ a' n' c', e = .returned (.slice (some a') n' c') ∧ IsZ w' (some a') n' c' (zs (G (x * y))) ∧ Below w.heap.size w w' := by
  have hll : l.length = n := by rw [← zs_length]; exact hl.len
  have hml : m.length = k := by rw [← zs_length]; exact hm.len
  have hnc := hl.cap
  have hkd := hm.cap
  have hprod : x * y < 10000 ^ (n + k + 1) := by
    have h1 := val_lt 10000 l hl4
    rw [show val 10000 l = x from hx, hll] at h1
    have h2 := val_lt 10000 m hm4
    rw [show val 10000 m = y from hy, hml] at h2
    rw [Nat.pow_succ, Nat.pow_add]
    have h3 := Nat.mul_le_mul (Nat.le_of_lt h1) (Nat.le_of_lt h2)
    have h4 : 0 < 10000 ^ n * 10000 ^ k := Nat.mul_pos (Nat.pow_pos (by omega)) (Nat.pow_pos (by omega))
    omega
  have Hprod := Lib.hid hprod
  obtain ⟨w1, hmk, hco1, hb1, hs1⟩ := mkCols w 40 Tryz.underlying40 (n + k) (by omega)
  rw [show ((n + k : Nat) : Int) = (n : Int) + k by omega] at hmk
  clear hprod
  go_enter Tryz.func122, Tryz.ntmps122
  go_wp2_with fail
  clear hmk hs1
  go_loopw [18] (fun i wr => ∃ (I : Nat) (Z : List Int), I ≤ n ∧ i = .int .i64 I ∧ Cols wr w.heap.size (some ⟨w.heap.size, 0, none⟩) (n + k) (n + k) Z ∧ vali 10000 Z = (V (l.take I) * y : Nat) ∧ (∀ z ∈ Z, 0 ≤ z ∧ z ≤ 100000000 * ((I * k : Nat) : Int)) ∧ Below w.heap.size w wr) (fun i _ => n - (intOf i).toNat)
  case atStart => exact ⟨0, _, by omega, rfl, hco1, by rw [vali_zero]; simp [V, val], fun z hz => by rw [(List.mem_replicate.1 hz).2]; omega, hb1⟩
  case round =>
    clear hco1 hb1
    obtain ⟨I, Z, hI, rfl, hco, hv, hbd, hw⟩ := hrel
    rcases Nat.lt_or_ge I n with hIn | hIn
    · obtain ⟨g1, o1, rfl, hc1⟩ := hl.later_at hw I hIn
      rw [zs_getD] at hc1
      have hlt1 := getD_lt l hl4 I
      have Hts1 := Lib.hid (val_take_succ 10000 l I (by omega))
      obtain ⟨x1, hx1⟩ : ∃ x1, l.getD I 0 = x1 := ⟨_, rfl⟩
      rw [hx1] at hc1 hlt1 Hts1
      have Hl := Lib.hid (And.intro hl hl4)
      have Hx := Lib.hid (And.intro hx hll)
      have HIk := Lib.hid (show (I + 1) * k = I * k + k ∧ I * k ≤ 1000000 by
        refine ⟨by rw [Nat.add_mul, Nat.one_mul], ?_⟩
        exact Nat.le_trans (Nat.mul_le_mul (show I ≤ 1000 by omega) hk) (by omega))
      clear hl hl4 hx hll hx1
      go_wp2_with fail
      go_loopw [25] (fun i wr => ∃ (J : Nat) (Z : List Int), J ≤ k ∧ i = .int .i64 J ∧ Cols wr w.heap.size (some ⟨w.heap.size, 0, none⟩) (n + k) (n + k) Z ∧ vali 10000 Z = (V (l.take I) * y + 10000 ^ I * x1 * V (m.take J) : Nat) ∧ (∀ z ∈ Z, 0 ≤ z ∧ z ≤ 100000000 * ((I * k : Nat) + (J : Int))) ∧ Below w.heap.size w wr) (fun i _ => k - (intOf i).toNat)
      case atStart => exact ⟨0, Z, by omega, rfl, hco, by rw [hv]; simp [V, val], fun z hz => by have := hbd z hz; omega, hw⟩
      case round =>
        clear hco hv hbd hw hc1
        obtain ⟨J, Z, hJ, rfl, hco, hv, hbd, hw⟩ := hrel
        rcases Nat.lt_or_ge J k with hJk | hJk
        · obtain ⟨g2, o2, rfl, hc2⟩ := hm.later_at hw J hJk
          obtain ⟨g1, hg1, hB1, hc1⟩ := hco.at (by omega)
          cases hg1
          obtain ⟨hc1, hf1⟩ := hc1 (I + J) (by omega)
          rw [zs_getD] at hc2
          have hlt := getD_lt m hm4 J
          have hZl := hco.len
          have hz := hbd _ (getD_mem Z (I + J) (by omega))
          obtain ⟨y1, hy1⟩ : ∃ y1, m.getD J 0 = y1 := ⟨_, rfl⟩
          have hts := val_take_succ 10000 m J (by omega)
          rw [hy1] at hc2 hlt hts
          have hset := hco.set (I + J) (by omega) (Z.getD (I + J) 0 + (x1 * y1 : Nat))
          have hvs := vali_set 10000 Z (I + J) (Z.getD (I + J) 0 + (x1 * y1 : Nat)) (by omega)
          have hxy : x1 * y1 ≤ 100000000 := Nat.le_trans (Nat.mul_le_mul (Nat.le_of_lt hlt1) (Nat.le_of_lt hlt)) (by omega)
          obtain ⟨q, hq⟩ : ∃ q, x1 * y1 = q := ⟨_, rfl⟩
          have hq2 : (x1 : Int) * (y1 : Int) = (q : Int) := by rw [← hq]; simp
          have hT := HIk.out.2
          have HF := Lib.hid (show ∃ Z', Cols (wr.setCell ⟨w.heap.size, I + J, none⟩ (.int .i64 (Z.getD (I + J) 0 + (q : Nat)))) w.heap.size (some ⟨w.heap.size, 0, none⟩) (n + k) (n + k) Z' ∧ vali 10000 Z' = (V (l.take I) * y + 10000 ^ I * x1 * V (m.take (J + 1)) : Nat) ∧ (∀ z ∈ Z', 0 ≤ z ∧ z ≤ 100000000 * ((I * k : Nat) + ((J + 1 : Nat) : Int))) by
            rw [← hq]
            refine ⟨_, hset, ?_, ?_⟩
            · rw [hvs, hv, show V (m.take (J + 1)) = V (m.take J) + 10000 ^ J * y1 from hts, sum_step _ _ _ _ _ _ _ (Nat.pow_add ..)]
              rw [show Z.getD (I + J) 0 + ((x1 * y1 : Nat) : Int) - Z.getD (I + J) 0 = ((x1 * y1 : Nat) : Int) by omega]
              rw [← Int.natCast_mul, ← Int.natCast_add]
            · intro z hz'
              rw [hq] at hz'
              rcases List.mem_or_eq_of_mem_set hz' with h | h
              · have := hbd z h; omega
              · subst h; omega)
          generalize Z.getD (I + J) 0 = z at *
          generalize I * k = T at *
          rw [hq] at hxy
          clear hm hm4 hy hbd hv hset hvs hts hco hZl hml hy1 hq
          go_wp2_with fail
          go_roundw
          case rel =>
            obtain ⟨Z', h1, h2, h3⟩ := HF.out
            exact ⟨J + 1, Z', by omega, by go_num, h1, h2, h3, hw.setCell (p := ⟨w.heap.size, I + J, none⟩) (Nat.le_refl _) _⟩
          case measure => simp [intOf]; omega
        · obtain rfl : k = J := by omega
          rw [show V (m.take k) = y by rw [← hy]; exact val_full _ _ _ (by omega)] at hv
          go_wp2_with fail
          go_roundw
          case rel =>
            refine ⟨I + 1, Z, by omega, by go_num, hco, ?_, fun z hz => ?_, hw⟩
            · rw [hv, show V (l.take (I + 1)) = V (l.take I) + 10000 ^ I * x1 from Hts1.out, Nat.add_mul]
            · have := hbd z hz; rw [HIk.out.1]; omega
          case measure => simp [intOf]; omega
    · obtain rfl : n = I := by omega
      rw [show V (l.take n) = x by rw [← hx]; exact val_full _ _ _ (by omega)] at hv
      have hT : n * k ≤ 1000000 := Nat.le_trans (Nat.mul_le_mul hn hk) (by omega)
      have hcar := carried_any (some ⟨w.heap.size, 0, none⟩) (n + k) (n + k) (x * y) Z wr hco.isZ (fun z hz => by have := hbd z hz; omega) (by omega) hv Hprod.out
      have Hcar := Lib.hid hcar
      clear hl hm hl4 hm4 hx hy hbd hv hco hll hml hcar hT
      go_wp2_with (go_at_call 128; refine Hcar.out.mono ?_; rintro e w4 ⟨a4, n4, c4, rfl, hZ4, hb7⟩)
      go_ret
      exact ⟨_, _, _, rfl, hZ4, below_on hw hb7 hw.size⟩

end Go.Proofs.YtjkklgpbblkhaaaGreatDoor

/-
  A range over a function: a law for the caller whose own invariant says what the iterator needs of memory. Nothing of this program stands here.
-/
namespace Go.Proofs.YtjkklgpbblkhaaaGreatDoor.Rfn
open Go.RowKit
variable {F : Fence} {n : Nat} {P : Program}

/-- two worlds that are alike but for block l -/
structure But (l : Nat) (A C : World) : Prop where
  os : C.os = A.os
  tape : C.tape = A.tape
  output : C.output = A.output
  size : C.heap.size = A.heap.size
  block : ∀ k, k ≠ l → C.heap[k]? = A.heap[k]?
theorem But.below {l B : Nat} {A C : World} (h : But l A C) (hB : B ≤ l) : Below B A C :=
  ⟨h.os, h.tape, h.output, Nat.le_of_eq h.size.symm, fun k hk => h.block k (by omega)⟩
theorem putObj_but (W : World) (l : Nat) (o : Obj) : But l W (W.putObj l o) :=
  ⟨rfl, rfl, rfl, by simp [World.putObj], fun _ hk => World.putObj_heap_other hk⟩

/-- every row of cells lies as it lay -/
structure CellsKept (A C : World) : Prop where
  same : ∀ (i : Nat) (o : Obj), A.heap[i]? = some o → o.isCells = true → C.heap[i]? = some o
theorem But.kept {l : Nat} {A C : World} (h : But l A C) {o : Obj} (hl : A.heap[l]? = some o) (ho : o.isCells = false) : CellsKept A C :=
  ⟨fun i o' hi hc => by
    by_cases e : i = l
    · subst e; rw [hl] at hi; cases hi; rw [ho] at hc; cases hc
    · exact (h.block i e).trans hi⟩
theorem CellsKept.of_below {A C : World} (h : Below A.heap.size A C) : CellsKept A C := ⟨fun i _ hi _ => (h.block i (Array.getElem?_eq_some_iff.1 hi).1).trans hi⟩
theorem CellsKept.cell {A C : World} (h : CellsKept A C) {p : Addr} {v : Value} (hp : A.cell? p = some v) : C.cell? p = some v := by
  unfold World.cell? at hp ⊢
  cases hr : A.heap[p.block]? with
  | none => rw [hr] at hp; cases hp
  | some o =>
    rw [hr] at hp
    cases o with
    | cells c t f => rw [h.same _ _ hr rfl]; exact hp
    | _ => cases hp
/-- the iterator g hands over just xs, one after the other, as long as what it needs lies there between two rounds -/
def Yields {α : Type} (F : Fence) (n : Nat) (P : Program) (g : Nat) (lb : Array Value) (encs : α → Array Value) (Need : World → Prop) (xs : List α) (w : World) : Prop :=
  ∀ (l : Nat) (J Jx : Nat → World → Prop) (W : World), Below w.heap.size w W →
    (∀ k W1, J k W1 → Need W1) →
    (∀ k (hk : k < xs.length) W1, J k W1 → YieldAt F (n - 1) P l (encs xs[k]) W1 fun e W' =>
      (e = .returned (.bool true) ∧ J (k + 1) W') ∨ (e = .returned (.bool false) ∧ Jx k W')) →
    J 0 W →
    CallsIn F n P g (#[.func (.yield l) #[] #[]] ++ lb) W fun e W' => (∃ v, e = .returned v) ∧ (J xs.length W' ∨ ∃ k, Jx k W')

/-- how a round's body may be left -/
def roundEnd (I : Nat → World → Prop) (Ix : Code → Nat → World → Prop) (k : Nat) (W : World) : Exit → Act → World → Prop
  | .normal, _, W' => KeepsOthers W W' ∧ I (k + 1) W'
  | .ret, _, W' => KeepsOthers W W' ∧ Ix .ret k W'
  | .exit id, _, W' => KeepsOthers W W' ∧ Ix (.exit id) k W'
  | .goto t, _, W' => KeepsOthers W W' ∧ Ix (.goto t) k W'
  | .panic _, _, _ => False
  | .outgrown, _, _ => False

theorem wpIn_rangeFunc_need {α : Type} {g : Operand} {ps : Array Tmp} {assign body : Code} {Q : Exit → Act → World → Prop} {a : Act} {w : World}
    (hro : F.round = none) (h1 : 1 ≤ n) {gf : Nat} {lb : Array Value} (hg : a.eval g = .func (.func gf) #[] lb) (hFg : F.fn gf) (eg : ∀ args w, (callFunc gf args).run P w = .ok (.enter gf args) w)
    {encs : α → Array Value} {Need : World → Prop} {xs : List α} {w0 : World} (hseq : Yields F (n - 1) P gf lb encs Need xs w0) (hb0 : Below w0.heap.size w0 w) (hps : ∀ x, (encs x).size = ps.size)
    (I : Nat → World → Prop) (Ix : Code → Nat → World → Prop) (hI : ∀ k A C, I k A → Below w.heap.size A C → CellsKept A C → I k C) (hIx : ∀ c k A C, Ix c k A → Below w.heap.size A C → CellsKept A C → Ix c k C) (hN : ∀ k W, I k W → Need W) (h0 : I 0 w)
    (hround : ∀ (l k : Nat) (hk : k < xs.length) (W : World), w.heap.size ≤ l → l < W.heap.size → I k W →
      assign.wpIn (F.inRound l) (n - 1 - 1) P (Exit.then (fun a1 W1 => KeepsOthers W W1 ∧ ∀ W2, But l W1 W2 → CellsKept W1 W2 → body.wpIn (F.inRound l) (n - 1 - 1) P (roundEnd I Ix k W2) a1 W2) (fun _ _ _ => False))
        { tmps := (ps.zip (encs xs[k])).foldl (fun t (p, v) => t.setIfInBounds p v) a.tmps, defers := [] } W)
    (hdone : ∀ (D : Nat) (W : World), w.heap.size ≤ D → D < W.heap.size → I xs.length W → W.heap[D]? = some (.deferred (some [])) → Q .normal { a with defers := { target := .collected D, args := #[] } :: a.defers } W)
    (hstop : ∀ (D : Nat) (c : Code) (k : Nat) (W : World), w.heap.size ≤ D → D < W.heap.size → Ix c k W → W.heap[D]? = some (.deferred (some [])) → c.wpIn F n P Q { a with defers := { target := .collected D, args := #[] } :: a.defers } W) :
    (Code.rangeFunc g ps assign body).wpIn F n P Q a w := by
  refine wpIn_rangeFunc fun fn hfn => ?_
  rw [hro]
  let rec_ : LoopState → Option Code → Loop := fun st pe => { state := st, pending := pe, fn, tmps := a.tmps, params := ps, assign, body, defers := w.heap.size }
  obtain ⟨W1, hW1⟩ : ∃ W1, (w.alloc (.deferred (some []))).alloc (.loop (rec_ .ready none)) = W1 := ⟨_, rfl⟩
  have hsz : W1.heap.size = w.heap.size + 2 := by rw [← hW1]; simp
  have hL : W1.heap[w.heap.size + 1]? = some (.loop (rec_ .ready none)) := by
    rw [← hW1]; have := World.alloc_heap_new (w.alloc (.deferred (some []))) (.loop (rec_ .ready none)); rwa [World.size_alloc] at this
  have hD : W1.heap[w.heap.size]? = some (.deferred (some [])) := by
    rw [← hW1]; exact (Below.heap_alloc _ _ _ (by simp)).trans (World.alloc_heap_new w _)
  have hbw : Below w.heap.size w W1 := by rw [← hW1]; exact ((Below.refl _ w).alloc (Nat.le_refl _) _).alloc (by simp) _
  refine ⟨w.heap.size + 1, [{ target := .collected w.heap.size, args := #[] }], W1, { target := .fn (.func gf) lb, args := #[.func (.yield (w.heap.size + 1)) #[] #[]] }, W1, gf,
    #[.func (.yield (w.heap.size + 1)) #[] #[]] ++ lb, W1, ?_, ?_, ?_, ?_, fun _ => h1, ?_⟩
  · rw [← hW1]; exact run_enterLoop_outer _ _ _ _ _
  · simp only [resolve, hg]
    simp [go_sem]
  · intro f' hf'; simp [Target.leads] at hf'; subst hf'; exact hFg
  · simp [invoke, go_sem, eg]
  · refine (hseq (w.heap.size + 1)
      (fun k W => I k W ∧ W.heap[w.heap.size + 1]? = some (.loop (rec_ .ready none)) ∧ W.heap[w.heap.size]? = some (.deferred (some [])))
      (fun k W => ∃ c, Ix c k W ∧ W.heap[w.heap.size + 1]? = some (.loop (rec_ .done (some c))) ∧ W.heap[w.heap.size]? = some (.deferred (some [])))
      W1 (hb0.trans (hbw.mono hb0.size)) (fun k W h => hN k W h.1) ?_ ⟨hI _ _ _ h0 hbw (CellsKept.of_below hbw), hL, hD⟩).mono ?_
    · rintro k hk W ⟨i1, i2, i3⟩
      have hlt : w.heap.size + 1 < W.heap.size := (Array.getElem?_eq_some_iff.1 i2).1
      refine ⟨fn, _, assign, body, run_yield (P := P) (args := encs xs[k]) i2 (hps _), roundIn_of_wpIn hfn (wpIn_mono (hround (w.heap.size + 1) k hk W (by omega) hlt i1) ?_)⟩
      intro e a1 Wa hp
      cases e with
      | normal =>
        obtain ⟨ha, hbody⟩ := hp
        have l1 : Wa.heap[w.heap.size + 1]? = some (.loop (rec_ .ready none)) := ha.same _ _ i2 rfl
        have d1 : Wa.heap[w.heap.size]? = some (.deferred (some [])) := ha.same _ _ i3 rfl
        have hlt1 : w.heap.size + 1 < Wa.heap.size := (Array.getElem?_eq_some_iff.1 l1).1
        refine ⟨_, run_beginRound l1 rfl, ?_⟩
        have bu := putObj_but Wa (w.heap.size + 1) (.loop { rec_ .ready none with state := .busy })
        have l2 : (Wa.putObj (w.heap.size + 1) (.loop { rec_ .ready none with state := .busy })).heap[w.heap.size + 1]? = some (.loop { rec_ .ready none with state := .busy }) := World.putObj_heap_same hlt1
        refine wpIn_mono (hbody _ bu (bu.kept l1 rfl)) ?_
        have fin : ∀ (jump : Option Code) (W3 : World), KeepsOthers (Wa.putObj (w.heap.size + 1) (.loop { rec_ .ready none with state := .busy })) W3 →
            (Instr.endRound (w.heap.size + 1) jump).run P W3 = .ok (.bool jump.isNone) (W3.putObj (w.heap.size + 1) (.loop (rec_ (if jump.isNone then .ready else .done) jump))) ∧
            Below w.heap.size W3 (W3.putObj (w.heap.size + 1) (.loop (rec_ (if jump.isNone then .ready else .done) jump))) ∧ CellsKept W3 (W3.putObj (w.heap.size + 1) (.loop (rec_ (if jump.isNone then .ready else .done) jump))) ∧
            (W3.putObj (w.heap.size + 1) (.loop (rec_ (if jump.isNone then .ready else .done) jump))).heap[w.heap.size + 1]? = some (.loop (rec_ (if jump.isNone then .ready else .done) jump)) ∧
            (W3.putObj (w.heap.size + 1) (.loop (rec_ (if jump.isNone then .ready else .done) jump))).heap[w.heap.size]? = some (.deferred (some [])) := fun jump W3 h3 => by
          have l3 : W3.heap[w.heap.size + 1]? = _ := h3.same _ _ l2 rfl
          have d3 : W3.heap[w.heap.size]? = some (.deferred (some [])) := h3.same _ _ ((World.putObj_heap_other (by omega)).trans d1) rfl
          have b3 := putObj_but W3 (w.heap.size + 1) (.loop (rec_ (if jump.isNone then .ready else .done) jump))
          exact ⟨run_endRound jump l3, b3.below (by omega), b3.kept l3 rfl, World.putObj_heap_same (Array.getElem?_eq_some_iff.1 l3).1, (b3.block _ (by omega)).trans d3⟩
        rintro e a3 W3 hp
        cases e with
        | normal =>
          obtain ⟨h3, i⟩ := hp
          obtain ⟨r, b, ck, l4, d4⟩ := fin none W3 h3
          exact ⟨_, _, r, .inl ⟨rfl, ⟨hI _ _ _ i b ck, l4, d4⟩⟩⟩
        | ret =>
          obtain ⟨h3, i⟩ := hp
          obtain ⟨r, b, ck, l4, d4⟩ := fin (some .ret) W3 h3
          exact ⟨_, _, r, .inr ⟨rfl, .ret, hIx _ _ _ _ i b ck, l4, d4⟩⟩
        | exit id =>
          obtain ⟨h3, i⟩ := hp
          obtain ⟨r, b, ck, l4, d4⟩ := fin (some (.exit id)) W3 h3
          exact ⟨_, _, r, .inr ⟨rfl, .exit id, hIx _ _ _ _ i b ck, l4, d4⟩⟩
        | goto t =>
          obtain ⟨h3, i⟩ := hp
          obtain ⟨r, b, ck, l4, d4⟩ := fin (some (.goto t)) W3 h3
          exact ⟨_, _, r, .inr ⟨rfl, .goto t, hIx _ _ _ _ i b ck, l4, d4⟩⟩
        | panic ch => exact hp.elim
        | outgrown => exact hp.elim
      | exit id => exact hp.elim
      | goto l => exact hp.elim
      | ret => exact hp.elim
      | panic ch => exact hp.elim
      | outgrown => exact hp.elim
    · rintro e W2 ⟨⟨v, rfl⟩, (⟨hi, hl, hd⟩ | ⟨k, c, hi, hl, hd⟩)⟩
      · have b := putObj_but W2 (w.heap.size + 1) (.loop { rec_ .ready none with state := .exhausted })
        exact ⟨none, _, run_endLoop (P := P) hl (by simp [rec_]), hdone w.heap.size _ (Nat.le_refl _) (by rw [b.size]; exact (Array.getElem?_eq_some_iff.1 hd).1) (hI _ _ _ hi (b.below (by omega)) (b.kept hl rfl)) ((b.block _ (by omega)).trans hd)⟩
      · have b := putObj_but W2 (w.heap.size + 1) (.loop { rec_ .done (some c) with state := .exhausted })
        exact ⟨some c, _, run_endLoop (P := P) hl (by simp [rec_]), hstop w.heap.size c k _ (Nat.le_refl _) (by rw [b.size]; exact (Array.getElem?_eq_some_iff.1 hd).1) (hIx _ _ _ _ hi (b.below (by omega)) (b.kept hl rfl)) ((b.block _ (by omega)).trans hd)⟩

end Go.Proofs.YtjkklgpbblkhaaaGreatDoor.Rfn

/-
  Layer 3: a slice gone through from its end.
-/
namespace Go.Proofs.YtjkklgpbblkhaaaGreatDoor
open Go.RowKit Bs Ig Go.Shelf
attribute [local go_sem] Oper.semAt_some

theorem backward_any (a : Option Addr) (n c : Nat) (w : World) :
    Calls Tryz.prog 113 #[.slice a n c] w fun e w' => e = .returned (.func (.func 131) #[] #[.pointer (some ⟨w.heap.size, 0, none⟩)]) ∧ w' = w.alloc (.cells #[.slice a n c] 89) := by
  go_enter Tryz.func113, Tryz.ntmps113
  go_wp2
  go_ret
  exact ⟨rfl, rfl⟩

/-- what the iterator needs of memory -/
structure BkN (b : Nat) (a : Option Addr) (n c : Nat) (l : List Nat) (W : World) : Prop where
  cell : W.cell? ⟨b, 0, none⟩ = some (.slice a n c)
  isZ : IsZ W a n c (zs l)
theorem BkN.later {b n c : Nat} {a : Option Addr} {l : List Nat} {W W' : World} (h : BkN b a n c l W) (hb : Below W.heap.size W W') : BkN b a n c l W' :=
  ⟨(hb.cell (p := ⟨b, 0, none⟩) (block_lt_of_cell h.cell)).trans h.cell, h.isZ.later hb⟩
/-- places and numbers, from the end -/
def bks (l : List Nat) : List (Nat × Nat) := (List.range l.length).map fun k => (l.length - 1 - k, l.getD (l.length - 1 - k) 0)
theorem bks_length (l : List Nat) : (bks l).length = l.length := by simp [bks]
theorem bks_get (l : List Nat) (k : Nat) (hk : k < (bks l).length) : (bks l)[k] = (l.length - 1 - k, l.getD (l.length - 1 - k) 0) := by simp [bks]
def bkEnc (x : Nat × Nat) : Array Value := #[.int .i64 x.1, .int .i64 x.2]

set_option maxRecDepth 100000 in
set_option maxHeartbeats 1000000 in
theorem back1_in (q b : Nat) (a : Option Addr) (n c : Nat) (l : List Nat) (J Jx : Nat → World → Prop) (hn : n ≤ 1000000) (hl : l.length = n)
    (hN : ∀ k W, J k W → BkN b a n c l W)
    (hY : ∀ k W, k < n → J k W → YieldAt Fence.wide (3 - 1 - 1) Tryz.prog q #[.int .i64 ((n - 1 - k : Nat) : Int), .int .i64 (l.getD (n - 1 - k) 0 : Nat)] W fun e W' =>
      (e = .returned (.bool true) ∧ J (k + 1) W') ∨ (e = .returned (.bool false) ∧ Jx k W'))
    (W : World) (h0 : J 0 W) :
    CallsIn Fence.wide (3 - 1) Tryz.prog 131 #[.func (.yield q) #[] #[], .pointer (some ⟨b, 0, none⟩)] W fun e W' => (∃ v, e = .returned v) ∧ (J n W' ∨ ∃ k, Jx k W') := by
  have hcell := (hN 0 W h0).cell
  have hcap := (hN 0 W h0).isZ.cap
  refine callsIn_of_wp Tryz.func131 rfl trivial ?_ rfl
  simp only [Tryz.ntmps131, List.size_toArray, List.length_cons, List.length_nil, Nat.reduceAdd, Nat.reduceSub, Array.replicate_succ, Array.replicate_zero, List.push_toArray, List.append_toArray, List.nil_append, List.cons_append]
  gi_wp2
  clear hcell
  gi_loopw [3] (fun p wr => ∃ k : Nat, k ≤ n ∧ p = .int .i64 ((n : Int) - 1 - k) ∧ J k wr) (fun p _ => (intOf p + 1).toNat)
  case atStart => exact ⟨0, by omega, by simp, h0⟩
  case round =>
    obtain ⟨k, hk, rfl, hJ⟩ := hrel
    have hcell := (hN k wr hJ).cell
    rcases Nat.lt_or_ge k n with hkn | hkn
    · obtain ⟨g, off, rfl, hI⟩ := (hN k wr hJ).isZ.at (by omega)
      have hc := hI (n - 1 - k) (by rw [zs_length]; omega)
      rw [zs_getD] at hc
      obtain ⟨fn, tmps, assign, body, hy, hR⟩ := hY k wr hkn hJ
      rw [show ((n - 1 - k : Nat) : Int) = (n : Int) - 1 - k by omega] at hy
      generalize l.getD (n - 1 - k) 0 = x at *
      have e1 : ((n : Int) - 1 - k).toNat = n - 1 - k := by omega
      have e2 : decide (0 ≤ (n : Int) - 1 - k) = true := by simp; omega
      clear hI
      gi_wp2
      refine hR.mono ?_
      rintro e W' (⟨rfl, hJ'⟩ | ⟨rfl, hJx'⟩)
      · gi_wp2
        go_roundw
        case rel => exact ⟨k + 1, by omega, by go_num, hJ'⟩
        case measure => simp [intOf]; omega
      · gi_wp2
        refine bodyPost_ret (results_none rfl _ _ _) rfl ?_
        exact ⟨⟨_, rfl⟩, .inr ⟨_, hJx'⟩⟩
    · obtain rfl : n = k := by omega
      have e2 : decide (0 ≤ (n : Int) - 1 - n) = false := by simp; omega
      gi_wp2
      go_end0
      exact ⟨⟨_, rfl⟩, .inl hJ⟩

end Go.Proofs.YtjkklgpbblkhaaaGreatDoor
