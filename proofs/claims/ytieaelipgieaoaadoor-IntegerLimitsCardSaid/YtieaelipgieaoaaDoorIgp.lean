/-
  Layer 3: sums, differences and products of numbers in groups.
-/
import Derived.Test.YtieaelipgieaoaaDoorIgl
namespace Go.Proofs.YtieaelipgieaoaaDoor
open Go.RowKit Bs Ig

theorem copy_none {P : Program} (w : World) (dT sT ty elem : TypeId) (a : Addr) (b : Option Addr) (dLen dCap c : Nat) (hu : P.underlying dT = some (.slice elem)) (hs : ((P.info? elem).map (·.size)).isSome = true) :
    (Builtin.copy_ #[dT, sT] ty #[.slice (some a) dLen dCap, .slice b 0 c]).run P w = .ok (goInt 0) w := by
  cases hq : P.info? elem with
  | none => simp [hq] at hs
  | some i => cases b <;> simp [Builtin.copy_, run_underlying hu, Builtin.lenOf, Builtin.firstCells, sizeOf, typeInfo, hq, storeCells, loadCells, loadCellsFrom]
theorem max_run {P : Program} (s k m : Nat) (h : m = max s k) (w : World) (ts : Array TypeId) (t : TypeId) :
    (Builtin.max_ ts t #[.int .i64 (s : Int), .int .i64 (k : Int)]).run P w = .ok (.int .i64 (m : Int)) w := by
  rw [run_max_int2]
  congr 2
  subst h
  split <;> omega
theorem getD_lt (l : List Nat) (h : ∀ x ∈ l, x < 10000) (i : Nat) : l.getD i 0 < 10000 := by
  rw [List.getD_eq_getElem?_getD]
  rcases Nat.lt_or_ge i l.length with hi | hi
  · rw [List.getElem?_eq_getElem hi]; exact h _ (List.getElem_mem hi)
  · rw [List.getElem?_eq_none hi]; exact Nat.zero_lt_succ _
theorem getD_mem (l : List Int) (i : Nat) (hi : i < l.length) : l.getD i 0 ∈ l := by
  rw [List.getD_eq_getElem?_getD, List.getElem?_eq_getElem hi]; exact List.getElem_mem hi
theorem IsZ.later_at {W W' : World} {a : Option Addr} {n c : Nat} {l : List Int} (h : IsZ W a n c l) (hb : Below W.heap.size W W') (i : Nat) (hi : i < n) : ∃ g off, a = some ⟨g, off, none⟩ ∧ W'.cell? ⟨g, off + i, none⟩ = some (.int .i64 (l.getD i 0)) := by
  obtain ⟨g, off, e, hI⟩ := h.at (by omega)
  exact ⟨g, off, e, (hI.later hb) i (by rw [h.len]; exact hi)⟩

set_option maxRecDepth 100000 in
set_option maxHeartbeats 1000000 in
theorem minus_any (a : Option Addr) (n c : Nat) (l : List Nat) (b : Option Addr) (k d : Nat) (m : List Nat) (x y : Nat) (w : World) (hl : IsZ w a n c (zs l)) (hm : IsZ w b k d (zs m)) (hl4 : ∀ x ∈ l, x < 10000) (hm4 : ∀ x ∈ m, x < 10000)
    (hx : V l = x) (hy : V m = y) (hxy : y ≤ x) (hkn : k ≤ n) (hn : n ≤ 1000) :
    Calls Tryd.prog 47 #[.slice a n c, .slice b k d] w fun e w' => ∃ a' n' c', e = .returned (.slice (some a') n' c') ∧ IsZ w' (some a') n' c' (zs (G (x - y))) ∧ Below w.heap.size w w' := by
  have hll : l.length = n := by rw [← zs_length]; exact hl.len
  have hml : m.length = k := by rw [← zs_length]; exact hm.len
  have hkd := hm.cap
  have hxb := val_lt 10000 l hl4
  rw [show val 10000 l = x from hx, hll] at hxb
  have Hcl := Lib.hid (clone_any a n c l w hl (by omega))
  go_enter Tryd.func47, Tryd.ntmps47
  go_wp2_with (go_at_call 64; refine Hcl.out.mono ?_; rintro e w1 ⟨a1, n1, c1, rfl, hown, hb1⟩)
  obtain rfl : n1 = n := by have := hown.len; have h2 : n1 = l.length := this; omega
  have hco := hown.cols
  go_loopw [12] (fun i wr => ∃ (j : Nat) (Z : List Int), j ≤ k ∧ i = .int .i64 j ∧ Cols wr w.heap.size a1 n1 c1 Z ∧ vali 10000 Z = (x : Int) - V (m.take j) ∧ (∀ z ∈ Z, -10000 * (j : Int) ≤ z ∧ z ≤ 10000) ∧ Below w.heap.size w wr) (fun i _ => k - (intOf i).toNat)
  case atStart => exact ⟨0, zs l, by omega, rfl, hco, by rw [show zs l = l.map (fun (x : Nat) => (x : Int)) from rfl, vali_cast, show val 10000 l = x from hx]; simp [V, val], fun z hz => by
    simp only [zs, List.mem_map] at hz; obtain ⟨q, hq, rfl⟩ := hz; have := hl4 q hq; omega, hb1⟩
  case round =>
    clear hco hown hb1
    obtain ⟨j, Z, hj, rfl, hco, hv, hbd, hw⟩ := hrel
    rcases Nat.lt_or_ge j k with hjk | hjk
    · obtain ⟨g2, o2, rfl, hc2⟩ := hm.later_at hw j hjk
      obtain ⟨g1, rfl, hB1, hc1⟩ := hco.at (by omega)
      obtain ⟨hc1, hf1⟩ := hc1 j (by omega)
      rw [zs_getD] at hc2
      have hlt := getD_lt m hm4 j
      have hZl := hco.len
      have hz := hbd _ (getD_mem Z j (by omega))
      have hset := hco.set j (by omega) (Z.getD j 0 - (m.getD j 0 : Nat))
      have hvs := vali_set 10000 Z j (Z.getD j 0 - (m.getD j 0 : Nat)) (by omega)
      have hts := val_take_succ 10000 m j (by omega)
      have HF := Lib.hid (show ∃ Z', Cols (wr.setCell ⟨g1, j, none⟩ (.int .i64 (Z.getD j 0 - (m.getD j 0 : Nat)))) w.heap.size (some ⟨g1, 0, none⟩) n1 c1 Z' ∧ vali 10000 Z' = (x : Int) - V (m.take (j + 1)) ∧ (∀ z ∈ Z', -10000 * ((j + 1 : Nat) : Int) ≤ z ∧ z ≤ 10000) by
        refine ⟨_, hset, ?_, ?_⟩
        · rw [hvs, hv, show V (m.take (j + 1)) = _ from hts, Int.natCast_add, Int.natCast_mul]
          rw [show Z.getD j 0 - ((m.getD j 0 : Nat) : Int) - Z.getD j 0 = -((m.getD j 0 : Nat) : Int) by omega, Int.mul_neg]
          show (x : Int) - V (m.take j) + -_ = (x : Int) - (V (m.take j) + _)
          omega
        · intro z hz'
          rcases List.mem_or_eq_of_mem_set hz' with h | h
          · have := hbd z h; omega
          · subst h; omega)
      generalize Z.getD j 0 = z at *
      generalize m.getD j 0 = y1 at *
      clear hl hm hl4 hm4 hx hy hbd hv hset hvs hts hco hZl Hcl hll hml
      go_wp2_with fail
      go_roundw
      case rel =>
        obtain ⟨Z', h1, h2, h3⟩ := HF.out
        exact ⟨j + 1, Z', by omega, by go_num, h1, h2, h3, hw.setCell (p := ⟨g1, j, none⟩) hB1 _⟩
      case measure => simp [intOf]; omega
    · obtain rfl : k = j := by omega
      rw [show V (m.take k) = y by rw [← hy]; exact val_full _ _ _ (by omega)] at hv
      have hcar := carried_any a1 n1 c1 (x - y) Z wr hco.isZ (fun z hz => by have := hbd z hz; omega) (by omega) (by rw [hv]; omega) (by
        rw [Nat.pow_succ]; have : 1 ≤ 10000 ^ n1 := Nat.pow_pos (by omega); omega)
      have Hcar := Lib.hid hcar
      clear hl hm hl4 hm4 hx hy hbd hv hco Hcl hll hml hcar hxb
      go_wp2_with (go_at_call 62; refine Hcar.out.mono ?_; rintro e w4 ⟨a4, n4, c4, rfl, hZ4, hb7⟩)
      go_ret
      exact ⟨_, _, _, rfl, hZ4, below_on hw hb7 hw.size⟩

theorem vali_cast_app (l : List Nat) (q : Nat) : vali 10000 (zs l ++ List.replicate q 0) = (V l : Nat) := by
  rw [vali_append, vali_zero, show zs l = l.map (fun (x : Nat) => (x : Int)) from rfl, vali_cast]
  show ((val 10000 l : Nat) : Int) + _ * 0 = _
  rw [Int.mul_zero, Int.add_zero]
/-- what copy leaves in columns of zeros -/
theorem copy_cols (w w1 : World) (a : Option Addr) (n c p : Nat) (l : List Nat) (g : Nat) (ts : TypeId) (hl : IsZ w1 a n c (zs l)) (hn : n ≤ p) (hco : Cols w1 w.heap.size (some ⟨g, 0, none⟩) p p (List.replicate p 0)) (hb : Below w.heap.size w w1) (hg : g = w.heap.size) :
    ∃ w2, (Builtin.copy_ #[48, 49] ts #[.slice (some ⟨g, 0, none⟩) p p, .slice a n c]).run Tryd.prog w1 = .ok (goInt n) w2 ∧ Cols w2 w.heap.size (some ⟨g, 0, none⟩) p p (zs l ++ List.replicate (p - n) 0) ∧ Below w.heap.size w w2 := by
  have hll : l.length = n := by rw [← zs_length]; exact hl.len
  rcases Nat.eq_zero_or_pos n with h0 | h0
  · subst h0
    obtain rfl : l = [] := List.length_eq_zero_iff.1 hll
    exact ⟨w1, copy_none w1 _ _ _ _ _ _ _ _ _ Tryd.underlying48 (by kernel_rfl), by simpa [zs] using hco, hb⟩
  · obtain ⟨g0, off, rfl, hI⟩ := hl.at h0
    obtain ⟨g', cur, e, hB, hrow, ht⟩ := hco.row.resolve_left (by omega)
    cases e
    have hcs : ((zs l).map (Value.int .i64)).length = n := by rw [List.length_map, zs_length, hll]
    have htl : cur.toList.length ≥ p := by
      have := congrArg List.length ht
      rw [List.length_take, List.length_map, List.length_replicate] at this
      omega
    refine ⟨w1.setRow g (cur.toList.take 0 ++ (zs l).map (Value.int .i64) ++ cur.toList.drop (0 + n)).toArray, ?_, ?_, ?_⟩
    · have hrun := run_copy_row Tryd.prog w1 48 49 ts 3 g 0 p p ⟨g0, off, none⟩ n c cur 3 ((zs l).map (Value.int .i64)) Tryd.underlying48 (by kernel_rfl) hrow (by rw [hcs]; exact (Nat.min_eq_left hn).symm) (fun j v hj => by
        have hadd : (⟨g0, off, none⟩ : Addr).add j = ⟨g0, off + j, none⟩ := by unfold Addr.add; split <;> simp_all
        obtain ⟨hjl, hjv⟩ := List.getElem?_eq_some_iff.1 hj
        rw [List.length_map] at hjl
        rw [hadd, hI j hjl, ← hjv, List.getElem_map, List.getD_eq_getElem?_getD, List.getElem?_eq_getElem hjl]; rfl) (by rw [hcs]; have : cur.toList.length = cur.size := Array.length_toList; omega) (fun v hv => by obtain ⟨q, _, rfl⟩ := List.mem_map.1 hv; rfl)
      rw [hcs] at hrun
      exact hrun
    · refine ⟨by rw [List.length_append, zs_length, List.length_replicate]; omega, Nat.le_refl _, hco.max, .inr ⟨g, _, rfl, hB, Go.setRow_heap w1 g _ _ _ _ hrow, ?_⟩⟩
      have hd : (cur.toList.drop n).take (p - n) = List.replicate (p - n) (Value.int .i64 0) := by
        rw [← List.drop_take, ht, List.map_replicate, List.drop_replicate]
      rw [List.take_zero, List.nil_append, Nat.zero_add, List.take_append, List.take_of_length_le (by omega), hcs, hd, List.map_append, List.map_replicate]
    · exact ⟨hb.os, hb.tape, hb.output, by rw [size_setRow]; exact hb.size, fun k hk => (Go.setRow_other w1 g k _ (by omega)).trans (hb.block k hk)⟩

set_option maxRecDepth 100000 in
set_option maxHeartbeats 1000000 in
theorem plus_any (a : Option Addr) (n c : Nat) (l : List Nat) (b : Option Addr) (k d : Nat) (m : List Nat) (x y : Nat) (w : World) (hl : IsZ w a n c (zs l)) (hm : IsZ w b k d (zs m)) (hl4 : ∀ x ∈ l, x < 10000) (hm4 : ∀ x ∈ m, x < 10000)
    (hx : V l = x) (hy : V m = y) (hk : k ≤ 1000) (hn : n ≤ 1000) :
    Calls Tryd.prog 45 #[.slice a n c, .slice b k d] w fun e w' => ∃ a' n' c', e = .returned (.slice (some a') n' c') ∧ IsZ w' (some a') n' c' (zs (G (x + y))) ∧ Below w.heap.size w w' := by
  have hll : l.length = n := by rw [← zs_length]; exact hl.len
  have hml : m.length = k := by rw [← zs_length]; exact hm.len
  have hnc := hl.cap
  have hkd := hm.cap
  obtain ⟨p, hp⟩ : ∃ p, p = max n k := ⟨_, rfl⟩
  have hxb := val_lt 10000 l hl4
  rw [show val 10000 l = x from hx, hll] at hxb
  have hyb := val_lt 10000 m hm4
  rw [show val 10000 m = y from hy, hml] at hyb
  have hpn : n ≤ p := by omega
  have hpk : k ≤ p := by omega
  have hp1 : p ≤ 1000 := by omega
  have hsum : x + y < 10000 ^ (p + 1) := by
    have h1 := Nat.pow_le_pow_right (n := 10000) (by omega) hpn
    have h2 := Nat.pow_le_pow_right (n := 10000) (by omega) hpk
    rw [Nat.pow_succ]; omega
  have hmax := fun (w : World) (ts : Array TypeId) (t : TypeId) => max_run (P := Tryd.prog) n k p hp w ts t
  obtain ⟨w1, hmk, hco1, hb1, hs1⟩ := mkCols w 48 Tryd.underlying48 p (by omega)
  obtain ⟨w2, hcp, hco2, hb2⟩ := copy_cols w w1 a n c p l w.heap.size 3 (hl.later hb1) hpn hco1 hb1 rfl
  clear hp hxb hyb hco1
  go_enter Tryd.func45, Tryd.ntmps45
  go_wp2_with fail
  clear hmax hmk hcp hs1
  go_loopw [19] (fun i wr => ∃ (j : Nat) (Z : List Int), j ≤ k ∧ i = .int .i64 j ∧ Cols wr w.heap.size (some ⟨w.heap.size, 0, none⟩) p p Z ∧ vali 10000 Z = (x : Int) + V (m.take j) ∧ (∀ z ∈ Z, 0 ≤ z ∧ z ≤ 10000 * ((j : Int) + 1)) ∧ Below w.heap.size w wr) (fun i _ => k - (intOf i).toNat)
  case atStart => exact ⟨0, _, by omega, rfl, hco2, by rw [vali_cast_app, hx]; simp [V, val], fun z hz => by
    rcases List.mem_append.1 hz with hz | hz
    · simp only [zs, List.mem_map] at hz; obtain ⟨q, hq, rfl⟩ := hz; have := hl4 q hq; omega
    · rw [(List.mem_replicate.1 hz).2]; omega, hb2⟩
  case round =>
    clear hco2 hb1 hb2
    obtain ⟨j, Z, hj, rfl, hco, hv, hbd, hw⟩ := hrel
    rcases Nat.lt_or_ge j k with hjk | hjk
    · obtain ⟨g2, o2, rfl, hc2⟩ := hm.later_at hw j hjk
      obtain ⟨g1, hg1, hB1, hc1⟩ := hco.at (by omega)
      cases hg1
      obtain ⟨hc1, hf1⟩ := hc1 j (by omega)
      rw [zs_getD] at hc2
      have hlt := getD_lt m hm4 j
      have hZl := hco.len
      have hz := hbd _ (getD_mem Z j (by omega))
      have hset := hco.set j (by omega) (Z.getD j 0 + (m.getD j 0 : Nat))
      have hvs := vali_set 10000 Z j (Z.getD j 0 + (m.getD j 0 : Nat)) (by omega)
      have hts := val_take_succ 10000 m j (by omega)
      have HF := Lib.hid (show ∃ Z', Cols (wr.setCell ⟨w.heap.size, j, none⟩ (.int .i64 (Z.getD j 0 + (m.getD j 0 : Nat)))) w.heap.size (some ⟨w.heap.size, 0, none⟩) p p Z' ∧ vali 10000 Z' = (x : Int) + V (m.take (j + 1)) ∧ (∀ z ∈ Z', 0 ≤ z ∧ z ≤ 10000 * (((j + 1 : Nat) : Int) + 1)) by
        refine ⟨_, hset, ?_, ?_⟩
        · rw [hvs, hv, show V (m.take (j + 1)) = _ from hts, Int.natCast_add, Int.natCast_mul]
          rw [show Z.getD j 0 + ((m.getD j 0 : Nat) : Int) - Z.getD j 0 = ((m.getD j 0 : Nat) : Int) by omega]
          show (x : Int) + V (m.take j) + _ = (x : Int) + (V (m.take j) + _)
          omega
        · intro z hz'
          rcases List.mem_or_eq_of_mem_set hz' with h | h
          · have := hbd z h; omega
          · subst h; omega)
      generalize Z.getD j 0 = z at *
      generalize m.getD j 0 = y1 at *
      clear hl hm hl4 hm4 hx hy hbd hv hset hvs hts hco hZl hll hml hsum
      go_wp2_with fail
      go_roundw
      case rel =>
        obtain ⟨Z', h1, h2, h3⟩ := HF.out
        exact ⟨j + 1, Z', by omega, by go_num, h1, h2, h3, hw.setCell (p := ⟨w.heap.size, j, none⟩) (Nat.le_refl _) _⟩
      case measure => simp [intOf]; omega
    · obtain rfl : k = j := by omega
      rw [show V (m.take k) = y by rw [← hy]; exact val_full _ _ _ (by omega)] at hv
      have hcar := carried_any (some ⟨w.heap.size, 0, none⟩) p p (x + y) Z wr hco.isZ (fun z hz => by have := hbd z hz; omega) (by omega) (by rw [hv]; omega) hsum
      have Hcar := Lib.hid hcar
      clear hl hm hl4 hm4 hx hy hbd hv hco hll hml hcar hsum
      go_wp2_with (go_at_call 62; refine Hcar.out.mono ?_; rintro e w4 ⟨a4, n4, c4, rfl, hZ4, hb7⟩)
      go_ret
      exact ⟨_, _, _, rfl, hZ4, below_on hw hb7 hw.size⟩

end Go.Proofs.YtieaelipgieaoaaDoor
