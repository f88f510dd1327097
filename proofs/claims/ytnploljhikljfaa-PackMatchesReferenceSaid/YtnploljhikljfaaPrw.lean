/-
  Layer 7: rows of three integers that came in; the reference's pick; Made.
-/
import Derived.Test.YtnploljhikljfaaPwi
import Derived.Test.YtnploljhikljfaaFrame
import Derived.Deep.Cut
namespace Go.Proofs.Ytnploljhikljfaa
open Go.RowKit Bs Pk Go.ChangeAt

/-- a slice of rows of three integers that came in -/
def IsRows3 (W : World) (a : Option Addr) (len : Nat) : Prop :=
  len ≤ maxLen ∧ (len = 0 ∨ ∃ b off, a = some ⟨b, off, none⟩ ∧ ∀ i j, i < len → j < 3 → ∃ z : Int, W.cell? ⟨b, off + i * 3 + j, none⟩ = some (.int .i64 z) ∧ -9223372036854775808 ≤ z ∧ z ≤ 9223372036854775807)
theorem isRows3_of {H : Type} {enc : TypeId × Value → H} {W : World} {a : Option Addr} {len cap : Nat} {d : DataW H} {p : List MemPlace}
    (h : DataW.Trod enc Try.prog W 0 (fun _ => true) true 22 (.slice a len cap) d p) : IsRows3 W a len := by
  obtain ⟨fuel, hf⟩ := h
  rcases DataW.trod_slice Try.underlying22 hf with ⟨hcs, _⟩ | ⟨x, l, c, elems, rest, n, _, hcs, _, _, hlc, hmx, hlen, hel, _, _⟩
  · simp [Value.cells] at hcs
    obtain ⟨rfl, rfl, rfl⟩ := hcs
    exact ⟨Nat.zero_le _, .inl rfl⟩
  · simp [Value.cells] at hcs
    obtain ⟨rfl, rfl, rfl⟩ := hcs
    refine ⟨by omega, ?_⟩
    rcases Nat.eq_zero_or_pos len with h0 | h0
    · exact .inl h0
    · right
      have key : ∀ i j, i < len → j < 3 → ∃ z : Int, W.cell? (x.add (i * 3 + j)) = some (.int .i64 z) ∧ -9223372036854775808 ≤ z ∧ z ≤ 9223372036854775807 := by
        intro i j hi hj
        have e := hel i hi
        rw [List.getElem?_eq_getElem (by omega), Option.bind_eq_some_iff, show Try.prog.cellsOf 40 = 3 from by kernel_rfl] at e
        obtain ⟨cs, hcs, hy⟩ := e
        obtain ⟨_, hsz, hcell⟩ := World.cells?_some hcs
        obtain ⟨xs, m, -, -, -, hxl, hxs⟩ := DataW.trod_array Try.underlying40 hy
        have e1 := hxs j hj
        rw [List.getElem?_eq_getElem (by omega), show Try.prog.cellsOf 3 = 1 from by kernel_rfl, Nat.mul_one] at e1
        obtain ⟨b1, x1, -, z1⟩ := DataW.trod_int Try.underlying3 e1
        have hcj := hcell j hj
        obtain ⟨v, hv⟩ : ∃ v, cs[j]? = some v := ⟨_, List.getElem?_eq_getElem (by omega)⟩
        have ht : (cs.drop j).take 1 = [v] := by
          rw [List.drop_eq_getElem_cons (by omega)]
          rw [List.getElem?_eq_getElem (by omega)] at hv
          simp at hv
          simp [hv]
        rw [ht] at x1
        simp at x1
        refine ⟨b1, ?_, bounds_i64 z1⟩
        rw [hv, x1] at hcj
        have hadd : (x.add (i * 3)).add j = x.add (i * 3 + j) := by
          obtain ⟨b, off, f⟩ := x
          by_cases h1 : i * 3 = 0 <;> by_cases h2 : j = 0 <;> simp [Addr.add, h1, h2, Nat.add_assoc]
        rw [hadd] at hcj
        exact hcj
      obtain ⟨z0, hz0, _⟩ := key 0 0 h0 (by omega)
      obtain ⟨b, off, rfl⟩ := Fr.addr_plain (by simpa using hz0)
      refine ⟨b, off, rfl, fun i j hi hj => ?_⟩
      obtain ⟨z, hz, hb⟩ := key i j hi hj
      rw [Fr.add_plain, ← Nat.add_assoc] at hz
      exact ⟨z, hz, hb⟩

set_option maxRecDepth 100000 in
set_option maxHeartbeats 4000000 in
theorem rpick_any (c : Int) (h0 : -9223372036854775808 ≤ c) (h1 : c ≤ 9223372036854775807) (m : Nat) (M : Int) (hM : M = (m : Int)) (hm : 0 < m) :
    ∃ k : Nat, k < m ∧ ∀ w, Calls Try.prog 19 #[.int .i64 c, .int .i64 M] w fun e w' => e = .returned (.int .i64 (k : Int)) ∧ w' = w := by
  subst hM
  have hm0 : ((m : Int) == 0) = false := beq_false_of_ne (by omega)
  have hm1 : decide ((m : Int) = 0) = false := decide_eq_false (by omega)
  rcases Int.lt_or_le c 0 with h | h
  · obtain ⟨d, he⟩ : ∃ d : Nat, -(c + 1) = (d : Int) := ⟨(-(c + 1)).toNat, by omega⟩
    have hd : decide (c < 0) = true := decide_eq_true h
    have ht : (d : Int).tmod (m : Int) = ((d % m : Nat) : Int) := (Int.ofNat_tmod d m).symm
    have hlt := Nat.mod_lt d hm
    obtain ⟨k, hk⟩ : ∃ k, d % m = k := ⟨_, rfl⟩
    rw [hk] at ht hlt
    clear hk
    refine ⟨k, hlt, fun w => ?_⟩
    go_enter Try.func19, Try.ntmps19
    go_wp2_with fail
    go_ret
    exact ⟨rfl, rfl⟩
  · obtain ⟨d, rfl⟩ : ∃ d : Nat, c = (d : Int) := ⟨c.toNat, by omega⟩
    have ht : (d : Int).tmod (m : Int) = ((d % m : Nat) : Int) := (Int.ofNat_tmod d m).symm
    have hlt := Nat.mod_lt d hm
    obtain ⟨k, hk⟩ : ∃ k, d % m = k := ⟨_, rfl⟩
    rw [hk] at ht hlt
    clear hk h
    refine ⟨k, hlt, fun w => ?_⟩
    go_enter Try.func19, Try.ntmps19
    go_wp2_with fail
    go_ret
    exact ⟨rfl, rfl⟩
theorem own_shp {W : World} {base : Nat} {t : TypeId} {k : IntKind} {v : Value} {l : List Nat} (h : Bs.Own W base t k v l) : ∃ av cv, v = .slice av l.length cv := by
  rcases h.row.2 with ⟨rfl, h0⟩ | ⟨go, cap, cur, rfl, _⟩
  · exact ⟨none, 0, by rw [h0]⟩
  · exact ⟨_, _, rfl⟩
theorem wrap_bd (z : Int) : -9223372036854775808 ≤ IntKind.i64.wrap z ∧ IntKind.i64.wrap z ≤ 9223372036854775807 := by rw [IntKind.wrap_i64]; omega
theorem u8_mod (a : Nat) : IntKind.u8.wrap (a : Int) = ((a % 256 : Nat) : Int) := by rw [IntKind.wrap_u8]; omega
theorem ub_length1 (l : List Nat) : (ub l).length = l.length := by simp [ub]
/-- the state of Made's loops: some bytes, at most b of them -/
structure Md (W w : World) (v : Value) (b : Nat) : Prop where
  ex : ∃ cur : List Nat, cur.length ≤ b ∧ (∀ x ∈ cur, x < 256) ∧ Bs.Own W w.heap.size 5 .u8 v cur
  below : Below w.heap.size w W

set_option maxRecDepth 100000 in
set_option maxHeartbeats 8000000 in
theorem Made_any (a : Option Addr) (len c : Nat) (w : World) (hR : IsRows3 w a len) :
    Calls Try.prog 12 #[.slice a len c] w fun e w' => ∃ t : List UInt8, t.length ≤ 600 ∧ e = .returned (.string (bs t)) ∧ Below w.heap.size w w' := by
  obtain ⟨i0, hi, hz0, hz1, hz2⟩ := infoB_parts
  have hlen := hR.1
  have HR := Lib.hid hR
  clear hR
  go_enter Try.func12, Try.ntmps12
  go_wp2_with fail
  go_loopw [3, 4] (fun v i wr => ∃ j : Nat, j ≤ len ∧ i = .int .i64 j ∧ Md wr w v 530) (fun _ i _ => len - (intOf i).toNat)
  case atStart => exact ⟨0, Nat.zero_le _, rfl, ⟨[], by simp, by simp, Bs.Own.nil _ _ _ _⟩, Below.refl _ _⟩
  case round =>
    obtain ⟨j, hj, rfl, ⟨cur, hcl, hc6, hown⟩, hB⟩ := hrel
    obtain ⟨av, cv, rfl⟩ := own_shp hown
    obtain ⟨n, hn⟩ : ∃ n, cur.length = n := ⟨_, rfl⟩
    rw [hn] at hcl hown ⊢
    by_cases g1 : j < len ∧ j < 40 ∧ n < 500
    · obtain ⟨g1, g2, g3⟩ := g1
      have d1 : decide ((j : Int) < (len : Int)) = true := decide_eq_true (by omega)
      have d2 : decide ((j : Int) < 40) = true := decide_eq_true (by omega)
      have d3 : decide ((n : Int) < 500) = true := decide_eq_true (by omega)
      have d1' : decide (j < len) = true := decide_eq_true g1
      have d2' : decide (j < 40) = true := decide_eq_true g2
      have d3' : decide (n < 500) = true := decide_eq_true g3
      obtain ⟨b, off, rfl, hcells⟩ := HR.out.2.resolve_left (by omega)
      obtain ⟨z0, hz0c, hz0a, hz0b⟩ := hcells j 0 g1 (by omega)
      obtain ⟨z1, hz1c, hz1a, hz1b⟩ := hcells j 1 g1 (by omega)
      obtain ⟨z2, hz2c, hz2a, hz2b⟩ := hcells j 2 g1 (by omega)
      have hbl := block_lt_of_cell hz1c
      rw [Nat.add_zero] at hz0c
      have HC2 := Lib.hid hz2c
      have c0 := (hB.cell (p := ⟨b, off + j * 3, none⟩) hbl).trans hz0c
      have c1 := (hB.cell (p := ⟨b, off + j * 3 + 1, none⟩) hbl).trans hz1c
      obtain ⟨m, hm, PM⟩ := rpick_any z1 hz1a hz1b 30 30 rfl (by omega)
      obtain ⟨q, hq, PQ⟩ := rpick_any z0 hz0a hz0b 4 4 rfl (by omega)
      replace PM := Lib.hid PM
      replace PQ := Lib.hid PQ
      have hw1 : IntKind.i64.wrap (1 + (m : Int)) = ((m + 1 : Nat) : Int) := by rw [IntKind.wrap_i64]; omega
      obtain ⟨M, hM⟩ : ∃ M, m + 1 = M := ⟨_, rfl⟩
      rw [hM] at hw1
      have HOW := Lib.hid hown
      have HB := Lib.hid hB
      have HC6 := Lib.hid hc6
      have HN := Lib.hid hn
      clear hcells hz0c hz1c hz2c hown hB hc6 hn
      have i1 : (0 : Int) ≤ (j : Int) := by omega
      have i2 : (j : Int) < (len : Int) := by omega
      have hq4 : q = 0 ∨ q = 1 ∨ q = 2 ∨ q = 3 := by omega
      have hnM : n + M ≤ 530 := by omega
      have hMd : Md wr w (.slice av n cv) n := ⟨⟨cur, by rw [HN.out]; exact Nat.le_refl _, HC6.out, HOW.out⟩, HB.out⟩
      have HMd := Lib.hid hMd
      clear hMd HOW HC6 HN HB
      rcases hq4 with rfl | rfl | rfl | rfl
      · go_wp2_with (first
          | (go_at_call 19; (with_reducible refine (PM.out _).mono ?_); rintro e ww ⟨rfl, hww⟩; rw [hww]; clear hww ww)
          | (go_at_call 19; (with_reducible refine (PQ.out _).mono ?_); rintro e ww ⟨rfl, hww⟩; rw [hww]; clear hww ww))
        clear c0 c1 PM PQ
        go_loopw [3, 6] (fun v i wr => ∃ k : Nat, k ≤ M ∧ i = .int .i64 k ∧ Md wr w v (n + k)) (fun _ i _ => M - (intOf i).toNat)
        case atStart => exact ⟨0, Nat.zero_le _, rfl, HMd.out⟩
        case round =>
          clear HMd
          obtain ⟨k, hk, rfl, ⟨cur2, hcl2, hc62, hown2⟩, hB2⟩ := hrel
          obtain ⟨av2, cv2, rfl⟩ := own_shp hown2
          have c2 := (hB2.cell (p := ⟨b, off + j * 3 + 2, none⟩) hbl).trans HC2.out
          rcases Nat.lt_or_ge k M with g4 | g4
          · have d4 : decide ((k : Int) < (M : Int)) = true := decide_eq_true (by omega)
            have d4' : decide (k < M) = true := decide_eq_true g4
            have hkk : k * k ≤ 30 * 30 := Nat.mul_le_mul (by omega) (by omega)
            have hwk : IntKind.i64.wrap ((k : Int) * (k : Int)) = ((k * k : Nat) : Int) := by rw [← Int.natCast_mul, IntKind.wrap_i64]; omega
            obtain ⟨r, hr⟩ : ∃ r, k * k = r := ⟨_, rfl⟩
            rw [hr] at hwk
            obtain ⟨cc, hcc⟩ : ∃ cc, IntKind.i64.wrap (z2 + (r : Int)) = cc := ⟨_, rfl⟩
            obtain ⟨p, hp, PK⟩ := rpick_any cc (by rw [← hcc]; exact (wrap_bd _).1) (by rw [← hcc]; exact (wrap_bd _).2) 5 5 rfl (by omega)
            replace PK := Lib.hid PK
            have hw3 : IntKind.i64.wrap (97 + (p : Int)) = ((97 + p : Nat) : Int) := by rw [IntKind.wrap_i64]; omega
            have hw4 : IntKind.u8.wrap ((97 + p : Nat) : Int) = ((97 + p : Nat) : Int) := by rw [IntKind.wrap_u8]; omega
            obtain ⟨X, hX⟩ : ∃ X, 97 + p = X := ⟨_, rfl⟩
            rw [hX] at hw3 hw4
            have hX2 : X < 256 := by omega
            clear hX hr hkk
            have HOW2 := Lib.hid hown2
            have HB2 := Lib.hid hB2
            have HC62 := Lib.hid hc62
            have HX6 : Hid (X < 256) := Lib.hid (by omega)
            have HCL : Hid (cur2.length ≤ n + k) := Lib.hid hcl2
            have hll : cur2.length ≤ 530 := by omega
            have hws := hB2.size
            have HN1 : Hid (Nums (wr.alloc (Obj.cells #[Value.int .u8 (X : Int)] 5)) wr.heap.size 0 1 .u8 [X]) := Lib.hid (by
              have := Nums.fresh (W := wr) (t := 5) (k := .u8) [X] 1 rfl
              exact this)
            obtain ⟨len2, hlen2⟩ : ∃ l, cur2.length = l := ⟨_, rfl⟩
            rw [hlen2] at HOW2 hll HCL ⊢
            have HL2 := Lib.hid hlen2
            clear hlen2 hcl2 hown2 hB2 hc62
            go_wp2_with (first
              | (go_at_call 19; (with_reducible refine (PK.out _).mono ?_); rintro e ww ⟨rfl, hww⟩; rw [hww]; clear hww ww)
              | (refine wpList_pushN rfl _ _ 29 rfl w.heap.size 5 i0 (.int .u8 0) 1 Try.underlying29 hi hz0 hz1 hz2 rfl (by omega) .u8 _ cur2 rfl (HOW2.out.alloc _) wr.heap.size 0 1 1 [X] rfl HN1.out rfl (by rw [HL2.out]; omega) (by rw [World.size_alloc]; omega) ?_))
            intro v5 w5 hown5 hB5
            go_wp2_with fail
            go_roundw
            case rel =>
              refine ⟨k + 1, by omega, by go_num, ⟨cur2 ++ [X], by have := HCL.out; have := HL2.out; simp; omega, ?_, hown5⟩, (HB2.out.alloc hws _).trans hB5⟩
              intro x hx
              simp only [List.mem_append, List.mem_singleton] at hx
              rcases hx with hx | rfl
              · exact HC62.out x hx
              · exact HX6.out
            case measure => simp [intOf]; omega
          · have d4 : decide ((k : Int) < (M : Int)) = false := decide_eq_false (by omega)
            have d4' : decide (k < M) = false := decide_eq_false (by omega)
            have HMd2 : Hid (Md wr w (.slice av2 cur2.length cv2) 530) := Lib.hid ⟨⟨cur2, by omega, hc62, hown2⟩, hB2⟩
            clear hown2 hB2 hc62 hcl2
            go_wp2_with fail
            go_roundw
            case rel => exact ⟨j + 1, by omega, by go_num, HMd2.out⟩
            case measure => simp [intOf]; omega
      · go_wp2_with (first
          | (go_at_call 19; (with_reducible refine (PM.out _).mono ?_); rintro e ww ⟨rfl, hww⟩; rw [hww]; clear hww ww)
          | (go_at_call 19; (with_reducible refine (PQ.out _).mono ?_); rintro e ww ⟨rfl, hww⟩; rw [hww]; clear hww ww))
        clear c0 c1 PM PQ
        go_loopw [3, 7] (fun v i wr => ∃ k : Nat, k ≤ M ∧ i = .int .i64 k ∧ Md wr w v (n + k)) (fun _ i _ => M - (intOf i).toNat)
        case atStart => exact ⟨0, Nat.zero_le _, rfl, HMd.out⟩
        case round =>
          clear HMd
          obtain ⟨k, hk, rfl, ⟨cur2, hcl2, hc62, hown2⟩, hB2⟩ := hrel
          obtain ⟨av2, cv2, rfl⟩ := own_shp hown2
          have c2 := (hB2.cell (p := ⟨b, off + j * 3 + 2, none⟩) hbl).trans HC2.out
          rcases Nat.lt_or_ge k M with g4 | g4
          · have d4 : decide ((k : Int) < (M : Int)) = true := decide_eq_true (by omega)
            have d4' : decide (k < M) = true := decide_eq_true g4
            obtain ⟨X, hX, PK⟩ := rpick_any z2 hz2a hz2b 256 256 rfl (by omega)
            replace PK := Lib.hid PK
            have hw4 : IntKind.u8.wrap (X : Int) = (X : Int) := by rw [IntKind.wrap_u8]; omega
            have HOW2 := Lib.hid hown2
            have HB2 := Lib.hid hB2
            have HC62 := Lib.hid hc62
            have HX6 : Hid (X < 256) := Lib.hid (by omega)
            have HCL : Hid (cur2.length ≤ n + k) := Lib.hid hcl2
            have hll : cur2.length ≤ 530 := by omega
            have hws := hB2.size
            have HN1 : Hid (Nums (wr.alloc (Obj.cells #[Value.int .u8 (X : Int)] 5)) wr.heap.size 0 1 .u8 [X]) := Lib.hid (by
              have := Nums.fresh (W := wr) (t := 5) (k := .u8) [X] 1 rfl
              exact this)
            obtain ⟨len2, hlen2⟩ : ∃ l, cur2.length = l := ⟨_, rfl⟩
            rw [hlen2] at HOW2 hll HCL ⊢
            have HL2 := Lib.hid hlen2
            clear hlen2 hcl2 hown2 hB2 hc62
            go_wp2_with (first
              | (go_at_call 19; (with_reducible refine (PK.out _).mono ?_); rintro e ww ⟨rfl, hww⟩; rw [hww]; clear hww ww)
              | (refine wpList_pushN rfl _ _ 29 rfl w.heap.size 5 i0 (.int .u8 0) 1 Try.underlying29 hi hz0 hz1 hz2 rfl (by omega) .u8 _ cur2 rfl (HOW2.out.alloc _) wr.heap.size 0 1 1 [X] rfl HN1.out rfl (by rw [HL2.out]; omega) (by rw [World.size_alloc]; omega) ?_))
            intro v5 w5 hown5 hB5
            go_wp2_with fail
            go_roundw
            case rel =>
              refine ⟨k + 1, by omega, by go_num, ⟨cur2 ++ [X], by have := HCL.out; have := HL2.out; simp; omega, ?_, hown5⟩, (HB2.out.alloc hws _).trans hB5⟩
              intro x hx
              simp only [List.mem_append, List.mem_singleton] at hx
              rcases hx with hx | rfl
              · exact HC62.out x hx
              · exact HX6.out
            case measure => simp [intOf]; omega
          · have d4 : decide ((k : Int) < (M : Int)) = false := decide_eq_false (by omega)
            have d4' : decide (k < M) = false := decide_eq_false (by omega)
            have HMd2 : Hid (Md wr w (.slice av2 cur2.length cv2) 530) := Lib.hid ⟨⟨cur2, by omega, hc62, hown2⟩, hB2⟩
            clear hown2 hB2 hc62 hcl2
            go_wp2_with fail
            go_roundw
            case rel => exact ⟨j + 1, by omega, by go_num, HMd2.out⟩
            case measure => simp [intOf]; omega
      · have hw7 : IntKind.i64.wrap ((n : Int) + 1) = ((n + 1 : Nat) : Int) := by rw [IntKind.wrap_i64]; omega
        obtain ⟨n1, hn1⟩ : ∃ n1, n + 1 = n1 := ⟨_, rfl⟩
        rw [hn1] at hw7
        obtain ⟨fr, hfr, PF⟩ := rpick_any z2 hz2a hz2b n1 (n1 : Int) rfl (by omega)
        replace PF := Lib.hid PF
        have c2 := (HMd.out.below.cell (p := ⟨b, off + j * 3 + 2, none⟩) hbl).trans HC2.out
        have hfrn : fr ≤ 530 := by omega
        clear hn1
        go_wp2_with (first
          | (go_at_call 19; (with_reducible refine (PM.out _).mono ?_); rintro e ww ⟨rfl, hww⟩; rw [hww]; clear hww ww)
          | (go_at_call 19; (with_reducible refine (PQ.out _).mono ?_); rintro e ww ⟨rfl, hww⟩; rw [hww]; clear hww ww)
          | (go_at_call 19; (with_reducible refine (PF.out _).mono ?_); rintro e ww ⟨rfl, hww⟩; rw [hww]; clear hww ww))
        clear c0 c1 c2 PM PQ PF
        go_loopw [3, 9] (fun v i wr => ∃ k : Nat, k ≤ M ∧ i = .int .i64 k ∧ Md wr w v (n + k)) (fun _ i _ => M - (intOf i).toNat)
        case atStart => exact ⟨0, Nat.zero_le _, rfl, HMd.out⟩
        case round =>
          clear HMd
          obtain ⟨k, hk, rfl, ⟨cur2, hcl2, hc62, hown2⟩, hB2⟩ := hrel
          obtain ⟨av2, cv2, rfl⟩ := own_shp hown2
          have hw8 : IntKind.i64.wrap ((fr : Int) + (k : Int)) = ((fr + k : Nat) : Int) := by rw [IntKind.wrap_i64]; omega
          obtain ⟨fk, hfk⟩ : ∃ fk, fr + k = fk := ⟨_, rfl⟩
          rw [hfk] at hw8
          obtain ⟨lc, hlc⟩ : ∃ lc, cur2.length = lc := ⟨_, rfl⟩
          by_cases g4 : k < M ∧ fk < lc ∧ lc < 520
          · obtain ⟨g4, g5, g6⟩ := g4
            have d4 : decide ((k : Int) < (M : Int)) = true := decide_eq_true (by omega)
            have d4' : decide (k < M) = true := decide_eq_true g4
            have d5 : decide ((fk : Int) < (lc : Int)) = true := decide_eq_true (by omega)
            have d5' : decide (fk < lc) = true := decide_eq_true g5
            have d6 : decide ((lc : Int) < 520) = true := decide_eq_true (by omega)
            have d6' : decide (lc < 520) = true := decide_eq_true g6
            obtain ⟨X, hX⟩ : ∃ X, cur2.getD fk 0 = X := ⟨_, rfl⟩
            have hX2 : X < 256 := by
              rw [← hX, List.getD_eq_getElem?_getD, List.getElem?_eq_getElem (by omega)]
              exact hc62 _ (List.getElem_mem _)
            obtain ⟨gx, capx, hav, _, _, hgc⟩ := hown2.cells (by omega)
            injection hav with e1 e2 e3
            subst e1
            have cx := hgc fk (by omega)
            rw [hX] at cx
            rw [hlc]
            clear e2 e3 hgc hX
            have HOW2 := Lib.hid hown2
            have HB2 := Lib.hid hB2
            have HC62 := Lib.hid hc62
            have HX6 : Hid (X < 256) := Lib.hid (by omega)
            have HCL : Hid (cur2.length ≤ n + k) := Lib.hid hcl2
            have hll : cur2.length ≤ 530 := by omega
            have hws := hB2.size
            have HN1 : Hid (Nums (wr.alloc (Obj.cells #[Value.int .u8 (X : Int)] 5)) wr.heap.size 0 1 .u8 [X]) := Lib.hid (by
              have := Nums.fresh (W := wr) (t := 5) (k := .u8) [X] 1 rfl
              exact this)
            rw [hlc] at HOW2 hll HCL
            have HL2 := Lib.hid hlc
            have i3 : (0 : Int) ≤ (fk : Int) := by omega
            have i4 : (fk : Int) < (lc : Int) := by omega
            clear hlc hcl2 hown2 hB2 hc62 hfk
            go_wp2_with ((refine wpList_pushN rfl _ _ 29 rfl w.heap.size 5 i0 (.int .u8 0) 1 Try.underlying29 hi hz0 hz1 hz2 rfl (by omega) .u8 _ cur2 rfl (HOW2.out.alloc _) wr.heap.size 0 1 1 [X] rfl HN1.out rfl (by rw [HL2.out]; omega) (by rw [World.size_alloc]; omega) ?_))
            intro v5 w5 hown5 hB5
            go_wp2_with fail
            go_roundw
            case rel =>
              refine ⟨k + 1, by omega, by go_num, ⟨cur2 ++ [X], by have := HCL.out; have := HL2.out; simp; omega, ?_, hown5⟩, (HB2.out.alloc hws _).trans hB5⟩
              intro x hx
              simp only [List.mem_append, List.mem_singleton] at hx
              rcases hx with hx | rfl
              · exact HC62.out x hx
              · exact HX6.out
            case measure => simp [intOf]; omega
          · have HMd2 : Hid (Md wr w (.slice av2 lc cv2) 530) := Lib.hid (by rw [← hlc]; exact ⟨⟨cur2, by omega, hc62, hown2⟩, hB2⟩)
            rw [hlc]
            clear hown2 hB2 hc62 hcl2 hlc hfk
            by_cases h1 : k < M
            · have d4 : decide ((k : Int) < (M : Int)) = true := decide_eq_true (by omega)
              have d4' : decide (k < M) = true := decide_eq_true h1
              by_cases h2 : fk < lc
              · have d5 : decide ((fk : Int) < (lc : Int)) = true := decide_eq_true (by omega)
                have d5' : decide (fk < lc) = true := decide_eq_true h2
                have d6 : decide ((lc : Int) < 520) = false := decide_eq_false (by omega)
                have d6' : decide (lc < 520) = false := decide_eq_false (by omega)
                go_wp2_with fail
                go_roundw
                case rel => exact ⟨j + 1, by omega, by go_num, HMd2.out⟩
                case measure => simp [intOf]; omega
              · have d5 : decide ((fk : Int) < (lc : Int)) = false := decide_eq_false (by omega)
                have d5' : decide (fk < lc) = false := decide_eq_false (by omega)
                go_wp2_with fail
                go_roundw
                case rel => exact ⟨j + 1, by omega, by go_num, HMd2.out⟩
                case measure => simp [intOf]; omega
            · have d4 : decide ((k : Int) < (M : Int)) = false := decide_eq_false (by omega)
              have d4' : decide (k < M) = false := decide_eq_false (by omega)
              go_wp2_with fail
              go_roundw
              case rel => exact ⟨j + 1, by omega, by go_num, HMd2.out⟩
              case measure => simp [intOf]; omega
      · go_wp2_with (first
          | (go_at_call 19; (with_reducible refine (PM.out _).mono ?_); rintro e ww ⟨rfl, hww⟩; rw [hww]; clear hww ww)
          | (go_at_call 19; (with_reducible refine (PQ.out _).mono ?_); rintro e ww ⟨rfl, hww⟩; rw [hww]; clear hww ww))
        clear c0 c1 PM PQ
        go_loopw [3, 10] (fun v i wr => ∃ k : Nat, k ≤ M ∧ i = .int .i64 k ∧ Md wr w v (n + k)) (fun _ i _ => M - (intOf i).toNat)
        case atStart => exact ⟨0, Nat.zero_le _, rfl, HMd.out⟩
        case round =>
          clear HMd
          obtain ⟨k, hk, rfl, ⟨cur2, hcl2, hc62, hown2⟩, hB2⟩ := hrel
          obtain ⟨av2, cv2, rfl⟩ := own_shp hown2
          have c2 := (hB2.cell (p := ⟨b, off + j * 3 + 2, none⟩) hbl).trans HC2.out
          rcases Nat.lt_or_ge k M with g4 | g4
          · have d4 : decide ((k : Int) < (M : Int)) = true := decide_eq_true (by omega)
            have d4' : decide (k < M) = true := decide_eq_true g4
            obtain ⟨p, hp, PK⟩ := rpick_any z2 hz2a hz2b 256 256 rfl (by omega)
            replace PK := Lib.hid PK
            have hw3 : IntKind.i64.wrap (37 * (k : Int)) = ((37 * k : Nat) : Int) := by rw [IntKind.wrap_i64]; omega
            obtain ⟨r, hr⟩ : ∃ r, 37 * k = r := ⟨_, rfl⟩
            rw [hr] at hw3
            have hw4 : IntKind.i64.wrap ((p : Int) + (r : Int)) = ((p + r : Nat) : Int) := by rw [IntKind.wrap_i64]; omega
            obtain ⟨r2, hr2⟩ : ∃ r2, p + r = r2 := ⟨_, rfl⟩
            rw [hr2] at hw4
            have hw5 := u8_mod r2
            obtain ⟨X, hX⟩ : ∃ X, r2 % 256 = X := ⟨_, rfl⟩
            rw [hX] at hw5
            have hX2 : X < 256 := by omega
            clear hX hr hr2
            have HOW2 := Lib.hid hown2
            have HB2 := Lib.hid hB2
            have HC62 := Lib.hid hc62
            have HX6 : Hid (X < 256) := Lib.hid (by omega)
            have HCL : Hid (cur2.length ≤ n + k) := Lib.hid hcl2
            have hll : cur2.length ≤ 530 := by omega
            have hws := hB2.size
            have HN1 : Hid (Nums (wr.alloc (Obj.cells #[Value.int .u8 (X : Int)] 5)) wr.heap.size 0 1 .u8 [X]) := Lib.hid (by
              have := Nums.fresh (W := wr) (t := 5) (k := .u8) [X] 1 rfl
              exact this)
            obtain ⟨len2, hlen2⟩ : ∃ l, cur2.length = l := ⟨_, rfl⟩
            rw [hlen2] at HOW2 hll HCL ⊢
            have HL2 := Lib.hid hlen2
            clear hlen2 hcl2 hown2 hB2 hc62
            go_wp2_with (first
              | (go_at_call 19; (with_reducible refine (PK.out _).mono ?_); rintro e ww ⟨rfl, hww⟩; rw [hww]; clear hww ww)
              | (refine wpList_pushN rfl _ _ 29 rfl w.heap.size 5 i0 (.int .u8 0) 1 Try.underlying29 hi hz0 hz1 hz2 rfl (by omega) .u8 _ cur2 rfl (HOW2.out.alloc _) wr.heap.size 0 1 1 [X] rfl HN1.out rfl (by rw [HL2.out]; omega) (by rw [World.size_alloc]; omega) ?_))
            intro v5 w5 hown5 hB5
            go_wp2_with fail
            go_roundw
            case rel =>
              refine ⟨k + 1, by omega, by go_num, ⟨cur2 ++ [X], by have := HCL.out; have := HL2.out; simp; omega, ?_, hown5⟩, (HB2.out.alloc hws _).trans hB5⟩
              intro x hx
              simp only [List.mem_append, List.mem_singleton] at hx
              rcases hx with hx | rfl
              · exact HC62.out x hx
              · exact HX6.out
            case measure => simp [intOf]; omega
          · have d4 : decide ((k : Int) < (M : Int)) = false := decide_eq_false (by omega)
            have d4' : decide (k < M) = false := decide_eq_false (by omega)
            have HMd2 : Hid (Md wr w (.slice av2 cur2.length cv2) 530) := Lib.hid ⟨⟨cur2, by omega, hc62, hown2⟩, hB2⟩
            clear hown2 hB2 hc62 hcl2
            go_wp2_with fail
            go_roundw
            case rel => exact ⟨j + 1, by omega, by go_num, HMd2.out⟩
            case measure => simp [intOf]; omega
    · have hcv := conv_own hown hc6
      have HB := Lib.hid hB
      have HCL : Hid (cur.length ≤ 530) := Lib.hid (by omega)
      clear hown hB hn
      by_cases h1 : j < len
      · have d1 : decide ((j : Int) < (len : Int)) = true := decide_eq_true (by omega)
        have d1' : decide (j < len) = true := decide_eq_true h1
        by_cases h2 : j < 40
        · have d2 : decide ((j : Int) < 40) = true := decide_eq_true (by omega)
          have d2' : decide (j < 40) = true := decide_eq_true h2
          have d3 : decide ((n : Int) < 500) = false := decide_eq_false (by omega)
          have d3' : decide (n < 500) = false := decide_eq_false (by omega)
          go_wp2_with fail
          go_ret
          exact ⟨_, by rw [ub_length1]; have := HCL.out; omega, rfl, HB.out⟩
        · have d2 : decide ((j : Int) < 40) = false := decide_eq_false (by omega)
          have d2' : decide (j < 40) = false := decide_eq_false (by omega)
          go_wp2_with fail
          go_ret
          exact ⟨_, by rw [ub_length1]; have := HCL.out; omega, rfl, HB.out⟩
      · have d1 : decide ((j : Int) < (len : Int)) = false := decide_eq_false (by omega)
        have d1' : decide (j < len) = false := decide_eq_false (by omega)
        go_wp2_with fail
        go_ret
        exact ⟨_, by rw [ub_length1]; have := HCL.out; omega, rfl, HB.out⟩

end Go.Proofs.Ytnploljhikljfaa
