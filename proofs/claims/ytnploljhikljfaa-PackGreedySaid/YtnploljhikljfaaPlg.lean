/-
  PackGreedy: for every rows of integers and every string the law returns true.
-/
import Derived.Test.YtnploljhikljfaaPlb
import Derived.Test.YtnploljhikljfaaPwj
import Derived.Deep.Cut
namespace Go.Proofs.Ytnploljhikljfaa
open Go.RowKit Bs Pk

theorem Ls.drewQ {W : World} {g : Nat} {l : List ByteArray} (h : Ls W g l) (q : Nat) : Ls (W.drewN q) g l := ⟨h.row⟩
/-- what the law's walk through an encoding knows at a piece's beginning -/
structure At (u : List UInt8) (p i last : Nat) : Prop where
  hp : p ≤ u.length
  hi : (enc (nb u)).drop i = spells (nb u) (div (nb u) p p)
  hil : i ≤ (enc (nb u)).length
  hl : last = 128 ∨ p = u.length ∨ 4 ≤ (best (nb u) p).1
  hl2 : last ≤ 128
theorem getD_at {c : List Nat} {i x : Nat} {t : List Nat} (h : c.drop i = x :: t) : c.getD i 0 = x := (getD_drop c i x t h).1
theorem At.copy {u : List UInt8} {p i last : Nat} (h : At u p i last) (hlt : i < (enc (nb u)).length) (hb : 4 ≤ (best (nb u) p).1) :
    p < u.length ∧ (enc (nb u)).getD i 0 = 124 + (best (nb u) p).1 ∧ (enc (nb u)).getD (i + 1) 0 = (best (nb u) p).2 ∧ i + 2 ≤ (enc (nb u)).length ∧ At u (p + (best (nb u) p).1) (i + 2) 128 := by
  have hpl : p < u.length := by
    rcases Nat.lt_or_ge p u.length with h1 | h1
    · exact h1
    · have := best_room (nb u) p (by rw [nb_length]; exact h.hp)
      rw [nb_length] at this; omega
  have hr := best_room (nb u) p (by rw [nb_length]; exact h.hp)
  rw [nb_length] at hr
  have hd := div_copy (nb u) p p (by rw [nb_length]; exact hpl) hb
  rw [if_neg (by omega), List.nil_append] at hd
  have h1 := h.hi
  rw [hd, spells_cons] at h1
  have h1' : (enc (nb u)).drop i = (124 + (best (nb u) p).1) :: (best (nb u) p).2 :: spells (nb u) (div (nb u) (p + (best (nb u) p).1) (p + (best (nb u) p).1)) := h1
  obtain ⟨g1, g2, g3⟩ := getD_drop _ _ _ _ h1'
  obtain ⟨g4, g5, g6⟩ := getD_drop _ _ _ _ g3
  exact ⟨hpl, g1, g4, by omega, hr, g6, by omega, .inl rfl, Nat.le_refl _⟩
theorem At.run {u : List UInt8} {p i last : Nat} (h : At u p i last) (hlt : i < (enc (nb u)).length) (hb : (best (nb u) p).1 < 4) :
    ∃ m, 1 ≤ m ∧ m ≤ 128 ∧ p + m ≤ u.length ∧ last = 128 ∧ (enc (nb u)).getD i 0 = m - 1 ∧ i + 1 + m ≤ (enc (nb u)).length ∧ ((enc (nb u)).drop (i + 1)).take m = ((nb u).drop p).take m ∧
      (∀ j, p ≤ j → j < p + m → (best (nb u) j).1 < 4) ∧ At u (p + m) (i + 1 + m) m := by
  have hpl : p < u.length := by
    rcases Nat.lt_or_ge p u.length with h1 | h1
    · exact h1
    · have h2 := h.hi
      rw [div_nil _ _ (by rw [nb_length]; exact h1)] at h2
      have := congrArg List.length h2
      rw [List.length_drop] at this
      simp [spells] at this
      omega
  obtain ⟨m, m1, m2, m3, m4, m5, m6⟩ := greedy_run (nb u) p (by rw [nb_length]; exact hpl) hb
  rw [nb_length] at m3 m6
  have h1 := h.hi
  rw [m4, spells_cons] at h1
  have h1' : (enc (nb u)).drop i = (m - 1) :: (((nb u).drop p).take m ++ spells (nb u) (div (nb u) (p + m) (p + m))) := h1
  obtain ⟨g1, g2, g3⟩ := getD_drop _ _ _ _ h1'
  have hl : (((nb u).drop p).take m).length = m := by rw [List.length_take, List.length_drop, nb_length]; omega
  have hlen := congrArg List.length g3
  rw [List.length_drop, List.length_append, hl] at hlen
  refine ⟨m, m1, m2, m3, ?_, g1, by omega, ?_, m5, m3, ?_, by omega, m6, m2⟩
  · rcases h.hl with h2 | h2 | h2
    · exact h2
    · omega
    · omega
  · rw [g3, List.take_append_of_le_length (by omega), List.take_of_length_le (by omega)]
  · rw [← List.drop_drop, g3, List.drop_append_of_le_length (by omega), List.drop_of_length_le (by omega), List.nil_append]
theorem At.done {u : List UInt8} {p i last : Nat} (h : At u p i last) (hge : (enc (nb u)).length ≤ i) : p = u.length := by
  rcases Nat.lt_or_ge p u.length with h1 | h1
  · exfalso
    have h2 := h.hi
    rw [List.drop_of_length_le hge] at h2
    by_cases hb : 4 ≤ (best (nb u) p).1
    · rw [div_copy (nb u) p p (by rw [nb_length]; exact h1) hb, if_neg (by omega), List.nil_append, spells_cons] at h2
      simp [spell] at h2
    · obtain ⟨m, _, _, _, m4, _, _⟩ := greedy_run (nb u) p (by rw [nb_length]; exact h1) (by omega)
      rw [m4, spells_cons] at h2
      simp [spell] at h2
  · have := h.hp; omega

set_option maxRecDepth 100000 in
set_option maxHeartbeats 16000000 in
theorem PackGreedy_any (a : Option Addr) (n c : Nat) (s : ByteArray) (w : World) (hR : IsRows3 w a n) :
    Calls Try.prog 9 #[.slice a n c, .string s] w fun e w' => e = .returned (.bool true) ∧ Below w.heap.size w w' := by
  obtain ⟨t0, ht0, PC⟩ := pcut_any s
  have HS := Lib.hid psane_any
  replace PC := Lib.hid PC
  have HR := Lib.hid hR
  have HM := Lib.hid (fun W (h : IsRows3 W a n) => Made_any a n c W h)
  have HRW : Hid (∀ W, Below w.heap.size w W → IsRows3 W a n) := Lib.hid (fun W hb => by
    refine ⟨hR.1, hR.2.imp id ?_⟩
    rintro ⟨b, off, rfl, h⟩
    refine ⟨b, off, rfl, fun i j hi hj => ?_⟩
    obtain ⟨z, hz, hzb⟩ := h i j hi hj
    exact ⟨z, (hb.cell (p := ⟨b, off + i * 3 + j, none⟩) (block_lt_of_cell hz)).trans hz, hzb⟩)
  have HB := Lib.hid (Below.refl w.heap.size w)
  have HT0 := Lib.hid ht0
  clear hR ht0
  go_enter Try.func9, Try.ntmps9
  go_wp2_with (first
    | (go_at_call 10; (with_reducible refine (HS.out _).mono ?_); rintro e w1 ⟨rfl, hB⟩; replace HB := Lib.hid (below_on HB.out hB HB.out.size); clear hB)
    | (go_at_call 11; (with_reducible refine (PC.out _).mono ?_); rintro e ww ⟨rfl, hww⟩; rw [hww]; clear hww ww)
    | (go_at_call 12; (with_reducible refine (HM.out _ (HRW.out _ HB.out)).mono ?_); rintro e w2 ⟨t1, ht1, rfl, hB⟩; replace HB := Lib.hid (below_on HB.out hB HB.out.size); clear hB))
  have hws := HB.out.size
  have HL0 : Hid (Ls (w2.alloc (Obj.cells #[Value.string (bs t1), Value.string (bs t0)] 9)) w2.heap.size [bs t1, bs t0]) := Lib.hid ⟨heap_alloc_new _ _⟩
  have HB0 : Hid (Below w.heap.size w (w2.alloc (Obj.cells #[Value.string (bs t1), Value.string (bs t0)] 9))) := Lib.hid (HB.out.alloc hws _)
  obtain ⟨gl, hgl⟩ : ∃ gl, w2.heap.size = gl := ⟨_, rfl⟩
  obtain ⟨w3, hw3⟩ : ∃ w3, w2.alloc (Obj.cells #[Value.string (bs t1), Value.string (bs t0)] 9) = w3 := ⟨_, rfl⟩
  rw [hw3, hgl] at HL0
  rw [hw3] at HB0
  rw [hw3, hgl]
  clear hw3 hgl hws HB HM HRW HR HS PC
  go_loopw [26] (fun i wr => ∃ k : Nat, k ≤ 2 ∧ i = .int .i64 k ∧ Ls wr gl [bs t1, bs t0] ∧ Below w.heap.size w wr) (fun i _ => 2 - (intOf i).toNat)
  case atStart => exact ⟨0, by omega, rfl, HL0.out, HB0.out⟩
  case round =>
    clear HL0 HB0
    obtain ⟨K, hK, rfl, hL, hB⟩ := hrel
    rcases Nat.lt_or_ge K 2 with gK | gK
    · obtain ⟨u, hu, hcu⟩ : ∃ u : List UInt8, u.length ≤ 600 ∧ wr.cell? ⟨gl, K, none⟩ = some (.string (bs u)) := by
        have hc2 : K = 0 ∨ K = 1 := by omega
        rcases hc2 with rfl | rfl
        · exact ⟨t1, ht1, hL.get 0 (by simp)⟩
        · exact ⟨t0, HT0.out, hL.get 1 (by simp)⟩
      have dK : decide ((K : Int) < 2) = true := decide_eq_true (by omega)
      have iK1 : (0 : Int) ≤ (K : Int) := by omega
      have iK2 : (K : Int) < 2 := by omega
      have EN := Lib.hid (fun W => Encode_ok u (by omega) W)
      have hE1 := (enc_bound (nb u)).1
      rw [nb_length] at hE1
      have hEl : (enc (nb u)).length ≤ 700 := by omega
      have hElt := enc_lt _ (nb_lt u)
      have hCsz : (bs (ub (enc (nb u)))).size = (enc (nb u)).length := by rw [bs_size, ub_length1]
      have hSsz : (bs u).size = u.length := bs_size u
      have HAT := Lib.hid (fun (r : Nat) (hr : r < (enc (nb u)).length) (W : World) => by
        have h := str_at (ub (enc (nb u))) r (by rw [ub_length1]; exact hr) W
        rw [nb_ub hElt] at h; exact h)
      have HCT := Lib.hid (fun (x y : Nat) (h1 : x ≤ y) (h2 : y ≤ (enc (nb u)).length) (W : World) => str_cut (ub (enc (nb u))) x y h1 (by rw [ub_length1]; exact h2) W)
      have HST := Lib.hid (fun (x y : Nat) (h1 : x ≤ y) (h2 : y ≤ u.length) (W : World) => str_cut u x y h1 h2 W)
      have HMT := Lib.hid (fun (p d : Nat) (hd : 1 ≤ d) (hdp : d ≤ p) (hp : p ≤ u.length) (W : World) => matched_any u p d hd hdp hp (by omega) W)
      have HCC : Hid (∀ p i m : Nat, ((enc (nb u)).drop i).take m = ((nb u).drop p).take m → bs (((ub (enc (nb u))).drop i).take m) = bs ((u.drop p).take m)) := Lib.hid (fun p i m h => by
        congr 1
        have h2 := congrArg ub h
        unfold ub at h2 ⊢
        rw [List.map_take, List.map_drop, List.map_take, List.map_drop] at h2
        rw [h2]
        congr 2
        exact ub_nb u)
      have HA0 : Hid (At u 0 0 128) := Lib.hid ⟨Nat.zero_le _, rfl, Nat.zero_le _, .inl rfl, Nat.le_refl _⟩
      obtain ⟨S, hS⟩ : ∃ S, bs u = S := ⟨_, rfl⟩
      obtain ⟨C, hC⟩ : ∃ C, bs (ub (enc (nb u))) = C := ⟨_, rfl⟩
      rw [hS] at EN hSsz hcu HST HMT
      rw [hC] at EN hCsz HAT HCT
      obtain ⟨N, hN⟩ : ∃ N, u.length = N := ⟨_, rfl⟩
      obtain ⟨M, hM⟩ : ∃ M, (enc (nb u)).length = M := ⟨_, rfl⟩
      rw [hN] at hu hSsz HST HMT
      rw [hM] at hEl hCsz HAT HCT
      have HN := Lib.hid hN
      have HMM := Lib.hid hM
      have HL := Lib.hid hL
      have HB := Lib.hid hB
      clear hS hC hN hM hL hB hE1 hElt
      go_wp2_with (go_at_call 15; (with_reducible refine (EN.out _).mono ?_); rintro e w4 ⟨rfl, hB4⟩; replace HL := Lib.hid (HL.out.later hB4); replace HB := Lib.hid (below_on HB.out hB4 HB.out.size); clear hB4 hcu)
      go_loopw [10, 11, 12] (fun vp vi vl wr => ∃ p i la : Nat, vp = .int .i64 p ∧ vi = .int .i64 i ∧ vl = .int .i64 la ∧ At u p i la ∧ Ls wr gl [bs t1, bs t0] ∧ Below w.heap.size w wr) (fun _ vi _ _ => M - (intOf vi).toNat)
      case atStart => exact ⟨0, 0, 128, rfl, rfl, rfl, HA0.out, HL.out, HB.out⟩
      case round =>
        clear HL HB HA0
        obtain ⟨p, i, la, rfl, rfl, rfl, hA, hL, hB⟩ := hrel
        have hpN := hA.hp
        rw [HN.out] at hpN
        have hiM := hA.hil
        rw [HMM.out] at hiM
        rcases Nat.lt_or_ge i M with g1 | g1
        · have d1 : decide ((i : Int) < (M : Int)) = true := decide_eq_true (by omega)
          have hi1w : IntKind.i64.wrap ((i : Int) + 1) = ((i + 1 : Nat) : Int) := by rw [IntKind.wrap_i64]; omega
          have hat0 := HAT.out i g1
          by_cases hb : 4 ≤ (best (nb u) p).1
          · obtain ⟨hpl, e0, e1, hi2, hA2⟩ := hA.copy (by rw [HMM.out]; exact g1) hb
            have hble := best_le (nb u) p
            obtain ⟨D1a, D1b, D1c, D1d⟩ := best_ok (nb u) p hb
            have hnear := Lib.hid (fun k h1 h2 => mat_near (nb u) p k h1 h2)
            have hmost := Lib.hid (fun k h1 h2 h3 => mat_best (nb u) p k h1 h2 h3)
            have hroom := best_room (nb u) p (by rw [nb_length, HN.out]; exact hpN)
            rw [nb_length, HN.out] at hroom
            have hat1 := HAT.out (i + 1) (by rw [← HMM.out]; omega)
            rw [e1] at hat1
            rw [e0] at hat0
            rw [HMM.out] at hi2
            obtain ⟨B1, hB1⟩ : ∃ B1, (best (nb u) p).1 = B1 := ⟨_, rfl⟩
            obtain ⟨D1, hD1⟩ : ∃ D1, (best (nb u) p).2 = D1 := ⟨_, rfl⟩
            rw [hB1] at hat0 hA2 hble D1d hnear hmost hroom hb
            rw [hD1] at hat1 D1a D1b D1c D1d hnear
            obtain ⟨m0, hm0⟩ : ∃ m0, 124 + B1 = m0 := ⟨_, rfl⟩
            rw [hm0] at hat0
            have hw0 : IntKind.i64.wrap (m0 : Int) = (m0 : Int) := by rw [IntKind.wrap_i64]; omega
            have hw1 : IntKind.i64.wrap ((m0 : Int) + 1) = ((m0 + 1 : Nat) : Int) := by rw [IntKind.wrap_i64]; omega
            obtain ⟨m1, hm1⟩ : ∃ m1, m0 + 1 = m1 := ⟨_, rfl⟩
            rw [hm1] at hw1
            have d2 : decide ((m1 : Int) ≤ 128) = false := decide_eq_false (by omega)
            have d2' : decide (m1 ≤ 128) = false := decide_eq_false (by omega)
            have hw2 : IntKind.i64.wrap ((i : Int) + 2) = ((i + 2 : Nat) : Int) := by rw [IntKind.wrap_i64]; omega
            obtain ⟨i1, hi1⟩ : ∃ i1, i + 1 = i1 := ⟨_, rfl⟩
            obtain ⟨i2, hi2'⟩ : ∃ i2, i + 2 = i2 := ⟨_, rfl⟩
            rw [hi1] at hi1w hat1
            rw [hi2'] at hw2 hi2 hA2
            have d3 : decide ((M : Int) < (i2 : Int)) = false := decide_eq_false (by omega)
            have d3' : decide (M < i2) = false := decide_eq_false (by omega)
            have hw3 : IntKind.i64.wrap ((m1 : Int) - 1) = (m0 : Int) := by rw [IntKind.wrap_i64]; omega
            have hw4 : IntKind.i64.wrap ((m0 : Int) - 128) = ((m0 - 128 : Nat) : Int) := by rw [IntKind.wrap_i64]; omega
            obtain ⟨q0, hq0⟩ : ∃ q0, m0 - 128 = q0 := ⟨_, rfl⟩
            rw [hq0] at hw4
            have hw5 : IntKind.i64.wrap ((q0 : Int) + 4) = (B1 : Int) := by rw [IntKind.wrap_i64]; omega
            have hw6 : IntKind.i64.wrap (D1 : Int) = (D1 : Int) := by rw [IntKind.wrap_i64]; omega
            have d4 : ((D1 : Int) == 0) = false := beq_eq_false_iff_ne.2 (by omega)
            have d4' : decide ((D1 : Int) = 0) = false := decide_eq_false (by omega)
            have d4n : ¬ D1 = 0 := by omega
            have d5 : decide ((p : Int) < (D1 : Int)) = false := decide_eq_false (by omega)
            have d5' : decide (p < D1) = false := decide_eq_false (by omega)
            have MT := HMT.out p D1 D1a D1c hpN
            rw [D1d] at MT
            have HMTp := Lib.hid MT
            have hw7 : IntKind.i64.wrap ((p : Int) + (B1 : Int)) = ((p + B1 : Nat) : Int) := by rw [IntKind.wrap_i64]; omega
            obtain ⟨p2, hp2⟩ : ∃ p2, p + B1 = p2 := ⟨_, rfl⟩
            rw [hp2] at hw7 hA2
            have HA2 := Lib.hid hA2
            have HL := Lib.hid hL
            have HB := Lib.hid hB
            have hi2i : i < i2 := by omega
            have hB1p : 4 ≤ B1 := hb
            clear hm0 hm1 hi1 hi2' hq0 hp2 hB1 hD1 e0 e1 hA2 hA hL hB D1d MT hb
            go_wp2_with (go_at_call 18; (with_reducible refine (HMTp.out _).mono ?_); rintro e w5 ⟨rfl, hB5⟩; replace HL := Lib.hid (HL.out.later hB5); replace HB := Lib.hid (below_on HB.out hB5 HB.out.size); clear hB5)
            go_loopw [17] (fun vk wr => ∃ k : Nat, 1 ≤ k ∧ k ≤ 256 ∧ vk = .int .i64 k ∧ Ls wr gl [bs t1, bs t0] ∧ Below w.heap.size w wr) (fun vk _ => 256 - (intOf vk).toNat)
            case atStart => exact ⟨1, by omega, by omega, rfl, HL.out, HB.out⟩
            case round =>
              clear HL HB HMTp hat0 hat1
              obtain ⟨k, hk1, hk2, rfl, hL, hB⟩ := hrel
              have hwk : IntKind.i64.wrap ((k : Int) + 1) = ((k + 1 : Nat) : Int) := by rw [IntKind.wrap_i64]; omega
              have HL := Lib.hid hL
              have HB := Lib.hid hB
              clear hL hB
              by_cases h1 : k ≤ 255
              · have f1 : decide ((k : Int) ≤ 255) = true := decide_eq_true (by omega)
                have f1' : decide (k ≤ 255) = true := decide_eq_true h1
                by_cases h2 : k ≤ p
                · have f2 : decide ((k : Int) ≤ (p : Int)) = true := decide_eq_true (by omega)
                  have f2' : decide (k ≤ p) = true := decide_eq_true h2
                  have MT := HMT.out p k hk1 h2 hpN
                  have hle := hmost.out k hk1 h2 h1
                  have hnr := hnear.out k hk1
                  obtain ⟨mk, hmk⟩ : ∃ mk, mat (nb u) p k 131 = mk := ⟨_, rfl⟩
                  rw [hmk] at MT hle hnr
                  have HMTk := Lib.hid MT
                  have f3 : decide ((B1 : Int) < (mk : Int)) = false := decide_eq_false (by omega)
                  have f3' : decide (B1 < mk) = false := decide_eq_false (by omega)
                  by_cases h3 : mk = B1
                  · have f4 : decide ((mk : Int) = (B1 : Int)) = true := decide_eq_true (by omega)
                    have f4' : ((mk : Int) == (B1 : Int)) = true := by rw [beq_iff_eq]; omega
                    have hkD : ¬ k < D1 := fun h => by have := hnr h; omega
                    have f5 : decide ((k : Int) < (D1 : Int)) = false := decide_eq_false (by omega)
                    have f5' : decide (k < D1) = false := decide_eq_false hkD
                    clear hmk MT hle hnr
                    go_wp2_with (go_at_call 18; (with_reducible refine (HMTk.out _).mono ?_); rintro e w6 ⟨rfl, hB6⟩; replace HL := Lib.hid (HL.out.later hB6); replace HB := Lib.hid (below_on HB.out hB6 HB.out.size); clear hB6)
                    go_roundw
                    case rel => exact ⟨k + 1, by omega, by omega, by go_num, HL.out, HB.out⟩
                    case measure => simp [intOf]; omega
                  · have f4 : decide ((mk : Int) = (B1 : Int)) = false := decide_eq_false (by omega)
                    have f4' : ((mk : Int) == (B1 : Int)) = false := beq_eq_false_iff_ne.2 (by omega)
                    clear hmk MT hle hnr
                    go_wp2_with (go_at_call 18; (with_reducible refine (HMTk.out _).mono ?_); rintro e w6 ⟨rfl, hB6⟩; replace HL := Lib.hid (HL.out.later hB6); replace HB := Lib.hid (below_on HB.out hB6 HB.out.size); clear hB6)
                    go_roundw
                    case rel => exact ⟨k + 1, by omega, by omega, by go_num, HL.out, HB.out⟩
                    case measure => simp [intOf]; omega
                · have f2 : decide ((k : Int) ≤ (p : Int)) = false := decide_eq_false (by omega)
                  have f2' : decide (k ≤ p) = false := decide_eq_false (by omega)
                  go_wp2_with fail
                  go_roundw
                  case rel => exact ⟨p2, i2, 128, rfl, rfl, rfl, HA2.out, HL.out, HB.out⟩
                  case measure => simp [intOf]; omega
              · have f1 : decide ((k : Int) ≤ 255) = false := decide_eq_false (by omega)
                have f1' : decide (k ≤ 255) = false := decide_eq_false (by omega)
                go_wp2_with fail
                go_roundw
                case rel => exact ⟨p2, i2, 128, rfl, rfl, rfl, HA2.out, HL.out, HB.out⟩
                case measure => simp [intOf]; omega
          · obtain ⟨m, hm1, hm2, hm3, hla, e0, hi2, heq, hbest, hA2⟩ := hA.run (by rw [HMM.out]; exact g1) (by omega)
            rw [e0] at hat0
            rw [HMM.out] at hi2
            rw [HN.out] at hm3
            have HBST := Lib.hid hbest
            have hcc := HCC.out p (i + 1) m heq
            obtain ⟨m0, hm0⟩ : ∃ m0, m - 1 = m0 := ⟨_, rfl⟩
            rw [hm0] at hat0
            have hw0 : IntKind.i64.wrap (m0 : Int) = (m0 : Int) := by rw [IntKind.wrap_i64]; omega
            have hw1 : IntKind.i64.wrap ((m0 : Int) + 1) = (m : Int) := by rw [IntKind.wrap_i64]; omega
            have d2 : decide ((m : Int) ≤ 128) = true := decide_eq_true (by omega)
            have d2' : decide (m ≤ 128) = true := decide_eq_true hm2
            have d3 : decide ((la : Int) < 128) = false := decide_eq_false (by omega)
            have d3' : decide (la < 128) = false := decide_eq_false (by omega)
            have hct := HCT.out (i + 1) (i + 1 + m) (by omega) hi2
            have hst := HST.out p (p + m) (by omega) hm3
            rw [show i + 1 + m - (i + 1) = m by omega, hcc] at hct
            rw [show p + m - p = m by omega] at hst
            obtain ⟨X, hX⟩ : ∃ X, bs ((u.drop p).take m) = X := ⟨_, rfl⟩
            rw [hX] at hct hst
            obtain ⟨i1, hi1⟩ : ∃ i1, i + 1 = i1 := ⟨_, rfl⟩
            rw [hi1] at hi1w hct hi2 hA2
            have hw2 : IntKind.i64.wrap ((i1 : Int) + (m : Int)) = ((i1 + m : Nat) : Int) := by rw [IntKind.wrap_i64]; omega
            have hw3 : IntKind.i64.wrap ((p : Int) + (m : Int)) = ((p + m : Nat) : Int) := by rw [IntKind.wrap_i64]; omega
            obtain ⟨i2, hi2'⟩ : ∃ i2, i1 + m = i2 := ⟨_, rfl⟩
            obtain ⟨pm, hpm⟩ : ∃ pm, p + m = pm := ⟨_, rfl⟩
            rw [hi2'] at hw2 hct hi2 hA2
            rw [hpm] at hw3 hst hA2 HBST hm3
            have d4 : decide ((M : Int) < (i2 : Int)) = false := decide_eq_false (by omega)
            have d4' : decide (M < i2) = false := decide_eq_false (by omega)
            have d5 : decide ((N : Int) < (pm : Int)) = false := decide_eq_false (by omega)
            have d5' : decide (N < pm) = false := decide_eq_false (by omega)
            have HA2 := Lib.hid hA2
            have HL := Lib.hid hL
            have HB := Lib.hid hB
            have hi2i : i < i2 := by omega
            have hppm : p ≤ pm := by omega
            have hpm700 : pm ≤ 700 := by omega
            clear hm0 hi1 hi2' hpm hX hcc heq hbest hA2 hA hL hB e0 hla
            go_wp2_with fail
            go_quiet (fail)
            clear hct hst hat0
            replace HB := Lib.hid (below_drewN HB.out nq)
            replace HL := Lib.hid (HL.out.drewQ nq)
            obtain ⟨wq, hwq⟩ : ∃ wq, wr.drewN nq = wq := ⟨_, rfl⟩
            rw [hwq] at HB HL ⊢
            clear hwq
            go_wp2_with fail
            go_loopw [14] (fun vk wr => ∃ k : Nat, p ≤ k ∧ k ≤ pm ∧ vk = .int .i64 k ∧ Ls wr gl [bs t1, bs t0] ∧ Below w.heap.size w wr) (fun vk _ => pm - (intOf vk).toNat)
            case atStart => exact ⟨p, Nat.le_refl _, hppm, rfl, HL.out, HB.out⟩
            case round =>
              clear HL HB
              obtain ⟨k, hk1, hk2, rfl, hL, hB⟩ := hrel
              have HL := Lib.hid hL
              have HB := Lib.hid hB
              have hwk : IntKind.i64.wrap ((k : Int) + 1) = ((k + 1 : Nat) : Int) := by rw [IntKind.wrap_i64]; omega
              clear hL hB
              rcases Nat.lt_or_ge k pm with g2 | g2
              · have d6 : decide ((k : Int) < (pm : Int)) = true := decide_eq_true (by omega)
                have d6' : decide (k < pm) = true := decide_eq_true g2
                have hbk := HBST.out k hk1 g2
                have hmst := Lib.hid (fun d h1 h2 h3 => mat_best (nb u) k d h1 h2 h3)
                go_wp2_with fail
                go_loopw [15] (fun vd wr => ∃ d : Nat, 1 ≤ d ∧ d ≤ 256 ∧ vd = .int .i64 d ∧ Ls wr gl [bs t1, bs t0] ∧ Below w.heap.size w wr) (fun vd _ => 256 - (intOf vd).toNat)
                case atStart => exact ⟨1, by omega, by omega, rfl, HL.out, HB.out⟩
                case round =>
                  clear HL HB
                  obtain ⟨d, hd1, hd2, rfl, hL, hB⟩ := hrel
                  have HL := Lib.hid hL
                  have HB := Lib.hid hB
                  have hwd : IntKind.i64.wrap ((d : Int) + 1) = ((d + 1 : Nat) : Int) := by rw [IntKind.wrap_i64]; omega
                  clear hL hB
                  by_cases h1 : d ≤ 255
                  · have f1 : decide ((d : Int) ≤ 255) = true := decide_eq_true (by omega)
                    have f1' : decide (d ≤ 255) = true := decide_eq_true h1
                    by_cases h2 : d ≤ k
                    · have f2 : decide ((d : Int) ≤ (k : Int)) = true := decide_eq_true (by omega)
                      have f2' : decide (d ≤ k) = true := decide_eq_true h2
                      have MT := HMT.out k d hd1 h2 (by omega)
                      have hle := hmst.out d hd1 h2 h1
                      obtain ⟨mk, hmk⟩ : ∃ mk, mat (nb u) k d 131 = mk := ⟨_, rfl⟩
                      rw [hmk] at MT hle
                      have HMTk := Lib.hid MT
                      have f3 : decide (4 ≤ (mk : Int)) = false := decide_eq_false (by omega)
                      have f3' : decide (4 ≤ mk) = false := decide_eq_false (by omega)
                      clear hmk MT hle
                      go_wp2_with (go_at_call 18; (with_reducible refine (HMTk.out _).mono ?_); rintro e w6 ⟨rfl, hB6⟩; replace HL := Lib.hid (HL.out.later hB6); replace HB := Lib.hid (below_on HB.out hB6 HB.out.size); clear hB6)
                      go_roundw
                      case rel => exact ⟨d + 1, by omega, by omega, by go_num, HL.out, HB.out⟩
                      case measure => simp [intOf]; omega
                    · have f2 : decide ((d : Int) ≤ (k : Int)) = false := decide_eq_false (by omega)
                      have f2' : decide (d ≤ k) = false := decide_eq_false (by omega)
                      go_wp2_with fail
                      go_roundw
                      case rel => exact ⟨k + 1, by omega, by omega, by go_num, HL.out, HB.out⟩
                      case measure => simp [intOf]; omega
                  · have f1 : decide ((d : Int) ≤ 255) = false := decide_eq_false (by omega)
                    have f1' : decide (d ≤ 255) = false := decide_eq_false (by omega)
                    go_wp2_with fail
                    go_roundw
                    case rel => exact ⟨k + 1, by omega, by omega, by go_num, HL.out, HB.out⟩
                    case measure => simp [intOf]; omega
              · have d6 : decide ((k : Int) < (pm : Int)) = false := decide_eq_false (by omega)
                have d6' : decide (k < pm) = false := decide_eq_false (by omega)
                go_wp2_with fail
                go_roundw
                case rel => exact ⟨pm, i2, m, rfl, rfl, rfl, HA2.out, HL.out, HB.out⟩
                case measure => simp [intOf]; omega
        · have d1 : decide ((i : Int) < (M : Int)) = false := decide_eq_false (by omega)
          have hpe := hA.done (by rw [HMM.out]; exact g1)
          rw [HN.out] at hpe
          subst hpe
          have HL := Lib.hid hL
          have HB := Lib.hid hB
          have d5 : ((p : Int) != (p : Int)) = false := by simp
          clear hL hB hA
          go_wp2_with fail
          go_roundw
          case rel => exact ⟨K + 1, by omega, by go_num, HL.out, HB.out⟩
          case measure => simp [intOf]; omega
    · obtain rfl : K = 2 := by omega
      have HB := Lib.hid hB
      clear hL hB
      go_wp2_with fail
      go_ret
      exact ⟨rfl, HB.out⟩

end Go.Proofs.Ytnploljhikljfaa
