/-
  Put together by program out of these texts, in this order: Rlh, Qpk, Qmi, Qga.
-/
import Derived.Test.YtkdcnpleoklcgaaGreatDoorZCaRGr18

/-
  Layer 4, the reference: the fractions of up to 100 digits, walked.
-/
namespace Go.Proofs.YtkdcnpleoklcgaaGreatDoor
open Go.RowKit Bs Ig Qq

/-- a numeral of at most 100 digits -/
def Nm (A : ByteArray) : Prop := ∃ n : Nat, n < 10 ^ 100 ∧ A = T (n : Int)

set_option maxRecDepth 100000 in
set_option maxHeartbeats 16000000 in
theorem rLong_any (x0 x1 x2 x3 : Int) (h0 : -9223372036854775808 ≤ x0) (k0 : x0 ≤ 9223372036854775807) (h1 : -9223372036854775808 ≤ x1) (k1 : x1 ≤ 9223372036854775807) (h2 : -9223372036854775808 ≤ x2) (k2 : x2 ≤ 9223372036854775807) (h3 : -9223372036854775808 ≤ x3) (k3 : x3 ≤ 9223372036854775807) (w : World) :
    Calls Tryz.prog 11 #[.agg #[.int .i64 x0, .int .i64 x1, .int .i64 x2, .int .i64 x3]] w fun e w' => ∃ p : Int × Int, FV p ∧ p.1.natAbs < 10 ^ 100 ∧ p.2.natAbs < 10 ^ 100 ∧ e = .returned (.agg #[.string (T p.1), .string (T p.2)]) ∧ Below w.heap.size w w' := by
  have P0 := Lib.hid (fun W => rpick4_any x0 h0 k0 1000000007 1000000007 rfl (by omega) W)
  have P1 := Lib.hid (fun W => rpick4_any x1 h1 k1 100 100 rfl (by omega) W)
  have P2 := Lib.hid (fun W => rpick4_any x2 h2 k2 1000000007 1000000007 rfl (by omega) W)
  have P3 := Lib.hid (fun W => rpick4_any x3 h3 k3 100 100 rfl (by omega) W)
  have HL := Lib.hid (Lst.start w x0 x1 x2 x3)
  clear h1 k1 h2 k2 h3 k3
  go_enter Tryz.func11, Tryz.ntmps11
  go_wp2_with fail
  go_loopw [4] (fun k wr => ∃ (i : Int) (A B : ByteArray), k = .int .i64 i ∧ (i = 0 ∨ (i = 1 ∧ Nm A) ∨ (i = 2 ∧ Nm A ∧ Nm B)) ∧ Lst w x0 x1 x2 x3 A B wr) (fun k _ => (2 - intOf k).toNat)
  case atStart => exact ⟨0, _, _, rfl, .inl rfl, HL.out⟩
  case round =>
    obtain ⟨i, A, B, rfl, hi, hL⟩ := hrel
    rcases hi with rfl | ⟨rfl, hA⟩ | ⟨rfl, hA, hB⟩
    · have q0 := hL.c0
      have q1 := hL.c1
      have HL := Lib.hid hL
      clear hL
      go_wp2_with (first
        | (go_at_call 42; (with_reducible refine (P1.out _).mono ?_); rintro e ww ⟨n, hn, rfl, hww⟩; rw [hww]; clear hww ww)
        | (go_at_call 42; (with_reducible refine (P0.out _).mono ?_); rintro e ww ⟨c, hc, rfl, hww⟩; rw [hww]; clear hww ww))
      have HL := Lib.hid HL.out
      go_loopw [6, 7] (fun s c wr => ∃ (l : List UInt8) (m : Nat), s = .string (bs l) ∧ c = .int .i64 (m : Int) ∧ m < 2147483647 ∧ (∀ c ∈ l, isDig c) ∧ l.length ≤ n + 1 ∧ Lst w x0 x1 x2 x3 A B wr) (fun s _ _ => n + 1 - szOf s)
      case atStart => exact ⟨[], c, rfl, rfl, by omega, (fun _ hx => nomatch hx), by simp, HL.out⟩
      case round =>
        obtain ⟨l, m, rfl, rfl, hm, hdig, hlen, hL⟩ := hrel
        have HL := Lib.hid hL
        clear hL
        obtain ⟨S, hS⟩ : ∃ S, bs l = S := ⟨_, rfl⟩
        have hSz : S.size = l.length := by rw [← hS, bs_size]
        rw [hS]
        have HS := Lib.hid hS
        have HD := Lib.hid hdig
        clear hS hdig
        rcases Nat.lt_or_ge l.length (n + 1) with hl | hl
        · obtain ⟨m2, hm2⟩ : ∃ m2, (m * 48271 + 11) % 2147483647 = m2 := ⟨_, rfl⟩
          have e1 : ((m : Int) * 48271 + 11).tmod 2147483647 = (m2 : Int) := by
            rw [← hm2]; exact (Int.ofNat_tmod (m * 48271 + 11) 2147483647).symm
          have hm2l : m2 < 2147483647 := by rw [← hm2]; exact Nat.mod_lt _ (by omega)
          obtain ⟨m3, hm3⟩ : ∃ m3, m2 / 65536 = m3 := ⟨_, rfl⟩
          have e2 : (m2 : Int).tdiv 65536 = (m3 : Int) := by rw [← hm3]; exact (Int.ofNat_tdiv m2 65536).symm
          obtain ⟨d, hd⟩ : ∃ d, m3 % 10 = d := ⟨_, rfl⟩
          have e3 : (m3 : Int).tmod 10 = (d : Int) := by rw [← hd]; exact (Int.ofNat_tmod m3 10).symm
          have hdl : d < 10 := by rw [← hd]; exact Nat.mod_lt _ (by omega)
          have hm3l : m3 < 32768 := by omega
          have e4 : decide ((S.size : Int) < 1 + (n : Int)) = true := decide_eq_true (by omega)
          have e5 : decide ((S.size : Int) < (n : Int) + 1) = true := decide_eq_true (by omega)
          have e6 : IntKind.u8.wrap (48 + (d : Int)) = 48 + (d : Int) := by rw [IntKind.wrap_u8]; omega
          have hcv : (convert 48 9 (.slice (some ⟨wr.heap.size, 0, none⟩) 1 1)).run Tryz.prog (wr.alloc (.cells #[.int .u8 (48 + (d : Int))] 5)) = .ok (.string (bs [UInt8.ofNat (48 + (d : Int)).toNat])) (wr.alloc (.cells #[.int .u8 (48 + (d : Int))] 5)) :=
            run_convert_bytes_arg _ 48 5 Tryz.underlying48 Tryz.underlying5 wr.heap.size 0 1 1 [48 + (d : Int)] rfl (fun i hi => by
              obtain rfl : i = 0 := by omega
              rw [cell_of_row _ _ _ _ _ _ (show (wr.alloc (.cells #[.int .u8 (48 + (d : Int))] 5)).heap[wr.heap.size]? = _ from heap_alloc_new _ _)]; rfl) 9 Tryz.underlying9
          obtain ⟨E, hE⟩ : ∃ E, bs [UInt8.ofNat (48 + (d : Int)).toNat] = E := ⟨_, rfl⟩
          have hEz : E.size = 1 := by rw [← hE]; rfl
          rw [hE] at hcv
          have HE := Lib.hid hE
          have f1 : ¬ 9223372036854775807 < S.size + E.size := by omega
          have f2 : ¬ 9223372036854775807 < S.size + 1 := by omega
          clear hm2 hm3 hd hE
          go_wp2_with fail
          go_roundw
          case rel =>
            refine ⟨l ++ [UInt8.ofNat (48 + d)], m2, ?_, rfl, hm2l, ?_, by simp; omega, HL.out.step ((Below.refl _ _).alloc (Nat.le_refl _) _)⟩
            · rw [← bs_append, HS.out, ← HE.out]; rfl
            · intro x hx
              rcases List.mem_append.1 hx with hx | hx
              · exact HD.out x hx
              · rw [List.mem_singleton.1 hx]; exact dig_ok hdl
          case measure => simp [szOf]; omega
        · have e4 : decide ((S.size : Int) < 1 + (n : Int)) = false := decide_eq_false (by omega)
          have e5 : decide ((S.size : Int) < (n : Int) + 1) = false := decide_eq_false (by omega)
          go_wp2_with fail
          clear e4 e5
          go_loopw [6] (fun s wr => ∃ (c : UInt8) (l : List UInt8), s = .string (bs (c :: l)) ∧ (∀ x ∈ c :: l, isDig x) ∧ l.length < 100 ∧ Lst w x0 x1 x2 x3 A B wr) (fun s _ => szOf s)
          case atStart =>
            match l, HS.out, HD.out, hl, hlen with
            | c :: l, hS, hD, _, hlen => exact ⟨c, l, by rw [hS], hD, by simp at hlen; omega, HL.out⟩
          case round =>
            obtain ⟨b, t, rfl, hdig, hlen, hL⟩ := hrel
            have q0 := hL.f0
            have q1 := hL.a0
            have HL := Lib.hid hL
            clear hL
            clear hSz HS HD hl
            obtain ⟨S, hS⟩ : ∃ S, bs (b :: t) = S := ⟨_, rfl⟩
            have hSz : S.size = t.length + 1 := by rw [← hS, bs_size]; rfl
            have g1 : 0 < S.size := by omega
            obtain ⟨q, hq⟩ : ∃ q, (S[0]'g1).toNat = q := ⟨_, rfl⟩
            have hqb : b.toNat = q := by rw [← hq]; subst hS; rfl
            have hex : S.extract 1 (t.length + 1) = bs t := by rw [← hS, bs_extract]; simp
            rw [hS]
            have HS := Lib.hid hS
            have HD := Lib.hid hdig
            have HX := Lib.hid hex
            clear hS hdig hex
            by_cases hgo : t ≠ [] ∧ q = 48
            · obtain ⟨h1, rfl⟩ := hgo
              have ht1 : 0 < t.length := List.length_pos_iff.2 h1
              have e1 : decide (1 < (S.size : Int)) = true := decide_eq_true (by omega)
              have e2 : decide (1 < S.size) = true := decide_eq_true (by omega)
              go_wp2_with fail
              go_roundw
              case rel =>
                match t, h1, HX.out, HD.out, hlen with
                | c :: t, _, hX, hD, hlen => exact ⟨c, t, by rw [hX], fun x hx => hD x (List.mem_cons_of_mem _ hx), by simp at hlen; omega, HL.out⟩
              case measure => simp [szOf]; omega
            · have hN : Nm S := by
                rw [← HS.out]
                refine ⟨num (b :: t), ?_, digs_T HD.out (by simp) ?_⟩
                · have := num_lt _ HD.out
                  rw [List.length_cons] at this
                  exact Nat.lt_of_lt_of_le this (Nat.pow_le_pow_right (by omega) hlen)
                · by_cases h1 : t = []
                  · exact .inl (by rw [h1]; rfl)
                  · refine .inr (fun e => hgo ⟨h1, ?_⟩)
                    rw [← hqb]
                    simp at e
                    rw [e]; rfl
              have HN := Lib.hid hN
              clear hN
              by_cases h1 : t = []
              · have e1 : decide (1 < (S.size : Int)) = false := decide_eq_false (by rw [hSz, h1]; simp)
                have e2 : decide (1 < S.size) = false := decide_eq_false (by rw [hSz, h1]; simp)
                go_wp2_with fail
                go_roundw
                case rel => exact ⟨1, _, _, rfl, .inr (.inl ⟨rfl, HN.out⟩), HL.out.put0 _⟩
                case measure => simp [intOf]
              · have h2 : q ≠ 48 := fun e => hgo ⟨h1, e⟩
                have ht1 : 0 < t.length := List.length_pos_iff.2 h1
                have e1 : decide (1 < (S.size : Int)) = true := decide_eq_true (by omega)
                have e2 : decide (1 < S.size) = true := decide_eq_true (by omega)
                have e3 : ((q : Int) == 48) = false := beq_false_of_ne (by omega)
                have e4 : (q == 48) = false := beq_false_of_ne (by omega)
                go_wp2_with fail
                go_roundw
                case rel => exact ⟨1, _, _, rfl, .inr (.inl ⟨rfl, HN.out⟩), HL.out.put0 _⟩
                case measure => simp [intOf]
    · have q0 := hL.c2
      have q1 := hL.c3
      have HL := Lib.hid hL
      clear hL
      go_wp2_with (first
        | (go_at_call 42; (with_reducible refine (P3.out _).mono ?_); rintro e ww ⟨n, hn, rfl, hww⟩; rw [hww]; clear hww ww)
        | (go_at_call 42; (with_reducible refine (P2.out _).mono ?_); rintro e ww ⟨c, hc, rfl, hww⟩; rw [hww]; clear hww ww))
      have HL := Lib.hid HL.out
      go_loopw [6, 7] (fun s c wr => ∃ (l : List UInt8) (m : Nat), s = .string (bs l) ∧ c = .int .i64 (m : Int) ∧ m < 2147483647 ∧ (∀ c ∈ l, isDig c) ∧ l.length ≤ n + 1 ∧ Lst w x0 x1 x2 x3 A B wr) (fun s _ _ => n + 1 - szOf s)
      case atStart => exact ⟨[], c, rfl, rfl, by omega, (fun _ hx => nomatch hx), by simp, HL.out⟩
      case round =>
        obtain ⟨l, m, rfl, rfl, hm, hdig, hlen, hL⟩ := hrel
        have HL := Lib.hid hL
        clear hL
        obtain ⟨S, hS⟩ : ∃ S, bs l = S := ⟨_, rfl⟩
        have hSz : S.size = l.length := by rw [← hS, bs_size]
        rw [hS]
        have HS := Lib.hid hS
        have HD := Lib.hid hdig
        clear hS hdig
        rcases Nat.lt_or_ge l.length (n + 1) with hl | hl
        · obtain ⟨m2, hm2⟩ : ∃ m2, (m * 48271 + 11) % 2147483647 = m2 := ⟨_, rfl⟩
          have e1 : ((m : Int) * 48271 + 11).tmod 2147483647 = (m2 : Int) := by
            rw [← hm2]; exact (Int.ofNat_tmod (m * 48271 + 11) 2147483647).symm
          have hm2l : m2 < 2147483647 := by rw [← hm2]; exact Nat.mod_lt _ (by omega)
          obtain ⟨m3, hm3⟩ : ∃ m3, m2 / 65536 = m3 := ⟨_, rfl⟩
          have e2 : (m2 : Int).tdiv 65536 = (m3 : Int) := by rw [← hm3]; exact (Int.ofNat_tdiv m2 65536).symm
          obtain ⟨d, hd⟩ : ∃ d, m3 % 10 = d := ⟨_, rfl⟩
          have e3 : (m3 : Int).tmod 10 = (d : Int) := by rw [← hd]; exact (Int.ofNat_tmod m3 10).symm
          have hdl : d < 10 := by rw [← hd]; exact Nat.mod_lt _ (by omega)
          have hm3l : m3 < 32768 := by omega
          have e4 : decide ((S.size : Int) < 1 + (n : Int)) = true := decide_eq_true (by omega)
          have e5 : decide ((S.size : Int) < (n : Int) + 1) = true := decide_eq_true (by omega)
          have e6 : IntKind.u8.wrap (48 + (d : Int)) = 48 + (d : Int) := by rw [IntKind.wrap_u8]; omega
          have hcv : (convert 48 9 (.slice (some ⟨wr.heap.size, 0, none⟩) 1 1)).run Tryz.prog (wr.alloc (.cells #[.int .u8 (48 + (d : Int))] 5)) = .ok (.string (bs [UInt8.ofNat (48 + (d : Int)).toNat])) (wr.alloc (.cells #[.int .u8 (48 + (d : Int))] 5)) :=
            run_convert_bytes_arg _ 48 5 Tryz.underlying48 Tryz.underlying5 wr.heap.size 0 1 1 [48 + (d : Int)] rfl (fun i hi => by
              obtain rfl : i = 0 := by omega
              rw [cell_of_row _ _ _ _ _ _ (show (wr.alloc (.cells #[.int .u8 (48 + (d : Int))] 5)).heap[wr.heap.size]? = _ from heap_alloc_new _ _)]; rfl) 9 Tryz.underlying9
          obtain ⟨E, hE⟩ : ∃ E, bs [UInt8.ofNat (48 + (d : Int)).toNat] = E := ⟨_, rfl⟩
          have hEz : E.size = 1 := by rw [← hE]; rfl
          rw [hE] at hcv
          have HE := Lib.hid hE
          have f1 : ¬ 9223372036854775807 < S.size + E.size := by omega
          have f2 : ¬ 9223372036854775807 < S.size + 1 := by omega
          clear hm2 hm3 hd hE
          go_wp2_with fail
          go_roundw
          case rel =>
            refine ⟨l ++ [UInt8.ofNat (48 + d)], m2, ?_, rfl, hm2l, ?_, by simp; omega, HL.out.step ((Below.refl _ _).alloc (Nat.le_refl _) _)⟩
            · rw [← bs_append, HS.out, ← HE.out]; rfl
            · intro x hx
              rcases List.mem_append.1 hx with hx | hx
              · exact HD.out x hx
              · rw [List.mem_singleton.1 hx]; exact dig_ok hdl
          case measure => simp [szOf]; omega
        · have e4 : decide ((S.size : Int) < 1 + (n : Int)) = false := decide_eq_false (by omega)
          have e5 : decide ((S.size : Int) < (n : Int) + 1) = false := decide_eq_false (by omega)
          go_wp2_with fail
          clear e4 e5
          go_loopw [6] (fun s wr => ∃ (c : UInt8) (l : List UInt8), s = .string (bs (c :: l)) ∧ (∀ x ∈ c :: l, isDig x) ∧ l.length < 100 ∧ Lst w x0 x1 x2 x3 A B wr) (fun s _ => szOf s)
          case atStart =>
            match l, HS.out, HD.out, hl, hlen with
            | c :: l, hS, hD, _, hlen => exact ⟨c, l, by rw [hS], hD, by simp at hlen; omega, HL.out⟩
          case round =>
            obtain ⟨b, t, rfl, hdig, hlen, hL⟩ := hrel
            have q0 := hL.f1
            have q1 := hL.a1
            have HL := Lib.hid hL
            clear hL
            clear hSz HS HD hl
            obtain ⟨S, hS⟩ : ∃ S, bs (b :: t) = S := ⟨_, rfl⟩
            have hSz : S.size = t.length + 1 := by rw [← hS, bs_size]; rfl
            have g1 : 0 < S.size := by omega
            obtain ⟨q, hq⟩ : ∃ q, (S[0]'g1).toNat = q := ⟨_, rfl⟩
            have hqb : b.toNat = q := by rw [← hq]; subst hS; rfl
            have hex : S.extract 1 (t.length + 1) = bs t := by rw [← hS, bs_extract]; simp
            rw [hS]
            have HS := Lib.hid hS
            have HD := Lib.hid hdig
            have HX := Lib.hid hex
            clear hS hdig hex
            by_cases hgo : t ≠ [] ∧ q = 48
            · obtain ⟨h1, rfl⟩ := hgo
              have ht1 : 0 < t.length := List.length_pos_iff.2 h1
              have e1 : decide (1 < (S.size : Int)) = true := decide_eq_true (by omega)
              have e2 : decide (1 < S.size) = true := decide_eq_true (by omega)
              go_wp2_with fail
              go_roundw
              case rel =>
                match t, h1, HX.out, HD.out, hlen with
                | c :: t, _, hX, hD, hlen => exact ⟨c, t, by rw [hX], fun x hx => hD x (List.mem_cons_of_mem _ hx), by simp at hlen; omega, HL.out⟩
              case measure => simp [szOf]; omega
            · have hN : Nm S := by
                rw [← HS.out]
                refine ⟨num (b :: t), ?_, digs_T HD.out (by simp) ?_⟩
                · have := num_lt _ HD.out
                  rw [List.length_cons] at this
                  exact Nat.lt_of_lt_of_le this (Nat.pow_le_pow_right (by omega) hlen)
                · by_cases h1 : t = []
                  · exact .inl (by rw [h1]; rfl)
                  · refine .inr (fun e => hgo ⟨h1, ?_⟩)
                    rw [← hqb]
                    simp at e
                    rw [e]; rfl
              have HN := Lib.hid hN
              clear hN
              by_cases h1 : t = []
              · have e1 : decide (1 < (S.size : Int)) = false := decide_eq_false (by rw [hSz, h1]; simp)
                have e2 : decide (1 < S.size) = false := decide_eq_false (by rw [hSz, h1]; simp)
                go_wp2_with fail
                go_roundw
                case rel => exact ⟨2, _, _, rfl, .inr (.inr ⟨rfl, hA, HN.out⟩), HL.out.put1 _⟩
                case measure => simp [intOf]
              · have h2 : q ≠ 48 := fun e => hgo ⟨h1, e⟩
                have ht1 : 0 < t.length := List.length_pos_iff.2 h1
                have e1 : decide (1 < (S.size : Int)) = true := decide_eq_true (by omega)
                have e2 : decide (1 < S.size) = true := decide_eq_true (by omega)
                have e3 : ((q : Int) == 48) = false := beq_false_of_ne (by omega)
                have e4 : (q == 48) = false := beq_false_of_ne (by omega)
                go_wp2_with fail
                go_roundw
                case rel => exact ⟨2, _, _, rfl, .inr (.inr ⟨rfl, hA, HN.out⟩), HL.out.put1 _⟩
                case measure => simp [intOf]
    · obtain ⟨a, ha, hAe⟩ := hA
      obtain ⟨b, hb, hBe⟩ := hB
      have HM : ∀ (N D' : ByteArray) (n d : Int), N = T n → D' = T d → n.natAbs < 10 ^ 100 → 0 < d → d.natAbs < 10 ^ 100 → ∃ R1 R2 : ByteArray, (∃ p : Int × Int, FV p ∧ p.1.natAbs < 10 ^ 100 ∧ p.2.natAbs < 10 ^ 100 ∧ R1 = T p.1 ∧ R2 = T p.2) ∧
          ∀ W, Calls Tryz.prog 26 #[.string N, .string D'] W fun e w' => e = .returned (.tuple #[.agg #[.string R1, .string R2], .int .i64 0]) ∧ Below W.heap.size W w' := by
        rintro N D' n d rfl rfl hn hd hdb
        have hn2 : n.natAbs < big := Nat.lt_of_lt_of_le hn (Nat.pow_le_pow_right (by omega) (by omega))
        have hd2 : d.natAbs < big := Nat.lt_of_lt_of_le hdb (Nat.pow_le_pow_right (by omega) (by omega))
        exact ⟨_, _, ⟨red n d, red_FV (by omega) hn2 hd2, Nat.lt_of_le_of_lt red_le.1 hn, Nat.lt_of_le_of_lt red_le.2 hdb, rfl, rfl⟩, fun W => rMake_T n d hn2 hd2 hd W⟩
      have z7 : (7 : Int).natAbs < 10 ^ 100 := Nat.lt_of_lt_of_le (show 7 < 10 ^ 1 by omega) (Nat.pow_le_pow_right (by omega) (by omega))
      have HB0 := Lib.hid HL
      obtain ⟨K, hK, PS⟩ : ∃ K : Int, (K = 0 ∨ K = 1) ∧ ∀ W, Calls Tryz.prog 42 #[.int .i64 x0, .int .i64 2] W fun e w' => e = .returned (.int .i64 K) ∧ w' = W := by
        obtain ⟨k, hk, hh⟩ := rpick4_det x0 h0 k0 2 2 rfl (by omega)
        exact ⟨k, by omega, hh⟩
      rcases Nat.eq_zero_or_pos b with hb0 | hb0
      · have gB : (B.toList == [48]) = true := by rw [hBe, hb0]; show ((T 0).toList == [48]) = true; rw [T0, toList_eq]; rfl
        have fA : A.size ≤ 1000 := by
          rw [hAe]; unfold T; rw [bs_size]
          have := itoa_len (z := (a : Int)) (show (a : Int).natAbs < big from Nat.lt_of_lt_of_le (show (a : Int).natAbs < 10 ^ 100 by rw [Int.natAbs_natCast]; exact ha) (Nat.pow_le_pow_right (by omega) (by omega)))
          omega
        have f1 : ¬ 9223372036854775807 < 1 + A.size := by omega
        have f2 : ¬ 9223372036854775807 < A.size + 1 := by omega
        rcases hK with rfl | rfl
        · rcases Nat.eq_zero_or_pos a with ha0 | ha0
          · have gA : (A.toList == [48]) = true := by rw [hAe, ha0]; show ((T 0).toList == [48]) = true; rw [T0, toList_eq]; rfl
            have gA2 : (A.toList != [48]) = false := by rw [bne, gA]; rfl
            obtain ⟨R1, R2, hp, hM⟩ := HM A ⟨#[55]⟩ (a : Int) 7 hAe T7 (by omega) (by omega) z7
            have y0 := hL.a0
            have y1 := hL.a1
            have y2 := hL.f1
            have y3 := hL.c0
            have y4 := hL.f0
            have l2 := hL.put1 ⟨#[55]⟩
            have v0 := l2.a0
            have v1 := l2.a1
            have v3 := l2.c0
            have v4 := l2.f0
            have HLL := Lib.hid l2
            have HPP := Lib.hid PS
            have HMM := Lib.hid hM
            have HP := Lib.hid hp
            clear hM PS hp HM z7 hAe hBe ha hb hL HB0 HL l2
            go_wp2_with (first
              | (go_at_call 42; (with_reducible refine (HPP.out _).mono ?_); rintro e ww ⟨rfl, hww⟩; rw [hww]; clear hww ww)
              | (go_at_call 26; (with_reducible refine (HMM.out _).mono ?_); rintro e w5 ⟨rfl, B5⟩; have l5 := HLL.out.step B5; have n5 := IsB.new w5 R1 R2; have l6 := l5.step ((Below.refl _ w5).alloc (Nat.le_refl _) (.cells #[.string R1, .string R2] 23)); have n0 := n5.c0; have n1 := n5.c1; have n2 := l6.ra.f0; have n3 := l6.ra.f1; have n4 := l6.ra.c0; have n6 := l6.ra.c1))
            obtain ⟨p, hp1, hp2, hp3, hp4, hp5⟩ := HP.out
            exact bodyPost_ret (results_cell_row rfl _ _ (w.heap.size + 1) 23 #[.string R1, .string R2] _ _ rfl (two_strs l6.ra R1 R2) Tryz.underlying23 rfl (by kernel_rfl)) rfl ⟨p, hp1, hp2, hp3, by rw [hp4, hp5], fin1 l6.ra l6.below (by omega) _ _⟩
          · have gA : (A.toList == [48]) = false := by rw [hAe]; exact T_zero_no (by omega)
            have gA2 : (A.toList != [48]) = true := by rw [bne, gA]; rfl
            obtain ⟨R1, R2, hp, hM⟩ := HM (⟨#[45]⟩ ++ A) ⟨#[55]⟩ (-(a : Int)) 7 (by rw [hAe]; exact (T_neg ha0).symm) T7 (by omega) (by omega) z7
            have y0 := hL.a0
            have y1 := hL.a1
            have y2 := hL.f1
            have y3 := hL.c0
            have y4 := hL.f0
            have l2 := hL.put1 ⟨#[55]⟩
            have v0 := l2.a0
            have v1 := l2.a1
            have v3 := l2.c0
            have v4 := l2.f0
            have l3 := l2.put0 (⟨#[45]⟩ ++ A)
            have u0 := l3.a0
            have u1 := l3.a1
            have HLL := Lib.hid l3
            have HPP := Lib.hid PS
            have HMM := Lib.hid hM
            have HP := Lib.hid hp
            clear hM PS hp HM z7 hAe hBe ha hb hL HB0 HL l2 l3
            go_wp2_with (first
              | (go_at_call 42; (with_reducible refine (HPP.out _).mono ?_); rintro e ww ⟨rfl, hww⟩; rw [hww]; clear hww ww)
              | (go_at_call 26; (with_reducible refine (HMM.out _).mono ?_); rintro e w5 ⟨rfl, B5⟩; have l5 := HLL.out.step B5; have n5 := IsB.new w5 R1 R2; have l6 := l5.step ((Below.refl _ w5).alloc (Nat.le_refl _) (.cells #[.string R1, .string R2] 23)); have n0 := n5.c0; have n1 := n5.c1; have n2 := l6.ra.f0; have n3 := l6.ra.f1; have n4 := l6.ra.c0; have n6 := l6.ra.c1))
            obtain ⟨p, hp1, hp2, hp3, hp4, hp5⟩ := HP.out
            exact bodyPost_ret (results_cell_row rfl _ _ (w.heap.size + 1) 23 #[.string R1, .string R2] _ _ rfl (two_strs l6.ra R1 R2) Tryz.underlying23 rfl (by kernel_rfl)) rfl ⟨p, hp1, hp2, hp3, by rw [hp4, hp5], fin1 l6.ra l6.below (by omega) _ _⟩
        · skip
          obtain ⟨R1, R2, hp, hM⟩ := HM A ⟨#[55]⟩ (a : Int) 7 hAe T7 (by omega) (by omega) z7
          have y0 := hL.a0
          have y1 := hL.a1
          have y2 := hL.f1
          have y3 := hL.c0
          have y4 := hL.f0
          have l2 := hL.put1 ⟨#[55]⟩
          have v0 := l2.a0
          have v1 := l2.a1
          have v3 := l2.c0
          have v4 := l2.f0
          have HLL := Lib.hid l2
          have HPP := Lib.hid PS
          have HMM := Lib.hid hM
          have HP := Lib.hid hp
          clear hM PS hp HM z7 hAe hBe ha hb hL HB0 HL l2
          go_wp2_with (first
            | (go_at_call 42; (with_reducible refine (HPP.out _).mono ?_); rintro e ww ⟨rfl, hww⟩; rw [hww]; clear hww ww)
            | (go_at_call 26; (with_reducible refine (HMM.out _).mono ?_); rintro e w5 ⟨rfl, B5⟩; have l5 := HLL.out.step B5; have n5 := IsB.new w5 R1 R2; have l6 := l5.step ((Below.refl _ w5).alloc (Nat.le_refl _) (.cells #[.string R1, .string R2] 23)); have n0 := n5.c0; have n1 := n5.c1; have n2 := l6.ra.f0; have n3 := l6.ra.f1; have n4 := l6.ra.c0; have n6 := l6.ra.c1))
          obtain ⟨p, hp1, hp2, hp3, hp4, hp5⟩ := HP.out
          exact bodyPost_ret (results_cell_row rfl _ _ (w.heap.size + 1) 23 #[.string R1, .string R2] _ _ rfl (two_strs l6.ra R1 R2) Tryz.underlying23 rfl (by kernel_rfl)) rfl ⟨p, hp1, hp2, hp3, by rw [hp4, hp5], fin1 l6.ra l6.below (by omega) _ _⟩
      · have gB : (B.toList == [48]) = false := by rw [hBe]; exact T_zero_no (by omega)
        have fA : A.size ≤ 1000 := by
          rw [hAe]; unfold T; rw [bs_size]
          have := itoa_len (z := (a : Int)) (show (a : Int).natAbs < big from Nat.lt_of_lt_of_le (show (a : Int).natAbs < 10 ^ 100 by rw [Int.natAbs_natCast]; exact ha) (Nat.pow_le_pow_right (by omega) (by omega)))
          omega
        have f1 : ¬ 9223372036854775807 < 1 + A.size := by omega
        have f2 : ¬ 9223372036854775807 < A.size + 1 := by omega
        rcases hK with rfl | rfl
        · rcases Nat.eq_zero_or_pos a with ha0 | ha0
          · have gA : (A.toList == [48]) = true := by rw [hAe, ha0]; show ((T 0).toList == [48]) = true; rw [T0, toList_eq]; rfl
            have gA2 : (A.toList != [48]) = false := by rw [bne, gA]; rfl
            obtain ⟨R1, R2, hp, hM⟩ := HM A B (a : Int) (b : Int) hAe hBe (by omega) (by omega) (by omega)
            have y0 := hL.a0
            have y1 := hL.a1
            have y2 := hL.f1
            have y3 := hL.c0
            have y4 := hL.f0
            have HLL := Lib.hid hL
            have HPP := Lib.hid PS
            have HMM := Lib.hid hM
            have HP := Lib.hid hp
            clear hM PS hp HM z7 hAe hBe ha hb hL HB0 HL
            go_wp2_with (first
              | (go_at_call 42; (with_reducible refine (HPP.out _).mono ?_); rintro e ww ⟨rfl, hww⟩; rw [hww]; clear hww ww)
              | (go_at_call 26; (with_reducible refine (HMM.out _).mono ?_); rintro e w5 ⟨rfl, B5⟩; have l5 := HLL.out.step B5; have n5 := IsB.new w5 R1 R2; have l6 := l5.step ((Below.refl _ w5).alloc (Nat.le_refl _) (.cells #[.string R1, .string R2] 23)); have n0 := n5.c0; have n1 := n5.c1; have n2 := l6.ra.f0; have n3 := l6.ra.f1; have n4 := l6.ra.c0; have n6 := l6.ra.c1))
            obtain ⟨p, hp1, hp2, hp3, hp4, hp5⟩ := HP.out
            exact bodyPost_ret (results_cell_row rfl _ _ (w.heap.size + 1) 23 #[.string R1, .string R2] _ _ rfl (two_strs l6.ra R1 R2) Tryz.underlying23 rfl (by kernel_rfl)) rfl ⟨p, hp1, hp2, hp3, by rw [hp4, hp5], fin1 l6.ra l6.below (by omega) _ _⟩
          · have gA : (A.toList == [48]) = false := by rw [hAe]; exact T_zero_no (by omega)
            have gA2 : (A.toList != [48]) = true := by rw [bne, gA]; rfl
            obtain ⟨R1, R2, hp, hM⟩ := HM (⟨#[45]⟩ ++ A) B (-(a : Int)) (b : Int) (by rw [hAe]; exact (T_neg ha0).symm) hBe (by omega) (by omega) (by omega)
            have y0 := hL.a0
            have y1 := hL.a1
            have y2 := hL.f1
            have y3 := hL.c0
            have y4 := hL.f0
            have l3 := hL.put0 (⟨#[45]⟩ ++ A)
            have u0 := l3.a0
            have u1 := l3.a1
            have HLL := Lib.hid l3
            have HPP := Lib.hid PS
            have HMM := Lib.hid hM
            have HP := Lib.hid hp
            clear hM PS hp HM z7 hAe hBe ha hb hL HB0 HL l3
            go_wp2_with (first
              | (go_at_call 42; (with_reducible refine (HPP.out _).mono ?_); rintro e ww ⟨rfl, hww⟩; rw [hww]; clear hww ww)
              | (go_at_call 26; (with_reducible refine (HMM.out _).mono ?_); rintro e w5 ⟨rfl, B5⟩; have l5 := HLL.out.step B5; have n5 := IsB.new w5 R1 R2; have l6 := l5.step ((Below.refl _ w5).alloc (Nat.le_refl _) (.cells #[.string R1, .string R2] 23)); have n0 := n5.c0; have n1 := n5.c1; have n2 := l6.ra.f0; have n3 := l6.ra.f1; have n4 := l6.ra.c0; have n6 := l6.ra.c1))
            obtain ⟨p, hp1, hp2, hp3, hp4, hp5⟩ := HP.out
            exact bodyPost_ret (results_cell_row rfl _ _ (w.heap.size + 1) 23 #[.string R1, .string R2] _ _ rfl (two_strs l6.ra R1 R2) Tryz.underlying23 rfl (by kernel_rfl)) rfl ⟨p, hp1, hp2, hp3, by rw [hp4, hp5], fin1 l6.ra l6.below (by omega) _ _⟩
        · skip
          obtain ⟨R1, R2, hp, hM⟩ := HM A B (a : Int) (b : Int) hAe hBe (by omega) (by omega) (by omega)
          have y0 := hL.a0
          have y1 := hL.a1
          have y2 := hL.f1
          have y3 := hL.c0
          have y4 := hL.f0
          have HLL := Lib.hid hL
          have HPP := Lib.hid PS
          have HMM := Lib.hid hM
          have HP := Lib.hid hp
          clear hM PS hp HM z7 hAe hBe ha hb hL HB0 HL
          go_wp2_with (first
            | (go_at_call 42; (with_reducible refine (HPP.out _).mono ?_); rintro e ww ⟨rfl, hww⟩; rw [hww]; clear hww ww)
            | (go_at_call 26; (with_reducible refine (HMM.out _).mono ?_); rintro e w5 ⟨rfl, B5⟩; have l5 := HLL.out.step B5; have n5 := IsB.new w5 R1 R2; have l6 := l5.step ((Below.refl _ w5).alloc (Nat.le_refl _) (.cells #[.string R1, .string R2] 23)); have n0 := n5.c0; have n1 := n5.c1; have n2 := l6.ra.f0; have n3 := l6.ra.f1; have n4 := l6.ra.c0; have n6 := l6.ra.c1))
          obtain ⟨p, hp1, hp2, hp3, hp4, hp5⟩ := HP.out
          exact bodyPost_ret (results_cell_row rfl _ _ (w.heap.size + 1) 23 #[.string R1, .string R2] _ _ rfl (two_strs l6.ra R1 R2) Tryz.underlying23 rfl (by kernel_rfl)) rfl ⟨p, hp1, hp2, hp3, by rw [hp4, hp5], fin1 l6.ra l6.below (by omega) _ _⟩

end Go.Proofs.YtkdcnpleoklcgaaGreatDoor

/-
  Layer 4: pick; powers of ten that a loop writes.
-/
namespace Go.Proofs.YtkdcnpleoklcgaaGreatDoor
open Go.RowKit Bs Ig Qq

set_option maxRecDepth 100000 in
set_option maxHeartbeats 4000000 in
theorem pick4_any (c : Int) (h0 : -9223372036854775808 ≤ c) (h1 : c ≤ 9223372036854775807) (m : Nat) (M : Int) (hM : M = (m : Int)) (hm : 0 < m) (w : World) :
    Calls Tryz.prog 20 #[.int .i64 c, .int .i64 M] w fun e w' => ∃ k : Nat, k < m ∧ e = .returned (.int .i64 (k : Int)) ∧ w' = w := by
  subst hM
  have hm0 : ((m : Int) == 0) = false := beq_false_of_ne (by omega)
  have hm1 : decide ((m : Int) = 0) = false := decide_eq_false (by omega)
  rcases Int.lt_or_le c 0 with h | h
  · obtain ⟨d, he⟩ : ∃ d : Nat, -(c + 1) = (d : Int) := ⟨(-(c + 1)).toNat, by omega⟩
    have hd : decide (c < 0) = true := decide_eq_true h
    have ht : (d : Int).tmod (m : Int) = ((d % m : Nat) : Int) := (Int.ofNat_tmod d m).symm
    have hlt := Nat.mod_lt d hm
    obtain ⟨k, hk⟩ : ∃ k, d % m = k := ⟨_, rfl⟩
    rw [hk] at ht hlt
    clear hk
    go_enter Tryz.func20, Tryz.ntmps20
    go_wp2_with fail
    go_ret
    exact ⟨k, hlt, rfl, rfl⟩
  · obtain ⟨d, rfl⟩ : ∃ d : Nat, c = (d : Int) := ⟨c.toNat, by omega⟩
    have ht : (d : Int).tmod (m : Int) = ((d % m : Nat) : Int) := (Int.ofNat_tmod d m).symm
    have hlt := Nat.mod_lt d hm
    obtain ⟨k, hk⟩ : ∃ k, d % m = k := ⟨_, rfl⟩
    rw [hk] at ht hlt
    clear hk h
    go_enter Tryz.func20, Tryz.ntmps20
    go_wp2_with fail
    go_ret
    exact ⟨k, hlt, rfl, rfl⟩
theorem tq_zero : tq 0 = ⟨#[49]⟩ := rfl
theorem tq_succ (i : Nat) : tq i ++ ⟨#[48]⟩ = tq (i + 1) := by
  unfold tq zb
  rw [show (⟨#[49]⟩ : ByteArray) = bs [49] from rfl, show (⟨#[48]⟩ : ByteArray) = bs [48] from rfl, bs_append, bs_append, bs_append, List.append_assoc]
  congr 2
  rw [List.replicate_succ']
theorem tq_size (i : Nat) : (tq i).size = i + 1 := by
  unfold tq zb
  rw [show (⟨#[49]⟩ : ByteArray) = bs [49] from rfl, bs_append, bs_size, List.length_append, List.length_replicate]
  show 1 + i = i + 1
  omega

end Go.Proofs.YtkdcnpleoklcgaaGreatDoor

/-
  Layer 4, for the laws: minus; what roundings answer at fractions that are not too large.
-/
namespace Go.Proofs.YtkdcnpleoklcgaaGreatDoor
open Go.RowKit Bs Ig Qq

theorem hund {z : Int} {k : Nat} (h : z.natAbs < 10 ^ k) (hk : k ≤ 200) : z.natAbs < big := Nat.lt_of_lt_of_le h (Nat.pow_le_pow_right (by omega) hk)
theorem mul_hund {x y : Int} {i j k : Nat} (hx : x.natAbs < 10 ^ i) (hy : y.natAbs < 10 ^ j) (h : i + j ≤ k) : (x * y).natAbs < 10 ^ k := by
  rw [Int.natAbs_mul]
  refine Nat.lt_of_lt_of_le (Nat.mul_lt_mul'' hx hy) ?_
  rw [← Nat.pow_add]
  exact Nat.pow_le_pow_right (by omega) h
theorem sub_hund {x y : Int} {i k : Nat} (hx : x.natAbs < 10 ^ i) (hy : y.natAbs < 10 ^ i) (h : i + 1 ≤ k) : (x - y).natAbs < 10 ^ k := by
  refine Nat.lt_of_lt_of_le ?_ (Nat.pow_le_pow_right (by omega) h)
  rw [Nat.pow_succ]
  have := Int.natAbs_sub_le x y
  omega
theorem add_hund {x y : Int} {i k : Nat} (hx : x.natAbs < 10 ^ i) (hy : y.natAbs < 10 ^ i) (h : i + 1 ≤ k) : (x + y).natAbs < 10 ^ k := by
  refine Nat.lt_of_lt_of_le ?_ (Nat.pow_le_pow_right (by omega) h)
  rw [Nat.pow_succ]
  have := Int.natAbs_add_le x y
  omega
theorem more_hund {z : Int} {i k : Nat} (hx : z.natAbs < 10 ^ i) (h : i ≤ k) : z.natAbs < 10 ^ k := Nat.lt_of_lt_of_le hx (Nat.pow_le_pow_right (by omega) h)
theorem one_hund {k : Nat} (h : 1 ≤ k) : (1 : Int).natAbs < 10 ^ k := Nat.lt_of_lt_of_le (show 1 < 10 ^ 1 by omega) (Nat.pow_le_pow_right (by omega) h)
theorem ten_hund {m k : Nat} (h : m < k) : ((10 ^ m : Nat) : Int).natAbs < 10 ^ k := by rw [Int.natAbs_natCast]; exact Nat.pow_lt_pow_right (by omega) h
theorem fl_hund {x d : Int} {k : Nat} (h : x.natAbs < 10 ^ k) : (fl x d).natAbs < 10 ^ k := Nat.lt_of_le_of_lt (Int.natAbs_ediv_le_natAbs x d) h
theorem ce_hund {x d : Int} {k : Nat} (h : x.natAbs < 10 ^ k) : (ce x d).natAbs < 10 ^ (k + 1) := by
  have h1 := fl_hund (d := d) h
  have h2 := ce_le (x := x) (d := d)
  unfold fl at h1
  have h3 : 0 < 10 ^ k := Nat.pow_pos (by omega)
  rw [Nat.pow_succ]
  omega

section
variable {p : Int × Int} (hp : FV p) {m : Nat} (hm : m ≤ 30)
include hp hm
theorem downQ_T {k : Nat} (h1 : p.1.natAbs < 10 ^ k) (hk : k ≤ 160) : downQ (T p.1) (T p.2) (m : Int) = okA (dn p ((10 ^ m : Nat) : Int)) := by
  have h2 : (p.1 * ((10 ^ m : Nat) : Int)).natAbs < 10 ^ (k + 31) := mul_hund h1 (ten_hund (show m < 31 by omega)) (Nat.le_refl _)
  unfold downQ
  rw [if_pos ⟨by omega, by omega⟩, Int.toNat_natCast]
  exact roundQ_ok hp (tq_T m) (ten_pos m) (ten_big hm) (hund h2 (by omega)) (floorS_T (hund h2 (by omega)) hp.b2 (by have := hp.pos; omega)) (hund (fl_hund h2) (by omega))
theorem upQ_T {k : Nat} (h1 : p.1.natAbs < 10 ^ k) (hk : k ≤ 160) : upQ (T p.1) (T p.2) (m : Int) = okA (up p ((10 ^ m : Nat) : Int)) := by
  have h2 : (p.1 * ((10 ^ m : Nat) : Int)).natAbs < 10 ^ (k + 31) := mul_hund h1 (ten_hund (show m < 31 by omega)) (Nat.le_refl _)
  unfold upQ
  rw [if_pos ⟨by omega, by omega⟩, Int.toNat_natCast]
  have h3 : (ce (p.1 * ((10 ^ m : Nat) : Int)) p.2).natAbs < big := hund (ce_hund h2) (by omega)
  exact roundQ_ok hp (tq_T m) (ten_pos m) (ten_big hm) (hund h2 (by omega)) ((ceilS_T (hund h2 (by omega)) hp.b2 (by have := hp.pos; omega)).trans (wrS_ok h3)) h3
end
section
variable {p : Int × Int} {m : Nat} (hm : m ≤ 30)
include hm
theorem dn_b {k : Nat} (h1 : p.1.natAbs < 10 ^ k) (hk : k ≤ 160) : FV (dn p ((10 ^ m : Nat) : Int)) ∧ (dn p ((10 ^ m : Nat) : Int)).1.natAbs < 10 ^ (k + 31) ∧ (dn p ((10 ^ m : Nat) : Int)).2.natAbs < 10 ^ 31 := by
  have h2 : (p.1 * ((10 ^ m : Nat) : Int)).natAbs < 10 ^ (k + 31) := mul_hund h1 (ten_hund (show m < 31 by omega)) (Nat.le_refl _)
  have h3 := fl_hund (d := p.2) h2
  exact ⟨red_FV (by have := ten_pos m; omega) (hund h3 (by omega)) (ten_big hm), Nat.lt_of_le_of_lt red_le.1 h3, Nat.lt_of_le_of_lt red_le.2 (ten_hund (by omega))⟩
theorem up_b {k : Nat} (h1 : p.1.natAbs < 10 ^ k) (hk : k ≤ 160) : FV (up p ((10 ^ m : Nat) : Int)) ∧ (up p ((10 ^ m : Nat) : Int)).1.natAbs < 10 ^ (k + 32) ∧ (up p ((10 ^ m : Nat) : Int)).2.natAbs < 10 ^ 31 := by
  have h2 : (p.1 * ((10 ^ m : Nat) : Int)).natAbs < 10 ^ (k + 31) := mul_hund h1 (ten_hund (show m < 31 by omega)) (Nat.le_refl _)
  have h3 := ce_hund (d := p.2) h2
  exact ⟨red_FV (by have := ten_pos m; omega) (hund h3 (by omega)) (ten_big hm), Nat.lt_of_le_of_lt red_le.1 h3, Nat.lt_of_le_of_lt red_le.2 (ten_hund (by omega))⟩
end
theorem neg_FV {p : Int × Int} (hp : FV p) : FV (neg p) := ⟨neg_isF hp.isF, by have := hp.b1; show (-p.1).natAbs < big; omega, hp.b2⟩
theorem zero_FV : FV (0, 1) := ⟨zero_isF, zero_bigQ, one_bigQ⟩
theorem negQ {p : Int × Int} (hp : FV p) : subQ (T 0) (T 1) (T p.1) (T p.2) = okA (neg p) := by
  have h := subQ_ok (p := (0, 1)) (q := p) zero_FV hp (by show ((0 : Int) * p.2).natAbs < big; rw [Int.zero_mul]; exact zero_bigQ) (by show (p.1 * 1).natAbs < big; rw [Int.mul_one]; exact hp.b1)
    (by have := hp.b1; show ((0 : Int) * p.2 - p.1 * 1).natAbs < big; rw [Int.zero_mul, Int.mul_one]; omega) (by show ((1 : Int) * p.2).natAbs < big; rw [Int.one_mul]; exact hp.b2)
  rw [h]
  congr 1
  exact neg_sub hp.isF

set_option maxRecDepth 100000 in
set_option maxHeartbeats 4000000 in
theorem qminus_any (R1 R2 X1 X2 : ByteArray) (X3 : Int) (w : World) (ht : TabP w) (h : subQ ⟨#[48]⟩ ⟨#[49]⟩ R1 R2 = (X1, X2, X3)) :
    Calls Tryz.prog 40 #[.agg #[.string R1, .string R2]] w fun e w' => e = .returned (.agg #[.string X1, .string X2]) ∧ Below w.heap.size w w' := by
  have hS := fun (W : World) (h : TabP W) => qSub_any ⟨#[48]⟩ ⟨#[49]⟩ R1 R2 W h
  simp only [h] at hS
  unfold Answers at hS
  simp only at hS
  have HS := Lib.hid hS
  have HI := Lib.hid is_any
  have hN := ((St.start ht).add R1 R2).add ⟨#[]⟩ ⟨#[]⟩
  rw [show (w.alloc (.cells #[.string R1, .string R2] 23)).heap.size = w.heap.size + 1 by simp] at hN
  have HN := Lib.hid hN
  clear h hS ht hN
  go_enter Tryz.func40, Tryz.ntmps40
  go_wp2_with fail
  have c0 := HN.out.tail.head.c0
  have c1 := HN.out.tail.head.c1
  refine wp_world fun W hW => ?_
  rw [← hW] at HN c0 c1
  clear hW
  go_region_held3 (fun w' => w'.cell? ⟨w.heap.size, 0, none⟩ = some (.string R1) ∧ w'.cell? ⟨w.heap.size, 1, none⟩ = some (.string R2)) (first | exact ⟨HN.out.tail.head.c0, HN.out.tail.head.c1⟩ | exact ⟨(HN.out.add _ _).tail.tail.head.c0, (HN.out.add _ _).tail.tail.head.c1⟩ | exact ⟨HN.out.tail.tail.head.c0, HN.out.tail.tail.head.c1⟩ | exact ⟨(HN.out.put HL.out _ _).tail.tail.head.c0, (HN.out.put HL.out _ _).tail.tail.head.c1⟩ | go_keep)
    (first
      | (go_at_call 39; (with_reducible refine (HI.out _ _ _).mono ?_); rintro e w4 ⟨rfl, hB⟩; (first | have HN := Lib.hid (HN.out.step (below_undrew hB)) | (have HL := Lib.hid HN.out.lts; have HN := Lib.hid ((HN.out.add _ _).step (below_undrew hB)); have x0 := HN.out.head.f0; have x1 := HN.out.head.f1; have x2 := HN.out.head.c0; have x3 := HN.out.head.c1)); clear hB)
      | (go_at_call 38; (with_reducible refine (HS.out _ HN.out.tab).mono ?_); rintro e w5 ⟨rfl, hB⟩; clear x0 x1 x2 x3; have HN := Lib.hid (HN.out.step hB); clear hB; have x0 := HN.out.head.f0; have x1 := HN.out.head.f1; have x2 := HN.out.head.c0; have x3 := HN.out.head.c1)
      | (go_at_call 38; have HL := Lib.hid HN.out.lts; (with_reducible refine (HS.out _ (HN.out.add _ _).tab).mono ?_); rintro e w5 ⟨rfl, hB⟩; have HN := Lib.hid ((HN.out.add _ _).step hB); clear hB; have x0 := HN.out.head.f0; have x1 := HN.out.head.f1; have x2 := HN.out.head.c0; have x3 := HN.out.head.c1)
      | (go_at_call 38; (with_reducible refine (HS.out _ HN.out.tab).mono ?_); rintro e w5 ⟨rfl, hB⟩; have HN := Lib.hid (HN.out.step hB); clear hB))
  all_goals first | have HN := Lib.hid (HN.out.put HL.out X1 X2) | have HN := Lib.hid (HN.out.add X1 X2)
  all_goals try clear x0 x1 x2 x3
  all_goals clear c0 c1
  all_goals
    have y0 := HN.out.head.c0
    have y1 := HN.out.head.c1
    have y2 := HN.out.tail.head.f0
    have y3 := HN.out.tail.head.f1
    have y4 := HN.out.tail.head.c0
    have y5 := HN.out.tail.head.c1
    go_wp2_with fail
    exact bodyPost_ret (results_cell_row rfl _ _ (w.heap.size + 1) 23 #[.string X1, .string X2] _ _ rfl (two_strs HN.out.tail.head X1 X2) Tryz.underlying23 rfl (by kernel_rfl)) rfl ⟨rfl, fin1 HN.out.tail.head HN.out.below (by omega) _ _⟩

end Go.Proofs.YtkdcnpleoklcgaaGreatDoor

/-
  RationalGrid: what its calls answer.
-/
namespace Go.Proofs.YtkdcnpleoklcgaaGreatDoor
open Go.RowKit Bs Ig Qq

theorem okA_T {p : Int × Int} {x y : ByteArray} (h1 : T p.1 = x) (h2 : T p.2 = y) : okA p = (x, y, 0) := by unfold okA; rw [h1, h2]
theorem grid_ans {p : Int × Int} (hp : FV p) (h1 : p.1.natAbs < 10 ^ 100) {m : Nat} (hm : m ≤ 30) :
    ∃ (A1 A2 B1 B2 C1 C2 N1 V1 V2 M1 : ByteArray) (v1 v2 : Int), downQ (T p.1) (T p.2) (m : Int) = (A1, A2, 0) ∧ upQ (T p.1) (T p.2) (m : Int) = (B1, B2, 0) ∧ subQ ⟨#[48]⟩ ⟨#[49]⟩ (T p.1) (T p.2) = (M1, T p.2, 0) ∧
      downQ M1 (T p.2) (m : Int) = (C1, C2, 0) ∧ subQ ⟨#[48]⟩ ⟨#[49]⟩ C1 C2 = (B1, B2, 0) ∧ downQ B1 B2 (m : Int) = (B1, B2, 0) ∧ upQ A1 A2 (m : Int) = (A1, A2, 0) ∧ mulQ A1 A2 (tq m) ⟨#[49]⟩ = (N1, ⟨#[49]⟩, 0) ∧
      subQ B1 B2 A1 A2 = (V1, V2, 0) ∧ v1 ≤ 0 ∧ 0 ≤ v2 ∧ (v1 = 0 ∧ v2 = 0 ∧ V1 = ⟨#[48]⟩ ∧ V2 = ⟨#[49]⟩ ∨ v1 ≠ 0 ∧ v2 ≠ 0 ∧ V1 = ⟨#[49]⟩ ∧ V2 = tq m) ∧
      (∀ W, TabP W → Calls Tryz.prog 18 #[.agg #[.string A1, .string A2], .agg #[.string (T p.1), .string (T p.2)]] W fun e w' => e = .returned (.int .i64 v1) ∧ Below W.heap.size W w') ∧
      (∀ W, TabP W → Calls Tryz.prog 18 #[.agg #[.string B1, .string B2], .agg #[.string (T p.1), .string (T p.2)]] W fun e w' => e = .returned (.int .i64 v2) ∧ Below W.heap.size W w') := by
  have ht := ten_pos m
  have hA := dn_b (p := p) hm h1 (by omega)
  have hB := up_b (p := p) hm h1 (by omega)
  have hn : (neg p).1.natAbs < 10 ^ 100 := by show (-p.1).natAbs < _; omega
  have hC := dn_b (p := neg p) hm hn (by omega)
  have htm : ((10 ^ m : Nat) : Int).natAbs < 10 ^ 31 := ten_hund (by omega)
  have htb := ten_big hm
  have hTq := tq_T m
  have d1 := downQ_T hp hm h1 (by omega)
  have u1 := upQ_T hp hm h1 (by omega)
  have n1 := negQ hp
  have d2 := downQ_T (neg_FV hp) hm hn (by omega)
  have n2 := negQ hC.1
  rw [neg_dn hp.isF ht] at n2
  have d3 := downQ_T hB.1 hm hB.2.1 (by omega)
  rw [dn_up ht] at d3
  have u3 := upQ_T hA.1 hm hA.2.1 (by omega)
  rw [up_dn ht] at u3
  have tF : FV (((10 ^ m : Nat) : Int), 1) := ⟨⟨Int.one_pos, by simp⟩, htb, one_bigQ⟩
  have m1 := mulQ_ok (p := dn p ((10 ^ m : Nat) : Int)) (q := (((10 ^ m : Nat) : Int), 1)) hA.1 tF (hund (mul_hund hA.2.1 htm (Nat.le_refl _)) (by omega)) (by show ((dn p ((10 ^ m : Nat) : Int)).2 * 1).natAbs < big; rw [Int.mul_one]; exact hA.1.b2)
  have s1 := subQ_ok (p := up p ((10 ^ m : Nat) : Int)) (q := dn p ((10 ^ m : Nat) : Int)) hB.1 hA.1 (hund (mul_hund hB.2.1 hA.2.2 (Nat.le_refl _)) (by omega)) (hund (mul_hund hA.2.1 hB.2.2 (Nat.le_refl _)) (by omega))
    (hund (sub_hund (mul_hund hB.2.1 hA.2.2 (Nat.le_refl _)) (mul_hund hA.2.1 hB.2.2 (by omega)) (Nat.le_refl _)) (by omega)) (hund (mul_hund hB.2.2 hA.2.2 (Nat.le_refl _)) (by omega))
  have hw := width (r := p) ht
  have k1 := dn_le hp.isF ht
  have k2 := up_ge hp.isF ht
  have e1 := dn_exact hp.isF ht
  have e2 := up_exact hp.isF ht
  have g1 := grid_den (k := fl (p.1 * ((10 ^ m : Nat) : Int)) p.2) ht
  have c1 := fun W h => qcompare hA.1 hp W h
  have c2 := fun W h => qcompare hB.1 hp W h
  rw [T0, T1] at n1 n2
  refine ⟨_, _, _, _, _, _, T (times (dn p ((10 ^ m : Nat) : Int)) (((10 ^ m : Nat) : Int), 1)).1, T (less (up p ((10 ^ m : Nat) : Int)) (dn p ((10 ^ m : Nat) : Int))).1, T (less (up p ((10 ^ m : Nat) : Int)) (dn p ((10 ^ m : Nat) : Int))).2, _, _, _, d1, u1, n1, d2, n2, d3, u3, ?_, ?_, k1, k2, ?_, c1, c2⟩
  · rw [hTq, ← T1]
    refine m1.trans (okA_T rfl ?_)
    unfold times dn
    rw [g1]
  · exact s1
  · unfold less
    rw [hw]
    by_cases h : (p.1 * ((10 ^ m : Nat) : Int)) % p.2 = 0
    · rw [if_pos h]; exact .inl ⟨e1.2 h, e2.2 h, T0, T1⟩
    · rw [if_neg h]; exact .inr ⟨fun hh => h (e1.1 hh), fun hh => h (e2.1 hh), T1, hTq.symm⟩

end Go.Proofs.YtkdcnpleoklcgaaGreatDoor
