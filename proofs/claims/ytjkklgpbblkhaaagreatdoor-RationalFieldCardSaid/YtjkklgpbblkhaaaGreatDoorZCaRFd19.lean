/-
  Put together by program out of these texts, in this order: Rlh, Rfi, Qpk.
-/
import Derived.Test.YtjkklgpbblkhaaaGreatDoorZCaRFd18
import Derived.Test.YtjkklgpbblkhaaaGreatDoorZCaRFd12
import Derived.Test.YtjkklgpbblkhaaaGreatDoorZCaRFd14

/-
  Layer 4, the reference: the fractions of up to 100 digits, walked.
-/
namespace Go.Proofs.YtjkklgpbblkhaaaGreatDoor
open Go.RowKit Bs Ig Qq

/-- a numeral of at most 100 digits -/
def Nm (A : ByteArray) : Prop := ∃ n : Nat, n < 10 ^ 100 ∧ A = T (n : Int)

set_option maxRecDepth 100000 in
set_option maxHeartbeats 16000000 in
theorem rLong_any (x0 x1 x2 x3 : Int) (h0 : -9223372036854775808 ≤ x0) (k0 : x0 ≤ 9223372036854775807) (h1 : -9223372036854775808 ≤ x1) (k1 : x1 ≤ 9223372036854775807) (h2 : -9223372036854775808 ≤ x2) (k2 : x2 ≤ 9223372036854775807) (h3 : -9223372036854775808 ≤ x3) (k3 : x3 ≤ 9223372036854775807) (w : World) :
    Calls Tryz.prog 13 #[.agg #[.int .i64 x0, .int .i64 x1, .int .i64 x2, .int .i64 x3]] w fun e w' => ∃ p : Int × Int, FV p ∧ p.1.natAbs < 10 ^ 100 ∧ p.2.natAbs < 10 ^ 100 ∧ e = .returned (.agg #[.string (T p.1), .string (T p.2)]) ∧ Below w.heap.size w w' := by
  have P0 := Lib.hid (fun W => rpick4_any x0 h0 k0 1000000007 1000000007 rfl (by omega) W)
  have P1 := Lib.hid (fun W => rpick4_any x1 h1 k1 100 100 rfl (by omega) W)
  have P2 := Lib.hid (fun W => rpick4_any x2 h2 k2 1000000007 1000000007 rfl (by omega) W)
  have P3 := Lib.hid (fun W => rpick4_any x3 h3 k3 100 100 rfl (by omega) W)
  have HL := Lib.hid (Lst.start w x0 x1 x2 x3)
  clear h1 k1 h2 k2 h3 k3
  go_enter Tryz.func13, Tryz.ntmps13
  go_wp2_with fail
  go_loopw [4] (fun k wr => ∃ (i : Int) (A B : ByteArray), k = .int .i64 i ∧ (i = 0 ∨ (i = 1 ∧ Nm A) ∨ (i = 2 ∧ Nm A ∧ Nm B)) ∧ Lst w x0 x1 x2 x3 A B wr) (fun k _ => (2 - intOf k).toNat)
  case atStart => exact ⟨0, _, _, rfl, .inl rfl, HL.out⟩
  case round =>
    obtain ⟨i, A, B, rfl, hi, hL⟩ := hrel
    rcases hi with rfl | ⟨rfl, hA⟩ | ⟨rfl, hA, hB⟩
    · have q0 := hL.c0
      have q1 := hL.c1
      have HL := Lib.hid hL
      clear hL
      go_wp2_with (first
        | (go_at_call 46; (with_reducible refine (P1.out _).mono ?_); rintro e ww ⟨n, hn, rfl, hww⟩; rw [hww]; clear hww ww)
        | (go_at_call 46; (with_reducible refine (P0.out _).mono ?_); rintro e ww ⟨c, hc, rfl, hww⟩; rw [hww]; clear hww ww))
      have HL := Lib.hid HL.out
      go_loopw [6, 7] (fun s c wr => ∃ (l : List UInt8) (m : Nat), s = .string (bs l) ∧ c = .int .i64 (m : Int) ∧ m < 2147483647 ∧ (∀ c ∈ l, isDig c) ∧ l.length ≤ n + 1 ∧ Lst w x0 x1 x2 x3 A B wr) (fun s _ _ => n + 1 - szOf s)
      case atStart => exact ⟨[], c, rfl, rfl, by omega, (fun _ hx => nomatch hx), by simp, HL.out⟩
      case round =>
        obtain ⟨l, m, rfl, rfl, hm, hdig, hlen, hL⟩ := hrel
        have HL := Lib.hid hL
        clear hL
        obtain ⟨S, hS⟩ : ∃ S, bs l = S := ⟨_, rfl⟩
        have hSz : S.size = l.length := by rw [← hS, bs_size]
        rw [hS]
        have HS := Lib.hid hS
        have HD := Lib.hid hdig
        clear hS hdig
        rcases Nat.lt_or_ge l.length (n + 1) with hl | hl
        · obtain ⟨m2, hm2⟩ : ∃ m2, (m * 48271 + 11) % 2147483647 = m2 := ⟨_, rfl⟩
          have e1 : ((m : Int) * 48271 + 11).tmod 2147483647 = (m2 : Int) := by
            rw [← hm2]; exact (Int.ofNat_tmod (m * 48271 + 11) 2147483647).symm
          have hm2l : m2 < 2147483647 := by rw [← hm2]; exact Nat.mod_lt _ (by omega)
          obtain ⟨m3, hm3⟩ : ∃ m3, m2 / 65536 = m3 := ⟨_, rfl⟩
          have e2 : (m2 : Int).tdiv 65536 = (m3 : Int) := by rw [← hm3]; exact (Int.ofNat_tdiv m2 65536).symm
          obtain ⟨d, hd⟩ : ∃ d, m3 % 10 = d := ⟨_, rfl⟩
          have e3 : (m3 : Int).tmod 10 = (d : Int) := by rw [← hd]; exact (Int.ofNat_tmod m3 10).symm
          have hdl : d < 10 := by rw [← hd]; exact Nat.mod_lt _ (by omega)
          have hm3l : m3 < 32768 := by omega
          have e4 : decide ((S.size : Int) < 1 + (n : Int)) = true := decide_eq_true (by omega)
          have e5 : decide ((S.size : Int) < (n : Int) + 1) = true := decide_eq_true (by omega)
          have e6 : IntKind.u8.wrap (48 + (d : Int)) = 48 + (d : Int) := by rw [IntKind.wrap_u8]; omega
          have hcv : (convert 48 9 (.slice (some ⟨wr.heap.size, 0, none⟩) 1 1)).run Tryz.prog (wr.alloc (.cells #[.int .u8 (48 + (d : Int))] 5)) = .ok (.string (bs [UInt8.ofNat (48 + (d : Int)).toNat])) (wr.alloc (.cells #[.int .u8 (48 + (d : Int))] 5)) :=
            run_convert_bytes_arg _ 48 5 Tryz.underlying48 Tryz.underlying5 wr.heap.size 0 1 1 [48 + (d : Int)] rfl (fun i hi => by
              obtain rfl : i = 0 := by omega
              rw [cell_of_row _ _ _ _ _ _ (show (wr.alloc (.cells #[.int .u8 (48 + (d : Int))] 5)).heap[wr.heap.size]? = _ from heap_alloc_new _ _)]; rfl) 9 Tryz.underlying9
          obtain ⟨E, hE⟩ : ∃ E, bs [UInt8.ofNat (48 + (d : Int)).toNat] = E := ⟨_, rfl⟩
          have hEz : E.size = 1 := by rw [← hE]; rfl
          rw [hE] at hcv
          have HE := Lib.hid hE
          have f1 : ¬ 9223372036854775807 < S.size + E.size := by omega
          have f2 : ¬ 9223372036854775807 < S.size + 1 := by omega
          clear hm2 hm3 hd hE
          go_wp2_with fail
          go_roundw
          case rel =>
            refine ⟨l ++ [UInt8.ofNat (48 + d)], m2, ?_, rfl, hm2l, ?_, by simp; omega, HL.out.step ((Below.refl _ _).alloc (Nat.le_refl _) _)⟩
            · rw [← bs_append, HS.out, ← HE.out]; rfl
            · intro x hx
              rcases List.mem_append.1 hx with hx | hx
              · exact HD.out x hx
              · rw [List.mem_singleton.1 hx]; exact dig_ok hdl
          case measure => simp [szOf]; omega
        · have e4 : decide ((S.size : Int) < 1 + (n : Int)) = false := decide_eq_false (by omega)
          have e5 : decide ((S.size : Int) < (n : Int) + 1) = false := decide_eq_false (by omega)
          go_wp2_with fail
          clear e4 e5
          go_loopw [6] (fun s wr => ∃ (c : UInt8) (l : List UInt8), s = .string (bs (c :: l)) ∧ (∀ x ∈ c :: l, isDig x) ∧ l.length < 100 ∧ Lst w x0 x1 x2 x3 A B wr) (fun s _ => szOf s)
          case atStart =>
            match l, HS.out, HD.out, hl, hlen with
            | c :: l, hS, hD, _, hlen => exact ⟨c, l, by rw [hS], hD, by simp at hlen; omega, HL.out⟩
          case round =>
            obtain ⟨b, t, rfl, hdig, hlen, hL⟩ := hrel
            have q0 := hL.f0
            have q1 := hL.a0
            have HL := Lib.hid hL
            clear hL
            clear hSz HS HD hl
            obtain ⟨S, hS⟩ : ∃ S, bs (b :: t) = S := ⟨_, rfl⟩
            have hSz : S.size = t.length + 1 := by rw [← hS, bs_size]; rfl
            have g1 : 0 < S.size := by omega
            obtain ⟨q, hq⟩ : ∃ q, (S[0]'g1).toNat = q := ⟨_, rfl⟩
            have hqb : b.toNat = q := by rw [← hq]; subst hS; rfl
            have hex : S.extract 1 (t.length + 1) = bs t := by rw [← hS, bs_extract]; simp
            rw [hS]
            have HS := Lib.hid hS
            have HD := Lib.hid hdig
            have HX := Lib.hid hex
            clear hS hdig hex
            by_cases hgo : t ≠ [] ∧ q = 48
            · obtain ⟨h1, rfl⟩ := hgo
              have ht1 : 0 < t.length := List.length_pos_iff.2 h1
              have e1 : decide (1 < (S.size : Int)) = true := decide_eq_true (by omega)
              have e2 : decide (1 < S.size) = true := decide_eq_true (by omega)
              go_wp2_with fail
              go_roundw
              case rel =>
                match t, h1, HX.out, HD.out, hlen with
                | c :: t, _, hX, hD, hlen => exact ⟨c, t, by rw [hX], fun x hx => hD x (List.mem_cons_of_mem _ hx), by simp at hlen; omega, HL.out⟩
              case measure => simp [szOf]; omega
            · have hN : Nm S := by
                rw [← HS.out]
                refine ⟨num (b :: t), ?_, digs_T HD.out (by simp) ?_⟩
                · have := num_lt _ HD.out
                  rw [List.length_cons] at this
                  exact Nat.lt_of_lt_of_le this (Nat.pow_le_pow_right (by omega) hlen)
                · by_cases h1 : t = []
                  · exact .inl (by rw [h1]; rfl)
                  · refine .inr (fun e => hgo ⟨h1, ?_⟩)
                    rw [← hqb]
                    simp at e
                    rw [e]; rfl
              have HN := Lib.hid hN
              clear hN
              by_cases h1 : t = []
              · have e1 : decide (1 < (S.size : Int)) = false := decide_eq_false (by rw [hSz, h1]; simp)
                have e2 : decide (1 < S.size) = false := decide_eq_false (by rw [hSz, h1]; simp)
                go_wp2_with fail
                go_roundw
                case rel => exact ⟨1, _, _, rfl, .inr (.inl ⟨rfl, HN.out⟩), HL.out.put0 _⟩
                case measure => simp [intOf]
              · have h2 : q ≠ 48 := fun e => hgo ⟨h1, e⟩
                have ht1 : 0 < t.length := List.length_pos_iff.2 h1
                have e1 : decide (1 < (S.size : Int)) = true := decide_eq_true (by omega)
                have e2 : decide (1 < S.size) = true := decide_eq_true (by omega)
                have e3 : ((q : Int) == 48) = false := beq_false_of_ne (by omega)
                have e4 : (q == 48) = false := beq_false_of_ne (by omega)
                go_wp2_with fail
                go_roundw
                case rel => exact ⟨1, _, _, rfl, .inr (.inl ⟨rfl, HN.out⟩), HL.out.put0 _⟩
                case measure => simp [intOf]
    · have q0 := hL.c2
      have q1 := hL.c3
      have HL := Lib.hid hL
      clear hL
      go_wp2_with (first
        | (go_at_call 46; (with_reducible refine (P3.out _).mono ?_); rintro e ww ⟨n, hn, rfl, hww⟩; rw [hww]; clear hww ww)
        | (go_at_call 46; (with_reducible refine (P2.out _).mono ?_); rintro e ww ⟨c, hc, rfl, hww⟩; rw [hww]; clear hww ww))
      have HL := Lib.hid HL.out
      go_loopw [6, 7] (fun s c wr => ∃ (l : List UInt8) (m : Nat), s = .string (bs l) ∧ c = .int .i64 (m : Int) ∧ m < 2147483647 ∧ (∀ c ∈ l, isDig c) ∧ l.length ≤ n + 1 ∧ Lst w x0 x1 x2 x3 A B wr) (fun s _ _ => n + 1 - szOf s)
      case atStart => exact ⟨[], c, rfl, rfl, by omega, (fun _ hx => nomatch hx), by simp, HL.out⟩
      case round =>
        obtain ⟨l, m, rfl, rfl, hm, hdig, hlen, hL⟩ := hrel
        have HL := Lib.hid hL
        clear hL
        obtain ⟨S, hS⟩ : ∃ S, bs l = S := ⟨_, rfl⟩
        have hSz : S.size = l.length := by rw [← hS, bs_size]
        rw [hS]
        have HS := Lib.hid hS
        have HD := Lib.hid hdig
        clear hS hdig
        rcases Nat.lt_or_ge l.length (n + 1) with hl | hl
        · obtain ⟨m2, hm2⟩ : ∃ m2, (m * 48271 + 11) % 2147483647 = m2 := ⟨_, rfl⟩
          have e1 : ((m : Int) * 48271 + 11).tmod 2147483647 = (m2 : Int) := by
            rw [← hm2]; exact (Int.ofNat_tmod (m * 48271 + 11) 2147483647).symm
          have hm2l : m2 < 2147483647 := by rw [← hm2]; exact Nat.mod_lt _ (by omega)
          obtain ⟨m3, hm3⟩ : ∃ m3, m2 / 65536 = m3 := ⟨_, rfl⟩
          have e2 : (m2 : Int).tdiv 65536 = (m3 : Int) := by rw [← hm3]; exact (Int.ofNat_tdiv m2 65536).symm
          obtain ⟨d, hd⟩ : ∃ d, m3 % 10 = d := ⟨_, rfl⟩
          have e3 : (m3 : Int).tmod 10 = (d : Int) := by rw [← hd]; exact (Int.ofNat_tmod m3 10).symm
          have hdl : d < 10 := by rw [← hd]; exact Nat.mod_lt _ (by omega)
          have hm3l : m3 < 32768 := by omega
          have e4 : decide ((S.size : Int) < 1 + (n : Int)) = true := decide_eq_true (by omega)
          have e5 : decide ((S.size : Int) < (n : Int) + 1) = true := decide_eq_true (by omega)
          have e6 : IntKind.u8.wrap (48 + (d : Int)) = 48 + (d : Int) := by rw [IntKind.wrap_u8]; omega
          have hcv : (convert 48 9 (.slice (some ⟨wr.heap.size, 0, none⟩) 1 1)).run Tryz.prog (wr.alloc (.cells #[.int .u8 (48 + (d : Int))] 5)) = .ok (.string (bs [UInt8.ofNat (48 + (d : Int)).toNat])) (wr.alloc (.cells #[.int .u8 (48 + (d : Int))] 5)) :=
            run_convert_bytes_arg _ 48 5 Tryz.underlying48 Tryz.underlying5 wr.heap.size 0 1 1 [48 + (d : Int)] rfl (fun i hi => by
              obtain rfl : i = 0 := by omega
              rw [cell_of_row _ _ _ _ _ _ (show (wr.alloc (.cells #[.int .u8 (48 + (d : Int))] 5)).heap[wr.heap.size]? = _ from heap_alloc_new _ _)]; rfl) 9 Tryz.underlying9
          obtain ⟨E, hE⟩ : ∃ E, bs [UInt8.ofNat (48 + (d : Int)).toNat] = E := ⟨_, rfl⟩
          have hEz : E.size = 1 := by rw [← hE]; rfl
          rw [hE] at hcv
          have HE := Lib.hid hE
          have f1 : ¬ 9223372036854775807 < S.size + E.size := by omega
          have f2 : ¬ 9223372036854775807 < S.size + 1 := by omega
          clear hm2 hm3 hd hE
          go_wp2_with fail
          go_roundw
          case rel =>
            refine ⟨l ++ [UInt8.ofNat (48 + d)], m2, ?_, rfl, hm2l, ?_, by simp; omega, HL.out.step ((Below.refl _ _).alloc (Nat.le_refl _) _)⟩
            · rw [← bs_append, HS.out, ← HE.out]; rfl
            · intro x hx
              rcases List.mem_append.1 hx with hx | hx
              · exact HD.out x hx
              · rw [List.mem_singleton.1 hx]; exact dig_ok hdl
          case measure => simp [szOf]; omega
        · have e4 : decide ((S.size : Int) < 1 + (n : Int)) = false := decide_eq_false (by omega)
          have e5 : decide ((S.size : Int) < (n : Int) + 1) = false := decide_eq_false (by omega)
          go_wp2_with fail
          clear e4 e5
          go_loopw [6] (fun s wr => ∃ (c : UInt8) (l : List UInt8), s = .string (bs (c :: l)) ∧ (∀ x ∈ c :: l, isDig x) ∧ l.length < 100 ∧ Lst w x0 x1 x2 x3 A B wr) (fun s _ => szOf s)
          case atStart =>
            match l, HS.out, HD.out, hl, hlen with
            | c :: l, hS, hD, _, hlen => exact ⟨c, l, by rw [hS], hD, by simp at hlen; omega, HL.out⟩
          case round =>
            obtain ⟨b, t, rfl, hdig, hlen, hL⟩ := hrel
            have q0 := hL.f1
            have q1 := hL.a1
            have HL := Lib.hid hL
            clear hL
            clear hSz HS HD hl
            obtain ⟨S, hS⟩ : ∃ S, bs (b :: t) = S := ⟨_, rfl⟩
            have hSz : S.size = t.length + 1 := by rw [← hS, bs_size]; rfl
            have g1 : 0 < S.size := by omega
            obtain ⟨q, hq⟩ : ∃ q, (S[0]'g1).toNat = q := ⟨_, rfl⟩
            have hqb : b.toNat = q := by rw [← hq]; subst hS; rfl
            have hex : S.extract 1 (t.length + 1) = bs t := by rw [← hS, bs_extract]; simp
            rw [hS]
            have HS := Lib.hid hS
            have HD := Lib.hid hdig
            have HX := Lib.hid hex
            clear hS hdig hex
            by_cases hgo : t ≠ [] ∧ q = 48
            · obtain ⟨h1, rfl⟩ := hgo
              have ht1 : 0 < t.length := List.length_pos_iff.2 h1
              have e1 : decide (1 < (S.size : Int)) = true := decide_eq_true (by omega)
              have e2 : decide (1 < S.size) = true := decide_eq_true (by omega)
              go_wp2_with fail
              go_roundw
              case rel =>
                match t, h1, HX.out, HD.out, hlen with
                | c :: t, _, hX, hD, hlen => exact ⟨c, t, by rw [hX], fun x hx => hD x (List.mem_cons_of_mem _ hx), by simp at hlen; omega, HL.out⟩
              case measure => simp [szOf]; omega
            · have hN : Nm S := by
                rw [← HS.out]
                refine ⟨num (b :: t), ?_, digs_T HD.out (by simp) ?_⟩
                · have := num_lt _ HD.out
                  rw [List.length_cons] at this
                  exact Nat.lt_of_lt_of_le this (Nat.pow_le_pow_right (by omega) hlen)
                · by_cases h1 : t = []
                  · exact .inl (by rw [h1]; rfl)
                  · refine .inr (fun e => hgo ⟨h1, ?_⟩)
                    rw [← hqb]
                    simp at e
                    rw [e]; rfl
              have HN := Lib.hid hN
              clear hN
              by_cases h1 : t = []
              · have e1 : decide (1 < (S.size : Int)) = false := decide_eq_false (by rw [hSz, h1]; simp)
                have e2 : decide (1 < S.size) = false := decide_eq_false (by rw [hSz, h1]; simp)
                go_wp2_with fail
                go_roundw
                case rel => exact ⟨2, _, _, rfl, .inr (.inr ⟨rfl, hA, HN.out⟩), HL.out.put1 _⟩
                case measure => simp [intOf]
              · have h2 : q ≠ 48 := fun e => hgo ⟨h1, e⟩
                have ht1 : 0 < t.length := List.length_pos_iff.2 h1
                have e1 : decide (1 < (S.size : Int)) = true := decide_eq_true (by omega)
                have e2 : decide (1 < S.size) = true := decide_eq_true (by omega)
                have e3 : ((q : Int) == 48) = false := beq_false_of_ne (by omega)
                have e4 : (q == 48) = false := beq_false_of_ne (by omega)
                go_wp2_with fail
                go_roundw
                case rel => exact ⟨2, _, _, rfl, .inr (.inr ⟨rfl, hA, HN.out⟩), HL.out.put1 _⟩
                case measure => simp [intOf]
    · obtain ⟨a, ha, hAe⟩ := hA
      obtain ⟨b, hb, hBe⟩ := hB
      have HM : ∀ (N D' : ByteArray) (n d : Int), N = T n → D' = T d → n.natAbs < 10 ^ 100 → 0 < d → d.natAbs < 10 ^ 100 → ∃ R1 R2 : ByteArray, (∃ p : Int × Int, FV p ∧ p.1.natAbs < 10 ^ 100 ∧ p.2.natAbs < 10 ^ 100 ∧ R1 = T p.1 ∧ R2 = T p.2) ∧
          ∀ W, Calls Tryz.prog 28 #[.string N, .string D'] W fun e w' => e = .returned (.tuple #[.agg #[.string R1, .string R2], .int .i64 0]) ∧ Below W.heap.size W w' := by
        rintro N D' n d rfl rfl hn hd hdb
        have hn2 : n.natAbs < big := Nat.lt_of_lt_of_le hn (Nat.pow_le_pow_right (by omega) (by omega))
        have hd2 : d.natAbs < big := Nat.lt_of_lt_of_le hdb (Nat.pow_le_pow_right (by omega) (by omega))
        exact ⟨_, _, ⟨red n d, red_FV (by omega) hn2 hd2, Nat.lt_of_le_of_lt red_le.1 hn, Nat.lt_of_le_of_lt red_le.2 hdb, rfl, rfl⟩, fun W => rMake_T n d hn2 hd2 hd W⟩
      have z7 : (7 : Int).natAbs < 10 ^ 100 := Nat.lt_of_lt_of_le (show 7 < 10 ^ 1 by omega) (Nat.pow_le_pow_right (by omega) (by omega))
      have HB0 := Lib.hid HL
      obtain ⟨K, hK, PS⟩ : ∃ K : Int, (K = 0 ∨ K = 1) ∧ ∀ W, Calls Tryz.prog 46 #[.int .i64 x0, .int .i64 2] W fun e w' => e = .returned (.int .i64 K) ∧ w' = W := by
        obtain ⟨k, hk, hh⟩ := rpick4_det x0 h0 k0 2 2 rfl (by omega)
        exact ⟨k, by omega, hh⟩
      rcases Nat.eq_zero_or_pos b with hb0 | hb0
      · have gB : (B.toList == [48]) = true := by rw [hBe, hb0]; show ((T 0).toList == [48]) = true; rw [T0, toList_eq]; rfl
        have fA : A.size ≤ 1000 := by
          rw [hAe]; unfold T; rw [bs_size]
          have := itoa_len (z := (a : Int)) (show (a : Int).natAbs < big from Nat.lt_of_lt_of_le (show (a : Int).natAbs < 10 ^ 100 by rw [Int.natAbs_natCast]; exact ha) (Nat.pow_le_pow_right (by omega) (by omega)))
          omega
        have f1 : ¬ 9223372036854775807 < 1 + A.size := by omega
        have f2 : ¬ 9223372036854775807 < A.size + 1 := by omega
        rcases hK with rfl | rfl
        · rcases Nat.eq_zero_or_pos a with ha0 | ha0
          · have gA : (A.toList == [48]) = true := by rw [hAe, ha0]; show ((T 0).toList == [48]) = true; rw [T0, toList_eq]; rfl
            have gA2 : (A.toList != [48]) = false := by rw [bne, gA]; rfl
            obtain ⟨R1, R2, hp, hM⟩ := HM A ⟨#[55]⟩ (a : Int) 7 hAe T7 (by omega) (by omega) z7
            have y0 := hL.a0
            have y1 := hL.a1
            have y2 := hL.f1
            have y3 := hL.c0
            have y4 := hL.f0
            have l2 := hL.put1 ⟨#[55]⟩
            have v0 := l2.a0
            have v1 := l2.a1
            have v3 := l2.c0
            have v4 := l2.f0
            have HLL := Lib.hid l2
            have HPP := Lib.hid PS
            have HMM := Lib.hid hM
            have HP := Lib.hid hp
            clear hM PS hp HM z7 hAe hBe ha hb hL HB0 HL l2
            go_wp2_with (first
              | (go_at_call 46; (with_reducible refine (HPP.out _).mono ?_); rintro e ww ⟨rfl, hww⟩; rw [hww]; clear hww ww)
              | (go_at_call 28; (with_reducible refine (HMM.out _).mono ?_); rintro e w5 ⟨rfl, B5⟩; have l5 := HLL.out.step B5; have n5 := IsB.new w5 R1 R2; have l6 := l5.step ((Below.refl _ w5).alloc (Nat.le_refl _) (.cells #[.string R1, .string R2] 23)); have n0 := n5.c0; have n1 := n5.c1; have n2 := l6.ra.f0; have n3 := l6.ra.f1; have n4 := l6.ra.c0; have n6 := l6.ra.c1))
            obtain ⟨p, hp1, hp2, hp3, hp4, hp5⟩ := HP.out
            exact bodyPost_ret (results_cell_row rfl _ _ (w.heap.size + 1) 23 #[.string R1, .string R2] _ _ rfl (two_strs l6.ra R1 R2) Tryz.underlying23 rfl (by kernel_rfl)) rfl ⟨p, hp1, hp2, hp3, by rw [hp4, hp5], fin1 l6.ra l6.below (by omega) _ _⟩
          · have gA : (A.toList == [48]) = false := by rw [hAe]; exact T_zero_no (by omega)
            have gA2 : (A.toList != [48]) = true := by rw [bne, gA]; rfl
            obtain ⟨R1, R2, hp, hM⟩ := HM (⟨#[45]⟩ ++ A) ⟨#[55]⟩ (-(a : Int)) 7 (by rw [hAe]; exact (T_neg ha0).symm) T7 (by omega) (by omega) z7
            have y0 := hL.a0
            have y1 := hL.a1
            have y2 := hL.f1
            have y3 := hL.c0
            have y4 := hL.f0
            have l2 := hL.put1 ⟨#[55]⟩
            have v0 := l2.a0
            have v1 := l2.a1
            have v3 := l2.c0
            have v4 := l2.f0
            have l3 := l2.put0 (⟨#[45]⟩ ++ A)
            have u0 := l3.a0
            have u1 := l3.a1
            have HLL := Lib.hid l3
            have HPP := Lib.hid PS
            have HMM := Lib.hid hM
            have HP := Lib.hid hp
            clear hM PS hp HM z7 hAe hBe ha hb hL HB0 HL l2 l3
            go_wp2_with (first
              | (go_at_call 46; (with_reducible refine (HPP.out _).mono ?_); rintro e ww ⟨rfl, hww⟩; rw [hww]; clear hww ww)
              | (go_at_call 28; (with_reducible refine (HMM.out _).mono ?_); rintro e w5 ⟨rfl, B5⟩; have l5 := HLL.out.step B5; have n5 := IsB.new w5 R1 R2; have l6 := l5.step ((Below.refl _ w5).alloc (Nat.le_refl _) (.cells #[.string R1, .string R2] 23)); have n0 := n5.c0; have n1 := n5.c1; have n2 := l6.ra.f0; have n3 := l6.ra.f1; have n4 := l6.ra.c0; have n6 := l6.ra.c1))
            obtain ⟨p, hp1, hp2, hp3, hp4, hp5⟩ := HP.out
            exact bodyPost_ret (results_cell_row rfl _ _ (w.heap.size + 1) 23 #[.string R1, .string R2] _ _ rfl (two_strs l6.ra R1 R2) Tryz.underlying23 rfl (by kernel_rfl)) rfl ⟨p, hp1, hp2, hp3, by rw [hp4, hp5], fin1 l6.ra l6.below (by omega) _ _⟩
        · skip
          obtain ⟨R1, R2, hp, hM⟩ := HM A ⟨#[55]⟩ (a : Int) 7 hAe T7 (by omega) (by omega) z7
          have y0 := hL.a0
          have y1 := hL.a1
          have y2 := hL.f1
          have y3 := hL.c0
          have y4 := hL.f0
          have l2 := hL.put1 ⟨#[55]⟩
          have v0 := l2.a0
          have v1 := l2.a1
          have v3 := l2.c0
          have v4 := l2.f0
          have HLL := Lib.hid l2
          have HPP := Lib.hid PS
          have HMM := Lib.hid hM
          have HP := Lib.hid hp
          clear hM PS hp HM z7 hAe hBe ha hb hL HB0 HL l2
          go_wp2_with (first
            | (go_at_call 46; (with_reducible refine (HPP.out _).mono ?_); rintro e ww ⟨rfl, hww⟩; rw [hww]; clear hww ww)
            | (go_at_call 28; (with_reducible refine (HMM.out _).mono ?_); rintro e w5 ⟨rfl, B5⟩; have l5 := HLL.out.step B5; have n5 := IsB.new w5 R1 R2; have l6 := l5.step ((Below.refl _ w5).alloc (Nat.le_refl _) (.cells #[.string R1, .string R2] 23)); have n0 := n5.c0; have n1 := n5.c1; have n2 := l6.ra.f0; have n3 := l6.ra.f1; have n4 := l6.ra.c0; have n6 := l6.ra.c1))
          obtain ⟨p, hp1, hp2, hp3, hp4, hp5⟩ := HP.out
          exact bodyPost_ret (results_cell_row rfl _ _ (w.heap.size + 1) 23 #[.string R1, .string R2] _ _ rfl (two_strs l6.ra R1 R2) Tryz.underlying23 rfl (by kernel_rfl)) rfl ⟨p, hp1, hp2, hp3, by rw [hp4, hp5], fin1 l6.ra l6.below (by omega) _ _⟩
      · have gB : (B.toList == [48]) = false := by rw [hBe]; exact T_zero_no (by omega)
        have fA : A.size ≤ 1000 := by
          rw [hAe]; unfold T; rw [bs_size]
          have := itoa_len (z := (a : Int)) (show (a : Int).natAbs < big from Nat.lt_of_lt_of_le (show (a : Int).natAbs < 10 ^ 100 by rw [Int.natAbs_natCast]; exact ha) (Nat.pow_le_pow_right (by omega) (by omega)))
          omega
        have f1 : ¬ 9223372036854775807 < 1 + A.size := by omega
        have f2 : ¬ 9223372036854775807 < A.size + 1 := by omega
        rcases hK with rfl | rfl
        · rcases Nat.eq_zero_or_pos a with ha0 | ha0
          · have gA : (A.toList == [48]) = true := by rw [hAe, ha0]; show ((T 0).toList == [48]) = true; rw [T0, toList_eq]; rfl
            have gA2 : (A.toList != [48]) = false := by rw [bne, gA]; rfl
            obtain ⟨R1, R2, hp, hM⟩ := HM A B (a : Int) (b : Int) hAe hBe (by omega) (by omega) (by omega)
            have y0 := hL.a0
            have y1 := hL.a1
            have y2 := hL.f1
            have y3 := hL.c0
            have y4 := hL.f0
            have HLL := Lib.hid hL
            have HPP := Lib.hid PS
            have HMM := Lib.hid hM
            have HP := Lib.hid hp
            clear hM PS hp HM z7 hAe hBe ha hb hL HB0 HL
            go_wp2_with (first
              | (go_at_call 46; (with_reducible refine (HPP.out _).mono ?_); rintro e ww ⟨rfl, hww⟩; rw [hww]; clear hww ww)
              | (go_at_call 28; (with_reducible refine (HMM.out _).mono ?_); rintro e w5 ⟨rfl, B5⟩; have l5 := HLL.out.step B5; have n5 := IsB.new w5 R1 R2; have l6 := l5.step ((Below.refl _ w5).alloc (Nat.le_refl _) (.cells #[.string R1, .string R2] 23)); have n0 := n5.c0; have n1 := n5.c1; have n2 := l6.ra.f0; have n3 := l6.ra.f1; have n4 := l6.ra.c0; have n6 := l6.ra.c1))
            obtain ⟨p, hp1, hp2, hp3, hp4, hp5⟩ := HP.out
            exact bodyPost_ret (results_cell_row rfl _ _ (w.heap.size + 1) 23 #[.string R1, .string R2] _ _ rfl (two_strs l6.ra R1 R2) Tryz.underlying23 rfl (by kernel_rfl)) rfl ⟨p, hp1, hp2, hp3, by rw [hp4, hp5], fin1 l6.ra l6.below (by omega) _ _⟩
          · have gA : (A.toList == [48]) = false := by rw [hAe]; exact T_zero_no (by omega)
            have gA2 : (A.toList != [48]) = true := by rw [bne, gA]; rfl
            obtain ⟨R1, R2, hp, hM⟩ := HM (⟨#[45]⟩ ++ A) B (-(a : Int)) (b : Int) (by rw [hAe]; exact (T_neg ha0).symm) hBe (by omega) (by omega) (by omega)
            have y0 := hL.a0
            have y1 := hL.a1
            have y2 := hL.f1
            have y3 := hL.c0
            have y4 := hL.f0
            have l3 := hL.put0 (⟨#[45]⟩ ++ A)
            have u0 := l3.a0
            have u1 := l3.a1
            have HLL := Lib.hid l3
            have HPP := Lib.hid PS
            have HMM := Lib.hid hM
            have HP := Lib.hid hp
            clear hM PS hp HM z7 hAe hBe ha hb hL HB0 HL l3
            go_wp2_with (first
              | (go_at_call 46; (with_reducible refine (HPP.out _).mono ?_); rintro e ww ⟨rfl, hww⟩; rw [hww]; clear hww ww)
              | (go_at_call 28; (with_reducible refine (HMM.out _).mono ?_); rintro e w5 ⟨rfl, B5⟩; have l5 := HLL.out.step B5; have n5 := IsB.new w5 R1 R2; have l6 := l5.step ((Below.refl _ w5).alloc (Nat.le_refl _) (.cells #[.string R1, .string R2] 23)); have n0 := n5.c0; have n1 := n5.c1; have n2 := l6.ra.f0; have n3 := l6.ra.f1; have n4 := l6.ra.c0; have n6 := l6.ra.c1))
            obtain ⟨p, hp1, hp2, hp3, hp4, hp5⟩ := HP.out
            exact bodyPost_ret (results_cell_row rfl _ _ (w.heap.size + 1) 23 #[.string R1, .string R2] _ _ rfl (two_strs l6.ra R1 R2) Tryz.underlying23 rfl (by kernel_rfl)) rfl ⟨p, hp1, hp2, hp3, by rw [hp4, hp5], fin1 l6.ra l6.below (by omega) _ _⟩
        · skip
          obtain ⟨R1, R2, hp, hM⟩ := HM A B (a : Int) (b : Int) hAe hBe (by omega) (by omega) (by omega)
          have y0 := hL.a0
          have y1 := hL.a1
          have y2 := hL.f1
          have y3 := hL.c0
          have y4 := hL.f0
          have HLL := Lib.hid hL
          have HPP := Lib.hid PS
          have HMM := Lib.hid hM
          have HP := Lib.hid hp
          clear hM PS hp HM z7 hAe hBe ha hb hL HB0 HL
          go_wp2_with (first
            | (go_at_call 46; (with_reducible refine (HPP.out _).mono ?_); rintro e ww ⟨rfl, hww⟩; rw [hww]; clear hww ww)
            | (go_at_call 28; (with_reducible refine (HMM.out _).mono ?_); rintro e w5 ⟨rfl, B5⟩; have l5 := HLL.out.step B5; have n5 := IsB.new w5 R1 R2; have l6 := l5.step ((Below.refl _ w5).alloc (Nat.le_refl _) (.cells #[.string R1, .string R2] 23)); have n0 := n5.c0; have n1 := n5.c1; have n2 := l6.ra.f0; have n3 := l6.ra.f1; have n4 := l6.ra.c0; have n6 := l6.ra.c1))
          obtain ⟨p, hp1, hp2, hp3, hp4, hp5⟩ := HP.out
          exact bodyPost_ret (results_cell_row rfl _ _ (w.heap.size + 1) 23 #[.string R1, .string R2] _ _ rfl (two_strs l6.ra R1 R2) Tryz.underlying23 rfl (by kernel_rfl)) rfl ⟨p, hp1, hp2, hp3, by rw [hp4, hp5], fin1 l6.ra l6.below (by omega) _ _⟩

end Go.Proofs.YtjkklgpbblkhaaaGreatDoor

/-
  Layer 3, the reference: FromInt.
-/
namespace Go.Proofs.YtjkklgpbblkhaaaGreatDoor
open Go.RowKit Bs Ig Qq

/-- the digit and the rest of a number with a sign -/
theorem sg_parts (s : Bool) (u : Nat) : (sg s u).tdiv 10 = sg s (u / 10) ∧ (sg s u).tmod 10 = sg s (u % 10) := by
  cases s with
  | false => exact ⟨(Int.ofNat_tdiv u 10).symm, (Int.ofNat_tmod u 10).symm⟩
  | true =>
    show (-(u : Int)).tdiv 10 = -((u / 10 : Nat) : Int) ∧ (-(u : Int)).tmod 10 = -((u % 10 : Nat) : Int)
    rw [Int.neg_tdiv, Int.neg_tmod]
    exact ⟨by rw [Int.ofNat_tdiv]; rfl, by rw [Int.ofNat_tmod]; rfl⟩

set_option maxRecDepth 100000 in
set_option maxHeartbeats 8000000 in
theorem rFromInt_any (n : Int) (h0 : -9223372036854775808 ≤ n) (h1 : n ≤ 9223372036854775807) (w : World) :
    Calls Tryz.prog 43 #[.int .i64 n] w fun e w' => e = .returned (.string (T n)) ∧ Below w.heap.size w w' := by
  obtain ⟨N, hN⟩ : ∃ N, n.natAbs = N := ⟨_, rfl⟩
  obtain ⟨s, hs⟩ : ∃ s, decide (n < 0) = s := ⟨_, rfl⟩
  have hsg : sg s N = n := by
    rw [← hs, ← hN]; unfold sg
    rcases Int.lt_or_le n 0 with h | h
    · rw [decide_eq_true h, if_pos rfl]; omega
    · rw [decide_eq_false (by omega), if_neg (by decide)]; omega
  have hNb : N < 10 ^ 19 := by omega
  have hNbig : N < big := Nat.lt_of_lt_of_le hNb (Nat.pow_le_pow_right (by omega) (by omega))
  have hlen : (D N).length ≤ 19 := dgs_length_le 8 19 N hNb
  have HTx := Lib.hid (fun (W : World) a m c (h : IsZ W a m c (zs (D N))) => (show Calls Tryz.prog 73 #[.bool s, .slice a m c] W (fun e w' => e = .returned (.tuple #[.string (T n), .bool true]) ∧ Below W.heap.size W w') from by
    have h2 := text_T s N a m c W h (by have := D_m h hNbig; omega)
    rw [hsg, decide_eq_true hNbig] at h2
    exact h2))
  have hn : n = sg s N := hsg.symm
  generalize T n = R at *
  obtain ⟨i0, hi, hz0, hz1, hz2⟩ := info_parts infoInt
  clear hN hsg hNbig h0 h1
  have HN := Lib.hid hn
  go_enter Tryz.func43, Tryz.ntmps43
  go_wp2_with fail
  go_loopw [3, 4] (fun v p wr => ∃ (u : Nat) (pre : List Nat), p = .int .i64 (sg s u) ∧ pre ++ D u = D N ∧ u < 10 ^ 19 ∧ Bs.Own wr w.heap.size 3 .i64 v pre ∧ Below w.heap.size w wr) (fun _ p _ => (intOf p).natAbs)
  case atStart => exact ⟨N, [], by rw [HN.out], rfl, hNb, Bs.Own.nil _ _ _ _, Below.refl _ _⟩
  case round =>
    obtain ⟨u, pre, rfl, hpre, hu, hown, hw⟩ := hrel
    obtain ⟨p1, p2⟩ := sg_parts s u
    rcases Nat.eq_zero_or_pos u with h | h
    · subst h
      rw [D_zero, List.append_nil] at hpre
      subst hpre
      have z : sg s 0 = 0 := by cases s <;> rfl
      rw [z]
      obtain ⟨a, m, c, rfl⟩ := own_slice hown
      have Hz := Lib.hid hown.isZ
      have Hw := Lib.hid hw
      clear p1 p2 hown hw hn
      go_wp2_with (go_at_call 73; (with_reducible refine (HTx.out _ _ _ _ Hz.out).mono ?_); rintro e w5 ⟨rfl, B5⟩)
      go_ret
      exact ⟨rfl, below_on Hw.out B5 Hw.out.size⟩
    · have hm0 : u % 10 < 10 := Nat.mod_lt _ (by omega)
      rw [D_pos h] at hpre
      obtain ⟨r, hr⟩ : ∃ r, u % 10 = r := ⟨_, rfl⟩
      obtain ⟨u2, hu2⟩ : ∃ u2, u / 10 = u2 := ⟨_, rfl⟩
      rw [hr] at hpre p2 hm0
      rw [hu2] at hpre p1
      have hu2l : u2 < u := by omega
      have hpl : pre.length ≤ 2000000 := by
        have h2 := congrArg List.length hpre
        rw [List.length_append, List.length_cons] at h2
        omega
      have hne : sg s u ≠ 0 := fun e => by have := sg_abs s u; rw [e] at this; simp at this; omega
      have hlt : intOf (.int .i64 (sg s u)) = sg s u := rfl
      have hab := sg_abs s u
      have hab2 := sg_abs s u2
      obtain ⟨M, hM⟩ : ∃ M, sg s u = M := ⟨_, rfl⟩
      obtain ⟨M2, hM2⟩ : ∃ M2, sg s u2 = M2 := ⟨_, rfl⟩
      rw [hM] at p1 p2 hne hab ⊢
      rw [hM2] at p1 hab2
      have e1 : (M != 0) = true := by simpa using hne
      have e2 : decide (M = 0) = false := decide_eq_false hne
      obtain ⟨z, hz⟩ : ∃ z, sg s r = z := ⟨_, rfl⟩
      rw [hz] at p2
      have hzb : -10 < z ∧ z < 10 := by have := sg_abs s r; omega
      have hM2b : -1000000000000000000 < M2 ∧ M2 < 1000000000000000000 := by omega
      have hMb : -10000000000000000000 < M ∧ M < 10000000000000000000 := by omega
      have HM2 := Lib.hid hM2
      have HP := Lib.hid hpre
      have Hab := Lib.hid (And.intro hab (And.intro hab2 hu2l))
      have Hpl := Lib.hid hpl
      have hsz := hw.size
      have hfin : z = (r : Int) ∨ z < 0 ∧ -z = (r : Int) := by
        rw [← hz]; unfold sg
        split
        · rcases Nat.eq_zero_or_pos r with h | h
          · exact .inl (by omega)
          · exact .inr (by omega)
        · exact .inl rfl
      clear hpre hpl hM hM2 hz hr hu2 hab hab2 h hn
      rcases hfin with rfl | ⟨hz0', hz1'⟩
      · have e3 : decide ((r : Int) < 0) = false := decide_eq_false (by omega)
        go_wp2_with (at_builtin; refine wpList_push rfl _ _ 40 rfl w.heap.size 3 i0 (.int .i64 0) 8 Tryz.underlying40 hi hz0 hz1 hz2 rfl (by omega) .i64 _ pre rfl (hown.alloc _) ⟨wr.heap.size, 0, none⟩ 1 r rfl ?c1 ?c2 ?c3 ?_)
        case c1 => simp [Addr.add]
        case c2 => exact Hpl.out
        case c3 => simp; omega
        intro v' w1 hown' hb
        have Hown := Lib.hid hown'
        have Hw := Lib.hid ((hw.alloc hsz _).trans hb)
        clear hown hown' hb hw
        go_wp2_with fail
        go_roundw
        case rel => exact ⟨u2, pre ++ [r], by rw [HM2.out], by rw [List.append_assoc]; exact HP.out, by omega, Hown.out, Hw.out⟩
        case measure => have := Hab.out; simp [intOf]; omega
      · have e3 : decide (z < 0) = true := decide_eq_true hz0'
        go_wp2_with (at_builtin; refine wpList_push rfl _ _ 40 rfl w.heap.size 3 i0 (.int .i64 0) 8 Tryz.underlying40 hi hz0 hz1 hz2 rfl (by omega) .i64 _ pre rfl (hown.alloc _) ⟨wr.heap.size, 0, none⟩ 1 r rfl ?c1 ?c2 ?c3 ?_)
        case c1 => simp [Addr.add]
        case c2 => exact Hpl.out
        case c3 => simp; omega
        intro v' w1 hown' hb
        have Hown := Lib.hid hown'
        have Hw := Lib.hid ((hw.alloc hsz _).trans hb)
        clear hown hown' hb hw
        go_wp2_with fail
        go_roundw
        case rel => exact ⟨u2, pre ++ [r], by rw [HM2.out], by rw [List.append_assoc]; exact HP.out, by omega, Hown.out, Hw.out⟩
        case measure => have := Hab.out; simp [intOf]; omega

end Go.Proofs.YtjkklgpbblkhaaaGreatDoor

/-
  Layer 4: pick; powers of ten that a loop writes.
-/
namespace Go.Proofs.YtjkklgpbblkhaaaGreatDoor
open Go.RowKit Bs Ig Qq

set_option maxRecDepth 100000 in
set_option maxHeartbeats 4000000 in
theorem pick4_any (c : Int) (h0 : -9223372036854775808 ≤ c) (h1 : c ≤ 9223372036854775807) (m : Nat) (M : Int) (hM : M = (m : Int)) (hm : 0 < m) (w : World) :
    Calls Tryz.prog 22 #[.int .i64 c, .int .i64 M] w fun e w' => ∃ k : Nat, k < m ∧ e = .returned (.int .i64 (k : Int)) ∧ w' = w := by
  subst hM
  have hm0 : ((m : Int) == 0) = false := beq_false_of_ne (by omega)
  have hm1 : decide ((m : Int) = 0) = false := decide_eq_false (by omega)
  rcases Int.lt_or_le c 0 with h | h
  · obtain ⟨d, he⟩ : ∃ d : Nat, -(c + 1) = (d : Int) := ⟨(-(c + 1)).toNat, by omega⟩
    have hd : decide (c < 0) = true := decide_eq_true h
    have ht : (d : Int).tmod (m : Int) = ((d % m : Nat) : Int) := (Int.ofNat_tmod d m).symm
    have hlt := Nat.mod_lt d hm
    obtain ⟨k, hk⟩ : ∃ k, d % m = k := ⟨_, rfl⟩
    rw [hk] at ht hlt
    clear hk
    go_enter Tryz.func22, Tryz.ntmps22
    go_wp2_with fail
    go_ret
    exact ⟨k, hlt, rfl, rfl⟩
  · obtain ⟨d, rfl⟩ : ∃ d : Nat, c = (d : Int) := ⟨c.toNat, by omega⟩
    have ht : (d : Int).tmod (m : Int) = ((d % m : Nat) : Int) := (Int.ofNat_tmod d m).symm
    have hlt := Nat.mod_lt d hm
    obtain ⟨k, hk⟩ : ∃ k, d % m = k := ⟨_, rfl⟩
    rw [hk] at ht hlt
    clear hk h
    go_enter Tryz.func22, Tryz.ntmps22
    go_wp2_with fail
    go_ret
    exact ⟨k, hlt, rfl, rfl⟩
theorem tq_zero : tq 0 = ⟨#[49]⟩ := rfl
theorem tq_succ (i : Nat) : tq i ++ ⟨#[48]⟩ = tq (i + 1) := by
  unfold tq zb
  rw [show (⟨#[49]⟩ : ByteArray) = bs [49] from rfl, show (⟨#[48]⟩ : ByteArray) = bs [48] from rfl, bs_append, bs_append, bs_append, List.append_assoc]
  congr 2
  rw [List.replicate_succ']
theorem tq_size (i : Nat) : (tq i).size = i + 1 := by
  unfold tq zb
  rw [show (⟨#[49]⟩ : ByteArray) = bs [49] from rfl, bs_append, bs_size, List.length_append, List.length_replicate]
  show 1 + i = i + 1
  omega

end Go.Proofs.YtjkklgpbblkhaaaGreatDoor
