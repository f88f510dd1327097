/-
  Put together by program out of these texts, in this order: Rpq, Rtm, Rtc, Rmk, Qcm.
-/
import Derived.Test.YtjkklgpbblkhaaaGreatDoorZCaRTa17
import Derived.Deep.DeepCutAuto
import Derived.Test.YtjkklgpbblkhaaaGreatDoorZCaRTa13
import Derived.Test.YtjkklgpbblkhaaaGreatDoorZCaRTa16
import Derived.ScopeJumps
import Derived.WalkMore

/-
  Layer 4, the reference: Parse at whatever strings.
-/
namespace Go.Proofs.YtjkklgpbblkhaaaGreatDoor
open Go.RowKit Bs Ig Qq

theorem byte_ne {s : ByteArray} {i : Nat} (h : i < s.size) (hne : s.data.toList[i]? ≠ some 47) : ((s[i]'h).toNat == 47) = false ∧ (((s[i]'h).toNat : Int) == 47) = false := by
  have h1 : (s[i]'h).toNat ≠ 47 := fun e => hne (by
    rw [List.getElem?_eq_getElem (show i < s.data.toList.length from h)]
    congr 1
    exact UInt8.toNat_inj.1 e)
  exact ⟨beq_false_of_ne h1, beq_false_of_ne (by omega)⟩
theorem byte_eq {s : ByteArray} {i : Nat} (h : i < s.size) (he : s.data.toList[i]? = some 47) : (s[i]'h).toNat = 47 := by
  rw [List.getElem?_eq_getElem (show i < s.data.toList.length from h)] at he
  have e : s[i]'h = 47 := Option.some.inj he
  rw [e]; rfl

set_option maxRecDepth 100000 in
set_option maxHeartbeats 8000000 in
theorem rParseQ (s : ByteArray) (hs : s.size ≤ 900) (w : World) : Answers 36 #[.string s] (parseQ s) w := by
  unfold Answers parseQ
  obtain ⟨hB, r0⟩ := box0 w
  have hA := hB.alloc hB.size (.cells #[.string s, .string ⟨#[49]⟩] 23)
  have q0 := r0.alloc (.cells #[.string s, .string ⟨#[49]⟩] 23)
  have q1 : IsB ((w.alloc (.cells #[.string ⟨#[]⟩, .string ⟨#[]⟩] 23)).alloc (.cells #[.string s, .string ⟨#[49]⟩] 23)) (w.heap.size + 1) s ⟨#[49]⟩ := IsB.new' _ _ _ _ (by simp)
  have hsp : ((∀ i, i < s.size → s.data.toList[i]? ≠ some 47) ∧ splitQ s = (s, ⟨#[49]⟩)) ∨ ∃ k : Nat, k < s.size ∧ (∀ i, i < k → s.data.toList[i]? ≠ some 47) ∧ s.data.toList[k]? = some 47 ∧ splitQ s = (s.extract 0 k, s.extract (k + 1) s.size) := by
    have hge := Lib.indexByte_ge s.data.toList 47
    unfold splitQ
    rcases Int.lt_or_le (Lib.indexByte s.data.toList 47) 0 with h | h
    · exact .inl ⟨fun i _ => Lib.indexByte_none (by omega) i, if_neg (by omega)⟩
    · obtain ⟨k, hk⟩ : ∃ k : Nat, Lib.indexByte s.data.toList 47 = k := ⟨_, (Int.toNat_of_nonneg h).symm⟩
      obtain ⟨h2, h3⟩ := Lib.indexByte_some hk
      refine .inr ⟨k, ?_, h3, h2, ?_⟩
      · rcases Nat.lt_or_ge k s.size with h3 | h3
        · exact h3
        · rw [List.getElem?_eq_none (by show s.data.toList.length ≤ k; exact h3)] at h2; cases h2
      · rw [if_pos h, hk]; rfl
  obtain ⟨N, D, hND⟩ : ∃ N D, splitQ s = (N, D) := ⟨_, _, rfl⟩
  have hsz : N.size ≤ 1000 ∧ D.size ≤ 1000 := by
    rcases hsp with ⟨_, h⟩ | ⟨k, hk, _, _, h⟩
    · rw [hND] at h; cases h; exact ⟨by omega, by show 1 ≤ 1000; omega⟩
    · rw [hND] at h; cases h; rw [ByteArray.size_extract, ByteArray.size_extract]; omega
  have hV := fun (W : World) => rValidQ N D (by omega) (by omega) W
  have hP := fun (W : World) => rPrintQ N D hsz.1 hsz.2 W
  rw [hND] at hsp ⊢
  obtain ⟨v, hv⟩ : ∃ v, validB N D = v := ⟨_, rfl⟩
  obtain ⟨P, hPr⟩ : ∃ P, printQ N D = P := ⟨_, rfl⟩
  obtain ⟨x, hx⟩ : ∃ x, (P.toList == s.toList) = x := ⟨_, rfl⟩
  rw [hv] at hV
  rw [hPr] at hP
  simp only [hv, hPr, hx]
  have HV := Lib.hid hV
  have HP := Lib.hid hP
  have hbne : (P.toList != s.toList) = !x := by rw [bne, hx]
  have HA := Lib.hid hA
  have HQ := Lib.hid (And.intro q0 q1)
  clear hV hP hv hPr hND hsz hA
  rcases hsp with ⟨hi, hND⟩ | ⟨k, hk, hi, hik, hND⟩
  · cases hND
    have HI := Lib.hid hi
    clear hi
    go_enter Tryz.func36, Tryz.ntmps36
    go_wp2_with fail
    go_loopw [5] (fun p wr => ∃ i : Nat, p = .int .i64 (i : Int) ∧ i ≤ s.size ∧ wr = (w.alloc (.cells #[.string ⟨#[]⟩, .string ⟨#[]⟩] 23)).alloc (.cells #[.string s, .string ⟨#[49]⟩] 23)) (fun p _ => (s.size - intOf p).toNat)
    case atStart => exact ⟨0, rfl, Nat.zero_le _, rfl⟩
    case round =>
      obtain ⟨i, rfl, hi, rfl⟩ := hrel
      rcases Nat.lt_or_ge i s.size with h | h
      · obtain ⟨g1, g2⟩ := byte_ne h (HI.out i h)
        obtain ⟨b, hb⟩ : ∃ b, (s[i]'h).toNat = b := ⟨_, rfl⟩
        rw [hb] at g1 g2
        have e1 : decide (i < s.size) = true := decide_eq_true h
        have e2 : decide ((i : Int) < (s.size : Int)) = true := decide_eq_true (by omega)
        go_wp2_with fail
        go_roundw
        case rel => exact ⟨i + 1, by go_num, h, trivial⟩
        case measure => simp [intOf]; omega
      · have e1 : decide (i < s.size) = false := decide_eq_false (by omega)
        have e2 : decide ((i : Int) < (s.size : Int)) = false := decide_eq_false (by omega)
        have s0 := HQ.out.1
        have s1 := HQ.out.2
        have k0 := s1.c0
        have k1 := s1.c1
        have g1 := s0.f0
        have g2 := s0.f1
        have g3 := s0.c0
        have g4 := s0.c1
        have hw1 := HA.out
        cases v with
        | false =>
          clear hx hbne
          go_wp2_with (go_at_call 30; (with_reducible refine (HV.out _).mono ?_); rintro e w2 ⟨rfl, B2⟩; have hw2 := below_on hw1 B2 hw1.size; have t0 := s0.later B2 s0.lt; have t1 := s1.later B2 s1.lt; clear k0 k1 g1 g2 g3 g4; have k2 := t1.c0; have k3 := t1.c1; have g1 := t0.f0; have g2 := t0.f1; have g3 := t0.c0; have g4 := t0.c1)
          exact bodyPost_ret (results_row_tmp rfl _ _ w.heap.size 23 #[.string ⟨#[]⟩, .string ⟨#[]⟩] _ _ rfl (two_strs t0 ⟨#[]⟩ ⟨#[]⟩) Tryz.underlying23 rfl (by kernel_rfl)) rfl ⟨rfl, fin1 t0 hw2 (by omega) _ _⟩
        | true =>
          cases x with
          | false =>
            go_wp2_with (first | (go_at_call 30; (with_reducible refine (HV.out _).mono ?_); rintro e w2 ⟨rfl, B2⟩; have hw2 := below_on hw1 B2 hw1.size; have t0 := s0.later B2 s0.lt; have t1 := s1.later B2 s1.lt; clear k0 k1 g1 g2 g3 g4; have k2 := t1.c0; have k3 := t1.c1; have g1 := t0.f0; have g2 := t0.f1; have g3 := t0.c0; have g4 := t0.c1) | (go_at_call 35; (with_reducible refine (HP.out _).mono ?_); rintro e w3 ⟨rfl, B3⟩; have hw3 := below_on hw2 B3 hw2.size; have u0 := t0.later B3 t0.lt; have u1 := t1.later B3 t1.lt; clear k2 k3 g1 g2 g3 g4; have k4 := u1.c0; have k5 := u1.c1; have g1 := u0.f0; have g2 := u0.f1; have g3 := u0.c0; have g4 := u0.c1))
            exact bodyPost_ret (results_row_tmp rfl _ _ w.heap.size 23 #[.string ⟨#[]⟩, .string ⟨#[]⟩] _ _ rfl (two_strs u0 ⟨#[]⟩ ⟨#[]⟩) Tryz.underlying23 rfl (by kernel_rfl)) rfl ⟨rfl, fin1 u0 hw3 (by omega) _ _⟩
          | true =>
            go_wp2_with (first | (go_at_call 30; (with_reducible refine (HV.out _).mono ?_); rintro e w2 ⟨rfl, B2⟩; have hw2 := below_on hw1 B2 hw1.size; have t0 := s0.later B2 s0.lt; have t1 := s1.later B2 s1.lt; clear k0 k1 g1 g2 g3 g4; have k2 := t1.c0; have k3 := t1.c1; have g1 := t0.f0; have g2 := t0.f1; have g3 := t0.c0; have g4 := t0.c1) | (go_at_call 35; (with_reducible refine (HP.out _).mono ?_); rintro e w3 ⟨rfl, B3⟩; have hw3 := below_on hw2 B3 hw2.size; have u0 := t0.later B3 t0.lt; have u1 := t1.later B3 t1.lt; clear k2 k3 g1 g2 g3 g4; have k4 := u1.c0; have k5 := u1.c1; have g1 := u0.f0; have g2 := u0.f1; have g3 := u0.c0; have g4 := u0.c1))
            exact bodyPost_ret (results_row_tmp rfl _ _ w.heap.size 23 #[.string s, .string ⟨#[49]⟩] _ _ rfl (two_strs u0 s ⟨#[49]⟩) Tryz.underlying23 rfl (by kernel_rfl)) rfl ⟨rfl, fin1 u0 hw3 (by omega) _ _⟩
  · obtain ⟨rfl, rfl⟩ := Prod.mk.inj hND
    generalize hNe : s.extract 0 k = N at *
    generalize hDe : s.extract (k + 1) s.size = D at *
    have HI := Lib.hid hi
    have HE := Lib.hid hik
    clear hi hik hND
    go_enter Tryz.func36, Tryz.ntmps36
    go_wp2_with fail
    go_loopw [5] (fun p wr => ∃ i : Nat, p = .int .i64 (i : Int) ∧ i ≤ k ∧ wr = (w.alloc (.cells #[.string ⟨#[]⟩, .string ⟨#[]⟩] 23)).alloc (.cells #[.string s, .string ⟨#[49]⟩] 23)) (fun p _ => (k - intOf p).toNat)
    case atStart => exact ⟨0, rfl, Nat.zero_le _, rfl⟩
    case round =>
      obtain ⟨i, rfl, hi, rfl⟩ := hrel
      have e1 : decide (i < s.size) = true := decide_eq_true (by omega)
      have e2 : decide ((i : Int) < (s.size : Int)) = true := decide_eq_true (by omega)
      have hlt : i < s.size := by omega
      rcases Nat.lt_or_ge i k with h | h
      · obtain ⟨g1, g2⟩ := byte_ne hlt (HI.out i h)
        obtain ⟨b, hb⟩ : ∃ b, (s[i]'hlt).toNat = b := ⟨_, rfl⟩
        rw [hb] at g1 g2
        go_wp2_with fail
        go_roundw
        case rel => exact ⟨i + 1, by go_num, h, trivial⟩
        case measure => simp [intOf]; omega
      · obtain rfl : i = k := by omega
        have hb := byte_eq hlt HE.out
        have e3 : decide (0 ≤ (i : Int)) = true := decide_eq_true (by omega)
        have e4 : decide ((i : Int) ≤ (s.size : Int)) = true := decide_eq_true (by omega)
        have e5 : decide ((i : Int) + 1 ≤ (s.size : Int)) = true := decide_eq_true (by omega)
        have p1 : (0 : Int) ≤ (i : Int) := by omega
        have p2 : (i : Int) ≤ (s.size : Int) := by omega
        have p3 : (i : Int) + 1 ≤ (s.size : Int) := by omega
        have p4 : IntKind.i64.wrap ((i : Int) + 1) = (i : Int) + 1 := by rw [IntKind.wrap_i64]; omega
        have p5 : (0 : Int) ≤ (i : Int) + 1 := by omega
        have d0 : IsB ((w.alloc (.cells #[.string ⟨#[]⟩, .string ⟨#[]⟩] 23)).alloc (.cells #[.string s, .string ⟨#[49]⟩] 23)).drew w.heap.size ⟨#[]⟩ ⟨#[]⟩ := HQ.out.1
        have d1 : IsB ((w.alloc (.cells #[.string ⟨#[]⟩, .string ⟨#[]⟩] 23)).alloc (.cells #[.string s, .string ⟨#[49]⟩] 23)).drew (w.heap.size + 1) s ⟨#[49]⟩ := HQ.out.2
        have h0 := d1.c0
        have h1 := d1.c1
        have h2 := d1.f0
        have h3 := d1.f1
        go_upto_region 6 with fail
        go_region_held3 (fun _ => True) (trivial) (fail)
        have hw1 : Below w.heap.size w ((w.alloc (.cells #[.string ⟨#[]⟩, .string ⟨#[]⟩] 23)).alloc (.cells #[.string N, .string D] 23)).drew := (hB.alloc hB.size _).drew
        have s0 : IsB ((w.alloc (.cells #[.string ⟨#[]⟩, .string ⟨#[]⟩] 23)).alloc (.cells #[.string N, .string D] 23)).drew w.heap.size ⟨#[]⟩ ⟨#[]⟩ := r0.alloc (.cells #[.string N, .string D] 23)
        have s1 : IsB ((w.alloc (.cells #[.string ⟨#[]⟩, .string ⟨#[]⟩] 23)).alloc (.cells #[.string N, .string D] 23)).drew (w.heap.size + 1) N D := IsB.new' (w.alloc (.cells #[.string ⟨#[]⟩, .string ⟨#[]⟩] 23)) N D _ (by simp)
        clear h0 h1 h2 h3 d0 d1
        have k0 := s1.c0
        have k1 := s1.c1
        have g1 := s0.f0
        have g2 := s0.f1
        have g3 := s0.c0
        have g4 := s0.c1
        cases v with
        | false =>
          clear hx hbne
          go_wp2_with (go_at_call 30; (with_reducible refine (HV.out _).mono ?_); rintro e w2 ⟨rfl, B2⟩; have hw2 := below_on hw1 B2 hw1.size; have t0 := s0.later B2 s0.lt; have t1 := s1.later B2 s1.lt; clear k0 k1 g1 g2 g3 g4; have k2 := t1.c0; have k3 := t1.c1; have g1 := t0.f0; have g2 := t0.f1; have g3 := t0.c0; have g4 := t0.c1)
          exact bodyPost_ret (results_row_tmp rfl _ _ w.heap.size 23 #[.string ⟨#[]⟩, .string ⟨#[]⟩] _ _ rfl (two_strs t0 ⟨#[]⟩ ⟨#[]⟩) Tryz.underlying23 rfl (by kernel_rfl)) rfl ⟨rfl, fin1 t0 hw2 (by omega) _ _⟩
        | true =>
          cases x with
          | false =>
            go_wp2_with (first | (go_at_call 30; (with_reducible refine (HV.out _).mono ?_); rintro e w2 ⟨rfl, B2⟩; have hw2 := below_on hw1 B2 hw1.size; have t0 := s0.later B2 s0.lt; have t1 := s1.later B2 s1.lt; clear k0 k1 g1 g2 g3 g4; have k2 := t1.c0; have k3 := t1.c1; have g1 := t0.f0; have g2 := t0.f1; have g3 := t0.c0; have g4 := t0.c1) | (go_at_call 35; (with_reducible refine (HP.out _).mono ?_); rintro e w3 ⟨rfl, B3⟩; have hw3 := below_on hw2 B3 hw2.size; have u0 := t0.later B3 t0.lt; have u1 := t1.later B3 t1.lt; clear k2 k3 g1 g2 g3 g4; have k4 := u1.c0; have k5 := u1.c1; have g1 := u0.f0; have g2 := u0.f1; have g3 := u0.c0; have g4 := u0.c1))
            exact bodyPost_ret (results_row_tmp rfl _ _ w.heap.size 23 #[.string ⟨#[]⟩, .string ⟨#[]⟩] _ _ rfl (two_strs u0 ⟨#[]⟩ ⟨#[]⟩) Tryz.underlying23 rfl (by kernel_rfl)) rfl ⟨rfl, fin1 u0 hw3 (by omega) _ _⟩
          | true =>
            go_wp2_with (first | (go_at_call 30; (with_reducible refine (HV.out _).mono ?_); rintro e w2 ⟨rfl, B2⟩; have hw2 := below_on hw1 B2 hw1.size; have t0 := s0.later B2 s0.lt; have t1 := s1.later B2 s1.lt; clear k0 k1 g1 g2 g3 g4; have k2 := t1.c0; have k3 := t1.c1; have g1 := t0.f0; have g2 := t0.f1; have g3 := t0.c0; have g4 := t0.c1) | (go_at_call 35; (with_reducible refine (HP.out _).mono ?_); rintro e w3 ⟨rfl, B3⟩; have hw3 := below_on hw2 B3 hw2.size; have u0 := t0.later B3 t0.lt; have u1 := t1.later B3 t1.lt; clear k2 k3 g1 g2 g3 g4; have k4 := u1.c0; have k5 := u1.c1; have g1 := u0.f0; have g2 := u0.f1; have g3 := u0.c0; have g4 := u0.c1))
            exact bodyPost_ret (results_row_tmp rfl _ _ w.heap.size 23 #[.string N, .string D] _ _ rfl (two_strs u0 N D) Tryz.underlying23 rfl (by kernel_rfl)) rfl ⟨rfl, fin1 u0 hw3 (by omega) _ _⟩

end Go.Proofs.YtjkklgpbblkhaaaGreatDoor

/-
  RationalTextMatchesReference: the mathematics of texts.
-/
namespace Go.Proofs.YtjkklgpbblkhaaaGreatDoor
open Go.RowKit Bs Ig Qq

theorem no_slash (z : Int) : (47 : UInt8) ∉ Lib.itoa z := by
  intro h
  have hd : ∀ n : Nat, (47 : UInt8) ∉ Lib.decDigits n := fun n hm => by
    have := dec_dig n 47 hm
    unfold isDig at this
    exact absurd this.1 (by decide)
  rcases int_cases z with ⟨n, rfl⟩ | ⟨n, hn, rfl⟩
  · rw [itoa_nat] at h; exact hd n h
  · rw [itoa_neg n hn] at h
    rcases List.mem_cons.1 h with h | h
    · exact absurd h (by decide)
    · exact hd n h
theorem itoa_ne (z : Int) : Lib.itoa z ≠ [] := by
  intro h
  have h2 : (bs (Lib.itoa z)).size = 0 := by rw [h]; rfl
  rcases int_cases z with ⟨n, rfl⟩ | ⟨n, hn, rfl⟩
  · rw [itoa_nat] at h
    have := num_dec n
    have h1 := dec_dig n
    have hl := num_lt (Lib.decDigits n) h1
    rw [h] at this hl
    have h0 : n = 0 := by rw [← this]; rfl
    subst h0
    rw [show Lib.decDigits 0 = [48] from dec_small (by omega)] at h
    cases h
  · rw [itoa_neg n hn] at h; cases h
theorem index_none {l : List UInt8} (h : (47 : UInt8) ∉ l) : Lib.indexByte l 47 = -1 := by
  have hge := Lib.indexByte_ge l 47
  rcases Int.lt_or_le (Lib.indexByte l 47) 0 with h1 | h1
  · omega
  · obtain ⟨o, ho⟩ : ∃ o : Nat, Lib.indexByte l 47 = o := ⟨_, (Int.toNat_of_nonneg h1).symm⟩
    exact (h (List.mem_of_getElem? (Lib.indexByte_some ho).1)).elim
theorem index_at {l r : List UInt8} (h : (47 : UInt8) ∉ l) : Lib.indexByte (l ++ 47 :: r) 47 = (l.length : Int) := by
  have hge := Lib.indexByte_ge (l ++ 47 :: r) 47
  have hat : (l ++ 47 :: r)[l.length]? = some 47 := by rw [List.getElem?_append_right (Nat.le_refl _), Nat.sub_self]; rfl
  rcases Int.lt_or_le (Lib.indexByte (l ++ 47 :: r) 47) 0 with h1 | h1
  · exact (Lib.indexByte_none (show Lib.indexByte (l ++ 47 :: r) 47 = -1 by omega) l.length hat).elim
  · obtain ⟨o, ho⟩ : ∃ o : Nat, Lib.indexByte (l ++ 47 :: r) 47 = o := ⟨_, (Int.toNat_of_nonneg h1).symm⟩
    obtain ⟨h2, h3⟩ := Lib.indexByte_some ho
    rcases Nat.lt_trichotomy o l.length with h4 | h4 | h4
    · rw [List.getElem?_append_left h4] at h2
      exact (h (List.mem_of_getElem? h2)).elim
    · rw [ho, h4]
    · exact (h3 l.length h4 hat).elim
theorem bs_data (l : List UInt8) : (bs l).data.toList = l := by rw [← toList_eq, bs_toList]
theorem split_one (z : Int) : splitQ (T z) = (T z, ⟨#[49]⟩) := by
  unfold splitQ T
  rw [bs_data, index_none (no_slash z)]
  exact if_neg (by decide)
theorem split_two (x y : Int) : splitQ (T x ++ ⟨#[47]⟩ ++ T y) = (T x, T y) := by
  unfold T
  rw [show (⟨#[47]⟩ : ByteArray) = bs [47] from rfl, bs_append, bs_append]
  unfold splitQ
  rw [bs_data, List.append_assoc]
  show (if 0 ≤ Lib.indexByte (Lib.itoa x ++ 47 :: Lib.itoa y) 47 then _ else _) = _
  rw [show ([47] ++ Lib.itoa y : List UInt8) = 47 :: Lib.itoa y from rfl, index_at (no_slash x), if_pos (by omega), Int.toNat_natCast, bs_extract, bs_extract]
  congr 1
  · rw [List.drop_zero, Nat.sub_zero, List.take_left']
    rfl
  · congr 1
    have hd : (Lib.itoa x ++ 47 :: Lib.itoa y).drop ((Lib.itoa x).length + 1) = Lib.itoa y := by
      rw [List.drop_append, List.drop_of_length_le (by omega), Nat.add_sub_cancel_left]; rfl
    rw [hd, bs_size, List.take_of_length_le (by simp; omega)]
/-- the text of a valid fraction is parsed into it -/
theorem text_yes {p : Int × Int} (hp : FV p) : parseQ (printQ (T p.1) (T p.2)) = (T p.1, T p.2, 0) ∧ ((printQ (T p.1) (T p.2)).toList == []) = false ∧ (printQ (T p.1) (T p.2)).size ≤ 410 ∧ 0 < (printQ (T p.1) (T p.2)).size := by
  have hv := validB_T hp
  have hsz : ∀ z : Int, z.natAbs < big → (T z).size ≤ 201 := fun z hz => by unfold T; rw [bs_size]; have := itoa_len hz; omega
  have hpos : ∀ z : Int, 0 < (T z).size := fun z => by
    unfold T; rw [bs_size]; exact List.length_pos_iff.2 (itoa_ne z)
  have hs : splitQ (printQ (T p.1) (T p.2)) = (T p.1, T p.2) := by
    unfold printQ
    rw [if_pos hv]
    by_cases h : p.2 = 1
    · rw [T_eq1, decide_eq_true h, if_pos rfl, h, T1]; exact split_one p.1
    · rw [if_neg (by rw [T_eq1, decide_eq_false h]; decide)]; exact split_two p.1 p.2
  have hp0 : 0 < (printQ (T p.1) (T p.2)).size := by
    unfold printQ
    rw [if_pos hv]
    have := hpos p.1
    split
    · exact this
    · rw [ByteArray.size_append, ByteArray.size_append]; omega
  refine ⟨?_, ?_, ?_, hp0⟩
  · unfold parseQ
    rw [hs]
    simp only [hv, if_true, beq_self_eq_true]
  · rw [beq_eq_false_iff_ne]
    intro h
    have h2 : (printQ (T p.1) (T p.2)).toList.length = 0 := by rw [h]; rfl
    rw [toList_eq] at h2
    have h3 : (printQ (T p.1) (T p.2)).data.toList.length = (printQ (T p.1) (T p.2)).size := rfl
    omega
  · unfold printQ
    rw [if_pos hv]
    have h1 := hsz p.1 hp.b1
    have h2 := hsz p.2 hp.b2
    split
    · omega
    · rw [ByteArray.size_append, ByteArray.size_append]
      have : (ByteArray.mk #[47]).size = 1 := rfl
      omega
theorem validB_empty : validB ⟨#[]⟩ ⟨#[49]⟩ = false := by
  cases h : validB ⟨#[]⟩ ⟨#[49]⟩ with
  | false => rfl
  | true =>
    obtain ⟨p, _, h1, _⟩ := validB_inv h
    unfold T at h1
    have h2 : bs [] = bs (Lib.itoa p.1) := h1
    exact (itoa_ne p.1 (bs_inj h2).symm).elim
theorem parse_empty : parseQ ⟨#[]⟩ = noA := by
  unfold parseQ
  have hs : splitQ ⟨#[]⟩ = (⟨#[]⟩, ⟨#[49]⟩) := by
    unfold splitQ
    exact if_neg (by decide)
  rw [hs]
  exact if_neg (by rw [validB_empty]; decide)
/-- what the law asks of a fraction -/
theorem txt_facts (N D : ByteArray) : ∃ (s t1 t2 : ByteArray) (e : Int) (v : Bool), printQ N D = s ∧ parseQ s = (t1, t2, e) ∧ validB N D = v ∧ s.size ≤ 410 ∧
    ((v = true ∧ t1 = N ∧ t2 = D ∧ e = 0 ∧ (s.toList == []) = false) ∨ (v = false ∧ e = 40 ∧ s = ⟨#[]⟩)) := by
  cases h : validB N D with
  | true =>
    obtain ⟨p, hp, rfl, rfl⟩ := validB_inv h
    obtain ⟨h1, h2, h3, _⟩ := text_yes hp
    exact ⟨_, _, _, _, true, rfl, h1, rfl, h3, .inl ⟨rfl, rfl, rfl, rfl, h2⟩⟩
  | false =>
    have hs : printQ N D = ⟨#[]⟩ := by unfold printQ; rw [h]; rfl
    exact ⟨⟨#[]⟩, ⟨#[]⟩, ⟨#[]⟩, 40, false, hs, parse_empty, rfl, by decide, .inr ⟨rfl, rfl, rfl⟩⟩
/-- what is parsed is the text of what comes out -/
theorem parse_back (s : ByteArray) : ∃ (a b : ByteArray) (e : Int), parseQ s = (a, b, e) ∧ a.size ≤ s.size + 1 ∧ b.size ≤ s.size + 1 ∧ (e = 40 ∨ e = 0 ∧ printQ a b = s) := by
  unfold parseQ
  have hsz : (splitQ s).1.size ≤ s.size + 1 ∧ (splitQ s).2.size ≤ s.size + 1 := by
    unfold splitQ
    split
    · rw [ByteArray.size_extract, ByteArray.size_extract]; omega
    · exact ⟨Nat.le_succ _, by show 1 ≤ _; omega⟩
  split
  · split
    · rename_i h1 h2
      refine ⟨_, _, _, rfl, hsz.1, hsz.2, .inr ⟨rfl, ?_⟩⟩
      have h3 := eq_of_beq h2
      rw [toList_eq, toList_eq] at h3
      rw [← bs_bytes (printQ _ _), h3, bs_bytes]
    · exact ⟨_, _, _, rfl, Nat.zero_le _, Nat.zero_le _, .inl rfl⟩
  · exact ⟨_, _, _, rfl, Nat.zero_le _, Nat.zero_le _, .inl rfl⟩

end Go.Proofs.YtjkklgpbblkhaaaGreatDoor

/-
  RationalTextMatchesReference: cut.
-/
namespace Go.Proofs.YtjkklgpbblkhaaaGreatDoor
open Go.RowKit Bs Ig Qq

theorem run_min210 (n : Nat) : ∀ (W : World) (ts : Array TypeId) (t : TypeId), (Builtin.min_ ts t #[.int .i64 (n : Int), .int .i64 210]).run Tryz.prog W = .ok (.int .i64 ((min n 210 : Nat) : Int)) W := by
  intro W ts t
  rw [run_min_int2]
  congr 2
  split <;> omega

theorem run_min420 (n : Nat) : ∀ (W : World) (ts : Array TypeId) (t : TypeId), (Builtin.min_ ts t #[.int .i64 (n : Int), .int .i64 420]).run Tryz.prog W = .ok (.int .i64 ((min n 420 : Nat) : Int)) W := by
  intro W ts t
  rw [run_min_int2]
  congr 2
  split <;> omega

set_option maxRecDepth 100000 in
set_option maxHeartbeats 4000000 in
theorem cutQ (N D : ByteArray) (w : World) :
    Calls Tryz.prog 12 #[.agg #[.string N, .string D]] w fun e w' => e = .returned (.agg #[.string (N.extract 0 (min N.size 210)), .string (D.extract 0 (min D.size 210))]) ∧ Below w.heap.size w w' := by
  have hA := (Below.refl _ w).alloc (Nat.le_refl _) (.cells #[.string N, .string D] 23)
  have r0 := IsB.new w N D
  have hm1 := run_min210 N.size
  have hm2 := run_min210 D.size
  have hs1 := str_h N (min N.size 210) ((min N.size 210 : Nat) : Int) rfl (by omega)
  have hs2 := str_h D (min D.size 210) ((min D.size 210 : Nat) : Int) rfl (by omega)
  obtain ⟨m1, hM1⟩ : ∃ m, min N.size 210 = m := ⟨_, rfl⟩
  obtain ⟨m2, hM2⟩ : ∃ m, min D.size 210 = m := ⟨_, rfl⟩
  rw [hM1] at hm1 hs1 ⊢
  rw [hM2] at hm2 hs2 ⊢
  have p1 : (0 : Int) ≤ (m1 : Int) := by omega
  have p2 : (m1 : Int) ≤ (N.size : Int) := by omega
  have p3 : (0 : Int) ≤ (m2 : Int) := by omega
  have p4 : (m2 : Int) ≤ (D.size : Int) := by omega
  obtain ⟨X, hX⟩ : ∃ X, N.extract 0 m1 = X := ⟨_, rfl⟩
  obtain ⟨Y, hY⟩ : ∃ Y, D.extract 0 m2 = Y := ⟨_, rfl⟩
  rw [hX] at hs1 ⊢
  rw [hY] at hs2 ⊢
  have c0 := r0.c0
  have c1 := r0.c1
  clear hM1 hM2 hX hY
  go_enter Tryz.func12, Tryz.ntmps12
  go_upto_region 1 with fail
  go_region_held3 (fun w' => w'.cell? ⟨w.heap.size, 0, none⟩ = some (.string N) ∧ w'.cell? ⟨w.heap.size, 1, none⟩ = some (.string D)) (go_keep) (fail)
  all_goals
    go_wp2_with fail
    exact bodyPost_ret (results_cell_row rfl _ _ (w.heap.size + 1) 23 #[.string X, .string Y] _ _ rfl (show IsB _ (w.heap.size + 1) X Y from IsB.new' (w.alloc (.cells #[.string N, .string D] 23)) X Y _ (by simp)) Tryz.underlying23 rfl (by kernel_rfl)) rfl ⟨rfl, (hA.alloc hA.size _).drew⟩

end Go.Proofs.YtjkklgpbblkhaaaGreatDoor

/-
  Layer 4, the reference: Make, with a positive denominator.
-/
namespace Go.Proofs.YtjkklgpbblkhaaaGreatDoor
open Go.RowKit Bs Ig Qq

set_option maxRecDepth 100000 in
set_option maxHeartbeats 8000000 in
theorem rMake_T (n d : Int) (hn : n.natAbs < big) (hd : d.natAbs < big) (h0 : 0 < d) (w : World) :
    Answers 28 #[.string (T n), .string (T d)] (okA (red n d)) w := by
  have hg := gcd_pos (n := n) (d := d) (by omega)
  have hgb : ((Int.gcd n d : Nat) : Int).natAbs < big := by rw [gcd_natAbs]; exact gcd_big4 hn hd
  have HV1 := Lib.hid (rValid_T n hn)
  have HV2 := Lib.hid (rValid_T d hd)
  have hc := rCompare_T d 0 hd zero_bigQ
  rw [cmpZ_pos h0, show bs (Lib.itoa 0) = (⟨#[48]⟩ : ByteArray) from T0] at hc
  have HC := Lib.hid hc
  have HG := Lib.hid (rGcd_T n d hn hd)
  have HD1 := Lib.hid (rDiv_T n (Int.gcd n d : Nat) hn hgb (by omega))
  have HD2 := Lib.hid (rDiv_T d (Int.gcd n d : Nat) hd hgb (by omega))
  have hz : ((bs (Lib.itoa d)).toList == [48]) = false := by rw [bs_toList]; exact itoa_zero d (by omega)
  obtain ⟨hB, r1⟩ := box0 w
  have HA := Lib.hid (And.intro hB r1)
  have hr : red n d = (n / (Int.gcd n d : Nat), d / (Int.gcd n d : Nat)) := by unfold red; rw [if_neg (by omega)]
  unfold Answers okA
  rw [hr]
  simp only
  unfold T
  generalize bs (Lib.itoa n) = X at *
  generalize bs (Lib.itoa d) = Y at *
  generalize bs (Lib.itoa (Int.gcd n d : Nat)) = G at *
  generalize bs (Lib.itoa (n / (Int.gcd n d : Nat))) = R1 at *
  generalize bs (Lib.itoa (d / (Int.gcd n d : Nat))) = R2 at *
  generalize bs (Lib.itoa (n % (Int.gcd n d : Nat))) = R3 at *
  generalize bs (Lib.itoa (d % (Int.gcd n d : Nat))) = R4 at *
  clear hn hd h0 hg hgb hc hr hB r1
  go_enter Tryz.func28, Tryz.ntmps28
  go_wp2_with (first
    | (go_at_call 61; (with_reducible refine (HV1.out _).mono ?_); rintro e w1 ⟨rfl, hww⟩; rw [hww]; clear hww w1)
    | (go_at_call 61; (with_reducible refine (HV2.out _).mono ?_); rintro e w1 ⟨rfl, hww⟩; rw [hww]; clear hww w1)
    | (go_at_call 53; (with_reducible refine (HC.out _).mono ?_); rintro e w3 ⟨rfl, B3⟩; have b3 := below_on HA.out.1 B3 HA.out.1.size; have r3 := HA.out.2.later B3 HA.out.2.lt)
    | (go_at_call 62; (with_reducible refine (HG.out _).mono ?_); rintro e w4 ⟨rfl, B4⟩; have b4 := below_on b3 B4 b3.size; have r4 := r3.later B4 r3.lt)
    | (go_at_call 52; (with_reducible refine (HD2.out _).mono ?_); rintro e w6 ⟨rfl, B6⟩; have b6 := below_on b5 B6 b5.size; have u2 := r5.later B6 r5.lt; have g1 := u2.f0; have g2 := u2.f1; have g3 := u2.c0; have g4 := u2.c1)
    | (go_at_call 52; (with_reducible refine (HD1.out _).mono ?_); rintro e w5 ⟨rfl, B5⟩; have b5 := below_on b4 B5 b4.size; have r5 := r4.later B5 r4.lt))
  exact bodyPost_ret (results_row_tmp rfl _ _ w.heap.size 23 #[.string R1, .string R2] _ _ rfl (two_strs u2 R1 R2) Tryz.underlying23 rfl (by kernel_rfl)) rfl ⟨rfl, fin1 u2 b6 (by omega) _ _⟩

end Go.Proofs.YtjkklgpbblkhaaaGreatDoor

/-
  Layer 4: the order of fractions.
-/
namespace Go.Proofs.YtjkklgpbblkhaaaGreatDoor
open Go.RowKit Bs Ig Qq

/-- a scope with a jump back to a label: what is shown of a pass serves the first one too -/
theorem wp_scope_back {P : Program} {a : Act} {w : World} {Q : Exit → Act → World → Prop} {c rest : Code} (l : Nat) (J : Act → World → Prop) (μ : Act → World → Nat) (hf : findLabel c l = some (Code.seq Code.skip rest))
    (pass : ∀ a w, J a w → rest.wp P (Exit.jump l (fun a' w' => J a' w' ∧ μ a' w' < μ a w) Q) a w)
    (first : (∀ a w, J a w → rest.wp P (Exit.jump l J Q) a w) → c.wp P (Exit.jump l J Q) a w) : (Code.scope c).wp P Q a w :=
  wp_scope_jumps l J μ hf (first fun a w h => Code.wp_mono (fun e a w hq => by
    cases e with
    | goto l' => exact ⟨hq.1, hq.2.1⟩
    | _ => exact hq) (pass a w h)) (fun a w h => wp_seq (wp_skip (pass a w h)))
theorem jump_ret {l : Nat} {J : Act → World → Prop} {Q : Exit → Act → World → Prop} {a : Act} {w : World} (h : Q .ret a w) : Exit.jump l J Q .ret a w := h
/-- the denominator in a box -/
noncomputable def denAt (W : World) (g : Nat) : Nat := match W.cell? ⟨g, 1, none⟩ with
  | some (.string s) => ((rd s).getD 0).toNat
  | _ => 0
theorem denAt_is {W : World} {g : Nat} {a : ByteArray} {d : Int} (h : IsB W g a (bs (Lib.itoa d))) (hd : d.natAbs < big) : denAt W g = d.toNat := by
  unfold denAt
  rw [h.c1]
  simp only [rd_some hd, Option.getD_some]
theorem eq0_T (z : Int) : ((bs (Lib.itoa z)).toList == [48]) = decide (z = 0) := by
  rw [bs_toList]
  by_cases h : z = 0
  · subst h
    rw [show Lib.itoa 0 = [48] from by rw [show (0 : Int) = ((0 : Nat) : Int) from rfl, itoa_nat, dec_small (by omega)]; rfl]; rfl
  · rw [decide_eq_false h]; exact itoa_zero z h
theorem cmpZ_sign (x y : Int) : cmpZ x y = Int.sign (x - y) := by
  unfold cmpZ
  rcases Int.lt_trichotomy x y with h | h | h
  · rw [if_pos h, Int.sign_eq_neg_one_of_neg (by omega)]
  · rw [if_neg (by omega), if_neg (by omega), h, Int.sub_self]; rfl
  · rw [if_neg (by omega), if_pos h, Int.sign_eq_one_of_pos (by omega)]

/-- where a pass of the comparison stands -/
structure Cm (w W : World) (R : Int) (x y : Int × Int) : Prop where
  px : 0 < x.2
  py : 0 < y.2
  b1 : x.1.natAbs < big
  b2 : x.2.natAbs < big
  b3 : y.1.natAbs < big
  b4 : y.2.natAbs < big
  val : cmpF x y = R
  r0 : IsB W w.heap.size (bs (Lib.itoa x.1)) (bs (Lib.itoa x.2))
  r1 : IsB W (w.heap.size + 1) (bs (Lib.itoa y.1)) (bs (Lib.itoa y.2))
  below : Below w.heap.size w W

set_option maxRecDepth 100000 in
set_option maxHeartbeats 8000000 in
theorem compare_x (a b c d : ByteArray) (x y : Int × Int) (w : World) (ht : TabP w) (h1 : validB a b = true) (h2 : validB c d = true) (R : Int)
    (hst : ∀ W, IsB W w.heap.size a b → IsB W (w.heap.size + 1) c d → Below w.heap.size w W → Cm w W R x y) :
    Calls Tryz.prog 20 #[.agg #[.string a, .string b], .agg #[.string c, .string d]] w fun e w' => e = .returned (.int .i64 R) ∧ Below w.heap.size w w' := by
  go_enter Tryz.func20, Tryz.ntmps20
  go_wp2_with fail
  refine wp_scope_back 0 (fun a' W => ∃ (x y : Int × Int) (u5 u6 u7 u8 u9 u10 u11 u12 u13 u14 u15 u16 u17 u18 u19 u20 u21 u22 u23 u24 u25 u26 u27 u28 u29 u30 u31 u32 u33 u34 u35 u36 u37 u38 u39 u40 u41 u42 u43 u44 u45 u46 u47 u48 u49 u50 u51 u52 u53 u54 u55 u56 u57 u58 u59 u60 : Value), a' = { tmps := #[.agg #[.string a, .string b], .agg #[.string c, .string d], .pointer (some ⟨w.heap.size, 0, none⟩), .pointer (some ⟨w.heap.size + 1, 0, none⟩), .int .i64 0, u5, u6, u7, u8, u9, u10, u11, u12, u13, u14, u15, u16, u17, u18, u19, u20, u21, u22, u23, u24, u25, u26, u27, u28, u29, u30, u31, u32, u33, u34, u35, u36, u37, u38, u39, u40, u41, u42, u43, u44, u45, u46, u47, u48, u49, u50, u51, u52, u53, u54, u55, u56, u57, u58, u59, u60], defers := [] } ∧ Cm w W R x y) (fun _ W => denAt W w.heap.size + denAt W (w.heap.size + 1)) rfl ?_ ?_
  · rintro a' W ⟨x, y, u5, u6, u7, u8, u9, u10, u11, u12, u13, u14, u15, u16, u17, u18, u19, u20, u21, u22, u23, u24, u25, u26, u27, u28, u29, u30, u31, u32, u33, u34, u35, u36, u37, u38, u39, u40, u41, u42, u43, u44, u45, u46, u47, u48, u49, u50, u51, u52, u53, u54, u55, u56, u57, u58, u59, u60, rfl, hc⟩
    have HT := Lib.hid (ht.later hc.below)
    have HC := Lib.hid hc
    have hD1 := fun (W' : World) (hb : Below W.heap.size W W') => Div_any x.1 x.2 hc.b1 hc.b2 (by have := hc.px; omega) W' (HT.out.later hb)
    have hD2 := fun (W' : World) (hb : Below W.heap.size W W') => Div_any y.1 y.2 hc.b3 hc.b4 (by have := hc.py; omega) W' (HT.out.later hb)
    obtain ⟨_, l1, m1⟩ := div_pos (n := x.1) hc.px
    obtain ⟨_, l2, m2⟩ := div_pos (n := y.1) hc.py
    have hq1 : (x.1 / x.2).natAbs < big := Nat.lt_of_le_of_lt (Int.natAbs_ediv_le_natAbs _ _) hc.b1
    have hq2 : (y.1 / y.2).natAbs < big := Nat.lt_of_le_of_lt (Int.natAbs_ediv_le_natAbs _ _) hc.b3
    have hr1 : (x.1 % x.2).natAbs < big := by have := hc.b2; omega
    have hr2 : (y.1 % y.2).natAbs < big := by have := hc.b4; omega
    have hK1 := fun (W' : World) => Compare_any (x.1 / x.2) (y.1 / y.2) hq1 hq2 W'
    have hK2 := fun (W' : World) => Compare_any (x.1 % x.2) (y.1 % y.2) hr1 hr2 W'
    have z1 := eq0_T (x.1 % x.2)
    have z2 := eq0_T (y.1 % y.2)
    have r0 := hc.r0
    have r1 := hc.r1
    obtain ⟨X1, hX1⟩ : ∃ X, bs (Lib.itoa x.1) = X := ⟨_, rfl⟩
    obtain ⟨X2, hX2⟩ : ∃ X, bs (Lib.itoa x.2) = X := ⟨_, rfl⟩
    obtain ⟨Y1, hY1⟩ : ∃ X, bs (Lib.itoa y.1) = X := ⟨_, rfl⟩
    obtain ⟨Y2, hY2⟩ : ∃ X, bs (Lib.itoa y.2) = X := ⟨_, rfl⟩
    obtain ⟨P1, hP1⟩ : ∃ X, bs (Lib.itoa (x.1 / x.2)) = X := ⟨_, rfl⟩
    obtain ⟨P2, hP2⟩ : ∃ X, bs (Lib.itoa (y.1 / y.2)) = X := ⟨_, rfl⟩
    obtain ⟨S1, hS1⟩ : ∃ X, bs (Lib.itoa (x.1 % x.2)) = X := ⟨_, rfl⟩
    obtain ⟨S2, hS2⟩ : ∃ X, bs (Lib.itoa (y.1 % y.2)) = X := ⟨_, rfl⟩
    rw [hX1, hX2] at r0
    rw [hY1, hY2] at r1
    rw [hX1, hX2, hP1, hS1] at hD1
    rw [hY1, hY2, hP2, hS2] at hD2
    rw [hP1, hP2] at hK1
    rw [hS1, hS2] at hK2
    rw [hS1] at z1
    rw [hS2] at z2
    have HD1 := Lib.hid hD1
    have HD2 := Lib.hid hD2
    have HK1 := Lib.hid hK1
    have HK2 := Lib.hid hK2
    have HE := Lib.hid (And.intro (And.intro hY2 hS2) (And.intro hX2 hS1))
    have HL := Lib.hid (And.intro (And.intro l1 m1) (And.intro l2 m2))
    have HQ := Lib.hid (And.intro hr1 hr2)
    have k0 := r0.c0
    have k1 := r0.c1
    have BW : Below W.heap.size W W := Below.refl _ _
    clear hD1 hD2 hK1 hK2 hX1 hX2 hY1 hY2 hP1 hP2 hS1 hS2 l1 m1 l2 m2 hq1 hq2 hr1 hr2 hst
    rcases Int.lt_trichotomy (x.1 / x.2) (y.1 / y.2) with hq | hq | hq
    · have hR : R = -1 := by rw [← hc.val]; exact cross_lt hc.px hc.py hq
      have e1 : cmpZ (x.1 / x.2) (y.1 / y.2) = -1 := if_pos hq
      rw [e1] at HK1
      subst hR
      clear hc hq e1 z1 z2
      go_wp2_with (first
        | (go_at_call 50; (with_reducible refine (HD1.out _ BW).mono ?_); rintro e w1 ⟨rfl, B1⟩; have s0 := r0.later B1 r0.lt; have s1 := r1.later B1 r1.lt; have k2 := s1.c0; have k3 := s1.c1)
        | (go_at_call 50; (with_reducible refine (HD2.out _ B1).mono ?_); rintro e w2 ⟨rfl, B2⟩; have B12 := below_on B1 B2 B1.size)
        | (go_at_call 51; (with_reducible refine (HK1.out _).mono ?_); rintro e w3 ⟨rfl, B3⟩; have B13 := below_on B12 B3 B12.size))
      exact jump_ret (bodyPost_ret (results_tmp rfl _ _ _) rfl ⟨rfl, below_on HC.out.below B13 HC.out.below.size⟩)
    · have e1 : cmpZ (x.1 / x.2) (y.1 / y.2) = 0 := by unfold cmpZ; rw [if_neg (by omega), if_neg (by omega)]
      rw [e1] at HK1
      have hnx : x.1 % x.2 ≠ 0 → y.1 % y.2 ≠ 0 → ∀ W', IsB W' w.heap.size Y2 S2 → IsB W' (w.heap.size + 1) X2 S1 → Below w.heap.size w W' → Cm w W' R (y.2, y.1 % y.2) (x.2, x.1 % x.2) ∧ denAt W' w.heap.size + denAt W' (w.heap.size + 1) < denAt W w.heap.size + denAt W (w.heap.size + 1) := by
        intro hx hy W' i0 i1 hb
        obtain ⟨⟨hY2, hS2⟩, hX2, hS1⟩ := HE.out
        obtain ⟨⟨l1, m1⟩, l2, m2⟩ := HL.out
        obtain ⟨hr1, hr2⟩ := HQ.out
        rw [← hY2, ← hS2] at i0
        rw [← hX2, ← hS1] at i1
        refine ⟨⟨by show 0 < y.1 % y.2; omega, by show 0 < x.1 % x.2; omega, hc.b4, hr2, hc.b2, hr1, ?_, i0, i1, hb⟩, ?_⟩
        · rw [← hc.val]; exact (cross_next hc.px hc.py hq).symm
        · rw [denAt_is i0 hr2, denAt_is i1 hr1, denAt_is hc.r0 hc.b2, denAt_is hc.r1 hc.b4]
          omega
      have Hnx := Lib.hid hnx
      obtain ⟨v1, hv1⟩ : ∃ v, decide (x.1 % x.2 = 0) = v := ⟨_, rfl⟩
      obtain ⟨v2, hv2⟩ : ∃ v, decide (y.1 % y.2 = 0) = v := ⟨_, rfl⟩
      rw [hv1] at z1
      rw [hv2] at z2
      have hz : (v1 = true ∨ v2 = true) → cmpZ (x.1 % x.2) (y.1 % y.2) = R := by
        intro h
        rw [cmpZ_sign, ← hc.val]
        refine (cross_zero hc.px hc.py hq ?_).symm
        rcases h with h | h
        · left; rw [h] at hv1; exact of_decide_eq_true hv1
        · right; rw [h] at hv2; exact of_decide_eq_true hv2
      have Hv := Lib.hid (And.intro hv1 hv2)
      have Hz := Lib.hid hz
      clear hc hq e1 hnx hz hv1 hv2
      cases v1 with
      | true =>
        rw [Hz.out (.inl rfl)] at HK2
        clear z2
        go_wp2_with (first
          | (go_at_call 50; (with_reducible refine (HD1.out _ BW).mono ?_); rintro e w1 ⟨rfl, B1⟩; have s0 := r0.later B1 r0.lt; have s1 := r1.later B1 r1.lt; have k2 := s1.c0; have k3 := s1.c1)
          | (go_at_call 50; (with_reducible refine (HD2.out _ B1).mono ?_); rintro e w2 ⟨rfl, B2⟩; have B12 := below_on B1 B2 B1.size; have t0 := s0.later B2 s0.lt; have t1 := s1.later B2 s1.lt)
          | (go_at_call 51; (with_reducible refine (HK1.out _).mono ?_); rintro e w3 ⟨rfl, B3⟩; have B13 := below_on B12 B3 B12.size; have p0 := t0.later B3 t0.lt; have p1 := t1.later B3 t1.lt; have n0 := p0.c1; have n1 := p1.c1; have n2 := p0.f0; have n3 := p0.f1; have n4 := p0.c0; have n5 := p1.c0; have n6 := p1.f0; have n7 := p1.f1)
          | (go_at_call 51; (with_reducible refine (HK2.out _).mono ?_); rintro e w4 ⟨rfl, B4⟩; have B14 := below_on B13 B4 B13.size))
        exact jump_ret (bodyPost_ret (results_tmp rfl _ _ _) rfl ⟨rfl, below_on HC.out.below B14 HC.out.below.size⟩)
      | false =>
        cases v2 with
        | true =>
          rw [Hz.out (.inr rfl)] at HK2
          go_wp2_with (first
            | (go_at_call 50; (with_reducible refine (HD1.out _ BW).mono ?_); rintro e w1 ⟨rfl, B1⟩; have s0 := r0.later B1 r0.lt; have s1 := r1.later B1 r1.lt; have k2 := s1.c0; have k3 := s1.c1)
            | (go_at_call 50; (with_reducible refine (HD2.out _ B1).mono ?_); rintro e w2 ⟨rfl, B2⟩; have B12 := below_on B1 B2 B1.size; have t0 := s0.later B2 s0.lt; have t1 := s1.later B2 s1.lt)
            | (go_at_call 51; (with_reducible refine (HK1.out _).mono ?_); rintro e w3 ⟨rfl, B3⟩; have B13 := below_on B12 B3 B12.size; have p0 := t0.later B3 t0.lt; have p1 := t1.later B3 t1.lt; have n0 := p0.c1; have n1 := p1.c1; have n2 := p0.f0; have n3 := p0.f1; have n4 := p0.c0; have n5 := p1.c0; have n6 := p1.f0; have n7 := p1.f1)
            | (go_at_call 51; (with_reducible refine (HK2.out _).mono ?_); rintro e w4 ⟨rfl, B4⟩; have B14 := below_on B13 B4 B13.size))
          exact jump_ret (bodyPost_ret (results_tmp rfl _ _ _) rfl ⟨rfl, below_on HC.out.below B14 HC.out.below.size⟩)
        | false =>
          go_wp2_with (first
            | (go_at_call 50; (with_reducible refine (HD1.out _ BW).mono ?_); rintro e w1 ⟨rfl, B1⟩; have s0 := r0.later B1 r0.lt; have s1 := r1.later B1 r1.lt; have k2 := s1.c0; have k3 := s1.c1)
            | (go_at_call 50; (with_reducible refine (HD2.out _ B1).mono ?_); rintro e w2 ⟨rfl, B2⟩; have B12 := below_on B1 B2 B1.size; have t0 := s0.later B2 s0.lt; have t1 := s1.later B2 s1.lt)
            | (go_at_call 51; (with_reducible refine (HK1.out _).mono ?_); rintro e w3 ⟨rfl, B3⟩; have B13 := below_on B12 B3 B12.size; have p0 := t0.later B3 t0.lt; have p1 := t1.later B3 t1.lt; have n0 := p0.c1; have n1 := p1.c1; have n2 := p0.f0; have n3 := p0.f1; have n4 := p0.c0; have n5 := p1.c0; have n6 := p1.f0; have n7 := p1.f1)
            | (go_at_call 51; (with_reducible refine (HK2.out _).mono ?_); rintro e w4 ⟨rfl, B4⟩; have B14 := below_on B13 B4 B13.size))
          have i0 : IsB _ w.heap.size Y2 S2 := far_strs (two_strs p0 Y2 S2) (Nat.succ_ne_self _) X2 S1
          have i1 : IsB _ (w.heap.size + 1) X2 S1 := two_strs (far_strs p1 (Nat.succ_ne_self _).symm Y2 S2) X2 S1
          obtain ⟨hC, hM⟩ := Hnx.out (of_decide_eq_false Hv.out.1) (of_decide_eq_false Hv.out.2) _ i0 i1 (fin1 (two_strs p1 X2 S1 |> fun _ => far_strs p1 (Nat.succ_ne_self _).symm Y2 S2) (fin1 p0 (below_on HC.out.below B13 HC.out.below.size) (Nat.le_refl _) Y2 S2) (by omega) X2 S1)
          first | exact wp_goto ⟨rfl, ⟨_, _, _, _, _, _, _, _, _, _, _, _, _, _, _, _, _, _, _, _, _, _, _, _, _, _, _, _, _, _, _, _, _, _, _, _, _, _, _, _, _, _, _, _, _, _, _, _, _, _, _, _, _, _, _, _, _, _, rfl, hC⟩, hM⟩ | exact wp_goto ⟨rfl, ⟨⟨_, _, _, _, _, _, _, _, _, _, _, _, _, _, _, _, _, _, _, _, _, _, _, _, _, _, _, _, _, _, _, _, _, _, _, _, _, _, _, _, _, _, _, _, _, _, _, _, _, _, _, _, _, _, _, _, rfl⟩, _, _, _, _, hC⟩, hM⟩
    · have hR : R = 1 := by rw [← hc.val]; exact cross_gt hc.px hc.py hq
      have e1 : cmpZ (x.1 / x.2) (y.1 / y.2) = 1 := by unfold cmpZ; rw [if_neg (by omega), if_pos hq]
      rw [e1] at HK1
      subst hR
      clear hc hq e1 z1 z2
      go_wp2_with (first
        | (go_at_call 50; (with_reducible refine (HD1.out _ BW).mono ?_); rintro e w1 ⟨rfl, B1⟩; have s0 := r0.later B1 r0.lt; have s1 := r1.later B1 r1.lt; have k2 := s1.c0; have k3 := s1.c1)
        | (go_at_call 50; (with_reducible refine (HD2.out _ B1).mono ?_); rintro e w2 ⟨rfl, B2⟩; have B12 := below_on B1 B2 B1.size)
        | (go_at_call 51; (with_reducible refine (HK1.out _).mono ?_); rintro e w3 ⟨rfl, B3⟩; have B13 := below_on B12 B3 B12.size))
      exact jump_ret (bodyPost_ret (results_tmp rfl _ _ _) rfl ⟨rfl, below_on HC.out.below B13 HC.out.below.size⟩)
  · intro hP
    obtain ⟨W0, hW0, hB, r0, r1⟩ : ∃ W, W = ((w.alloc (.cells #[.string a, .string b] 23)).alloc (.cells #[.string c, .string d] 23)) ∧ Below w.heap.size w W ∧ IsB W w.heap.size a b ∧ IsB W (w.heap.size + 1) c d :=
      ⟨_, rfl, ((Below.refl _ w).alloc (Nat.le_refl _) _).alloc (by simp) _, (IsB.new w a b).alloc _, IsB.new' _ _ _ _ (by simp)⟩
    rw [← hW0]
    have HP := Lib.hid hP
    have HV1 := Lib.hid (fun (W : World) (hb : Below w.heap.size w W) => by have h := qValid_any a b W (ht.later hb); rw [h1] at h; exact h)
    have HV2 := Lib.hid (fun (W : World) (hb : Below w.heap.size w W) => by have h := qValid_any c d W (ht.later hb); rw [h2] at h; exact h)
    have HS := Lib.hid hst
    have k0 := r0.c0
    have k1 := r0.c1
    clear hP hst hW0 ht
    go_wp2_with (first
      | (go_at_call 29; (with_reducible refine (HV2.out _ hw1).mono ?_); rintro e w2 ⟨rfl, B2⟩; have hw2 := below_on hw1 B2 hw1.size; have t0 := s0.later B2 s0.lt; have t1 := s1.later B2 s1.lt)
      | (go_at_call 29; (with_reducible refine (HV1.out _ hB).mono ?_); rintro e w1 ⟨rfl, B1⟩; have hw1 := below_on hB B1 hB.size; have s0 := r0.later B1 r0.lt; have s1 := r1.later B1 r1.lt; have k2 := s1.c0; have k3 := s1.c1))
    go_step3
    rename_i hK
    exact hK _ _ (HP.out _ _ ⟨x, y, _, _, _, _, _, _, _, _, _, _, _, _, _, _, _, _, _, _, _, _, _, _, _, _, _, _, _, _, _, _, _, _, _, _, _, _, _, _, _, _, _, _, _, _, _, _, _, _, _, _, _, _, _, _, _, _, rfl, HS.out _ t0 t1 hw2⟩)

end Go.Proofs.YtjkklgpbblkhaaaGreatDoor
