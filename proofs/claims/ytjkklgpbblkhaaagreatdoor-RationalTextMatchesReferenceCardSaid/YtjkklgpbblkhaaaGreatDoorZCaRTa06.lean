/-
  Put together by program out of these texts, in this order: Rva3, Rgr, Igu.
-/
import Derived.Test.YtjkklgpbblkhaaaGreatDoorZCaRTa05
import Derived.Test.YtjkklgpbblkhaaaGreatDoorZCaRTa04
import Derived.RangeFuncCalls
import Derived.OrdersIn
import Derived.OrdersHeld
import Derived.Deep.RegionHeld
import Derived.OwnWalkIn
import Derived.Laws.OwnMore

/-
  Layer 3, the reference: which strings are integers.
-/
namespace Go.Proofs.YtjkklgpbblkhaaaGreatDoor
open Go.RowKit Bs Ig

/-- the bytes of B are digits, B is neither empty nor too long, and it begins with no 0 -/
def DigS (B : ByteArray) : Prop := ∀ i (h : i < B.size), 48 ≤ (B[i]'h).toNat ∧ (B[i]'h).toNat ≤ 57
theorem isI_str (s : ByteArray) : IsI s.data.toList ↔ s.data.toList = [48] ∨ (0 < (body s.data.toList).length ∧ (body s.data.toList).length ≤ 200 ∧ (body s.data.toList).getD 0 0 ≠ 48 ∧ ∀ i, i < (body s.data.toList).length → isDig ((body s.data.toList).getD i 0)) := isI_iff _
theorem getD_str (B : ByteArray) (i : Nat) (h : i < B.size) : B.data.toList.getD i 0 = B[i]'h := by
  rw [List.getD_eq_getElem?_getD, List.getElem?_eq_getElem (show i < B.data.toList.length from h)]; rfl

theorem post_b {Post : Ending → World → Prop} {W : World} {b c : Bool} (h : b = c) (hp : Post (.returned (.bool c)) W) : Post (.returned (.bool b)) W := by subst h; exact hp
set_option maxRecDepth 100000 in
set_option maxHeartbeats 4000000 in
/-- behind the sign: the string B, which is s or what stands behind the sign -/
theorem rvalid_any (s : ByteArray) (hs : s.size ≤ 9223372036854775807) (w : World) :
    Calls Tryz.prog 61 #[.string s] w fun e w' => ∃ r : Bool, e = .returned (.bool r) ∧ (r = true ↔ IsI s.data.toList) ∧ w' = w := by
  suffices h : ∀ (Post : Ending → World → Prop), (∀ r : Bool, (r = true ↔ IsI s.data.toList) → Post (.returned (.bool r)) w) → Calls Tryz.prog 61 #[.string s] w Post from h _ fun r hr => ⟨r, rfl, hr, rfl⟩
  intro Post hPost
  have hcase : (∃ (h : 0 < s.size), (s[0]'h).toNat = 45 ∧ s.data.toList = 45 :: (s.extract 1 s.size).data.toList) ∨ ((s.size = 0 ∨ ∃ (h : 0 < s.size), (s[0]'h).toNat ≠ 45) ∧ body s.data.toList = s.data.toList) := by
    rcases Nat.eq_zero_or_pos s.size with h | h
    · refine .inr ⟨.inl h, ?_⟩
      have : s.data.toList = [] := List.length_eq_zero_iff.1 h
      rw [this]; rfl
    · obtain ⟨c, r, hl⟩ : ∃ c r, s.data.toList = c :: r := by
        cases hd : s.data.toList with
        | nil => have : s.data.toList.length = s.size := rfl; rw [hd] at this; simp at this; omega
        | cons c r => exact ⟨c, r, rfl⟩
      have h0 : s[0]'h = c := by have := getD_str s 0 h; rw [hl] at this; exact this.symm
      by_cases hc : c = 45
      · subst hc
        refine .inl ⟨h, by rw [h0]; rfl, ?_⟩
        have hx := bs_extract s.data.toList 1 s.size
        rw [bs_bytes, hl] at hx
        rw [hx, hl]
        show _ = 45 :: (bs _).data.toList
        simp only [bs, List.drop_succ_cons, List.drop_zero]
        rw [List.take_of_length_le (by have : s.data.toList.length = s.size := rfl; rw [hl] at this; simp at this; omega)]
      · refine .inr ⟨.inr ⟨h, fun e => hc ?_⟩, ?_⟩
        · rw [h0] at e; exact UInt8.toNat_inj.1 e
        · rw [hl]; unfold body; split
          · rename_i e; exact (hc (List.cons.inj e).1).elim
          · rfl
  -- what is left behind the sign
  have key : ∀ (B : ByteArray) (neg : Bool), body s.data.toList = B.data.toList → (neg = true → s.data.toList ≠ [48]) → (neg = false → s.data.toList = B.data.toList) →
      (IsI s.data.toList ↔ ((neg = false ∧ B.data.toList = [48]) ∨ (0 < B.size ∧ B.size ≤ 200 ∧ (∃ h : 0 < B.size, (B[0]'h).toNat ≠ 48) ∧ DigS B))) := by
    intro B neg hb h1 h2
    rw [isI_str, hb]
    have hlen : B.data.toList.length = B.size := rfl
    constructor
    · rintro (h | ⟨g1, g2, g3, g4⟩)
      · cases neg with
        | true => exact (h1 rfl h).elim
        | false => exact .inl ⟨rfl, by rw [← h2 rfl]; exact h⟩
      · rw [hlen] at g1 g2 g4
        refine .inr ⟨g1, g2, ⟨g1, fun e => g3 ?_⟩, fun i hi => ?_⟩
        · rw [getD_str B 0 g1]; exact UInt8.toNat_inj.1 e
        · have := g4 i hi; rw [getD_str B i hi] at this; exact this
    · rintro (⟨h, h'⟩ | ⟨g1, g2, ⟨g3, g3'⟩, g4⟩)
      · left; rw [h2 h]; exact h'
      · right
        rw [hlen]
        refine ⟨g1, g2, fun e => g3' ?_, fun i hi => ?_⟩
        · rw [getD_str B 0 g1] at e; rw [e]; rfl
        · rw [getD_str B i hi]; exact g4 i hi
  have fin : ∀ (B : ByteArray) (neg : Bool), body s.data.toList = B.data.toList → (neg = true → s.data.toList ≠ [48] ∧ B.data.toList ≠ [48]) → (neg = false → s.data.toList = B.data.toList) → ∀ r : Bool,
      (r = true ↔ (0 < B.size ∧ B.size ≤ 200 ∧ (B.data.toList = [48] ∨ ∃ h : 0 < B.size, (B[0]'h).toNat ≠ 48) ∧ DigS B)) → Post (.returned (.bool r)) w := by
    intro B neg hb h1 h2 r hr
    refine hPost r ?_
    rw [hr, key B neg hb (fun h => (h1 h).1) h2]
    constructor
    · rintro ⟨a1, a2, a3 | a3, a4⟩
      · cases neg with
        | true => exact ((h1 rfl).2 a3).elim
        | false => exact .inl ⟨rfl, a3⟩
      · exact .inr ⟨a1, a2, a3, a4⟩
    · rintro (⟨_, h⟩ | ⟨a1, a2, a3, a4⟩)
      · have hsz : B.size = 1 := by have : B.data.toList.length = B.size := rfl; rw [h] at this; exact this.symm
        refine ⟨by omega, by omega, .inl h, fun i hi => ?_⟩
        have hi0 : i = 0 := by omega
        subst hi0
        have := getD_str B 0 hi
        rw [h] at this
        rw [← this]; decide
      · exact ⟨a1, a2, .inr a3, a4⟩
  rcases hcase with ⟨h0, h45, hl⟩ | ⟨hno, hbody⟩
  · -- a sign
    obtain ⟨B, hB⟩ : ∃ B, s.extract 1 s.size = B := ⟨_, rfl⟩
    rw [hB] at hl
    have hbody : body s.data.toList = B.data.toList := by rw [hl]; rfl
    have g1 : decide (0 < s.size) = true := decide_eq_true h0
    have g2 : decide (1 ≤ s.size) = true := decide_eq_true h0
    have g3 : decide (0 < (s.size : Int)) = true := decide_eq_true (by omega)
    have g4 : decide (1 ≤ (s.size : Int)) = true := decide_eq_true (by omega)
    have hBs : B.size ≤ 9223372036854775807 := by rw [← hB, ByteArray.size_extract]; omega
    have hne : s.data.toList ≠ [48] := by rw [hl]; intro e; exact absurd (List.cons.inj e).1 (by decide)
    obtain ⟨z, hz⟩ : ∃ z, (B.toList == [48]) = z := ⟨_, rfl⟩
    have hzl : z = true ↔ B.data.toList = [48] := by rw [← hz, toList_eq]; simp
    cases z with
    | true =>
      have hr := hPost false ⟨fun h => (by cases h), fun h => by
        rcases (isI_str s).1 h with h | ⟨_, _, h, _⟩
        · exact (hne h).elim
        · rw [hbody, hzl.1 rfl] at h; exact (h rfl).elim⟩
      have Hr := Lib.hid hr
      clear key fin hr hzl hbody hl hne hPost
      go_enter Tryz.func61, Tryz.ntmps61
      go_wp2_with fail
      all_goals first | exact Hr.out | (go_ret; exact Hr.out)
    | false =>
      have fin := fin B true hbody (fun _ => ⟨hne, fun h => by have := hzl.2 h; cases this⟩) (fun h => by cases h)
      clear key hzl hbody hl hne hPost
      go_enter Tryz.func61, Tryz.ntmps61
      go_wp2_with fail
      go_loopw [3] (fun p wr => ∃ i : Nat, p = .int .i64 (i : Int) ∧ i ≤ B.size ∧ (∀ j (h : j < B.size), j < i → 48 ≤ (B[j]'h).toNat ∧ (B[j]'h).toNat ≤ 57) ∧ wr = w) (fun p _ => (B.size - intOf p).toNat)
      case atStart => exact ⟨0, rfl, Nat.zero_le _, fun j _ h => absurd h (Nat.not_lt_zero j), rfl⟩
      case round =>
        obtain ⟨i, rfl, hi, hall, rfl⟩ := hrel
        rcases Nat.lt_or_ge i B.size with h1 | h1
        · obtain ⟨k, hk⟩ : ∃ k, (B[i]'h1).toNat = k := ⟨_, rfl⟩
          have e1 : decide ((i : Int) < (B.size : Int)) = true := decide_eq_true (by omega)
          have e2 : decide (i < B.size) = true := decide_eq_true h1
          rcases Decidable.em (48 ≤ k ∧ k ≤ 57) with ⟨hd1, hd2⟩ | hd
          · have d1 : decide ((k : Int) < 48) = false := decide_eq_false (by omega)
            have d2 : decide (57 < (k : Int)) = false := decide_eq_false (by omega)
            have d3 : decide (k < 48) = false := decide_eq_false (by omega)
            have d4 : decide (57 < k) = false := decide_eq_false (by omega)
            have HA := Lib.hid (show ∀ j (h : j < B.size), j < i + 1 → 48 ≤ (B[j]'h).toNat ∧ (B[j]'h).toNat ≤ 57 from fun j h hj => by
              rcases Nat.lt_or_ge j i with h2 | h2
              · exact hall j h h2
              · have : j = i := by omega
                subst this
                rw [hk]; omega)
            clear hall fin
            go_wp2_with fail
            go_roundw
            case rel => exact ⟨i + 1, by go_num, h1, HA.out, by trivial⟩
            case measure => simp [intOf]; omega
          · have hr := fin false ⟨fun h => (by cases h), fun ⟨_, _, _, h4⟩ => (hd (by have := h4 i h1; rw [hk] at this; exact this)).elim⟩
            have Hr := Lib.hid hr
            clear hall fin hr
            rcases Nat.lt_or_ge k 48 with h2 | h2
            · have d1 : decide ((k : Int) < 48) = true := decide_eq_true (by omega)
              have d3 : decide (k < 48) = true := decide_eq_true h2
              go_wp2_with fail
              all_goals first | exact Hr.out | (refine post_b ?_ Hr.out; first | rfl | (simp; omega) | (simp only [bne_iff_ne, ne_eq, beq_iff_eq]; omega)) | (go_ret; exact Hr.out) | (go_ret; refine post_b ?_ Hr.out; first | rfl | (simp; omega))
            · have d1 : decide ((k : Int) < 48) = false := decide_eq_false (by omega)
              have d2 : decide (57 < (k : Int)) = true := decide_eq_true (by omega)
              have d3 : decide (k < 48) = false := decide_eq_false (by omega)
              have d4 : decide (57 < k) = true := decide_eq_true (by omega)
              go_wp2_with fail
              all_goals first | exact Hr.out | (refine post_b ?_ Hr.out; first | rfl | (simp; omega) | (simp only [bne_iff_ne, ne_eq, beq_iff_eq]; omega)) | (go_ret; exact Hr.out) | (go_ret; refine post_b ?_ Hr.out; first | rfl | (simp; omega))
        · obtain rfl : i = B.size := by omega
          have e1 : decide ((B.size : Int) < (B.size : Int)) = false := decide_eq_false (by omega)
          have e2 : decide (B.size < B.size) = false := decide_eq_false (by omega)
          have hdig : DigS B := fun j h => hall j h h
          rcases Nat.eq_zero_or_pos B.size with h2 | h2
          · have Hr := Lib.hid (fin false ⟨fun h => (by cases h), fun ⟨h, _⟩ => absurd h (by omega)⟩)
            have e3 : decide (0 < B.size) = false := decide_eq_false (by omega)
            have e4 : decide (0 < (B.size : Int)) = false := decide_eq_false (by omega)
            clear hall fin hdig
            go_wp2_with fail
            all_goals first | exact Hr.out | (refine post_b ?_ Hr.out; first | rfl | (simp; omega) | (simp only [bne_iff_ne, ne_eq, beq_iff_eq]; omega)) | (go_ret; exact Hr.out) | (go_ret; refine post_b ?_ Hr.out; first | rfl | (simp; omega))
          · have e3 : decide (0 < B.size) = true := decide_eq_true h2
            have e4 : decide (0 < (B.size : Int)) = true := decide_eq_true (by omega)
            rcases Nat.lt_or_ge 200 B.size with h3 | h3
            · have Hr := Lib.hid (fin false ⟨fun h => (by cases h), fun ⟨_, h, _⟩ => absurd h (by omega)⟩)
              have e5 : decide ((B.size : Int) ≤ 200) = false := decide_eq_false (by omega)
              have e6 : decide (B.size ≤ 200) = false := decide_eq_false (by omega)
              clear hall fin hdig
              go_wp2_with fail
              all_goals first | exact Hr.out | (refine post_b ?_ Hr.out; first | rfl | (simp; omega) | (simp only [bne_iff_ne, ne_eq, beq_iff_eq]; omega)) | (go_ret; exact Hr.out) | (go_ret; refine post_b ?_ Hr.out; first | rfl | (simp; omega))
            · have e5 : decide ((B.size : Int) ≤ 200) = true := decide_eq_true (by omega)
              have e6 : decide (B.size ≤ 200) = true := decide_eq_true (by omega)
              obtain ⟨z, hz⟩ : ∃ z, (B.toList == [48]) = z := ⟨_, rfl⟩
              obtain ⟨k, hk⟩ : ∃ k, (B[0]'h2).toNat = k := ⟨_, rfl⟩
              have hzl : z = true ↔ B.data.toList = [48] := by rw [← hz, toList_eq]; simp
              cases z with
              | true =>
                exact absurd (‹(B.toList == [48]) = false›.symm.trans ‹(B.toList == [48]) = true›) (by decide)
              | false =>
                have hnz : B.data.toList ≠ [48] := fun h => by have := hzl.2 h; cases this
                rcases Decidable.em (k = 48) with h48 | h48
                · have Hr := Lib.hid (fin false ⟨fun h => (by cases h), fun ⟨_, _, h, _⟩ => by
                    rcases h with h | ⟨_, h⟩
                    · exact (hnz h).elim
                    · rw [hk] at h; exact (h h48).elim⟩)
                  subst h48
                  clear hall fin hdig hzl hnz
                  go_wp2_with fail
                  all_goals first | exact Hr.out | (refine post_b ?_ Hr.out; first | rfl | (simp; omega) | (simp only [bne_iff_ne, ne_eq, beq_iff_eq]; omega)) | (go_ret; exact Hr.out) | (go_ret; refine post_b ?_ Hr.out; first | rfl | (simp; omega))
                · have Hr := Lib.hid (fin true ⟨fun _ => ⟨h2, h3, .inr ⟨h2, by rw [hk]; exact h48⟩, hdig⟩, fun _ => rfl⟩)
                  have D5 := Lib.hid (show ((k : Int) != 48) = true by simp; omega)
                  have d6 : (k != 48) = true := by simp; omega
                  have d7 : ((k : Int) == 48) = false := beq_false_of_ne (by omega)
                  clear hall fin hdig hzl hnz
                  go_wp2_with fail
                  all_goals first | exact Hr.out | (refine post_b ?_ Hr.out; first | rfl | (simp; omega) | (simp only [bne_iff_ne, ne_eq, beq_iff_eq]; omega)) | (go_ret; exact Hr.out) | (go_ret; refine post_b ?_ Hr.out; first | rfl | (simp; omega))
  · have fin := fin s false hbody (fun h => by cases h) (fun _ => rfl)
    obtain ⟨B, rfl⟩ : ∃ B, B = s := ⟨_, rfl⟩
    clear key hPost
    rcases hno with h0 | ⟨h0, h45⟩
    · have g1 : decide (0 < B.size) = false := decide_eq_false (by omega)
      have g3 : decide (0 < (B.size : Int)) = false := decide_eq_false (by omega)
      clear hbody
      go_enter Tryz.func61, Tryz.ntmps61
      go_wp2_with fail
      go_loopw [3] (fun p wr => ∃ i : Nat, p = .int .i64 (i : Int) ∧ i ≤ B.size ∧ (∀ j (h : j < B.size), j < i → 48 ≤ (B[j]'h).toNat ∧ (B[j]'h).toNat ≤ 57) ∧ wr = w) (fun p _ => (B.size - intOf p).toNat)
      case atStart => exact ⟨0, rfl, Nat.zero_le _, fun j _ h => absurd h (Nat.not_lt_zero j), rfl⟩
      case round =>
        obtain ⟨i, rfl, hi, hall, rfl⟩ := hrel
        rcases Nat.lt_or_ge i B.size with h1 | h1
        · omega
        · obtain rfl : i = B.size := by omega
          have e1 : decide ((B.size : Int) < (B.size : Int)) = false := decide_eq_false (by omega)
          have e2 : decide (B.size < B.size) = false := decide_eq_false (by omega)
          have hdig : DigS B := fun j h => hall j h h
          rcases Nat.eq_zero_or_pos B.size with h2 | h2
          · have Hr := Lib.hid (fin false ⟨fun h => (by cases h), fun ⟨h, _⟩ => absurd h (by omega)⟩)
            have e3 : decide (0 < B.size) = false := decide_eq_false (by omega)
            have e4 : decide (0 < (B.size : Int)) = false := decide_eq_false (by omega)
            clear hall fin hdig
            go_wp2_with fail
            all_goals first | exact Hr.out | (refine post_b ?_ Hr.out; first | rfl | (simp; omega) | (simp only [bne_iff_ne, ne_eq, beq_iff_eq]; omega)) | (go_ret; exact Hr.out) | (go_ret; refine post_b ?_ Hr.out; first | rfl | (simp; omega))
          · omega
    · have g1 : decide (0 < B.size) = true := decide_eq_true h0
      have g3 : decide (0 < (B.size : Int)) = true := decide_eq_true (by omega)
      obtain ⟨q, hq⟩ : ∃ q, (B[0]'h0).toNat = q := ⟨_, rfl⟩
      rw [hq] at h45
      have g5 : ((q : Int) == 45) = false := beq_false_of_ne (by omega)
      have g6 : (q == 45) = false := beq_false_of_ne (by omega)
      clear hbody
      go_enter Tryz.func61, Tryz.ntmps61
      go_wp2_with fail
      go_loopw [3] (fun p wr => ∃ i : Nat, p = .int .i64 (i : Int) ∧ i ≤ B.size ∧ (∀ j (h : j < B.size), j < i → 48 ≤ (B[j]'h).toNat ∧ (B[j]'h).toNat ≤ 57) ∧ wr = w) (fun p _ => (B.size - intOf p).toNat)
      case atStart => exact ⟨0, rfl, Nat.zero_le _, fun j _ h => absurd h (Nat.not_lt_zero j), rfl⟩
      case round =>
        obtain ⟨i, rfl, hi, hall, rfl⟩ := hrel
        rcases Nat.lt_or_ge i B.size with h1 | h1
        · obtain ⟨k, hk⟩ : ∃ k, (B[i]'h1).toNat = k := ⟨_, rfl⟩
          have e1 : decide ((i : Int) < (B.size : Int)) = true := decide_eq_true (by omega)
          have e2 : decide (i < B.size) = true := decide_eq_true h1
          rcases Decidable.em (48 ≤ k ∧ k ≤ 57) with ⟨hd1, hd2⟩ | hd
          · have d1 : decide ((k : Int) < 48) = false := decide_eq_false (by omega)
            have d2 : decide (57 < (k : Int)) = false := decide_eq_false (by omega)
            have d3 : decide (k < 48) = false := decide_eq_false (by omega)
            have d4 : decide (57 < k) = false := decide_eq_false (by omega)
            have HA := Lib.hid (show ∀ j (h : j < B.size), j < i + 1 → 48 ≤ (B[j]'h).toNat ∧ (B[j]'h).toNat ≤ 57 from fun j h hj => by
              rcases Nat.lt_or_ge j i with h2 | h2
              · exact hall j h h2
              · have : j = i := by omega
                subst this
                rw [hk]; omega)
            clear hall fin
            go_wp2_with fail
            go_roundw
            case rel => exact ⟨i + 1, by go_num, h1, HA.out, by trivial⟩
            case measure => simp [intOf]; omega
          · have hr := fin false ⟨fun h => (by cases h), fun ⟨_, _, _, h4⟩ => (hd (by have := h4 i h1; rw [hk] at this; exact this)).elim⟩
            have Hr := Lib.hid hr
            clear hall fin hr
            rcases Nat.lt_or_ge k 48 with h2 | h2
            · have d1 : decide ((k : Int) < 48) = true := decide_eq_true (by omega)
              have d3 : decide (k < 48) = true := decide_eq_true h2
              go_wp2_with fail
              all_goals first | exact Hr.out | (refine post_b ?_ Hr.out; first | rfl | (simp; omega) | (simp only [bne_iff_ne, ne_eq, beq_iff_eq]; omega)) | (go_ret; exact Hr.out) | (go_ret; refine post_b ?_ Hr.out; first | rfl | (simp; omega))
            · have d1 : decide ((k : Int) < 48) = false := decide_eq_false (by omega)
              have d2 : decide (57 < (k : Int)) = true := decide_eq_true (by omega)
              have d3 : decide (k < 48) = false := decide_eq_false (by omega)
              have d4 : decide (57 < k) = true := decide_eq_true (by omega)
              go_wp2_with fail
              all_goals first | exact Hr.out | (refine post_b ?_ Hr.out; first | rfl | (simp; omega) | (simp only [bne_iff_ne, ne_eq, beq_iff_eq]; omega)) | (go_ret; exact Hr.out) | (go_ret; refine post_b ?_ Hr.out; first | rfl | (simp; omega))
        · obtain rfl : i = B.size := by omega
          have e1 : decide ((B.size : Int) < (B.size : Int)) = false := decide_eq_false (by omega)
          have e2 : decide (B.size < B.size) = false := decide_eq_false (by omega)
          have hdig : DigS B := fun j h => hall j h h
          rcases Nat.eq_zero_or_pos B.size with h2 | h2
          · have Hr := Lib.hid (fin false ⟨fun h => (by cases h), fun ⟨h, _⟩ => absurd h (by omega)⟩)
            have e3 : decide (0 < B.size) = false := decide_eq_false (by omega)
            have e4 : decide (0 < (B.size : Int)) = false := decide_eq_false (by omega)
            clear hall fin hdig
            go_wp2_with fail
            all_goals first | exact Hr.out | (refine post_b ?_ Hr.out; first | rfl | (simp; omega) | (simp only [bne_iff_ne, ne_eq, beq_iff_eq]; omega)) | (go_ret; exact Hr.out) | (go_ret; refine post_b ?_ Hr.out; first | rfl | (simp; omega))
          · have e3 : decide (0 < B.size) = true := decide_eq_true h2
            have e4 : decide (0 < (B.size : Int)) = true := decide_eq_true (by omega)
            rcases Nat.lt_or_ge 200 B.size with h3 | h3
            · have Hr := Lib.hid (fin false ⟨fun h => (by cases h), fun ⟨_, h, _⟩ => absurd h (by omega)⟩)
              have e5 : decide ((B.size : Int) ≤ 200) = false := decide_eq_false (by omega)
              have e6 : decide (B.size ≤ 200) = false := decide_eq_false (by omega)
              clear hall fin hdig
              go_wp2_with fail
              all_goals first | exact Hr.out | (refine post_b ?_ Hr.out; first | rfl | (simp; omega) | (simp only [bne_iff_ne, ne_eq, beq_iff_eq]; omega)) | (go_ret; exact Hr.out) | (go_ret; refine post_b ?_ Hr.out; first | rfl | (simp; omega))
            · have e5 : decide ((B.size : Int) ≤ 200) = true := decide_eq_true (by omega)
              have e6 : decide (B.size ≤ 200) = true := decide_eq_true (by omega)
              obtain ⟨z, hz⟩ : ∃ z, (B.toList == [48]) = z := ⟨_, rfl⟩
              obtain ⟨k, hk⟩ : ∃ k, (B[0]'h2).toNat = k := ⟨_, rfl⟩
              have hzl : z = true ↔ B.data.toList = [48] := by rw [← hz, toList_eq]; simp
              cases z with
              | true =>
                have Hr := Lib.hid (fin true ⟨fun _ => ⟨h2, h3, .inl (hzl.1 rfl), hdig⟩, fun _ => rfl⟩)
                clear hall fin hdig hzl
                go_wp2_with fail
                all_goals first | exact Hr.out | (refine post_b ?_ Hr.out; first | rfl | (simp; omega) | (simp only [bne_iff_ne, ne_eq, beq_iff_eq]; omega)) | (go_ret; exact Hr.out) | (go_ret; refine post_b ?_ Hr.out; first | rfl | (simp; omega))
              | false =>
                have hnz : B.data.toList ≠ [48] := fun h => by have := hzl.2 h; cases this
                rcases Decidable.em (k = 48) with h48 | h48
                · have Hr := Lib.hid (fin false ⟨fun h => (by cases h), fun ⟨_, _, h, _⟩ => by
                    rcases h with h | ⟨_, h⟩
                    · exact (hnz h).elim
                    · rw [hk] at h; exact (h h48).elim⟩)
                  subst h48
                  clear hall fin hdig hzl hnz
                  go_wp2_with fail
                  all_goals first | exact Hr.out | (refine post_b ?_ Hr.out; first | rfl | (simp; omega) | (simp only [bne_iff_ne, ne_eq, beq_iff_eq]; omega)) | (go_ret; exact Hr.out) | (go_ret; refine post_b ?_ Hr.out; first | rfl | (simp; omega))
                · have Hr := Lib.hid (fin true ⟨fun _ => ⟨h2, h3, .inr ⟨h2, by rw [hk]; exact h48⟩, hdig⟩, fun _ => rfl⟩)
                  have D5 := Lib.hid (show ((k : Int) != 48) = true by simp; omega)
                  have d6 : (k != 48) = true := by simp; omega
                  have d7 : ((k : Int) == 48) = false := beq_false_of_ne (by omega)
                  clear hall fin hdig hzl hnz
                  go_wp2_with fail
                  all_goals first | exact Hr.out | (refine post_b ?_ Hr.out; first | rfl | (simp; omega) | (simp only [bne_iff_ne, ne_eq, beq_iff_eq]; omega)) | (go_ret; exact Hr.out) | (go_ret; refine post_b ?_ Hr.out; first | rfl | (simp; omega))

end Go.Proofs.YtjkklgpbblkhaaaGreatDoor

/-
  A region that draws its order of evaluation, inside a round of a range over a function: by the laws for worlds that meet a condition. Nothing of this program stands here.
-/
namespace Go.Proofs.YtjkklgpbblkhaaaGreatDoor.Rgr
open Go
variable {P : Program} {ops : Array Oper} {Q : Exit → Act → World → Prop}

theorem wpOpsIn_round {l n : Nat} (hd : ∀ (i : Nat) (o : Oper), ops[i]? = some o → ∀ c, o.op ≠ .defer c) (hQ : ¬ LetsOut Q) :
    ∀ (order : List Nat) (a : Act) (w : World), wpOps P ops Q order a w → wpOpsIn (Fence.wide.inRound l) n P ops Q order a w
  | [], _, _, h => h
  | i :: rest, a, w, h => by
    rw [wpOpsIn_cons]
    rw [wpOps_cons] at h
    unfold wpOp at h
    unfold wpOpIn
    cases hi : ops[i]? with
    | none =>
      simp only [hi] at h ⊢
      exact wpOpsIn_round hd hQ rest a w h
    | some o =>
      simp only [hi] at h ⊢
      split
      · rename_i hw
        simp only [hw, if_true] at h
        rcases h with h | ⟨_, hl⟩
        · refine ⟨fun f _ => trivial, ?_⟩
          rw [Oper.semAt_eq _ _ _ (hd i o hi)]
          unfold Oper.wp at h
          generalize (execOp a.eval o).run P w = r at *
          cases r with
          | ok x w' =>
            cases x with
            | value v => exact wpOpsIn_round hd hQ rest _ _ h
            | skip => exact wpOpsIn_round hd hQ rest _ _ h
            | defer d => exact wpOpsIn_round hd hQ rest _ _ h
            | enter f args =>
              refine ⟨fun hx => (by simp [Fence.wide] at hx), CallsIn.inRound l (callsIn_wide.2 (Calls.mono h fun e w'' he => ?_))⟩
              cases e with
              | returned v => exact wpOpsIn_round hd hQ rest _ _ he
              | panicked c => exact he
              | outgrown => exact he
            | row row args =>
              refine ⟨fun hx => (by simp [Fence.wide] at hx), fun c cs _ => ?_⟩
              obtain ⟨v, w'', hr, hs⟩ := h c cs
              exact ⟨v, w'', wpOpsIn_round hd hQ rest _ _ hr, stepsIn_wide.2 hs⟩
            | _ => exact h.elim
          | halt x w' => cases x <;> exact h
        · exact absurd hl hQ
      · rename_i hw
        simp only [hw] at h
        exact ⟨fun f _ => trivial, wpOpsIn_round hd hQ rest _ _ h⟩

/-- no operation is a 'defer' -/
def noDefer (ops : Array Oper) : Bool := ops.all fun o => match o.op with | .defer _ => false | _ => true
theorem noDefer_spec (h : noDefer ops = true) (i : Nat) (o : Oper) (hi : ops[i]? = some o) (c : Call) : o.op ≠ .defer c := by
  intro e
  obtain ⟨hlt, rfl⟩ := Array.getElem?_eq_some_iff.1 hi
  have := (Array.all_eq_true.1 h) i hlt
  rw [e] at this
  cases this

theorem wpIn_region_held {l n id : Nat} {S : World → Prop} {a : Act} {w : World} (hm : P.follows .mixedOrders = true) (hd : noDefer ops = true) (hQ : ¬ LetsOut Q)
    (h : wpAnyH P .any ops Q S ops.size (Array.replicate ops.size false) a w.drew) : (Code.region id ops true).wpIn (Fence.wide.inRound l) n P Q a w :=
  wpIn_region_draw fun t => by
    simp only [Region.schedule, hm, Bool.true_or, if_true]
    exact wpOpsIn_round (noDefer_spec hd) hQ _ _ _ (wpAny_sound ops.size t _ a _ (wpAny_of_held _ _ _ _ h))

end Go.Proofs.YtjkklgpbblkhaaaGreatDoor.Rgr

/-
  An append of a slice of another named type, inside a fence. Nothing of this program stands here.
-/
namespace Go.Proofs.YtjkklgpbblkhaaaGreatDoor
open Go

theorem append_types {P : Program} (w : World) (t u ty e e' : TypeId) (ht : P.underlying t = some (.slice e)) (hu : P.underlying u = some (.slice e')) (a b : Value) :
    (Builtin.append_ #[t, u] ty #[a, b]).run P w = (Builtin.append_ #[t, t] ty #[a, b]).run P w := by
  unfold Builtin.append_
  simp only [Sem.run_bind, run_underlying ht, Result.andThen, List.getElem?_toArray, List.getElem?_cons_zero, List.getElem?_cons_succ]
  cases a with
  | slice p n c =>
    simp only [Sem.run_bind, run_underlying ht, run_underlying hu, Result.andThen]
  | _ => rfl

theorem wpListIn_append_two {F : Fence} {n : Nat} {P : Program} (w : World) {ops : Array Oper} {rest : List Oper} {o : Oper} {a : Act} {Q : Exit → Act → World → Prop}
    (hg : o.guard = none) (s x : Operand) (t u : TypeId) (hop : o.op = Op.call { callee := Callee.builtin Builtin.append, args := #[s, x], argTypes := #[t, u] })
    (base : Nat) (e : TypeId) (i : TypeInfo) (z : Value) (size bytes : Nat) (h1 : P.underlying t = some (.slice e)) (hu : P.underlying u = some (.slice e)) (h2 : P.info? e = some i) (h3 : i.zero = some z) (h4 : i.size = size) (h5 : i.bytes = bytes) (h6 : z.cells.size = size) (h7 : 0 < size)
    (v : Value) (k : Nat) (xs : List Value) (hs : a.eval s = v) (hown : w.ownsRow base e size v k xs) (ad : Addr) (m c : Nat) (news : List Value) (hx : a.eval x = .slice (some ad) m c) (hn : news.length = m * size)
    (hc : ∀ j u, news[j]? = some u → w.cell? (ad.add j) = some u) (h1c : ∀ u ∈ news, u.oneCell' = true) (b1 : k + m ≤ maxLen) (b2 : (k + m) * bytes ≤ 140737488355328) (b3 : base ≤ w.heap.size)
    (hK : ∀ v' w', w'.ownsRow base e size v' (k + m) (xs ++ news) → w.grownBy w' v.ownBlock → (v' = .slice none 0 0 ↔ v = .slice none 0 0 ∧ m = 0) → wpListIn F n P ops Q rest (a.put o.dst v') w') :
    wpListIn F n P ops Q (o :: rest) a w := by
  refine wpListIn_plain hg fun K hK' => ?_
  obtain ⟨v', w', hrun, r1, r2, r3⟩ := run_append_own (P := P) w base t o.type e i z size bytes h1 h2 h3 h4 h5 h6 h7 v k xs hown ad m c news hn hc h1c b1 b2 b3
  rw [← append_types w t u o.type e e h1 hu] at hrun
  unfold Oper.wpIn
  refine ⟨?_, ?_⟩
  · simp [Oper.about, hop, resolve, Target.leads, Sem.run_pure]
  · rw [Oper.semAt_plain F _ _ (by rw [hop]; intro c hc'; cases hc')]
    simp [execOp, hop, resolve, invoke, builtin, hs, hx, hrun, Result.andThen]
    exact hK' _ _ (hK v' w' r1 r2 r3)

end Go.Proofs.YtjkklgpbblkhaaaGreatDoor
