/-
  Put together by program out of these texts, in this order: Rva3, Jba, Jmd, Jme.
-/
import Derived.Test.YtagcpjokajcdiaaGreatDoorZCaJmt10
import Derived.Test.YtagcpjokajcdiaaGreatDoorZCaJmt05
import Derived.Test.YtagcpjokajcdiaaGreatDoorZCaJmt09
import Derived.BigQuiet

/-
  Layer 3, the reference: which strings are integers.
-/
namespace Go.Proofs.YtagcpjokajcdiaaGreatDoor
open Go.RowKit Bs Ig

/-- the bytes of B are digits, B is neither empty nor too long, and it begins with no 0 -/
def DigS (B : ByteArray) : Prop := ∀ i (h : i < B.size), 48 ≤ (B[i]'h).toNat ∧ (B[i]'h).toNat ≤ 57
theorem isI_str (s : ByteArray) : IsI s.data.toList ↔ s.data.toList = [48] ∨ (0 < (body s.data.toList).length ∧ (body s.data.toList).length ≤ 200 ∧ (body s.data.toList).getD 0 0 ≠ 48 ∧ ∀ i, i < (body s.data.toList).length → isDig ((body s.data.toList).getD i 0)) := isI_iff _
theorem getD_str (B : ByteArray) (i : Nat) (h : i < B.size) : B.data.toList.getD i 0 = B[i]'h := by
  rw [List.getD_eq_getElem?_getD, List.getElem?_eq_getElem (show i < B.data.toList.length from h)]; rfl

theorem post_b {Post : Ending → World → Prop} {W : World} {b c : Bool} (h : b = c) (hp : Post (.returned (.bool c)) W) : Post (.returned (.bool b)) W := by subst h; exact hp
set_option maxRecDepth 100000 in
set_option maxHeartbeats 4000000 in
/-- behind the sign: the string B, which is s or what stands behind the sign -/
theorem rvalid_any (s : ByteArray) (hs : s.size ≤ 9223372036854775807) (w : World) :
    Calls Tryz.prog 22 #[.string s] w fun e w' => ∃ r : Bool, e = .returned (.bool r) ∧ (r = true ↔ IsI s.data.toList) ∧ w' = w := by
  suffices h : ∀ (Post : Ending → World → Prop), (∀ r : Bool, (r = true ↔ IsI s.data.toList) → Post (.returned (.bool r)) w) → Calls Tryz.prog 22 #[.string s] w Post from h _ fun r hr => ⟨r, rfl, hr, rfl⟩
  intro Post hPost
  have hcase : (∃ (h : 0 < s.size), (s[0]'h).toNat = 45 ∧ s.data.toList = 45 :: (s.extract 1 s.size).data.toList) ∨ ((s.size = 0 ∨ ∃ (h : 0 < s.size), (s[0]'h).toNat ≠ 45) ∧ body s.data.toList = s.data.toList) := by
    rcases Nat.eq_zero_or_pos s.size with h | h
    · refine .inr ⟨.inl h, ?_⟩
      have : s.data.toList = [] := List.length_eq_zero_iff.1 h
      rw [this]; rfl
    · obtain ⟨c, r, hl⟩ : ∃ c r, s.data.toList = c :: r := by
        cases hd : s.data.toList with
        | nil => have : s.data.toList.length = s.size := rfl; rw [hd] at this; simp at this; omega
        | cons c r => exact ⟨c, r, rfl⟩
      have h0 : s[0]'h = c := by have := getD_str s 0 h; rw [hl] at this; exact this.symm
      by_cases hc : c = 45
      · subst hc
        refine .inl ⟨h, by rw [h0]; rfl, ?_⟩
        have hx := bs_extract s.data.toList 1 s.size
        rw [bs_bytes, hl] at hx
        rw [hx, hl]
        show _ = 45 :: (bs _).data.toList
        simp only [bs, List.drop_succ_cons, List.drop_zero]
        rw [List.take_of_length_le (by have : s.data.toList.length = s.size := rfl; rw [hl] at this; simp at this; omega)]
      · refine .inr ⟨.inr ⟨h, fun e => hc ?_⟩, ?_⟩
        · rw [h0] at e; exact UInt8.toNat_inj.1 e
        · rw [hl]; unfold body; split
          · rename_i e; exact (hc (List.cons.inj e).1).elim
          · rfl
  -- what is left behind the sign
  have key : ∀ (B : ByteArray) (neg : Bool), body s.data.toList = B.data.toList → (neg = true → s.data.toList ≠ [48]) → (neg = false → s.data.toList = B.data.toList) →
      (IsI s.data.toList ↔ ((neg = false ∧ B.data.toList = [48]) ∨ (0 < B.size ∧ B.size ≤ 200 ∧ (∃ h : 0 < B.size, (B[0]'h).toNat ≠ 48) ∧ DigS B))) := by
    intro B neg hb h1 h2
    rw [isI_str, hb]
    have hlen : B.data.toList.length = B.size := rfl
    constructor
    · rintro (h | ⟨g1, g2, g3, g4⟩)
      · cases neg with
        | true => exact (h1 rfl h).elim
        | false => exact .inl ⟨rfl, by rw [← h2 rfl]; exact h⟩
      · rw [hlen] at g1 g2 g4
        refine .inr ⟨g1, g2, ⟨g1, fun e => g3 ?_⟩, fun i hi => ?_⟩
        · rw [getD_str B 0 g1]; exact UInt8.toNat_inj.1 e
        · have := g4 i hi; rw [getD_str B i hi] at this; exact this
    · rintro (⟨h, h'⟩ | ⟨g1, g2, ⟨g3, g3'⟩, g4⟩)
      · left; rw [h2 h]; exact h'
      · right
        rw [hlen]
        refine ⟨g1, g2, fun e => g3' ?_, fun i hi => ?_⟩
        · rw [getD_str B 0 g1] at e; rw [e]; rfl
        · rw [getD_str B i hi]; exact g4 i hi
  have fin : ∀ (B : ByteArray) (neg : Bool), body s.data.toList = B.data.toList → (neg = true → s.data.toList ≠ [48] ∧ B.data.toList ≠ [48]) → (neg = false → s.data.toList = B.data.toList) → ∀ r : Bool,
      (r = true ↔ (0 < B.size ∧ B.size ≤ 200 ∧ (B.data.toList = [48] ∨ ∃ h : 0 < B.size, (B[0]'h).toNat ≠ 48) ∧ DigS B)) → Post (.returned (.bool r)) w := by
    intro B neg hb h1 h2 r hr
    refine hPost r ?_
    rw [hr, key B neg hb (fun h => (h1 h).1) h2]
    constructor
    · rintro ⟨a1, a2, a3 | a3, a4⟩
      · cases neg with
        | true => exact ((h1 rfl).2 a3).elim
        | false => exact .inl ⟨rfl, a3⟩
      · exact .inr ⟨a1, a2, a3, a4⟩
    · rintro (⟨_, h⟩ | ⟨a1, a2, a3, a4⟩)
      · have hsz : B.size = 1 := by have : B.data.toList.length = B.size := rfl; rw [h] at this; exact this.symm
        refine ⟨by omega, by omega, .inl h, fun i hi => ?_⟩
        have hi0 : i = 0 := by omega
        subst hi0
        have := getD_str B 0 hi
        rw [h] at this
        rw [← this]; decide
      · exact ⟨a1, a2, .inr a3, a4⟩
  rcases hcase with ⟨h0, h45, hl⟩ | ⟨hno, hbody⟩
  · -- a sign
    obtain ⟨B, hB⟩ : ∃ B, s.extract 1 s.size = B := ⟨_, rfl⟩
    rw [hB] at hl
    have hbody : body s.data.toList = B.data.toList := by rw [hl]; rfl
    have g1 : decide (0 < s.size) = true := decide_eq_true h0
    have g2 : decide (1 ≤ s.size) = true := decide_eq_true h0
    have g3 : decide (0 < (s.size : Int)) = true := decide_eq_true (by omega)
    have g4 : decide (1 ≤ (s.size : Int)) = true := decide_eq_true (by omega)
    have hBs : B.size ≤ 9223372036854775807 := by rw [← hB, ByteArray.size_extract]; omega
    have hne : s.data.toList ≠ [48] := by rw [hl]; intro e; exact absurd (List.cons.inj e).1 (by decide)
    obtain ⟨z, hz⟩ : ∃ z, (B.toList == [48]) = z := ⟨_, rfl⟩
    have hzl : z = true ↔ B.data.toList = [48] := by rw [← hz, toList_eq]; simp
    cases z with
    | true =>
      have hr := hPost false ⟨fun h => (by cases h), fun h => by
        rcases (isI_str s).1 h with h | ⟨_, _, h, _⟩
        · exact (hne h).elim
        · rw [hbody, hzl.1 rfl] at h; exact (h rfl).elim⟩
      have Hr := Lib.hid hr
      clear key fin hr hzl hbody hl hne hPost
      go_enter Tryz.func22, Tryz.ntmps22
      go_wp2_with fail
      all_goals first | exact Hr.out | (go_ret; exact Hr.out)
    | false =>
      have fin := fin B true hbody (fun _ => ⟨hne, fun h => by have := hzl.2 h; cases this⟩) (fun h => by cases h)
      clear key hzl hbody hl hne hPost
      go_enter Tryz.func22, Tryz.ntmps22
      go_wp2_with fail
      go_loopw [3] (fun p wr => ∃ i : Nat, p = .int .i64 (i : Int) ∧ i ≤ B.size ∧ (∀ j (h : j < B.size), j < i → 48 ≤ (B[j]'h).toNat ∧ (B[j]'h).toNat ≤ 57) ∧ wr = w) (fun p _ => (B.size - intOf p).toNat)
      case atStart => exact ⟨0, rfl, Nat.zero_le _, fun j _ h => absurd h (Nat.not_lt_zero j), rfl⟩
      case round =>
        obtain ⟨i, rfl, hi, hall, rfl⟩ := hrel
        rcases Nat.lt_or_ge i B.size with h1 | h1
        · obtain ⟨k, hk⟩ : ∃ k, (B[i]'h1).toNat = k := ⟨_, rfl⟩
          have e1 : decide ((i : Int) < (B.size : Int)) = true := decide_eq_true (by omega)
          have e2 : decide (i < B.size) = true := decide_eq_true h1
          rcases Decidable.em (48 ≤ k ∧ k ≤ 57) with ⟨hd1, hd2⟩ | hd
          · have d1 : decide ((k : Int) < 48) = false := decide_eq_false (by omega)
            have d2 : decide (57 < (k : Int)) = false := decide_eq_false (by omega)
            have d3 : decide (k < 48) = false := decide_eq_false (by omega)
            have d4 : decide (57 < k) = false := decide_eq_false (by omega)
            have HA := Lib.hid (show ∀ j (h : j < B.size), j < i + 1 → 48 ≤ (B[j]'h).toNat ∧ (B[j]'h).toNat ≤ 57 from fun j h hj => by
              rcases Nat.lt_or_ge j i with h2 | h2
              · exact hall j h h2
              · have : j = i := by omega
                subst this
                rw [hk]; omega)
            clear hall fin
            go_wp2_with fail
            go_roundw
            case rel => exact ⟨i + 1, by go_num, h1, HA.out, by trivial⟩
            case measure => simp [intOf]; omega
          · have hr := fin false ⟨fun h => (by cases h), fun ⟨_, _, _, h4⟩ => (hd (by have := h4 i h1; rw [hk] at this; exact this)).elim⟩
            have Hr := Lib.hid hr
            clear hall fin hr
            rcases Nat.lt_or_ge k 48 with h2 | h2
            · have d1 : decide ((k : Int) < 48) = true := decide_eq_true (by omega)
              have d3 : decide (k < 48) = true := decide_eq_true h2
              go_wp2_with fail
              all_goals first | exact Hr.out | (refine post_b ?_ Hr.out; first | rfl | (simp; omega) | (simp only [bne_iff_ne, ne_eq, beq_iff_eq]; omega)) | (go_ret; exact Hr.out) | (go_ret; refine post_b ?_ Hr.out; first | rfl | (simp; omega))
            · have d1 : decide ((k : Int) < 48) = false := decide_eq_false (by omega)
              have d2 : decide (57 < (k : Int)) = true := decide_eq_true (by omega)
              have d3 : decide (k < 48) = false := decide_eq_false (by omega)
              have d4 : decide (57 < k) = true := decide_eq_true (by omega)
              go_wp2_with fail
              all_goals first | exact Hr.out | (refine post_b ?_ Hr.out; first | rfl | (simp; omega) | (simp only [bne_iff_ne, ne_eq, beq_iff_eq]; omega)) | (go_ret; exact Hr.out) | (go_ret; refine post_b ?_ Hr.out; first | rfl | (simp; omega))
        · obtain rfl : i = B.size := by omega
          have e1 : decide ((B.size : Int) < (B.size : Int)) = false := decide_eq_false (by omega)
          have e2 : decide (B.size < B.size) = false := decide_eq_false (by omega)
          have hdig : DigS B := fun j h => hall j h h
          rcases Nat.eq_zero_or_pos B.size with h2 | h2
          · have Hr := Lib.hid (fin false ⟨fun h => (by cases h), fun ⟨h, _⟩ => absurd h (by omega)⟩)
            have e3 : decide (0 < B.size) = false := decide_eq_false (by omega)
            have e4 : decide (0 < (B.size : Int)) = false := decide_eq_false (by omega)
            clear hall fin hdig
            go_wp2_with fail
            all_goals first | exact Hr.out | (refine post_b ?_ Hr.out; first | rfl | (simp; omega) | (simp only [bne_iff_ne, ne_eq, beq_iff_eq]; omega)) | (go_ret; exact Hr.out) | (go_ret; refine post_b ?_ Hr.out; first | rfl | (simp; omega))
          · have e3 : decide (0 < B.size) = true := decide_eq_true h2
            have e4 : decide (0 < (B.size : Int)) = true := decide_eq_true (by omega)
            rcases Nat.lt_or_ge 200 B.size with h3 | h3
            · have Hr := Lib.hid (fin false ⟨fun h => (by cases h), fun ⟨_, h, _⟩ => absurd h (by omega)⟩)
              have e5 : decide ((B.size : Int) ≤ 200) = false := decide_eq_false (by omega)
              have e6 : decide (B.size ≤ 200) = false := decide_eq_false (by omega)
              clear hall fin hdig
              go_wp2_with fail
              all_goals first | exact Hr.out | (refine post_b ?_ Hr.out; first | rfl | (simp; omega) | (simp only [bne_iff_ne, ne_eq, beq_iff_eq]; omega)) | (go_ret; exact Hr.out) | (go_ret; refine post_b ?_ Hr.out; first | rfl | (simp; omega))
            · have e5 : decide ((B.size : Int) ≤ 200) = true := decide_eq_true (by omega)
              have e6 : decide (B.size ≤ 200) = true := decide_eq_true (by omega)
              obtain ⟨z, hz⟩ : ∃ z, (B.toList == [48]) = z := ⟨_, rfl⟩
              obtain ⟨k, hk⟩ : ∃ k, (B[0]'h2).toNat = k := ⟨_, rfl⟩
              have hzl : z = true ↔ B.data.toList = [48] := by rw [← hz, toList_eq]; simp
              cases z with
              | true =>
                exact absurd (‹(B.toList == [48]) = false›.symm.trans ‹(B.toList == [48]) = true›) (by decide)
              | false =>
                have hnz : B.data.toList ≠ [48] := fun h => by have := hzl.2 h; cases this
                rcases Decidable.em (k = 48) with h48 | h48
                · have Hr := Lib.hid (fin false ⟨fun h => (by cases h), fun ⟨_, _, h, _⟩ => by
                    rcases h with h | ⟨_, h⟩
                    · exact (hnz h).elim
                    · rw [hk] at h; exact (h h48).elim⟩)
                  subst h48
                  clear hall fin hdig hzl hnz
                  go_wp2_with fail
                  all_goals first | exact Hr.out | (refine post_b ?_ Hr.out; first | rfl | (simp; omega) | (simp only [bne_iff_ne, ne_eq, beq_iff_eq]; omega)) | (go_ret; exact Hr.out) | (go_ret; refine post_b ?_ Hr.out; first | rfl | (simp; omega))
                · have Hr := Lib.hid (fin true ⟨fun _ => ⟨h2, h3, .inr ⟨h2, by rw [hk]; exact h48⟩, hdig⟩, fun _ => rfl⟩)
                  have D5 := Lib.hid (show ((k : Int) != 48) = true by simp; omega)
                  have d6 : (k != 48) = true := by simp; omega
                  have d7 : ((k : Int) == 48) = false := beq_false_of_ne (by omega)
                  clear hall fin hdig hzl hnz
                  go_wp2_with fail
                  all_goals first | exact Hr.out | (refine post_b ?_ Hr.out; first | rfl | (simp; omega) | (simp only [bne_iff_ne, ne_eq, beq_iff_eq]; omega)) | (go_ret; exact Hr.out) | (go_ret; refine post_b ?_ Hr.out; first | rfl | (simp; omega))
  · have fin := fin s false hbody (fun h => by cases h) (fun _ => rfl)
    obtain ⟨B, rfl⟩ : ∃ B, B = s := ⟨_, rfl⟩
    clear key hPost
    rcases hno with h0 | ⟨h0, h45⟩
    · have g1 : decide (0 < B.size) = false := decide_eq_false (by omega)
      have g3 : decide (0 < (B.size : Int)) = false := decide_eq_false (by omega)
      clear hbody
      go_enter Tryz.func22, Tryz.ntmps22
      go_wp2_with fail
      go_loopw [3] (fun p wr => ∃ i : Nat, p = .int .i64 (i : Int) ∧ i ≤ B.size ∧ (∀ j (h : j < B.size), j < i → 48 ≤ (B[j]'h).toNat ∧ (B[j]'h).toNat ≤ 57) ∧ wr = w) (fun p _ => (B.size - intOf p).toNat)
      case atStart => exact ⟨0, rfl, Nat.zero_le _, fun j _ h => absurd h (Nat.not_lt_zero j), rfl⟩
      case round =>
        obtain ⟨i, rfl, hi, hall, rfl⟩ := hrel
        rcases Nat.lt_or_ge i B.size with h1 | h1
        · omega
        · obtain rfl : i = B.size := by omega
          have e1 : decide ((B.size : Int) < (B.size : Int)) = false := decide_eq_false (by omega)
          have e2 : decide (B.size < B.size) = false := decide_eq_false (by omega)
          have hdig : DigS B := fun j h => hall j h h
          rcases Nat.eq_zero_or_pos B.size with h2 | h2
          · have Hr := Lib.hid (fin false ⟨fun h => (by cases h), fun ⟨h, _⟩ => absurd h (by omega)⟩)
            have e3 : decide (0 < B.size) = false := decide_eq_false (by omega)
            have e4 : decide (0 < (B.size : Int)) = false := decide_eq_false (by omega)
            clear hall fin hdig
            go_wp2_with fail
            all_goals first | exact Hr.out | (refine post_b ?_ Hr.out; first | rfl | (simp; omega) | (simp only [bne_iff_ne, ne_eq, beq_iff_eq]; omega)) | (go_ret; exact Hr.out) | (go_ret; refine post_b ?_ Hr.out; first | rfl | (simp; omega))
          · omega
    · have g1 : decide (0 < B.size) = true := decide_eq_true h0
      have g3 : decide (0 < (B.size : Int)) = true := decide_eq_true (by omega)
      obtain ⟨q, hq⟩ : ∃ q, (B[0]'h0).toNat = q := ⟨_, rfl⟩
      rw [hq] at h45
      have g5 : ((q : Int) == 45) = false := beq_false_of_ne (by omega)
      have g6 : (q == 45) = false := beq_false_of_ne (by omega)
      clear hbody
      go_enter Tryz.func22, Tryz.ntmps22
      go_wp2_with fail
      go_loopw [3] (fun p wr => ∃ i : Nat, p = .int .i64 (i : Int) ∧ i ≤ B.size ∧ (∀ j (h : j < B.size), j < i → 48 ≤ (B[j]'h).toNat ∧ (B[j]'h).toNat ≤ 57) ∧ wr = w) (fun p _ => (B.size - intOf p).toNat)
      case atStart => exact ⟨0, rfl, Nat.zero_le _, fun j _ h => absurd h (Nat.not_lt_zero j), rfl⟩
      case round =>
        obtain ⟨i, rfl, hi, hall, rfl⟩ := hrel
        rcases Nat.lt_or_ge i B.size with h1 | h1
        · obtain ⟨k, hk⟩ : ∃ k, (B[i]'h1).toNat = k := ⟨_, rfl⟩
          have e1 : decide ((i : Int) < (B.size : Int)) = true := decide_eq_true (by omega)
          have e2 : decide (i < B.size) = true := decide_eq_true h1
          rcases Decidable.em (48 ≤ k ∧ k ≤ 57) with ⟨hd1, hd2⟩ | hd
          · have d1 : decide ((k : Int) < 48) = false := decide_eq_false (by omega)
            have d2 : decide (57 < (k : Int)) = false := decide_eq_false (by omega)
            have d3 : decide (k < 48) = false := decide_eq_false (by omega)
            have d4 : decide (57 < k) = false := decide_eq_false (by omega)
            have HA := Lib.hid (show ∀ j (h : j < B.size), j < i + 1 → 48 ≤ (B[j]'h).toNat ∧ (B[j]'h).toNat ≤ 57 from fun j h hj => by
              rcases Nat.lt_or_ge j i with h2 | h2
              · exact hall j h h2
              · have : j = i := by omega
                subst this
                rw [hk]; omega)
            clear hall fin
            go_wp2_with fail
            go_roundw
            case rel => exact ⟨i + 1, by go_num, h1, HA.out, by trivial⟩
            case measure => simp [intOf]; omega
          · have hr := fin false ⟨fun h => (by cases h), fun ⟨_, _, _, h4⟩ => (hd (by have := h4 i h1; rw [hk] at this; exact this)).elim⟩
            have Hr := Lib.hid hr
            clear hall fin hr
            rcases Nat.lt_or_ge k 48 with h2 | h2
            · have d1 : decide ((k : Int) < 48) = true := decide_eq_true (by omega)
              have d3 : decide (k < 48) = true := decide_eq_true h2
              go_wp2_with fail
              all_goals first | exact Hr.out | (refine post_b ?_ Hr.out; first | rfl | (simp; omega) | (simp only [bne_iff_ne, ne_eq, beq_iff_eq]; omega)) | (go_ret; exact Hr.out) | (go_ret; refine post_b ?_ Hr.out; first | rfl | (simp; omega))
            · have d1 : decide ((k : Int) < 48) = false := decide_eq_false (by omega)
              have d2 : decide (57 < (k : Int)) = true := decide_eq_true (by omega)
              have d3 : decide (k < 48) = false := decide_eq_false (by omega)
              have d4 : decide (57 < k) = true := decide_eq_true (by omega)
              go_wp2_with fail
              all_goals first | exact Hr.out | (refine post_b ?_ Hr.out; first | rfl | (simp; omega) | (simp only [bne_iff_ne, ne_eq, beq_iff_eq]; omega)) | (go_ret; exact Hr.out) | (go_ret; refine post_b ?_ Hr.out; first | rfl | (simp; omega))
        · obtain rfl : i = B.size := by omega
          have e1 : decide ((B.size : Int) < (B.size : Int)) = false := decide_eq_false (by omega)
          have e2 : decide (B.size < B.size) = false := decide_eq_false (by omega)
          have hdig : DigS B := fun j h => hall j h h
          rcases Nat.eq_zero_or_pos B.size with h2 | h2
          · have Hr := Lib.hid (fin false ⟨fun h => (by cases h), fun ⟨h, _⟩ => absurd h (by omega)⟩)
            have e3 : decide (0 < B.size) = false := decide_eq_false (by omega)
            have e4 : decide (0 < (B.size : Int)) = false := decide_eq_false (by omega)
            clear hall fin hdig
            go_wp2_with fail
            all_goals first | exact Hr.out | (refine post_b ?_ Hr.out; first | rfl | (simp; omega) | (simp only [bne_iff_ne, ne_eq, beq_iff_eq]; omega)) | (go_ret; exact Hr.out) | (go_ret; refine post_b ?_ Hr.out; first | rfl | (simp; omega))
          · have e3 : decide (0 < B.size) = true := decide_eq_true h2
            have e4 : decide (0 < (B.size : Int)) = true := decide_eq_true (by omega)
            rcases Nat.lt_or_ge 200 B.size with h3 | h3
            · have Hr := Lib.hid (fin false ⟨fun h => (by cases h), fun ⟨_, h, _⟩ => absurd h (by omega)⟩)
              have e5 : decide ((B.size : Int) ≤ 200) = false := decide_eq_false (by omega)
              have e6 : decide (B.size ≤ 200) = false := decide_eq_false (by omega)
              clear hall fin hdig
              go_wp2_with fail
              all_goals first | exact Hr.out | (refine post_b ?_ Hr.out; first | rfl | (simp; omega) | (simp only [bne_iff_ne, ne_eq, beq_iff_eq]; omega)) | (go_ret; exact Hr.out) | (go_ret; refine post_b ?_ Hr.out; first | rfl | (simp; omega))
            · have e5 : decide ((B.size : Int) ≤ 200) = true := decide_eq_true (by omega)
              have e6 : decide (B.size ≤ 200) = true := decide_eq_true (by omega)
              obtain ⟨z, hz⟩ : ∃ z, (B.toList == [48]) = z := ⟨_, rfl⟩
              obtain ⟨k, hk⟩ : ∃ k, (B[0]'h2).toNat = k := ⟨_, rfl⟩
              have hzl : z = true ↔ B.data.toList = [48] := by rw [← hz, toList_eq]; simp
              cases z with
              | true =>
                have Hr := Lib.hid (fin true ⟨fun _ => ⟨h2, h3, .inl (hzl.1 rfl), hdig⟩, fun _ => rfl⟩)
                clear hall fin hdig hzl
                go_wp2_with fail
                all_goals first | exact Hr.out | (refine post_b ?_ Hr.out; first | rfl | (simp; omega) | (simp only [bne_iff_ne, ne_eq, beq_iff_eq]; omega)) | (go_ret; exact Hr.out) | (go_ret; refine post_b ?_ Hr.out; first | rfl | (simp; omega))
              | false =>
                have hnz : B.data.toList ≠ [48] := fun h => by have := hzl.2 h; cases this
                rcases Decidable.em (k = 48) with h48 | h48
                · have Hr := Lib.hid (fin false ⟨fun h => (by cases h), fun ⟨_, _, h, _⟩ => by
                    rcases h with h | ⟨_, h⟩
                    · exact (hnz h).elim
                    · rw [hk] at h; exact (h h48).elim⟩)
                  subst h48
                  clear hall fin hdig hzl hnz
                  go_wp2_with fail
                  all_goals first | exact Hr.out | (refine post_b ?_ Hr.out; first | rfl | (simp; omega) | (simp only [bne_iff_ne, ne_eq, beq_iff_eq]; omega)) | (go_ret; exact Hr.out) | (go_ret; refine post_b ?_ Hr.out; first | rfl | (simp; omega))
                · have Hr := Lib.hid (fin true ⟨fun _ => ⟨h2, h3, .inr ⟨h2, by rw [hk]; exact h48⟩, hdig⟩, fun _ => rfl⟩)
                  have D5 := Lib.hid (show ((k : Int) != 48) = true by simp; omega)
                  have d6 : (k != 48) = true := by simp; omega
                  have d7 : ((k : Int) == 48) = false := beq_false_of_ne (by omega)
                  clear hall fin hdig hzl hnz
                  go_wp2_with fail
                  all_goals first | exact Hr.out | (refine post_b ?_ Hr.out; first | rfl | (simp; omega) | (simp only [bne_iff_ne, ne_eq, beq_iff_eq]; omega)) | (go_ret; exact Hr.out) | (go_ret; refine post_b ?_ Hr.out; first | rfl | (simp; omega))

end Go.Proofs.YtagcpjokajcdiaaGreatDoor

/-
  Layer 3, for the laws: what the functions of the package answer, the numerals as a letter.
-/
namespace Go.Proofs.YtagcpjokajcdiaaGreatDoor
open Go.RowKit Bs Ig

/-- where a law stands: what was there is as it was, and the table lies where it lay -/
structure Now (w W : World) : Prop where
  below : Below w.heap.size w W
  tab : TabP W
theorem Now.start {w : World} (h : TabP w) : Now w w := ⟨Below.refl _ _, h⟩
theorem Now.step {w W W' : World} (h : Now w W) (hb : Below W.heap.size W W') : Now w W' := ⟨below_on h.below hb h.below.size, h.tab.later hb⟩

/-- what the functions answer at integers -/
structure Ops (T : Int → ByteArray) : Prop where
  add : ∀ x y z : Int, x.natAbs < big → y.natAbs < big → x + y = z → z.natAbs < big → ∀ W, TabP W → Calls Tryz.prog 7 #[.string (T x), .string (T y)] W fun e w' => e = .returned (.tuple #[.string (T z), .int .i64 0]) ∧ Below W.heap.size W w'
  sub : ∀ x y z : Int, x.natAbs < big → y.natAbs < big → x - y = z → z.natAbs < big → ∀ W, TabP W → Calls Tryz.prog 9 #[.string (T x), .string (T y)] W fun e w' => e = .returned (.tuple #[.string (T z), .int .i64 0]) ∧ Below W.heap.size W w'
  mul : ∀ x y z : Int, x.natAbs < big → y.natAbs < big → x * y = z → z.natAbs < big → ∀ W, TabP W → Calls Tryz.prog 11 #[.string (T x), .string (T y)] W fun e w' => e = .returned (.tuple #[.string (T z), .int .i64 0]) ∧ Below W.heap.size W w'
  gcd : ∀ x y z : Int, x.natAbs < big → y.natAbs < big → (Int.gcd x y : Nat) = z → ∀ W, TabP W → Calls Tryz.prog 15 #[.string (T x), .string (T y)] W fun e w' => e = .returned (.tuple #[.string (T z), .int .i64 0]) ∧ Below W.heap.size W w'
  div : ∀ x y q r : Int, x.natAbs < big → y.natAbs < big → y ≠ 0 → x / y = q → x % y = r → ∀ W, TabP W → Calls Tryz.prog 13 #[.string (T x), .string (T y)] W fun e w' => e = .returned (.tuple #[.string (T q), .string (T r), .int .i64 0]) ∧ Below W.heap.size W w'
  divz : ∀ x y : Int, x.natAbs < big → y = 0 → ∀ W, Calls Tryz.prog 13 #[.string (T x), .string (T y)] W fun e w' => e = .returned (.tuple #[.string ⟨#[]⟩, .string ⟨#[]⟩, .int .i64 30]) ∧ Below W.heap.size W w'
  root : ∀ x r : Int, x.natAbs < big → 0 ≤ x → (rt x.natAbs : Nat) = r → ∀ W, TabP W → Calls Tryz.prog 17 #[.string (T x)] W fun e w' => e = .returned (.tuple #[.string (T r), .int .i64 0]) ∧ Below W.heap.size W w'
  rootn : ∀ x : Int, x.natAbs < big → x < 0 → ∀ W, Calls Tryz.prog 17 #[.string (T x)] W fun e w' => e = .returned (.tuple #[.string ⟨#[]⟩, .int .i64 30]) ∧ Below W.heap.size W w'
  cmp : ∀ x y c : Int, x.natAbs < big → y.natAbs < big → cmpZ x y = c → ∀ W, Calls Tryz.prog 23 #[.string (T x), .string (T y)] W fun e w' => e = .returned (.int .i64 c) ∧ Below W.heap.size W w'
  valid : ∀ x : Int, x.natAbs < big → ∀ W, Calls Tryz.prog 21 #[.string (T x)] W fun e w' => e = .returned (.bool true) ∧ w' = W
  toInt : ∀ x : Int, isInt x → ∀ W, Calls Tryz.prog 19 #[.string (T x)] W fun e w' => e = .returned (.tuple #[.int .i64 x, .int .i64 0]) ∧ Below W.heap.size W w'
  fromInt : ∀ x : Int, -9223372036854775808 ≤ x → x ≤ 9223372036854775807 → ∀ W, TabP W → Calls Tryz.prog 25 #[.int .i64 x] W fun e w' => e = .returned (.string (T x)) ∧ Below W.heap.size W w'
  eq : ∀ x y : Int, ((T x).toList == (T y).toList) = decide (x = y)
  eq0 : ∀ x : Int, ((T x).toList == [48]) = decide (x = 0)
  zero : T 0 = ⟨#[48]⟩
  one : T 1 = ⟨#[49]⟩
  ne : ∀ x : Int, ((T x).toList == []) = false
theorem int_bigs {n : Int} (h : isInt n) : n.natAbs < big := Nat.lt_trans (show n.natAbs < 10000000000000000000 by have := h.1; have := h.2; omega) (by decide +kernel)
theorem lt_bb {n : Nat} (h : n < big) : n < big * big := Nat.lt_of_lt_of_le h big_sq
theorem lit_0 : Lib.itoa 0 = [48] := by rw [show (0 : Int) = ((0 : Nat) : Int) from rfl, itoa_nat, dec_small (by omega)]; rfl
theorem gcd_big {x y : Int} (hx : x.natAbs < big) (hy : y.natAbs < big) : Int.gcd x y < big := by
  rcases Nat.eq_zero_or_pos y.natAbs with h | h
  · unfold Int.gcd; rw [h, Nat.gcd_zero_right]; exact hx
  · exact Nat.lt_of_le_of_lt (Nat.gcd_le_right _ h) hy
theorem ops : ∃ T : Int → ByteArray, (∀ n, bs (Lib.itoa n) = T n) ∧ Ops T := by
  refine ⟨fun n => bs (Lib.itoa n), fun _ => rfl, ?_⟩
  have ht : ∀ z : Int, z.natAbs < big → txt z = Lib.itoa z := fun z h => if_pos h
  have he : ∀ z : Int, z.natAbs < big → err z = 0 := fun z h => if_pos h
  refine ⟨?_, ?_, ?_, ?_, ?_, ?_, ?_, ?_, ?_, ?_, ?_, ?_, ?_, ?_, ?_, ?_, ?_⟩
  · rintro x y z hx hy rfl hz W hW
    have := Add_any x y hx hy (lt_bb hz) W hW
    rw [ht _ hz, he _ hz] at this
    exact this
  · rintro x y z hx hy rfl hz W hW
    have := Sub_any x y hx hy (lt_bb hz) W hW
    rw [ht _ hz, he _ hz] at this
    exact this
  · rintro x y z hx hy rfl hz W hW
    have := Mul_any x y hx hy (lt_bb hz) W hW
    rw [ht _ hz, he _ hz] at this
    exact this
  · rintro x y z hx hy rfl W hW
    have hg := gcd_big hx hy
    have := Gcd_any x y hx hy (lt_bb hg) W hW
    rw [ht _ (by rw [Int.natAbs_natCast]; exact hg), he _ (by rw [Int.natAbs_natCast]; exact hg)] at this
    exact this
  · rintro x y q r hx hy h0 rfl rfl W hW
    exact Div_any x y hx hy h0 W hW
  · rintro x y hx rfl W
    exact Div_zero x hx W
  · rintro x r hx h0 rfl W hW
    exact Root_any x hx h0 W hW
  · rintro x hx h0 W
    exact Root_neg x hx h0 W
  · rintro x y c hx hy rfl W
    exact Compare_any x y hx hy W
  · rintro x hx W
    exact Valid_yes x hx W
  · rintro x hx W
    exact ToInt_ok x (int_bigs hx) hx W
  · rintro x h0 h1 W hW
    exact FromInt_any x h0 h1 W hW
  · rintro x y
    rw [bs_toList, bs_toList]
    by_cases h : x = y
    · subst h; simp
    · rw [decide_eq_false h]; exact beq_false_of_ne fun e => h (itoa_inj e)
  · rintro x
    rw [bs_toList]
    by_cases h : x = 0
    · subst h; rw [lit_0]; rfl
    · rw [decide_eq_false h]; exact itoa_zero x h
  · show bs (Lib.itoa 0) = _; rw [lit_0]; rfl
  · show bs (Lib.itoa 1) = _; rw [lit_1]; rfl
  · rintro x
    rw [bs_toList]
    refine beq_false_of_ne fun e => ?_
    rcases int_cases x with ⟨n, rfl⟩ | ⟨n, hn, rfl⟩
    · rw [itoa_nat] at e; exact dec_ne n e
    · rw [itoa_neg _ hn] at e; cases e

end Go.Proofs.YtagcpjokajcdiaaGreatDoor

/-
  Layer 3: the integers that strings determine.
-/
namespace Go.Proofs.YtagcpjokajcdiaaGreatDoor
open Go.RowKit Bs Ig

/-- digits, the least first, as bytes, the greatest first -/
def dl (l : List Nat) : List Nat := (l.map fun d => 48 + d).reverse
theorem dl_lt (l : List Nat) (h : ∀ x ∈ l, x < 10) : ∀ b ∈ dl l, 48 ≤ b ∧ b ≤ 57 := by
  intro b hb
  obtain ⟨d, hd, rfl⟩ := List.mem_map.1 (List.mem_reverse.1 hb)
  have := h d hd
  omega
theorem ub_length (l : List Nat) : (ub l).length = l.length := by simp [ub]
/-- what such bytes spell -/
theorem dl_num (neg : Bool) (l : List Nat) (h : ∀ x ∈ l, x < 10) (h0 : 0 < l.length) (hlast : l.getD (l.length - 1) 0 ≠ 0) :
    ∃ z : Int, z.natAbs < 10 ^ l.length ∧ ub ((if neg = true then [45] else []) ++ dl l) = Lib.itoa z := by
  have hb := dl_lt l h
  have hd : ∀ c ∈ ub (dl l), isDig c := by
    intro c hc
    obtain ⟨b, hb1, rfl⟩ := List.mem_map.1 hc
    have := hb b hb1
    unfold isDig
    rw [show (UInt8.ofNat b).toNat = b by rw [UInt8.toNat_ofNat']; exact Nat.mod_eq_of_lt (by omega)]
    exact this
  obtain ⟨r, x, hx⟩ : ∃ r x, l = r ++ [x] := by
    rcases List.eq_nil_or_concat l with e | ⟨r, x, e⟩
    · rw [e] at h0; cases h0
    · exact ⟨r, x, by rw [e, List.concat_eq_append]⟩
  have hx0 : x ≠ 0 := by
    rw [hx] at hlast
    simpa using hlast
  have hx9 : x < 10 := h x (by rw [hx]; simp)
  have hdl : ub (dl l) = UInt8.ofNat (48 + x) :: ub (dl r) := by
    rw [hx]; simp [dl, ub]
  have hnum := dec_num (ub (dl l)) hd _ _ hdl (by rw [UInt8.toNat_ofNat', Nat.mod_eq_of_lt (by omega)]; omega)
  have hlt := num_lt _ hd
  rw [ub_length, show (dl l).length = l.length by simp [dl]] at hlt
  cases neg with
  | false => exact ⟨(num (ub (dl l)) : Nat), by rw [Int.natAbs_natCast]; exact hlt, by rw [itoa_nat, hnum]; rfl⟩
  | true =>
    have hpos : 0 < num (ub (dl l)) := by
      rw [hdl, num_cons, UInt8.toNat_ofNat', Nat.mod_eq_of_lt (by omega)]
      have h1 : 0 < 10 ^ (ub (dl r)).length := Nat.pow_pos (by omega)
      have := Nat.mul_le_mul_right (10 ^ (ub (dl r)).length) (show 1 ≤ 48 + x - 48 by omega)
      omega
    exact ⟨-((num (ub (dl l)) : Nat) : Int), by rw [Int.natAbs_neg, Int.natAbs_natCast]; exact hlt, by rw [itoa_neg _ hpos, hnum]; rfl⟩

set_option maxRecDepth 100000 in
set_option maxHeartbeats 1000000 in
theorem trim_any (a : Option Addr) (n c : Nat) (l : List Nat) (w : World) (hl : IsZ w a n c (zs l)) (h : ∀ x ∈ l, x < 10) (hn : n ≤ 1000000) :
    Calls Tryz.prog 27 #[.slice a n c] w fun e w' => ∃ m, e = .returned (.slice a m c) ∧ m ≤ n ∧ IsZ w' a m c (zs (l.take m)) ∧ (m = 0 ∨ l.getD (m - 1) 0 ≠ 0) ∧ Below w.heap.size w w' := by
  have hll : l.length = n := by rw [← zs_length]; exact hl.len
  have hc := hl.cap
  have hm := hl.max
  go_enter Tryz.func27, Tryz.ntmps27
  go_wp2_with fail
  go_loopw [0] (fun v wr => ∃ m : Nat, m ≤ n ∧ v = .slice a m c ∧ Below w.heap.size w wr) (fun v _ => lenOf v)
  case atStart => exact ⟨n, Nat.le_refl _, rfl, Below.refl _ _⟩
  case round =>
    obtain ⟨m, hmn, rfl, hw⟩ := hrel
    have hfin := ((hl.later hw).take hmn)
    rw [zs_take] at hfin
    rcases Nat.eq_zero_or_pos m with h0 | h0
    · subst h0
      have Hf := Lib.hid hfin
      clear hl h hfin
      go_wp2_with fail
      go_ret
      exact ⟨0, rfl, Nat.zero_le _, Hf.out, .inl rfl, hw⟩
    · obtain ⟨g, off, rfl, hI⟩ := (hl.later hw).at (by omega)
      have hcell := hI (m - 1) (by rw [zs_length]; omega)
      rw [zs_getD] at hcell
      obtain ⟨x, hx⟩ : ∃ x, l.getD (m - 1) 0 = x := ⟨_, rfl⟩
      have HX := Lib.hid hx
      rw [hx] at hcell
      rcases Nat.eq_zero_or_pos x with hx0 | hx0
      · subst hx0
        have hsl := slc_h wr 38 Tryz.underlying38 (some ⟨g, off, none⟩) m c (m - 1) ((m : Int) - 1) (by omega) (by omega) (by kernel_rfl)
        clear hl h hI hx hfin
        go_wp2_with fail
        go_roundw
        case rel => exact ⟨m - 1, by omega, by go_num, hw⟩
        case measure => simp [lenOf]; omega
      · have hx1 : decide ((x : Int) = 0) = false := by simp; omega
        have Hf := Lib.hid hfin
        clear hl h hI hx hfin
        go_wp2_with fail
        go_ret
        exact ⟨m, rfl, hmn, Hf.out, .inr (by rw [HX.out]; omega), hw⟩

end Go.Proofs.YtagcpjokajcdiaaGreatDoor

/-
  Layer 3: the integers that strings determine, whole.
-/
namespace Go.Proofs.YtagcpjokajcdiaaGreatDoor
open Go.RowKit Bs Ig

theorem infoU8 : (Tryz.prog.info? 5).map (fun i => (i.zero, i.size, i.bytes)) = some (some (.int .u8 0), 1, 1) := by kernel_rfl
theorem strOfNums_bytes (l : List UInt8) : strOfNums (l.map (fun b => (b.toNat : Int))) = ⟨l.toArray⟩ := by
  show ByteArray.mk ((l.map (fun b => (b.toNat : Int))).map fun n => UInt8.ofNat n.toNat).toArray = _
  rw [List.map_map, show ((fun n : Int => UInt8.ofNat n.toNat) ∘ fun b : UInt8 => (b.toNat : Int)) = id from by funext b; simp, List.map_id]
/-- a slice of bytes as a string -/
theorem own_str {W : World} {base g cap n : Nat} {l : List Nat} (h : Bs.Own W base 5 .u8 (.slice (some ⟨g, 0, none⟩) n cap) l) (hn : l.length = n) (hl : ∀ b ∈ l, b < 256) :
    (convert 68 9 (.slice (some ⟨g, 0, none⟩) n cap)).run Tryz.prog W = .ok (.string (bs (ub l))) W := by
  have e : l.map (fun (b : Nat) => (b : Int)) = (ub l).map (fun b => (b.toNat : Int)) := by
    unfold ub
    rw [List.map_map]
    apply List.map_congr_left
    intro b hb
    have := hl b hb
    simp; omega
  rw [run_convert_bytes_arg W 68 5 Tryz.underlying68 Tryz.underlying5 g 0 n cap (l.map (fun (b : Nat) => (b : Int))) (by simpa using hn) (fun i hi => by
    rw [Nat.zero_add, h.get i (by omega)]
    congr 2
    rw [List.getD_eq_getElem?_getD, List.getD_eq_getElem?_getD, List.getElem?_map, List.getElem?_eq_getElem (show i < l.length by omega)]; rfl) 9 Tryz.underlying9, e, strOfNums_bytes]
  rfl
theorem dl_step (l : List Nat) (i : Nat) (hi : i < l.length) : dl (l.drop (i + 1)) ++ [48 + l.getD i 0] = dl (l.drop i) := by
  unfold dl
  rw [List.drop_eq_getElem_cons hi, List.map_cons, List.reverse_cons, List.getD_eq_getElem?_getD, List.getElem?_eq_getElem hi]
  rfl

set_option maxRecDepth 100000 in
set_option maxHeartbeats 2000000 in
theorem text0_any (neg : Bool) (a : Option Addr) (c : Nat) (w : World) :
    Calls Tryz.prog 26 #[.bool neg, .slice a 0 c] w fun e w' => e = .returned (.tuple #[.string ⟨#[48]⟩, .bool true]) ∧ Below w.heap.size w w' := by
  go_enter Tryz.func26, Tryz.ntmps26
  go_wp2_with fail
  go_ret2
  exact ⟨rfl, Below.refl _ _⟩

set_option maxRecDepth 100000 in
set_option maxHeartbeats 2000000 in
theorem textG_any (neg : Bool) (a : Option Addr) (n c : Nat) (l : List Nat) (w : World) (hl : IsZ w a n c (zs l)) (h : ∀ x ∈ l, x < 10) (h0 : 0 < n) (hn : n ≤ 1000000) (fit : Bool) (hd2 : decide ((n : Int) ≤ 200) = fit) :
    Calls Tryz.prog 26 #[.bool neg, .slice a n c] w fun e w' => e = .returned (.tuple #[.string (bs (ub ((if neg = true then [45] else []) ++ dl l))), .bool fit]) ∧ Below w.heap.size w w' := by
  have hll : l.length = n := by rw [← zs_length]; exact hl.len
  have hcap := hl.cap
  have hmx := hl.max
  have hd0 : ((n : Int) == 0) = false := beq_false_of_ne (by omega)
  obtain ⟨i0, hi, hz0, hz1, hz2⟩ := info_parts infoU8
  have hloop : ∀ (pre : List Nat), (∀ x ∈ pre, x < 256) → pre.length ≤ 1 → ∀ b ∈ pre ++ dl l, b < 256 := by
    intro pre hp _ b hb
    rcases List.mem_append.1 hb with hb | hb
    · exact hp b hb
    · have := dl_lt l h b hb; omega
  have hdg : ∀ i, i < n → l.getD i 0 < 10 := fun i hi => by
    rw [List.getD_eq_getElem?_getD, List.getElem?_eq_getElem (show i < l.length by omega)]
    exact h _ (List.getElem_mem _)
  have Hl := Lib.hid hl
  have Hdg := Lib.hid hdg
  have Hlp := Lib.hid hloop
  have Hll := Lib.hid hll
  clear hl h hloop hdg hll
  cases neg with
  | false =>
    go_enter Tryz.func26, Tryz.ntmps26
    go_wp2_with fail
    go_loopw [6, 7] (fun v i wr => ∃ j : Nat, j ≤ n ∧ i = .int .i64 ((j : Int) - 1) ∧ Bs.Own wr w.heap.size 5 .u8 v ([] ++ dl (l.drop j)) ∧ Below w.heap.size w wr) (fun _ i _ => (intOf i + 1).toNat)
    case atStart => exact ⟨n, Nat.le_refl _, rfl, by rw [List.drop_of_length_le (by rw [Hll.out]; omega)]; exact Bs.Own.nil _ _ _ _, Below.refl _ _⟩
    case round =>
      obtain ⟨j, hj, rfl, hown, hw⟩ := hrel
      have hs := hw.size
      rcases Nat.eq_zero_or_pos j with hj0 | hj0
      · subst hj0
        rw [List.drop_zero] at hown
        have hlen : ([] ++ dl l).length = n := by rw [List.nil_append]; simp [dl]; exact Hll.out
        obtain ⟨g, cap, rfl⟩ := hown.shape hlen h0
        have hcv := own_str hown hlen (Hlp.out [] (by simp) (by simp))
        have Hw := Lib.hid hw
        clear hown hlen hw
        go_wp2_with fail
        go_ret2
        exact ⟨rfl, Hw.out⟩
      · obtain ⟨i, rfl⟩ : ∃ i, j = i + 1 := ⟨j - 1, by omega⟩
        obtain ⟨g, off, rfl, hI⟩ := (Hl.out.later hw).at (by omega)
        have hcell := hI i (by rw [zs_length, Hll.out]; omega)
        rw [zs_getD] at hcell
        have hdi := Hdg.out i (by omega)
        have hst := dl_step l i (by rw [Hll.out]; omega)
        obtain ⟨x, hx⟩ : ∃ x, l.getD i 0 = x := ⟨_, rfl⟩
        rw [hx] at hcell hdi hst
        have e1 : ((i + 1 : Nat) : Int) - 1 = (i : Int) := by omega
        rw [e1]
        have Hst := Lib.hid hst
        have Hlen := Lib.hid (show ([] ++ dl (l.drop (i + 1))).length ≤ 2000000 by rw [List.nil_append]; simp [dl]; have := Hll.out; omega)
        clear hI hx hst
        go_wp2_with (at_builtin; refine wpList_push rfl _ _ 68 rfl w.heap.size 5 i0 (.int .u8 0) 1 Tryz.underlying68 hi hz0 hz1 hz2 rfl (by omega) .u8 _ ([] ++ dl (l.drop (i + 1))) rfl (hown.alloc _) ⟨wr.heap.size, 0, none⟩ 1 (48 + x) rfl ?c1 ?c2 ?c3 ?_)
        case c1 => simp [Addr.add]
        case c2 => exact Hlen.out
        case c3 => simp; omega
        intro v' w1 hown' hb
        rw [Hst.out] at hown'
        have Hown := Lib.hid hown'
        have Hw := Lib.hid ((hw.alloc hs _).trans hb)
        clear hown hown' hb hw
        go_wp2_with fail
        go_roundw
        case rel => exact ⟨i, by omega, by go_num, Hown.out, Hw.out⟩
        case measure => simp [intOf]
  | true =>
    go_enter Tryz.func26, Tryz.ntmps26
    go_wp2_with (at_builtin; refine wpList_push rfl _ _ 68 rfl w.heap.size 5 i0 (.int .u8 0) 1 Tryz.underlying68 hi hz0 hz1 hz2 rfl (by omega) .u8 _ [] rfl (Bs.Own.nil _ _ _ _) ⟨w.heap.size, 0, none⟩ 1 45 rfl ?b1 ?b2 ?b3 ?_)
    case b1 => simp [Addr.add]
    case b2 => simp
    case b3 => simp
    intro v1 w1 hown1 hb1
    have hw1 : Below w.heap.size w w1 := ((Below.refl _ w).alloc (Nat.le_refl _) _).trans hb1
    have Hown1 := Lib.hid hown1
    have Hw1 := Lib.hid hw1
    clear hown1 hb1 hw1
    go_wp2_with fail
    go_loopw [6, 7] (fun v i wr => ∃ j : Nat, j ≤ n ∧ i = .int .i64 ((j : Int) - 1) ∧ Bs.Own wr w.heap.size 5 .u8 v ([45] ++ dl (l.drop j)) ∧ Below w.heap.size w wr) (fun _ i _ => (intOf i + 1).toNat)
    case atStart => exact ⟨n, Nat.le_refl _, rfl, by rw [List.drop_of_length_le (by rw [Hll.out]; omega)]; exact Hown1.out, Hw1.out⟩
    case round =>
      obtain ⟨j, hj, rfl, hown, hw⟩ := hrel
      have hs := hw.size
      rcases Nat.eq_zero_or_pos j with hj0 | hj0
      · subst hj0
        rw [List.drop_zero] at hown
        have hlen : ([45] ++ dl l).length = n + 1 := by simp [dl]; exact Hll.out
        obtain ⟨g, cap, rfl⟩ := hown.shape hlen (by omega)
        have hcv := own_str hown hlen (Hlp.out [45] (by simp) (by simp))
        have Hw := Lib.hid hw
        clear hown hlen hw
        go_wp2_with fail
        go_ret2
        exact ⟨rfl, Hw.out⟩
      · obtain ⟨i, rfl⟩ : ∃ i, j = i + 1 := ⟨j - 1, by omega⟩
        obtain ⟨g, off, rfl, hI⟩ := (Hl.out.later hw).at (by omega)
        have hcell := hI i (by rw [zs_length, Hll.out]; omega)
        rw [zs_getD] at hcell
        have hdi := Hdg.out i (by omega)
        have hst := dl_step l i (by rw [Hll.out]; omega)
        obtain ⟨x, hx⟩ : ∃ x, l.getD i 0 = x := ⟨_, rfl⟩
        rw [hx] at hcell hdi hst
        have e1 : ((i + 1 : Nat) : Int) - 1 = (i : Int) := by omega
        rw [e1]
        have Hst := Lib.hid hst
        have Hlen := Lib.hid (show ([45] ++ dl (l.drop (i + 1))).length ≤ 2000000 by simp [dl]; have := Hll.out; omega)
        clear hI hx hst
        go_wp2_with (at_builtin; refine wpList_push rfl _ _ 68 rfl w.heap.size 5 i0 (.int .u8 0) 1 Tryz.underlying68 hi hz0 hz1 hz2 rfl (by omega) .u8 _ ([45] ++ dl (l.drop (i + 1))) rfl (hown.alloc _) ⟨wr.heap.size, 0, none⟩ 1 (48 + x) rfl ?c1 ?c2 ?c3 ?_)
        case c1 => simp [Addr.add]
        case c2 => exact Hlen.out
        case c3 => simp; omega
        intro v' w2 hown' hb
        rw [Hst.out] at hown'
        have Hown := Lib.hid hown'
        have Hw := Lib.hid ((hw.alloc hs _).trans hb)
        clear hown hown' hb hw
        go_wp2_with fail
        go_roundw
        case rel => exact ⟨i, by omega, by go_num, Hown.out, Hw.out⟩
        case measure => simp [intOf]

theorem text_any (neg : Bool) (a : Option Addr) (n c : Nat) (l : List Nat) (w : World) (hl : IsZ w a n c (zs l)) (h : ∀ x ∈ l, x < 10) (h0 : 0 < n) (hn : n ≤ 200) :
    Calls Tryz.prog 26 #[.bool neg, .slice a n c] w fun e w' => e = .returned (.tuple #[.string (bs (ub ((if neg = true then [45] else []) ++ dl l))), .bool true]) ∧ Below w.heap.size w w' :=
  textG_any neg a n c l w hl h h0 (by omega) true (decide_eq_true (by omega))

end Go.Proofs.YtagcpjokajcdiaaGreatDoor
