/-
  Package pack: match and bestMatch.
-/
import Derived.Test.YtnploljhikljfaaArr
import Derived.Test.YtnploljhikljfaaPma
import Derived.WalkKit
namespace Go.Proofs.Ytnploljhikljfaa
open Go.RowKit Bs Pk

/-- the bytes L, those of a slice (g, 0, n, c) -/
structure Sl (W : World) (g : Nat) (L : List Nat) (c : Nat) : Prop where
  nums : Nums W g 0 L.length .u8 L
  cap : L.length ≤ c
  lt : g < W.heap.size
theorem Sl.below {W W' : World} {g c B : Nat} {L : List Nat} (h : Sl W g L c) (hb : Below B W W') (hg : g < B) : Sl W' g L c := ⟨h.nums.below hb (fun _ => hg), h.cap, Nat.lt_of_lt_of_le h.lt hb.size⟩
theorem Sl.later {W W' : World} {g c : Nat} {L : List Nat} (h : Sl W g L c) (hb : Below W.heap.size W W') : Sl W' g L c := h.below hb h.lt
theorem Sl.get {W : World} {g c : Nat} {L : List Nat} (h : Sl W g L c) (i : Nat) (hi : i < L.length) : W.cell? ⟨g, i, none⟩ = some (.int .u8 (L.getD i 0 : Nat)) := by
  have := h.nums.cell i hi
  rwa [Nat.zero_add] at this
theorem Sl.drewN {W : World} {g c : Nat} {L : List Nat} (h : Sl W g L c) (q : Nat) : Sl (W.drewN q) g L c := ⟨h.nums.drewN q, h.cap, h.lt⟩

set_option maxRecDepth 100000 in
set_option maxHeartbeats 1000000 in
theorem match_any (g c : Nat) (L : List Nat) (p d : Nat) (hd : 1 ≤ d) (hdp : d ≤ p) (hp : p ≤ L.length) (hL : L.length ≤ 1000000) (w : World) (hS : Sl w g L c) :
    Calls Try.prog 29 #[.slice (some ⟨g, 0, none⟩) L.length c, .int .i64 (p : Int), .int .i64 (d : Int)] w fun e w' => e = .returned (.int .i64 (mat L p d 131 : Nat)) ∧ Below w.heap.size w w' := by
  obtain ⟨n0, hn0⟩ : ∃ n, L.length = n := ⟨_, rfl⟩
  have HS := Lib.hid hS
  have HL := Lib.hid hn0
  rw [hn0] at hp hL ⊢
  obtain ⟨r, hr⟩ : ∃ r, mat L p d 131 = r := ⟨_, rfl⟩
  have HR := Lib.hid hr
  rw [hr]
  clear hS hn0 hr
  go_enter Try.func29, Try.ntmps29
  go_wp2_with fail
  go_loopw [7] (fun i wr => ∃ j : Nat, j ≤ 131 ∧ i = .int .i64 j ∧ p + j ≤ n0 ∧ j + mat L (p + j) d (131 - j) = r ∧ Below w.heap.size w wr) (fun i _ => 131 - (intOf i).toNat)
  case atStart => exact ⟨0, by omega, rfl, by omega, by rw [← HR.out]; simp, Below.refl _ _⟩
  case round =>
    obtain ⟨j, hj, rfl, hpj, hm, hB⟩ := hrel
    have HS' := Lib.hid (HS.out.later hB)
    have hm' := Lib.hid hm
    have hw1 : IntKind.i64.wrap ((p : Int) + (j : Int)) = ((p + j : Nat) : Int) := by rw [IntKind.wrap_i64]; omega
    obtain ⟨q, hq⟩ : ∃ q, p + j = q := ⟨_, rfl⟩
    have hw2 : IntKind.i64.wrap ((q : Int) - (d : Int)) = ((q - d : Nat) : Int) := by rw [IntKind.wrap_i64]; omega
    obtain ⟨q', hq'⟩ : ∃ q', q - d = q' := ⟨_, rfl⟩
    rw [hq] at hw1 hpj
    rw [hq'] at hw2
    clear hm
    by_cases g1 : j < 131
    · by_cases g2 : q < n0
      · have c1 := HS'.out.get q (by rw [HL.out]; exact g2)
        have c2 := HS'.out.get q' (by rw [HL.out]; omega)
        obtain ⟨x, hx⟩ : ∃ x, L.getD q 0 = x := ⟨_, rfl⟩
        obtain ⟨y, hy⟩ : ∃ y, L.getD q' 0 = y := ⟨_, rfl⟩
        rw [hx] at c1
        rw [hy] at c2
        have b1 : (0 : Int) ≤ (q : Int) := by omega
        have b2 : (q : Int) < (n0 : Int) := by omega
        have b3 : (0 : Int) ≤ (q' : Int) := by omega
        have b4 : (q' : Int) < (n0 : Int) := by omega
        have d1 : decide ((j : Int) < 131) = true := decide_eq_true (by omega)
        have d2 : decide ((q : Int) < (n0 : Int)) = true := decide_eq_true b2
        by_cases g3 : x = y
        · have hst := Lib.hid (mat_step L p d j g1 (by rw [hq, HL.out]; exact g2) (by rw [hq, hq', hx, hy, g3]))
          have hq1 : p + (j + 1) ≤ n0 := by omega
          subst g3
          clear hx hy hq hq'
          go_wp2_with fail
          go_quiet (fail)
          go_wp2_with fail
          go_roundw
          case rel => exact ⟨j + 1, by omega, by go_num, hq1, by have := hst.out; have := hm'.out; omega, below_drewN hB nq⟩
          case measure => simp [intOf]; omega
        · have hst := Lib.hid (mat_stop L p d j (by rw [hq, hq', hx, hy]; omega))
          have d3 : decide ((x : Int) = (y : Int)) = false := decide_eq_false (by omega)
          clear hx hy hq hq'
          go_wp2_with fail
          go_quiet (fail)
          go_wp2_with fail
          go_ret
          refine ⟨?_, below_drewN hB nq⟩
          have := hst.out; have := hm'.out
          have e : j = r := by omega
          rw [e]; rfl
      · have d1 : decide ((j : Int) < 131) = true := decide_eq_true (by omega)
        have d2 : decide ((q : Int) < (n0 : Int)) = false := decide_eq_false (by omega)
        have hst := Lib.hid (mat_stop L p d j (by rw [hq, HL.out]; omega))
        clear hq hq'
        go_wp2_with fail
        go_quiet (fail)
        go_wp2_with fail
        go_ret
        refine ⟨?_, below_drewN hB nq⟩
        have := hst.out; have := hm'.out
        have e : j = r := by omega
        rw [e]; rfl
    · have d1 : decide ((j : Int) < 131) = false := decide_eq_false (by omega)
      have hst := Lib.hid (mat_stop L p d j (by omega))
      clear hq hq'
      go_wp2_with fail
      go_quiet (fail)
      go_wp2_with fail
      go_ret
      refine ⟨?_, below_drewN hB nq⟩
      have := hst.out; have := hm'.out
      have e : j = r := by omega
      rw [e]; rfl

theorem min255 (p : Nat) (w : World) (ts : Array TypeId) (t : TypeId) : (Builtin.min_ ts t #[.int .i64 (p : Int), .int .i64 255]).run Try.prog w = .ok (.int .i64 ((min p 255 : Nat) : Int)) w := min_run p 255 _ rfl 255 rfl w ts t

set_option maxRecDepth 100000 in
set_option maxHeartbeats 1000000 in
theorem bestMatch_any (g c : Nat) (L : List Nat) (p : Nat) (hp : p ≤ L.length) (hL : L.length ≤ 1000000) (w : World) (hS : Sl w g L c) :
    Calls Try.prog 27 #[.slice (some ⟨g, 0, none⟩) L.length c, .int .i64 (p : Int)] w fun e w' => e = .returned (.tuple #[.int .i64 ((best L p).1 : Nat), .int .i64 ((best L p).2 : Nat)]) ∧ Below w.heap.size w w' := by
  have HM := Lib.hid (fun (d : Nat) (hd : 1 ≤ d) (hdp : d ≤ p) (w : World) (hS : Sl w g L c) => match_any g c L p d hd hdp hp hL w hS)
  have HS := Lib.hid hS
  have r0 := fun w ts ty => min255 p w ts ty
  obtain ⟨m, hm⟩ : ∃ m, min p 255 = m := ⟨_, rfl⟩
  have hmp : m ≤ p := by omega
  have hm2 : m ≤ 255 := by omega
  rw [hm] at r0
  obtain ⟨B, hB⟩ : ∃ B, best L p = B := ⟨_, rfl⟩
  have HB := Lib.hid (show bst L p m = B by rw [← hB, ← hm]; rfl)
  rw [hB]
  obtain ⟨n0, hn0⟩ : ∃ n, L.length = n := ⟨_, rfl⟩
  rw [hn0] at HM
  have HL := Lib.hid hn0
  rw [hn0]
  clear hS hn0 hB hm hL hp
  go_enter Try.func27, Try.ntmps27
  go_wp2_with fail
  go_loopw [6, 7, 8] (fun x y i wr => ∃ k : Nat, k ≤ m ∧ i = .int .i64 ((k + 1 : Nat) : Int) ∧ x = .int .i64 ((bst L p k).1 : Nat) ∧ y = .int .i64 ((bst L p k).2 : Nat) ∧ Below w.heap.size w wr) (fun _ _ i _ => m + 1 - (intOf i).toNat)
  case atStart => exact ⟨0, by omega, rfl, rfl, rfl, Below.refl _ _⟩
  case round =>
    obtain ⟨k, hk, rfl, rfl, rfl, hW⟩ := hrel
    have HW := Lib.hid hW
    have HS' := Lib.hid (HS.out.later hW)
    clear hW
    obtain ⟨K, hK⟩ : ∃ K, k + 1 = K := ⟨_, rfl⟩
    rw [hK]
    have hst := Lib.hid (show bst L p (k + 1) = if (bst L p k).1 < mat L p (k + 1) 131 then (mat L p (k + 1) 131, k + 1) else bst L p k from rfl)
    rw [hK] at hst
    obtain ⟨A, hA⟩ : ∃ A, (bst L p k).1 = A := ⟨_, rfl⟩
    obtain ⟨D, hD⟩ : ∃ D, (bst L p k).2 = D := ⟨_, rfl⟩
    have HAD := Lib.hid (And.intro hA hD)
    rw [hA] at hst
    rw [hA, hD]
    have hAl : A ≤ 131 := by
      rw [← hA]
      rcases Nat.eq_zero_or_pos (bst L p k).1 with h0 | h0
      · omega
      · rw [← ((bst_dist L p k).2 h0).2]; exact mat_le _ _ _ _
    clear hA hD
    rcases Nat.lt_or_ge m K with hlt | hge
    · obtain rfl : k = m := by omega
      have d1 : decide ((K : Int) ≤ (k : Int)) = false := decide_eq_false (by omega)
      go_wp2_with fail
      go_ret2
      exact ⟨by rw [← HB.out, HAD.out.1, HAD.out.2]; rfl, HW.out⟩
    · have d1 : decide ((K : Int) ≤ (m : Int)) = true := decide_eq_true (by omega)
      have HMk := Lib.hid (fun W hS => HM.out K (by omega) (by omega) W hS)
      obtain ⟨M, hM⟩ : ∃ M, mat L p K 131 = M := ⟨_, rfl⟩
      have hMl : M ≤ 131 := by rw [← hM]; exact mat_le _ _ _ _
      rw [hM] at HMk hst
      clear hM
      have hw1 : IntKind.i64.wrap ((K : Int) + 1) = ((K + 1 : Nat) : Int) := by rw [IntKind.wrap_i64]; omega
      rcases Nat.lt_or_ge A M with hAM | hAM
      · have d2 : decide ((A : Int) < (M : Int)) = true := decide_eq_true (by omega)
        rw [if_pos hAM] at hst
        go_wp2_with (go_at_call 29; (with_reducible refine (HMk.out _ HS'.out).mono ?_); rintro e w1 ⟨rfl, hB1⟩)
        go_roundw
        case rel => exact ⟨K, hge, rfl, by rw [hst], by rw [hst], below_on HW.out hB1 HW.out.size⟩
        case measure => simp [intOf]; omega
      · have d2 : decide ((A : Int) < (M : Int)) = false := decide_eq_false (by omega)
        rw [if_neg (by omega)] at hst
        go_wp2_with (go_at_call 29; (with_reducible refine (HMk.out _ HS'.out).mono ?_); rintro e w1 ⟨rfl, hB1⟩)
        go_roundw
        case rel => exact ⟨K, hge, rfl, by rw [hst, HAD.out.1], by rw [hst, HAD.out.2], below_on HW.out hB1 HW.out.size⟩
        case measure => simp [intOf]; omega

end Go.Proofs.Ytnploljhikljfaa
