/-
  The law WireSumBurst: a short burst changes the checksum, and the walk.
-/
import Derived.Test.YtbcdigkndpjebaaDoorLaAff
namespace Go.Proofs.YtbcdigkndpjebaaDoor
open Go.RowKit

namespace Crc
theorem mul_xor (a b k : Nat) : (a ^^^ b) * 2 ^ k = a * 2 ^ k ^^^ b * 2 ^ k := by
  rw [← Nat.shiftLeft_eq, ← Nat.shiftLeft_eq, ← Nat.shiftLeft_eq, Nat.shiftLeft_xor_distrib]
theorem xor_comm3 (a b c : Nat) : a ^^^ b ^^^ c = a ^^^ c ^^^ b := by rw [Nat.xor_assoc, Nat.xor_comm b c, ← Nat.xor_assoc]
/-- one bit turned -/
theorem num_set (l : List Nat) (j m : Nat) (hl : ∀ b ∈ l, b < 256) (hj : j < l.length) (hm : m < 8) :
    num (l.set j (l[j] ^^^ 2 ^ m)) = num l ^^^ 2 ^ (8 * j + m) := by
  induction l generalizing j with
  | nil => simp at hj
  | cons b t ih =>
    have hb : b < 256 := hl b (by simp)
    have hp : 2 ^ m < 256 := by
      have : 2 ^ m ≤ 2 ^ 7 := Nat.pow_le_pow_right (by omega) (by omega)
      omega
    cases j with
    | zero =>
      simp only [List.set_cons_zero, List.getElem_cons_zero, num]
      rw [num_xor _ _ (Nat.xor_lt_two_pow (n := 8) hb hp), num_xor _ _ hb, xor_comm3]
      simp
    | succ j =>
      have h1 := ih j (fun x hx => hl x (by simp [hx])) (by simpa using hj)
      simp only [List.set_cons_succ, List.getElem_cons_succ, num]
      rw [h1, num_xor _ _ hb, num_xor _ _ hb, mul_xor, ← Nat.xor_assoc, ← Nat.pow_add]
      congr 2
      omega
end Crc

/-- after i bits of the pattern: what has been changed is h, at the bit 'fr' -/
structure BurstAt (l0 : List UInt8) (fr i : Nat) (l : List UInt8) (ch : Bool) : Prop where
  len : l.length = l0.length
  val : ∃ h, h < 2 ^ i ∧ Crc.num (nb l) = Crc.num (nb l0) ^^^ h * 2 ^ fr ∧ (ch = true ↔ h ≠ 0)

theorem burst_start (l0 : List UInt8) (fr : Nat) : BurstAt l0 fr 0 l0 false := ⟨rfl, 0, by simp, by simp, by simp⟩
theorem burst_skip {l0 l : List UInt8} {fr i : Nat} {ch : Bool} (h : BurstAt l0 fr i l ch) : BurstAt l0 fr (i + 1) l ch := by
  obtain ⟨x, h1, h2, h3⟩ := h.val
  exact ⟨h.len, x, by rw [Nat.pow_succ]; omega, h2, h3⟩
theorem burst_turn {l0 l : List UInt8} {fr i : Nat} {ch : Bool} (h : BurstAt l0 fr i l ch) (hk : (fr + i) / 8 < l.length) (y : UInt8) (hy : y.toNat = l[(fr + i) / 8].toNat ^^^ 2 ^ ((fr + i) % 8)) :
    BurstAt l0 fr (i + 1) (l.set ((fr + i) / 8) y) true := by
  obtain ⟨x, h1, h2, h3⟩ := h.val
  refine ⟨by rw [List.length_set]; exact h.len, x ^^^ 2 ^ i, ?_, ?_, ?_⟩
  · exact Nat.xor_lt_two_pow (by rw [Nat.pow_succ]; omega) (Nat.pow_lt_pow_right (by omega) (by omega))
  · have e : nb (l.set ((fr + i) / 8) y) = (nb l).set ((fr + i) / 8) ((nb l)[(fr + i) / 8]'(by rw [nb_length]; exact hk) ^^^ 2 ^ ((fr + i) % 8)) := by
      simp [nb, List.map_set, hy]
    rw [e, Crc.num_set _ _ _ (nb_lt l) (by rw [nb_length]; exact hk) (Nat.mod_lt _ (by omega)), h2, Nat.div_add_mod, Crc.mul_xor, Nat.xor_assoc, ← Nat.pow_add, Nat.add_comm i fr]
  · have : x ^^^ 2 ^ i ≠ 0 := by
      intro e
      have : x = 2 ^ i := by
        have h4 := congrArg (fun t => t ^^^ 2 ^ i) e
        simpa [Nat.xor_assoc] using h4
      omega
    simp [this]
/-- the checksums differ just where something was changed -/
theorem burst_sum {l0 l : List UInt8} {fr i : Nat} {ch : Bool} (h : BurstAt l0 fr i l ch) (hi : i ≤ 32) (hf : fr ≤ 8 * l0.length) :
    (Crc.sum (nb l) = Crc.sum (nb l0)) ↔ ch = false := by
  obtain ⟨x, h1, h2, h3⟩ := h.val
  have hx : x < 4294967296 := Nat.lt_of_lt_of_le h1 (by have : 2 ^ i ≤ 2 ^ 32 := Nat.pow_le_pow_right (by omega) hi; omega)
  have e : Crc.crc 4294967295 (nb l) = Crc.crc 4294967295 (nb l0) ^^^ Crc.bitk (8 * l0.length) (x * 2 ^ fr) := by
    rw [Crc.crc_num _ _ (nb_lt l), Crc.crc_num _ _ (nb_lt l0), nb_length, nb_length, h.len, h2, ← Nat.xor_assoc, Crc.bitk_xor]
  have c1 := Crc.crc_lt (r := 4294967295) (by omega) (nb_lt l)
  have c2 := Crc.crc_lt (r := 4294967295) (by omega) (nb_lt l0)
  have hs : (Crc.sum (nb l) = Crc.sum (nb l0)) ↔ Crc.crc 4294967295 (nb l) = Crc.crc 4294967295 (nb l0) := by
    unfold Crc.sum; omega
  rw [hs, e]
  by_cases h0 : x = 0
  · subst h0
    simp only [Nat.zero_mul, Crc.bitk_zero, Nat.xor_zero, true_iff]
    cases ch with
    | false => rfl
    | true => exact absurd rfl (h3.1 rfl)
  · have hb := Crc.burst (8 * l0.length) fr x hf hx h0
    have hc : ch = true := h3.2 h0
    rw [hc]
    simp only [Bool.true_eq_false, iff_false]
    intro e2
    apply hb
    have := congrArg (fun t => Crc.crc 4294967295 (nb l0) ^^^ t) e2
    simpa [← Nat.xor_assoc] using this

/-- bytes in memory, with what may stand behind them -/
structure BytesX (B : Nat) (l : List UInt8) (W : World) : Prop where
  row : ∃ (C : Array Value) (fz : Nat × Nat), W.heap[B]? = some (.cells (u8s l ++ C) 5 fz) ∧ l.length ≤ fz.1
theorem u8s_size (l : List UInt8) : (u8s l).size = l.length := by simp [u8s]
theorem BytesX.cell {B : Nat} {l : List UInt8} {W : World} (h : BytesX B l W) (i : Nat) (hi : i < l.length) : W.cell? ⟨B, i, none⟩ = some (.int .u8 (l[i].toNat : Int)) := by
  obtain ⟨C, fz, h, _⟩ := h.row
  rw [cell_of_row W B _ _ _ _ h, Array.getElem?_append_left (by rw [u8s_size]; exact hi)]
  simp [u8s, hi]
theorem BytesX.frozen {B : Nat} {l : List UInt8} {W : World} (h : BytesX B l W) (i : Nat) (hi : i < l.length) : W.frozen? ⟨B, i, none⟩ = false := by
  obtain ⟨C, fz, h, hz⟩ := h.row
  simp [World.frozen?, h]
  omega
theorem BytesX.set {B : Nat} {l : List UInt8} {W : World} (h : BytesX B l W) (i : Nat) (hi : i < l.length) (x : UInt8) : BytesX B (l.set i x) (W.setCell ⟨B, i, none⟩ (.int .u8 (x.toNat : Int))) := by
  obtain ⟨C, fz, h, hz⟩ := h.row
  refine ⟨C, fz, ?_, by rw [List.length_set]; exact hz⟩
  rw [setCell_eq_setRow W B i _ _ fz _ h, setRow_heap W B _ _ _ _ h]
  congr 2
  rw [Array.setIfInBounds_append_left (by rw [u8s_size]; exact hi)]
  congr 1
  simp [u8s, List.map_set]
theorem BytesX.drew {B : Nat} {l : List UInt8} {W : World} (h : BytesX B l W) : BytesX B l W.drew := ⟨h.row⟩
theorem BytesX.string {B : Nat} {l : List UInt8} {W : World} (h : BytesX B l W) (c : Nat) : (convert 38 9 (.slice (some ⟨B, 0, none⟩) l.length c)).run Tryd.prog W = .ok (.string (bs l)) W := by
  rw [run_convert_bytes_arg W 38 5 Tryd.underlying38 Tryd.underlying5 B 0 l.length c (l.map (fun b => (b.toNat : Int))) (by simp) (fun i hi => by
    rw [Nat.zero_add, h.cell i hi]; simp [hi]) 9 Tryd.underlying9, strOfNums_bytes]
  rfl
/-- one bit turned, as the program turns it -/
theorem xor_bit (a m : Nat) (ha : a < 256) (hm : m < 8) : ∃ y : UInt8, bits .xor .u8 (a : Int) ((2 : Int) ^ m % 256) = (y.toNat : Int) ∧ y.toNat = a ^^^ 2 ^ m := by
  have hp : 2 ^ m < 256 := by
    have : 2 ^ m ≤ 2 ^ 7 := Nat.pow_le_pow_right (by omega) (by omega)
    omega
  have hx : a ^^^ 2 ^ m < 256 := Nat.xor_lt_two_pow (n := 8) ha hp
  have e : ((2 : Int) ^ m % 256) = ((2 ^ m : Nat) : Int) := by
    have h1 : ((2 : Int) ^ m) = ((2 ^ m : Nat) : Int) := (Int.natCast_pow 2 m).symm
    rw [h1]
    generalize 2 ^ m = k at hp
    omega
  have hn : (UInt8.ofNat (a ^^^ 2 ^ m)).toNat = a ^^^ 2 ^ m := by
    rw [UInt8.toNat_ofNat']
    exact Nat.mod_eq_of_lt hx
  exact ⟨UInt8.ofNat (a ^^^ 2 ^ m), by rw [e, u8_xor_nat _ _ ha hp, hn], hn⟩
/-- bytes out of a string -/
theorem bytes_of (l : List UInt8) (w : World) : ∃ (cap : Nat) (W : World), (convert 9 38 (.string (bs l))).run Tryd.prog w = .ok (.slice (some ⟨w.heap.size, 0, none⟩) l.length cap) W ∧
    BytesX w.heap.size l W ∧ Below w.heap.size w W ∧ w.heap.size < W.heap.size := by
  refine ⟨_, _, by rw [run_bytes_of_string w 9 38 5 (bs l) Tryd.underlying9 Tryd.underlying38 Tryd.underlying5, bs_size], ?_, ?_, ?_⟩
  · refine ⟨Array.replicate (grownCap w l.length 0 5 - l.length) (.int .u8 0), ((bytesRow (bs l) (grownCap w l.length 0 5)).size, (bytesRow (bs l) (grownCap w l.length 0 5)).size + 1), ?_, ?_⟩
    · rw [show w.heap.size = w.drew.heap.size from rfl, heap_alloc_new]
      congr 2
      simp [bytesRow, u8s, bs, bs_size, ByteArray.size]
    · simp [bytesRow, bs]
  · exact ((Below.refl _ w).drew).alloc (Nat.le_refl _) _
  · show w.heap.size < (w.drew.heap.push _).size
    simp

set_option maxRecDepth 100000 in
set_option maxHeartbeats 1000000 in
theorem Burst_any (s : ByteArray) (at_ x : Int) (w : World) (h : TabAt w) (c1 : -9223372036854775808 ≤ at_) (c2 : at_ ≤ 9223372036854775807) (x1 : 0 ≤ x) (x2 : x ≤ 4294967295) :
    Calls Tryd.prog 8 #[.string s, .int .i64 at_, .int .u32 x] w fun e w' => e = .returned (.bool true) ∧ Below w.heap.size w w' := by
  obtain ⟨m0, t, ⟨m0a, m0b⟩, x0, l0, e0, -⟩ := cut_string s 300
  have r0 := fun w ts ty => min_run (P := Tryd.prog) s.size 300 m0 e0 300 rfl w ts ty
  have ht : t.length ≤ 300 := by omega
  clear e0
  have L0 := Lib.hid l0
  clear l0
  have hsz : ∀ l, (bs l).size = l.length := bs_size
  go_enter Tryd.func8, Tryd.ntmps8
  go_wp2_with fail
  refine (sane_any _ h).mono ?_
  rintro e w1 ⟨rfl, b1⟩
  obtain ⟨cap, W, hcv, hX, hW, hS⟩ := bytes_of t w1
  obtain ⟨B, hBB⟩ : ∃ B, w1.heap.size = B := ⟨_, rfl⟩
  have hw := below_on b1 hW b1.size
  have hle : w.heap.size ≤ B := by rw [← hBB]; exact b1.size
  rw [hBB] at hcv hX hS
  clear hW hBB b1
  rcases Nat.eq_zero_or_pos t.length with h0 | h0
  · have g0 : ((t.length : Int) == 0) = true := beq_iff_eq.2 (by omega)
    clear h0
    go_wp2_with fail
    all_goals go_ret
    all_goals exact ⟨rfl, hw⟩
  have g0 : ((t.length : Int) == 0) = false := beq_eq_false_iff_ne.2 (by omega)
  by_cases hx : x = 0
  · have g1 : (x == 0) = true := beq_iff_eq.2 hx
    clear hx
    go_wp2_with fail
    all_goals go_ret
    all_goals exact ⟨rfl, hw⟩
  have g1 : (x == 0) = false := beq_eq_false_iff_ne.2 hx
  clear hx
  go_wp2_with fail
  obtain ⟨fr, hfr, hfl⟩ : ∃ fr : Nat, pk at_ (8 * (t.length : Int)) = fr ∧ fr < 8 * t.length := ⟨(pk at_ (8 * (t.length : Int))).toNat, by have := pk_bd at_ (n := 8 * (t.length : Int)) (by omega); omega⟩
  refine (pick_any _ _ _ c1 c2 (by omega) (by omega)).mono ?_
  rintro e w2 ⟨rfl, rfl⟩
  rw [hfr]
  clear hfr hcv
  go_wp2_with fail
  go_loopw [10, 11] (fun b i wr => ∃ (j : Nat) (l : List UInt8) (ch : Bool), j ≤ 32 ∧ i = .int .i64 j ∧ b = .bool ch ∧ BurstAt t fr j l ch ∧ BytesX B l wr ∧ Below w.heap.size w wr) (fun _ i _ => 32 - (intOf i).toNat)
  case atStart => exact ⟨0, t, false, by omega, rfl, rfl, burst_start t fr, hX, hw⟩
  case round =>
    obtain ⟨j, l, ch, hj, rfl, rfl, hU, hX, hw⟩ := hrel
    by_cases hc : j < 32 ∧ fr + j < 8 * t.length
    · obtain ⟨hc1, hc2⟩ := hc
      have hd : (fr + j) / 8 < l.length := by rw [hU.len]; omega
      have k1 := hX.cell _ hd
      have k2 := hX.frozen _ hd
      have hd2 : (fr + j) / 8 < t.length := by omega
      go_wp2_with fail
      · go_region
        go_wp2_with fail
        obtain ⟨y, hy1, hy2⟩ := xor_bit l[(fr + j) / 8].toNat ((fr + j) % 8) l[(fr + j) / 8].toNat_lt (Nat.mod_lt _ (by omega))
        rw [hy1]
        go_roundw
        case rel => exact ⟨j + 1, l.set ((fr + j) / 8) y, true, by omega, by go_num, rfl, burst_turn hU hd y hy2, (hX.set _ hd y).drew, (hw.setCell (p := ⟨B, (fr + j) / 8, none⟩) hle _).drew⟩
        case measure => simp [intOf]; omega
      · go_roundw
        case rel => exact ⟨j + 1, l, ch, by omega, by go_num, rfl, burst_skip hU, hX, hw⟩
        case measure => simp [intOf]; omega
    · have hsum := burst_sum hU hj (by omega)
      have xt : s.extract 0 t.length = bs t := by rw [L0.out]; exact x0
      have hts : t.length ≤ s.size := by rw [L0.out]; exact m0a
      have hlt := hU.len
      have hcv : ∀ nq, (convert 38 9 (.slice (some ⟨B, 0, none⟩) t.length cap)).run Tryd.prog (wr.drewN nq) = .ok (.string (bs l)) (wr.drewN nq) := fun nq => by
        have := BytesX.string (W := wr.drewN nq) ⟨hX.row⟩ cap
        rwa [hlt] at this
      have hT : TabAt wr := h.below hw
      have ml : l.length ≤ 300 := by omega
      obtain ⟨S1, hS1⟩ : ∃ A, Crc.sum (nb l) = A := ⟨_, rfl⟩
      obtain ⟨S2, hS2⟩ : ∃ A, Crc.sum (nb t) = A := ⟨_, rfl⟩
      rw [hS1, hS2] at hsum
      clear hlt x0 r0
      cases ch with
      | false =>
        obtain rfl : S1 = S2 := hsum.2 rfl
        clear hsum
        rcases Nat.lt_or_ge j 32 with hj2 | hj2
        all_goals
          go_wp2_with fail
          go_quiet ((go_at_call 21; exact Sum_q _ _ _ (by unfold maxLen; omega) hT))
          go_wp2_with fail
          go_ret
          exact ⟨rfl, below_drewN hw _⟩
      | true =>
        have hne : ((S1 : Int) != (S2 : Int)) = true := by
          rw [bne_iff_ne]
          intro e
          have := hsum.1 (by omega)
          cases this
        clear hsum
        rcases Nat.lt_or_ge j 32 with hj2 | hj2
        all_goals
          go_wp2_with fail
          go_quiet ((go_at_call 21; exact Sum_q _ _ _ (by unfold maxLen; omega) hT))
          go_wp2_with fail
          go_ret
          exact ⟨rfl, below_drewN hw _⟩

end Go.Proofs.YtbcdigkndpjebaaDoor
