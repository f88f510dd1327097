/-
  wire.Sum: the checksum, over the table that the program lays.
-/
import Derived.Test.YtbcdigkndpjebaaDoorWaStr
import Derived.Test.YtbcdigkndpjebaaDoorCrc
namespace Go.Proofs.YtbcdigkndpjebaaDoor
open Go.RowKit

/-- the table's cells -/
def TabAt (w : World) : Prop := ∀ i : Nat, i < 16 → w.cell? ⟨0, i, none⟩ = some (.int .u32 (Crc.tab i))

theorem xor_u32 (a b : Nat) (ha : a < 4294967296) (hb : b < 4294967296) : bits .xor .u32 (a : Int) (b : Int) = ((a ^^^ b : Nat) : Int) := by
  have hx : a ^^^ b < 2 ^ 32 := Nat.xor_lt_two_pow (by omega) (by omega)
  have h1 : (BitVec.ofInt 32 (a : Int)).toNat = a := by
    rw [BitVec.ofInt_natCast, BitVec.toNat_ofNat]; exact Nat.mod_eq_of_lt (by omega)
  have h2 : (BitVec.ofInt 32 (b : Int)).toNat = b := by
    rw [BitVec.ofInt_natCast, BitVec.toNat_ofNat]; exact Nat.mod_eq_of_lt (by omega)
  show IntKind.u32.wrap ((BitVec.ofInt 32 (a : Int) ^^^ BitVec.ofInt 32 (b : Int)).toNat : Int) = _
  rw [BitVec.toNat_xor, h1, h2, IntKind.wrap_u32]
  omega

theorem not_nat (c : Nat) (h : c < 4294967296) : 4294967295 ^^^ c = 4294967295 - c := by
  apply Nat.eq_of_testBit_eq
  intro i
  have h1 := Nat.testBit_two_pow_sub_succ (n := 32) h i
  have h2 := Nat.testBit_two_pow_sub_one 32 i
  rw [show (2 : Nat) ^ 32 - 1 = 4294967295 from rfl] at h2
  rw [show (2 : Nat) ^ 32 - (c + 1) = 4294967295 - c from by omega] at h1
  rw [Nat.testBit_xor, h1, h2]
  rcases Nat.lt_or_ge i 32 with hi | hi
  · simp [hi]
  · rw [Nat.testBit_lt_two_pow (show c < 2 ^ i from Nat.lt_of_lt_of_le h (show 4294967296 ≤ 2 ^ i from Nat.pow_le_pow_right (n := 2) (by omega) hi))]
    simp [Nat.not_lt.2 hi]
theorem not_u32 (c : Nat) (h : c < 4294967296) : wrap64 (bits .xor .u32 IntKind.u32.max (c : Int)) = 4294967295 - (c : Int) := by
  rw [show IntKind.u32.max = ((4294967295 : Nat) : Int) from rfl, xor_u32 _ _ (by omega) h, not_nat c h, IntWalk.wrap64_in _ (by omega)]
  omega
/-- the register after k bytes -/
structure SumAt (l : List UInt8) (k c : Nat) : Prop where
  eq : c = Crc.crc 4294967295 ((nb l).take k)
  lt : c < 4294967296
theorem nb_lt (l : List UInt8) : ∀ b ∈ nb l, b < 256 := by
  intro b hb; simp only [nb, List.mem_map] at hb; obtain ⟨x, _, rfl⟩ := hb; exact x.toNat_lt
theorem sumAt_start (l : List UInt8) : SumAt l 0 4294967295 := ⟨rfl, by omega⟩
theorem sumAt_next {l : List UInt8} {k c b : Nat} (h : SumAt l k c) (hk : k < l.length) (hb : l[k].toNat = b) : SumAt l (k + 1) (Crc.bstep c b) := by
  subst hb
  refine ⟨?_, Crc.bstep_lt h.lt l[k].toNat_lt⟩
  rw [List.take_succ_eq_append_getElem (by rw [nb_length]; exact hk), Crc.crc_snoc, ← h.eq]
  simp [nb]
theorem sumAt_end {l : List UInt8} {k c : Nat} (h : SumAt l k c) (hk : ¬ k < l.length) (hle : k ≤ l.length) {x : Int} (hx : x = 4294967295 - (c : Int)) : Ending.returned (.int .i64 x) = Ending.returned (.int .i64 (Crc.sum (nb l))) := by
  have hl := h.lt
  have e := h.eq
  rw [List.take_of_length_le (by rw [nb_length]; omega)] at e
  unfold Crc.sum
  rw [← e, hx]
  congr 2
  omega

set_option maxRecDepth 100000 in
set_option maxHeartbeats 400000 in
theorem Sum_bytes (s : ByteArray) (l : List UInt8) (hsl : s.data.toList = l) (w : World) (hs : l.length ≤ maxLen) (ht : TabAt w) :
    Calls Tryd.prog 21 #[.string s] w fun e w' => e = .returned (.int .i64 (Crc.sum (nb l))) ∧ w = w' := by
  have hm := hs
  unfold maxLen at hm
  have hz : s.size = l.length := by rw [← hsl]; rfl
  have Hsl := Lib.hid hsl
  clear hsl
  go_enter Tryd.func21, Tryd.ntmps21
  go_wp2
  go_loop [3, 7] (fun r i => ∃ (k c : Nat), k ≤ l.length ∧ i = .int .i64 k ∧ r = .int .u32 c ∧ SumAt l k c) (fun _ i => l.length - (intOf i).toNat)
  case atStart => exact ⟨0, 4294967295, by omega, rfl, rfl, sumAt_start l⟩
  case round =>
    obtain ⟨k, c, hk, rfl, rfl, hc⟩ := hrel
    have hcl := hc.lt
    rcases Nat.lt_or_ge k l.length with hlt | hlt
    · have hb0 : s[k].toNat < 256 := s[k].toNat_lt
      obtain ⟨x1, e1⟩ : ∃ x1, x1 = c ^^^ s[k].toNat := ⟨_, rfl⟩
      have l1 : x1 < 4294967296 := by rw [e1]; exact Crc.xor_lt32 hcl (by omega)
      have q1 : bits .xor .u32 (c : Int) (s[k].toNat : Int) = x1 := by
        rw [xor_u32 c _ hcl (by omega), ← e1]
      have t1 := ht (x1 % 16) (by omega)
      obtain ⟨x2, e2⟩ : ∃ x2, x2 = Crc.hstep x1 := ⟨_, rfl⟩
      have l2 : x2 < 4294967296 := by rw [e2]; exact Crc.hstep_lt l1
      have q2 : bits .xor .u32 ((x1 : Int) / 16) (Crc.tab (x1 % 16)) = x2 := (xor_u32 (x1 / 16) (Crc.tab (x1 % 16)) (by omega) (Crc.tab_lt _)).trans (by rw [e2]; rfl)
      have t2 := ht (x2 % 16) (by omega)
      obtain ⟨x3, e3⟩ : ∃ x3, x3 = Crc.hstep x2 := ⟨_, rfl⟩
      have l3 : x3 < 4294967296 := by rw [e3]; exact Crc.hstep_lt l2
      have q3 : bits .xor .u32 ((x2 : Int) / 16) (Crc.tab (x2 % 16)) = x3 := (xor_u32 (x2 / 16) (Crc.tab (x2 % 16)) (by omega) (Crc.tab_lt _)).trans (by rw [e3]; rfl)
      have E := Lib.hid (show x3 = Crc.bstep c s[k].toNat by rw [e3, e2, e1]; rfl)
      clear e1 e2 e3
      go_wp2
      go_round
      case rel => exact ⟨k + 1, x3, by omega, by go_num, rfl, by rw [E.out]; exact sumAt_next hc hlt (by have := Hsl.out; subst this; rfl)⟩
      case measure => simp [intOf]; omega
    · go_wp2
      go_ret
      exact ⟨sumAt_end hc (by omega) hk (not_u32 c hcl), rfl⟩

theorem Sum_any (l : List UInt8) (w : World) (hs : l.length ≤ maxLen) (ht : TabAt w) :
    Calls Tryd.prog 21 #[.string (bs l)] w fun e w' => e = .returned (.int .i64 (Crc.sum (nb l))) ∧ w = w' :=
  Sum_bytes (bs l) l rfl w hs ht

end Go.Proofs.YtbcdigkndpjebaaDoor
