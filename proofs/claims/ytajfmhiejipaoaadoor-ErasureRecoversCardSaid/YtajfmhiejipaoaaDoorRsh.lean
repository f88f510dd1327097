/-
  The reference implementation of layer 2: what its functions of SHA-256 return.
-/
import Derived.Test.YtajfmhiejipaoaaDoorBase
import Derived.Test.YtajfmhiejipaoaaDoorSha
namespace Go.Proofs.YtajfmhiejipaoaaDoor
open Go.RowKit Bs

theorem rot_lt (x n : Nat) (hx : x < 4294967296) : Sha.rot x n < 4294967296 := by
  unfold Sha.rot Sha.M
  refine Nat.or_lt_two_pow (n := 32) ?_ ?_
  · exact Nat.lt_of_le_of_lt (Nat.div_le_self _ _) (by omega)
  · exact Nat.mod_lt _ (by omega)

set_option maxHeartbeats 400000 in
theorem rotated_any (x n m : Nat) (w : World) (hx : x < 4294967296) (h1 : 1 ≤ n) (hm : n + m = 32) (h2 : 1 ≤ m) :
    Calls Tryd.prog 91 #[.int .u32 (x : Int), .int .i64 (n : Int)] w fun e w' => e = .returned (.int .u32 (Sha.rot x n : Nat)) ∧ ∃ k, w' = w.drewN k := by
  have hr : bits .or .u32 ((x : Int) / 2 ^ n) ((x : Int) * 2 ^ (32 - n) % 4294967296) = (Sha.rot x n : Nat) := by
    have e1 : ((x : Int) / 2 ^ n) = ((x / 2 ^ n : Nat) : Int) := by simp
    have e2 : ((x : Int) * 2 ^ (32 - n) % 4294967296) = ((x * 2 ^ (32 - n) % Sha.M : Nat) : Int) := by simp [Sha.M]
    rw [e1, e2, or_w (x / 2 ^ n) (x * 2 ^ (32 - n) % Sha.M) (Nat.lt_of_le_of_lt (Nat.div_le_self _ _) hx) (Nat.mod_lt _ (show 0 < Sha.M by decide))]
    rfl
  have hl := rot_lt x n hx
  go_enter Tryd.func91, Tryd.ntmps91
  go_wp2_with fail
  go_region
  go_wp2_with fail
  go_ret
  exact ⟨rfl, 1, rfl⟩
theorem rotated_q (x n m : Nat) (w : World) (q : Nat) (hx : x < 4294967296) (h1 : 1 ≤ n) (hm : n + m = 32) (h2 : 1 ≤ m) :
    Calls Tryd.prog 91 #[.int .u32 (x : Int), .int .i64 (n : Int)] (w.drewN q) fun e w' => e = .returned (.int .u32 (Sha.rot x n : Nat)) ∧ ∃ k, w' = w.drewN k :=
  Calls.quiet_of (rotated_any x n m (w.drewN q) hx h1 hm h2)
/-- the same for whatever the walk turns by whatever amount -/
def rotI (x N : Int) : Int := (Sha.rot x.toNat N.toNat : Nat)
theorem rotI_is (x n r : Nat) (h : Sha.rot x n = r) (N : Int) (hN : N = n) : rotI (x : Int) N = (r : Int) := by
  subst hN h; simp [rotI]
theorem rotated_g (x : Nat) (N : Int) (w : World) (q : Nat) (hx : x < 4294967296) (h : 1 ≤ N ∧ N ≤ 31) :
    Calls Tryd.prog 91 #[.int .u32 (x : Int), .int .i64 N] (w.drewN q) fun e w' => e = .returned (.int .u32 (rotI (x : Int) N)) ∧ ∃ k, w' = w.drewN k := by
  obtain ⟨n, rfl⟩ := Int.eq_ofNat_of_zero_le (show 0 ≤ N by omega)
  rw [rotI_is x n _ rfl _ rfl]
  exact rotated_q x n (32 - n) w q hx (by omega) (by omega) (by omega)
theorem rotI_lt (x n r : Nat) (h : Sha.rot x n = r) (hx : x < 4294967296) : r < 4294967296 := by rw [← h]; exact rot_lt x n hx
theorem rotI_n (x n : Nat) (N : Int) (hN : N = n) : rotI (x : Int) N = ((Sha.rot x n : Nat) : Int) := rotI_is x n _ rfl N hN
theorem s0_w (x : Nat) (hx : x < 4294967296) : bits .xor .u32 (bits .xor .u32 (rotI (x : Int) 7) (rotI (x : Int) 18)) ((x : Int) / 8) = ((Sha.s0 x : Nat) : Int) ∧ Sha.s0 x < 4294967296 := by
  have h1 := rot_lt x 7 hx
  have h2 := rot_lt x 18 hx
  have h3 : Sha.rot x 7 ^^^ Sha.rot x 18 < 4294967296 := Nat.xor_lt_two_pow (n := 32) h1 h2
  have h4 : x / 8 < 4294967296 := by omega
  rw [rotI_n x 7 7 rfl, rotI_n x 18 18 rfl, xor_w _ _ h1 h2, show ((x : Int) / 8) = ((x / 8 : Nat) : Int) by simp, xor_w _ _ h3 h4]
  exact ⟨rfl, Nat.xor_lt_two_pow (n := 32) h3 h4⟩
theorem s1_w (x : Nat) (hx : x < 4294967296) : bits .xor .u32 (bits .xor .u32 (rotI (x : Int) 17) (rotI (x : Int) 19)) ((x : Int) / 1024) = ((Sha.s1 x : Nat) : Int) ∧ Sha.s1 x < 4294967296 := by
  have h1 := rot_lt x 17 hx
  have h2 := rot_lt x 19 hx
  have h3 : Sha.rot x 17 ^^^ Sha.rot x 19 < 4294967296 := Nat.xor_lt_two_pow (n := 32) h1 h2
  have h4 : x / 1024 < 4294967296 := by omega
  rw [rotI_n x 17 17 rfl, rotI_n x 19 19 rfl, xor_w _ _ h1 h2, show ((x : Int) / 1024) = ((x / 1024 : Nat) : Int) by simp, xor_w _ _ h3 h4]
  exact ⟨rfl, Nat.xor_lt_two_pow (n := 32) h3 h4⟩
theorem e_w (x i j k : Nat) (I J K : Int) (hI : I = i) (hJ : J = j) (hK : K = k) (hx : x < 4294967296) : bits .xor .u32 (bits .xor .u32 (rotI (x : Int) I) (rotI (x : Int) J)) (rotI (x : Int) K) = ((Sha.rot x i ^^^ Sha.rot x j ^^^ Sha.rot x k : Nat) : Int) ∧ Sha.rot x i ^^^ Sha.rot x j ^^^ Sha.rot x k < 4294967296 := by
  have h1 := rot_lt x i hx
  have h2 := rot_lt x j hx
  have h4 := rot_lt x k hx
  have h3 : Sha.rot x i ^^^ Sha.rot x j < 4294967296 := Nat.xor_lt_two_pow (n := 32) h1 h2
  rw [rotI_n x i I hI, rotI_n x j J hJ, rotI_n x k K hK, xor_w _ _ h1 h2, xor_w _ _ h3 h4]
  exact ⟨rfl, Nat.xor_lt_two_pow (n := 32) h3 h4⟩
theorem not_nat (c : Nat) (h : c < 4294967296) : 4294967295 ^^^ c = 4294967295 - c := by
  apply Nat.eq_of_testBit_eq
  intro i
  have h1 := Nat.testBit_two_pow_sub_succ (n := 32) h i
  have h2 := Nat.testBit_two_pow_sub_one 32 i
  rw [show (2 : Nat) ^ 32 - 1 = 4294967295 from rfl] at h2
  rw [show (2 : Nat) ^ 32 - (c + 1) = 4294967295 - c from by omega] at h1
  rw [Nat.testBit_xor, h1, h2]
  rcases Nat.lt_or_ge i 32 with hi | hi
  · simp [hi]
  · rw [Nat.testBit_lt_two_pow (show c < 2 ^ i from Nat.lt_of_lt_of_le h (show 4294967296 ≤ 2 ^ i from Nat.pow_le_pow_right (n := 2) (by omega) hi))]
    simp [Nat.not_lt.2 hi]
theorem ch_w (e f g : Nat) (he : e < 4294967296) (hf : f < 4294967296) (hg : g < 4294967296) :
    bits .xor .u32 (bits .and .u32 (e : Int) (f : Int)) (bits .and .u32 (bits .xor .u32 (if IntKind.u32.signed = true then -1 else IntKind.u32.max) (e : Int)) (g : Int)) = ((Sha.ch e f g : Nat) : Int) ∧ Sha.ch e f g < 4294967296 := by
  have h1 : e &&& f < 4294967296 := Nat.and_lt_two_pow e (n := 32) hf
  have h2 : 4294967295 - e < 4294967296 := by omega
  have h3 : (4294967295 - e) &&& g < 4294967296 := Nat.and_lt_two_pow _ (n := 32) hg
  rw [show (if IntKind.u32.signed = true then (-1 : Int) else IntKind.u32.max) = ((4294967295 : Nat) : Int) from rfl, xor_w 4294967295 e (by omega) he, not_nat e he, and_w _ _ he hf, and_w _ _ h2 hg, xor_w _ _ h1 h3]
  exact ⟨rfl, Nat.xor_lt_two_pow (n := 32) h1 h3⟩
theorem maj_w (a b c : Nat) (ha : a < 4294967296) (hb : b < 4294967296) (hc : c < 4294967296) :
    bits .xor .u32 (bits .xor .u32 (bits .and .u32 (a : Int) (b : Int)) (bits .and .u32 (a : Int) (c : Int))) (bits .and .u32 (b : Int) (c : Int)) = ((Sha.maj a b c : Nat) : Int) ∧ Sha.maj a b c < 4294967296 := by
  have h1 : a &&& b < 4294967296 := Nat.and_lt_two_pow a (n := 32) hb
  have h2 : a &&& c < 4294967296 := Nat.and_lt_two_pow a (n := 32) hc
  have h3 : b &&& c < 4294967296 := Nat.and_lt_two_pow b (n := 32) hc
  have h4 : (a &&& b) ^^^ (a &&& c) < 4294967296 := Nat.xor_lt_two_pow (n := 32) h1 h2
  rw [and_w _ _ ha hb, and_w _ _ ha hc, and_w _ _ hb hc, xor_w _ _ h1 h2, xor_w _ _ h4 h3]
  exact ⟨rfl, Nat.xor_lt_two_pow (n := 32) h4 h3⟩
theorem sum2_w (a b : Nat) : IntKind.u32.wrap ((a : Int) + b) = (((a + b) % 4294967296 : Nat) : Int) := by
  simp only [IntKind.wrap_u32]; omega
theorem sum4_w (a b c d : Nat) : IntKind.u32.wrap (IntKind.u32.wrap (IntKind.u32.wrap ((a : Int) + b) + c) + d) = (((a + b + c + d) % 4294967296 : Nat) : Int) := by
  simp only [IntKind.wrap_u32]; omega

theorem Tryd.infoU32 : (Tryd.prog.info? 95).map (fun i => (i.zero, i.size, i.bytes)) = some (some (.int .u32 0), 1, 4) := by kernel_rfl
theorem Tryd.infoU8 : (Tryd.prog.info? 5).map (fun i => (i.zero, i.size, i.bytes)) = some (some (.int .u8 0), 1, 1) := by kernel_rfl

set_option maxRecDepth 100000 in
set_option maxHeartbeats 1000000 in
theorem extended_s (s : ByteArray) (l : List UInt8) (hsl : s.data.toList = l) (w : World) (hl : l.length ≤ 1000000) :
    Calls Tryd.prog 75 #[.string s] w fun e w' => ∃ v, e = .returned v ∧ Own w' w.heap.size 5 .u8 v (Sha.pad (nb l)) ∧ Below w.heap.size w w' := by
  have hz : s.size = l.length := by rw [← hsl]; rfl
  have Hsl := Lib.hid hsl
  clear hsl
  obtain ⟨i0, hi, hz0, hz1, hz2⟩ := info_parts Tryd.infoU8
  go_enter Tryd.func75, Tryd.ntmps75
  go_wp2_with fail
  go_loopw [3, 4] (fun v i wr => ∃ j : Nat, j ≤ l.length ∧ i = .int .i64 j ∧ Own wr w.heap.size 5 .u8 v ((nb l).take j) ∧ Below w.heap.size w wr) (fun _ i _ => l.length - (intOf i).toNat)
  case atStart => exact ⟨0, by omega, rfl, Own.nil _ _ _ _, Below.refl _ _⟩
  case round =>
    obtain ⟨j, hj, rfl, hown, hw⟩ := hrel
    have hs := hw.size
    have hlen : ((nb l).take j).length = j := by rw [List.length_take, nb_length]; omega
    rcases Nat.lt_or_ge j l.length with hjl | hjl
    · have Hlen := Lib.hid hlen
      clear hlen
      go_wp2_with (at_builtin; refine wpList_push rfl _ _ 48 rfl w.heap.size 5 i0 (.int .u8 0) 1 Tryd.underlying48 hi hz0 hz1 hz2 rfl (by omega) .u8 _ ((nb l).take j) rfl (hown.alloc _) ⟨wr.heap.size, 0, none⟩ 1 s[j].toNat rfl ?c1 ?c2 ?c3 ?_)
      case c1 => simp [Addr.add]
      case c2 => rw [Hlen.out]; omega
      case c3 => simp; omega
      intro v' w1 hown' hb
      have hnx : (nb l).take j ++ [s[j].toNat] = (nb l).take (j + 1) := by
        rw [List.take_succ_eq_append_getElem (by rw [nb_length]; exact hjl)]
        have := Hsl.out; subst this; simp [nb]; rfl
      rw [hnx] at hown'
      have Hown := Lib.hid hown'
      clear hown hown' hnx Hlen
      go_wp2_with fail
      go_roundw
      case rel => exact ⟨j + 1, by omega, by go_num, Hown.out, (hw.alloc hs _).trans hb⟩
      case measure => simp [intOf]; omega
    · obtain rfl : l.length = j := by omega
      rw [List.take_of_length_le (by rw [nb_length]; omega)] at hown
      go_wp2_with (at_builtin; refine wpList_push rfl _ _ 48 rfl w.heap.size 5 i0 (.int .u8 0) 1 Tryd.underlying48 hi hz0 hz1 hz2 rfl (by omega) .u8 _ (nb l) rfl (hown.alloc _) ⟨wr.heap.size, 0, none⟩ 1 128 rfl ?c1 ?c2 ?c3 ?_)
      case c1 => simp [Addr.add]
      case c2 => rw [nb_length]; omega
      case c3 => simp; omega
      intro v1 w1 hown1 hb1
      have hw1 : Below w.heap.size w w1 := (hw.alloc hs _).trans hb1
      clear hown hb1 hw hs hlen
      go_wp2_with fail
      go_loopw [3] (fun v wr => ∃ z : Nat, z ≤ Sha.zeros l.length ∧ Own wr w.heap.size 5 .u8 v (nb l ++ [128] ++ List.replicate z 0) ∧ Below w.heap.size w wr) (fun v _ => l.length + 65 - lenOf v)
      case atStart => exact ⟨0, by omega, by simpa using hown1, hw1⟩
      case round =>
        obtain ⟨z, hzz, hown, hw⟩ := hrel
        have hs := hw.size
        have hlen : (nb l ++ [128] ++ List.replicate z 0).length = l.length + 1 + z := by simp [nb_length]; omega
        obtain ⟨g, cap, rfl⟩ := hown.shape hlen (by omega)
        unfold Sha.zeros at hzz
        obtain ⟨L, hL⟩ : ∃ L, nb l ++ [128] ++ List.replicate z 0 = L := ⟨_, rfl⟩
        rw [hL] at hown hlen
        have HL := Lib.hid hL
        have Hlen := Lib.hid hlen
        clear hL hlen
        by_cases hc : (l.length + 1 + z) % 64 = 56
        · have hb : (((l.length : Int) + 1 + z) % 64 != 56) = false := by rw [bne_eq_false_iff_eq]; omega
          have hzz2 : z = Sha.zeros l.length := by unfold Sha.zeros; omega
          have Hz := Lib.hid hzz2
          clear hzz2 hc
          go_wp2_with fail
          go_loopw [3, 5] (fun v i wr => ∃ j : Nat, j ≤ 8 ∧ i = .int .i64 (7 - (j : Int)) ∧ Own wr w.heap.size 5 .u8 v (L ++ (Sha.be8 (8 * l.length)).take j) ∧ Below w.heap.size w wr) (fun _ i _ => (intOf i + 1).toNat)
          case atStart => exact ⟨0, by omega, rfl, by simpa using hown, hw⟩
          case round =>
            clear hown hw hs
            obtain ⟨j, hj, rfl, hown, hw⟩ := hrel
            have hs := hw.size
            have hl8 : (Sha.be8 (8 * l.length)).length = 8 := by simp [Sha.be8]
            rcases Nat.lt_or_ge j 8 with hj8 | hj8
            · obtain ⟨m, hm, hm7⟩ : ∃ m, j = 7 - m ∧ m ≤ 7 := ⟨7 - j, by omega, by omega⟩
              have hi5 : (7 - (j : Int)) = (m : Int) := by omega
              have hm8 : 7 - j = m := by omega
              have hnx : L ++ (Sha.be8 (8 * l.length)).take j ++ [8 * l.length / 2 ^ (8 * m) % 256] = L ++ (Sha.be8 (8 * l.length)).take (j + 1) := by
                rw [List.append_assoc, List.take_succ_eq_append_getElem (by omega)]
                simp [Sha.be8, hm8]
              have hlj : (L ++ (Sha.be8 (8 * l.length)).take j).length ≤ 2000000 := by
                rw [List.length_append, List.length_take, Hlen.out]; omega
              rw [hi5]
              obtain ⟨Lj, hLj⟩ : ∃ Lj, Lj = L ++ (Sha.be8 (8 * l.length)).take j := ⟨_, rfl⟩
              rw [← hLj] at hown hlj hnx
              have Hm := Lib.hid (show m + j = 7 by omega)
              have Hnx := Lib.hid hnx
              clear hnx hl8 hm hm8 hLj hi5
              go_wp2_with (at_builtin; refine wpList_push rfl _ _ 48 rfl w.heap.size 5 i0 (.int .u8 0) 1 Tryd.underlying48 hi hz0 hz1 hz2 rfl (by omega) .u8 _ Lj rfl (hown.alloc _) ⟨wr.heap.size, 0, none⟩ 1 (8 * l.length / 2 ^ (8 * m) % 256) rfl ?c1 hlj ?c3 ?_)
              case c1 => simp [Addr.add]
              case c3 => simp; omega
              intro v' w2 hown2 hb2
              rw [Hnx.out] at hown2
              have Hown2 := Lib.hid hown2
              clear hown2 hown
              go_wp2_with fail
              go_roundw
              case rel => exact ⟨j + 1, by omega, by have := Hm.out; congr 1; omega, Hown2.out, (hw.alloc hs _).trans hb2⟩
              case measure => simp [intOf]
            · obtain rfl : j = 8 := by omega
              have hi5 : (7 - ((8 : Nat) : Int)) = -1 := by omega
              rw [hi5]
              go_wp2_with fail
              go_ret
              refine ⟨_, rfl, ?_, hw⟩
              rw [List.take_of_length_le (by omega)] at hown
              have hp : L ++ Sha.be8 (8 * l.length) = Sha.pad (nb l) := by
                rw [← HL.out, Hz.out]; simp [Sha.pad, nb_length]
              rw [hp] at hown
              exact hown
        · have hb : (((l.length : Int) + 1 + z) % 64 != 56) = true := by rw [bne_iff_ne]; omega
          have hzz2 : z + 1 ≤ (119 - l.length % 64) % 64 := by omega
          clear hc
          go_wp2_with (at_builtin; refine wpList_push rfl _ _ 48 rfl w.heap.size 5 i0 (.int .u8 0) 1 Tryd.underlying48 hi hz0 hz1 hz2 rfl (by omega) .u8 _ L rfl (hown.alloc _) ⟨wr.heap.size, 0, none⟩ 1 0 rfl ?c1 ?c2 ?c3 ?_)
          case c1 => simp [Addr.add]
          case c2 => rw [Hlen.out]; omega
          case c3 => simp; omega
          intro v' w2 hown2 hb2
          go_wp2_with fail
          go_roundw
          case rel => exact ⟨z + 1, hzz2, by rw [List.replicate_succ', ← List.append_assoc, HL.out]; exact hown2, (hw.alloc hs _).trans hb2⟩
          case measure => rw [hown2.len]; simp [lenOf, Hlen.out]; omega
theorem extended_any (l : List UInt8) (w : World) (hl : l.length ≤ 1000000) :
    Calls Tryd.prog 75 #[.string (bs l)] w fun e w' => ∃ v, e = .returned v ∧ Own w' w.heap.size 5 .u8 v (Sha.pad (nb l)) ∧ Below w.heap.size w w' :=
  extended_s (bs l) l rfl w hl

end Go.Proofs.YtajfmhiejipaoaaDoor
