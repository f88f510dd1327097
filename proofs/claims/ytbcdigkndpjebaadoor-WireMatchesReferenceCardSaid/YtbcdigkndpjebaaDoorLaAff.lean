/-
  The law WireSumAffine: the checksum is affine, and the walk.
-/
import Derived.Test.YtbcdigkndpjebaaDoorLaMath
import Derived.RegionTactic
import Derived.ChangeAlike
import Derived.Deep.QuietTactic
import Derived.BigQuiet
namespace Go.Proofs.YtbcdigkndpjebaaDoor
open Go.RowKit

/-! bytes in memory -/
def u8s (l : List UInt8) : Array Value := (l.map (fun b => Value.int .u8 (b.toNat : Int))).toArray
structure Bytes (B : Nat) (l : List UInt8) (W : World) : Prop where
  row : W.heap[B]? = some (.cells (u8s l) 5 (0, 0))
theorem Bytes.cell {B : Nat} {l : List UInt8} {W : World} (h : Bytes B l W) (i : Nat) (hi : i < l.length) : W.cell? ⟨B, i, none⟩ = some (.int .u8 (l[i].toNat : Int)) := by
  rw [cell_of_row W B _ _ _ _ h.row]; simp [u8s, hi]
theorem Bytes.frozen {B : Nat} {l : List UInt8} {W : World} (h : Bytes B l W) (i : Nat) : W.frozen? ⟨B, i, none⟩ = false := frozen_of_row W B i _ _ h.row
theorem Bytes.set {B : Nat} {l : List UInt8} {W : World} (h : Bytes B l W) (i : Nat) (x : UInt8) : Bytes B (l.set i x) (W.setCell ⟨B, i, none⟩ (.int .u8 (x.toNat : Int))) := by
  refine ⟨?_⟩
  rw [heap_setCell_same W B i _ _ _ h.row]
  simp [u8s, List.map_set]
theorem Bytes.drew {B : Nat} {l : List UInt8} {W : World} (h : Bytes B l W) : Bytes B l W.drew := ⟨h.row⟩
theorem Bytes.below {B n : Nat} {l : List UInt8} {W W' : World} (h : Bytes B l W) (hb : Below n W W') (hn : B < n) : Bytes B l W' := ⟨(hb.block B hn).trans h.row⟩
theorem Bytes.string {B : Nat} {l : List UInt8} {W : World} (h : Bytes B l W) (c : Nat) : (convert 38 9 (.slice (some ⟨B, 0, none⟩) l.length c)).run Tryd.prog W = .ok (.string (bs l)) W := by
  rw [run_convert_bytes_arg W 38 5 Tryd.underlying38 Tryd.underlying5 B 0 l.length c (l.map (fun b => (b.toNat : Int))) (by simp) (fun i hi => by
    rw [Nat.zero_add, h.cell i hi]; simp [hi]) 9 Tryd.underlying9, strOfNums_bytes]
  rfl
theorem zerosRow (n : Nat) : madeCells (Value.int .u8 0).cells (n * 1) = u8s (List.replicate n 0) := by
  unfold madeCells u8s
  apply Array.ext
  · simp
  · intro i h1 h2
    simp [Value.cells, Nat.mod_one]
theorem Tryd.infoU8 : (Tryd.prog.info? 5).map (fun i => (i.zero, i.size, i.bytes)) = some (some (.int .u8 0), 1, 1) := by kernel_rfl
theorem make_bytes (n : Nat) (hn : n ≤ 1000000) (W : World) :
    (Instr.makeSlice 38 (.int .i64 (n : Int)) (.int .i64 (n : Int))).run Tryd.prog W = .ok (.slice (some ⟨W.heap.size, 0, none⟩) n n) (W.alloc (.cells (u8s (List.replicate n 0)) 5)) := by
  obtain ⟨i0, hi, hz0, hz1, hz2⟩ := info_parts Tryd.infoU8
  have := run_make (P := Tryd.prog) W 38 5 i0 (.int .u8 0) Tryd.underlying38 hi hz0 .i64 .i64 (n : Int) (n : Int) (by omega) (by omega) (by rw [hz2]; omega) (by omega)
  rw [hz1] at this
  simpa only [Int.toNat_natCast, zerosRow] using this
theorem Bytes.made (n : Nat) (W : World) : Bytes W.heap.size (List.replicate n 0) (W.alloc (.cells (u8s (List.replicate n 0)) 5)) := ⟨heap_alloc_new _ _⟩

theorem sum_xor (l : List UInt8) : Crc.sum (nb l) = 4294967295 ^^^ Crc.crc 4294967295 (nb l) := by
  unfold Crc.sum
  rw [not_nat _ (Crc.crc_lt (by omega) (nb_lt l))]
/-- the checksum of the sum of three lists -/
theorem sum_affine (a b c : List UInt8) (h1 : a.length = b.length) (h2 : b.length = c.length) :
    Crc.sum (nb (List.zipWith (· ^^^ ·) (List.zipWith (· ^^^ ·) a b) c)) = Crc.sum (nb a) ^^^ Crc.sum (nb b) ^^^ Crc.sum (nb c) := by
  have hz : ∀ x y : List UInt8, nb (List.zipWith (· ^^^ ·) x y) = List.zipWith (· ^^^ ·) (nb x) (nb y) := by
    intro x y
    unfold nb
    rw [List.map_zipWith, List.zipWith_map]
    simp
  rw [sum_xor, sum_xor, sum_xor, sum_xor, hz, hz]
  have hF : (4294967295 : Nat) = (4294967295 ^^^ 4294967295) ^^^ 4294967295 := by decide
  conv => lhs; arg 2; arg 1; rw [hF]
  rw [Crc.crc_xor _ _ _ _ (by simp [nb]; omega), Crc.crc_xor _ _ _ _ (by simp [nb]; omega)]
  conv => lhs; arg 1; rw [hF]
  rw [Crc.xor4 4294967295 (Crc.crc 4294967295 (nb a)) 4294967295 (Crc.crc 4294967295 (nb b)), Crc.xor4 (4294967295 ^^^ 4294967295)]

theorem min4_run {P : Program} (a b c k n : Nat) (h : n = min (min (min a b) c) k) (K : Int) (hK : K = k) (w : World) (ts : Array TypeId) (ty : TypeId) :
    (Builtin.min_ ts ty #[.int .i64 (a : Int), .int .i64 (b : Int), .int .i64 (c : Int), .int .i64 K]).run P w = .ok (.int .i64 (n : Int)) w := by
  subst hK
  have e : (if (k : Int) < (if (c : Int) < (if (b : Int) < a then (b : Int) else a) then (c : Int) else (if (b : Int) < a then (b : Int) else a)) then (k : Int) else (if (c : Int) < (if (b : Int) < a then (b : Int) else a) then (c : Int) else (if (b : Int) < a then (b : Int) else a))) = (n : Int) := by
    subst h; split <;> split <;> split <;> omega
  rw [← e]
  simp [Builtin.min_, Builtin.min2]
theorem u8_xor_b (x y : UInt8) : bits .xor .u8 (x.toNat : Int) (y.toNat : Int) = ((x ^^^ y).toNat : Int) := by
  rw [u8_xor_nat _ _ x.toNat_lt y.toNat_lt, UInt8.toNat_xor]
theorem xor_i64 (a b : Nat) (ha : a < 4294967296) (hb : b < 4294967296) : bits .xor .i64 (a : Int) (b : Int) = ((a ^^^ b : Nat) : Int) := by
  have hx : a ^^^ b < 2 ^ 32 := Nat.xor_lt_two_pow (by omega) (by omega)
  have h1 : (BitVec.ofInt 64 (a : Int)).toNat = a := by
    rw [BitVec.ofInt_natCast, BitVec.toNat_ofNat]; exact Nat.mod_eq_of_lt (by omega)
  have h2 : (BitVec.ofInt 64 (b : Int)).toNat = b := by
    rw [BitVec.ofInt_natCast, BitVec.toNat_ofNat]; exact Nat.mod_eq_of_lt (by omega)
  show IntKind.i64.wrap ((BitVec.ofInt 64 (a : Int) ^^^ BitVec.ofInt 64 (b : Int)).toNat : Int) = _
  rw [BitVec.toNat_xor, h1, h2, IntKind.wrap_i64]
  omega
theorem sum_lt (l : List UInt8) : Crc.sum (nb l) < 4294967296 := by
  unfold Crc.sum; omega
theorem below_drewN {B : Nat} {a w : World} (h : Below B a w) (n : Nat) : Below B a (w.drewN n) := ⟨h.os, h.tape, h.output, h.size, h.block⟩
/-- Sum among reads whose order Go leaves open -/
theorem Sum_q (l : List UInt8) (w : World) (n : Nat) (hs : l.length ≤ maxLen) (ht : TabAt w) :
    Calls Tryd.prog 21 #[.string (bs l)] (w.drewN n) fun e w' => e = .returned (.int .i64 (Crc.sum (nb l))) ∧ ∃ m, w' = w.drewN m :=
  Calls.quiet_of_same ((Sum_any l (w.drewN n) hs ht).mono fun _ _ ⟨he, hw⟩ => ⟨he, hw.symm⟩)
/-- the sum of the first i bytes of three lists, zeros behind -/
def xorTo (a b c : List UInt8) (n i : Nat) : List UInt8 := (List.zipWith (· ^^^ ·) (List.zipWith (· ^^^ ·) a b) c).take i ++ List.replicate (n - i) 0
theorem xorTo_length (a b c : List UInt8) (n i : Nat) (ha : a.length = n) (hb : b.length = n) (hc : c.length = n) (hi : i ≤ n) : (xorTo a b c n i).length = n := by
  simp [xorTo]; omega
theorem xorTo_next (a b c : List UInt8) (n i : Nat) (ha : a.length = n) (hb : b.length = n) (hc : c.length = n) (hi : i < n) :
    (xorTo a b c n i).set i (a[i] ^^^ b[i] ^^^ c[i]) = xorTo a b c n (i + 1) := by
  unfold xorTo
  have hl : ((List.zipWith (· ^^^ ·) (List.zipWith (· ^^^ ·) a b) c).take i).length = i := by simp; omega
  rw [List.set_append_right _ _ (by omega), hl, Nat.sub_self, show n - i = (n - (i + 1)) + 1 from by omega, List.replicate_succ, List.set_cons_zero,
    List.take_succ_eq_append_getElem (by simp; omega)]
  simp

set_option maxRecDepth 100000 in
set_option maxHeartbeats 1000000 in
theorem Affine_any (s0 s1 s2 : ByteArray) (w : World) (h : TabAt w) (z0 : s0.size ≤ maxLen) (z1 : s1.size ≤ maxLen) (z2 : s2.size ≤ maxLen) :
    Calls Tryd.prog 9 #[.string s0, .string s1, .string s2] w fun e w' => e = .returned (.bool true) ∧ Below w.heap.size w w' := by
  unfold maxLen at z0 z1 z2
  obtain ⟨n, hn⟩ : ∃ n : Nat, n = min (min (min s0.size s1.size) s2.size) 200 := ⟨_, rfl⟩
  have hmin : ∀ (w : World) (ts : Array TypeId) (ty : TypeId), (Builtin.min_ ts ty #[.int .i64 (s0.size : Int), .int .i64 (s1.size : Int), .int .i64 (s2.size : Int), .int .i64 200]).run Tryd.prog w = .ok (.int .i64 (n : Int)) w :=
    fun w ts ty => min4_run _ _ _ 200 n hn 200 rfl w ts ty
  have n0 : n ≤ s0.size := by omega
  have n1 : n ≤ s1.size := by omega
  have n2 : n ≤ s2.size := by omega
  have n3 : n ≤ 200 := by omega
  clear hn
  have hmk := make_bytes n (by omega)
  go_enter Tryd.func9, Tryd.ntmps9
  go_wp2_with fail
  refine (sane_any _ h).mono ?_
  rintro e w1 ⟨rfl, b1⟩
  go_wp2_with fail
  obtain ⟨B, hB⟩ : ∃ B, B = w1.heap.size := ⟨_, rfl⟩
  have q0 := Bytes.made n w1
  have q1 : Below w.heap.size w (w1.alloc (.cells (u8s (List.replicate n 0)) 5)) := b1.alloc b1.size _
  have q2 : w.heap.size ≤ B := by rw [hB]; exact b1.size
  have q3 : B < (w1.alloc (.cells (u8s (List.replicate n 0)) 5)).heap.size := by rw [hB]; simp
  rw [← hB] at q0 ⊢
  generalize w1.alloc (.cells (u8s (List.replicate n 0)) 5) = W2 at *
  clear hB hmk hmin b1
  obtain ⟨a, Ea⟩ : ∃ a, Hid (a = s0.data.toList.take n) := ⟨_, Lib.hid rfl⟩
  obtain ⟨b, Eb⟩ : ∃ b, Hid (b = s1.data.toList.take n) := ⟨_, Lib.hid rfl⟩
  obtain ⟨c, Ec⟩ : ∃ c, Hid (c = s2.data.toList.take n) := ⟨_, Lib.hid rfl⟩
  have La : Hid (a.length = n) := Lib.hid (by rw [Ea.out, List.length_take]; have : s0.data.toList.length = s0.size := rfl; omega)
  have Lb : Hid (b.length = n) := Lib.hid (by rw [Eb.out, List.length_take]; have : s1.data.toList.length = s1.size := rfl; omega)
  have Lc : Hid (c.length = n) := Lib.hid (by rw [Ec.out, List.length_take]; have : s2.data.toList.length = s2.size := rfl; omega)
  go_loopw [10] (fun i wr => ∃ j : Nat, j ≤ n ∧ i = .int .i64 j ∧ Bytes B (xorTo a b c n j) wr ∧ Below w.heap.size w wr) (fun i _ => n - (intOf i).toNat)
  case atStart => exact ⟨0, by omega, rfl, by simpa [xorTo] using q0, q1⟩
  case round =>
    obtain ⟨j, hj, rfl, hX, hw⟩ := hrel
    rcases Nat.lt_or_ge j n with hjn | hjn
    · have i0 : j < s0.size := by omega
      have i1 : j < s1.size := by omega
      have i2 : j < s2.size := by omega
      have e1 := u8_xor_b (s0[j]'i0) (s1[j]'i1)
      have e2 := u8_xor_b (s0[j]'i0 ^^^ s1[j]'i1) (s2[j]'i2)
      obtain ⟨Y1, hY1⟩ : ∃ y : Nat, y = (s0[j]'i0 ^^^ s1[j]'i1).toNat := ⟨_, rfl⟩
      obtain ⟨Y2, hY2⟩ : ∃ y : UInt8, y = s0[j]'i0 ^^^ s1[j]'i1 ^^^ s2[j]'i2 := ⟨_, rfl⟩
      rw [← hY1] at e1 e2
      rw [← hY2] at e2
      obtain ⟨v, k1⟩ : ∃ v : Int, wr.cell? ⟨B, j, none⟩ = some (.int .u8 v) := ⟨_, hX.cell j (by rw [xorTo_length _ _ _ n j La.out Lb.out Lc.out hj]; exact hjn)⟩
      have k2 := hX.frozen j
      have hnx := xorTo_next a b c n j La.out Lb.out Lc.out hjn
      have ga : a[j]'(by rw [La.out]; exact hjn) = s0[j]'i0 := by simp only [Ea.out, List.getElem_take]; rfl
      have gb : b[j]'(by rw [Lb.out]; exact hjn) = s1[j]'i1 := by simp only [Eb.out, List.getElem_take]; rfl
      have gc : c[j]'(by rw [Lc.out]; exact hjn) = s2[j]'i2 := by simp only [Ec.out, List.getElem_take]; rfl
      rw [ga, gb, gc, ← hY2] at hnx
      clear hY1 hY2
      have Hnx := Lib.hid hnx
      clear hnx ga gb gc
      go_wp2_with fail
      go_region
      go_wp2_with fail
      go_roundw
      case rel => exact ⟨j + 1, by omega, by go_num, by rw [← Hnx.out]; exact (hX.set j _).drew, (hw.setCell (p := ⟨B, j, none⟩) q2 _).drew⟩
      case measure => simp [intOf]; omega
    · obtain rfl : n = j := by omega
      have hL := sum_affine a b c (by rw [La.out, Lb.out]) (by rw [Lb.out, Lc.out])
      have xa : s0.extract 0 n = bs a := by rw [Ea.out]; have := bs_extract s0.data.toList 0 n; rwa [bs_bytes, List.drop_zero, Nat.sub_zero] at this
      have xb : s1.extract 0 n = bs b := by rw [Eb.out]; have := bs_extract s1.data.toList 0 n; rwa [bs_bytes, List.drop_zero, Nat.sub_zero] at this
      have xc : s2.extract 0 n = bs c := by rw [Ec.out]; have := bs_extract s2.data.toList 0 n; rwa [bs_bytes, List.drop_zero, Nat.sub_zero] at this
      have hxl : xorTo a b c n n = List.zipWith (· ^^^ ·) (List.zipWith (· ^^^ ·) a b) c := by
        unfold xorTo
        rw [List.take_of_length_le (by simp [La.out, Lb.out, Lc.out]), Nat.sub_self]; simp
      rw [hxl] at hX
      obtain ⟨l, El⟩ : ∃ l, l = List.zipWith (· ^^^ ·) (List.zipWith (· ^^^ ·) a b) c := ⟨_, rfl⟩
      rw [← El] at hX hL
      have hll : l.length = n := by rw [El]; simp [La.out, Lb.out, Lc.out]
      have hcv : ∀ nq, (convert 38 9 (.slice (some ⟨B, 0, none⟩) n n)).run Tryd.prog (wr.drewN nq) = .ok (.string (bs l)) (wr.drewN nq) := fun nq => by
        have := Bytes.string (W := wr.drewN nq) ⟨hX.row⟩ n
        rwa [hll] at this
      have hT : TabAt wr := h.below hw
      have lA := sum_lt a
      have lB := sum_lt b
      have lC := sum_lt c
      obtain ⟨A, hA⟩ : ∃ A, Crc.sum (nb a) = A := ⟨_, rfl⟩
      obtain ⟨Bs, hBs⟩ : ∃ A, Crc.sum (nb b) = A := ⟨_, rfl⟩
      obtain ⟨Cs, hCs⟩ : ∃ A, Crc.sum (nb c) = A := ⟨_, rfl⟩
      rw [hA] at lA hL
      rw [hBs] at lB hL
      rw [hCs] at lC hL
      have hx1 := xor_i64 A Bs lA lB
      have hx2 := xor_i64 (A ^^^ Bs) Cs (Crc.xor_lt32 lA lB) lC
      obtain ⟨D, hD⟩ : ∃ D, D = A ^^^ Bs := ⟨_, rfl⟩
      rw [← hD] at hx1 hx2 hL
      obtain ⟨V, hV⟩ : ∃ D', D' = D ^^^ Cs := ⟨_, rfl⟩
      rw [← hV] at hx2 hL
      have ma : a.length ≤ 200 := by have := La.out; omega
      have mb : b.length ≤ 200 := by have := Lb.out; omega
      have mc : c.length ≤ 200 := by have := Lc.out; omega
      have ml : l.length ≤ 200 := by omega
      clear hV hD El hxl hll Ea Eb Ec La Lb Lc lA lB lC
      go_wp2_with fail
      go_quiet ((go_at_call 21; exact Sum_q _ _ _ (by unfold maxLen; omega) hT))
      go_wp2_with fail
      go_ret
      exact ⟨rfl, below_drewN hw _⟩

end Go.Proofs.YtbcdigkndpjebaaDoor
