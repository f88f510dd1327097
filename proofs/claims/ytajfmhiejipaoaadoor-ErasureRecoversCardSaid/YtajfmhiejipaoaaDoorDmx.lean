/-
  Package digest: what becomes of the eight words with a block.
-/
import Derived.Test.YtajfmhiejipaoaaDoorDsc
namespace Go.Proofs.YtajfmhiejipaoaaDoor
open Go.RowKit Bs

/-- the table of the rounds' words -/
def KAt (w : World) : Prop := ∀ i : Nat, i < 64 → w.cell? ⟨0, i, none⟩ = some (.int .u32 (Sha.at_ Sha.K i))
theorem KAt.below {w w' : World} (h : KAt w) (hb : Below w.heap.size w w') : KAt w' := fun i hi => by
  have h0 := block_lt_of_cell (h i hi)
  exact (hb.cell (p := ⟨0, i, none⟩) h0).trans (h i hi)
theorem KAt.pos {w : World} (h : KAt w) : 0 < w.heap.size := block_lt_of_cell (h 0 (by omega))
theorem rnds_length (w h : List Nat) (n : Nat) (hh : h.length = 8) : (Sha.rnds w h n).length = 8 := by
  cases n with
  | zero => exact hh
  | succ n => rfl

set_option maxRecDepth 100000 in
set_option maxHeartbeats 2000000 in
theorem mixed_any (hs0 b : List Nat) (w : World) (hK : KAt w) (hlh : hs0.length = 8) (hh32 : ∀ x ∈ hs0, x < 4294967296) (hlb : b.length = 64) (hb8 : ∀ x ∈ b, x < 256) :
    Calls Tryd.prog 94 #[.agg (iv .u32 hs0).toArray, .agg (iv .u8 b).toArray] w fun e w' => e = .returned (.agg (iv .u32 (Sha.block hs0 b)).toArray) ∧ Below w.heap.size w w' := by
  obtain ⟨R, hR⟩ : ∃ R, R = Sha.block hs0 b := ⟨_, rfl⟩
  rw [← hR]
  have HR := Lib.hid hR
  clear hR
  go_enter Tryd.func94, Tryd.ntmps94
  go_upto_region 1 with fail
  refine wp_world fun W hW => ?_
  have hA1 : Arr W w.heap.size 123 .u32 hs0 := by rw [hW]; exact ((Arr.new w _ _ _).alloc _).alloc _
  have hA2 : Arr W (w.heap.size + 1) 127 .u8 b := by rw [hW]; refine Arr.alloc ?_ _; exact ⟨heap_alloc2_new _ _ _⟩
  have hA3 : Arr W (w.heap.size + 1 + 1) 123 .u32 (List.replicate 8 0) := by rw [hW]; have := heap_alloc_new ((w.alloc (.cells (iv .u32 hs0).toArray 123)).alloc (.cells (iv .u8 b).toArray 127)) (.cells (iv .u32 (List.replicate 8 0)).toArray 123); simp only [World.size_alloc] at this; exact ⟨this⟩
  have hB : Below w.heap.size w W := by rw [hW]; exact (((Below.refl _ w).alloc (Nat.le_refl _) _).alloc (by simp) _).alloc (by simp; omega) _
  have hK1 := hK.below hB
  clear hW
  go_step
  refine wpList_load_row rfl 127 _ rfl (w.heap.size + 1) rfl 127 _ _ _ hA2.row Tryd.underlying127 rfl ?g1 ?_
  case g1 => rw [iv_size, hlb]; kernel_rfl
  go_wp2_with fail
  refine (schedule_any b _ hlb hb8).mono ?_
  rintro e w2 ⟨rfl, hb2⟩
  obtain ⟨S, hS⟩ : ∃ S, Sha.sched b = S := ⟨_, rfl⟩
  have HSl := Lib.hid (show S.length = 64 by rw [← hS]; exact sched_len b)
  have hS32 : ∀ x ∈ S, x < 4294967296 := by rw [← hS]; exact grow_lt _ _ (words_lt b hb8)
  rw [hS]
  have HR2 := Lib.hid (show R = Sha.add8 hs0 (Sha.rnds S hs0 64) by rw [HR.out, ← hS]; rfl)
  clear hS HR
  have hA1 := hA1.later hb2
  have hA3 := hA3.later hb2
  have hK2 := hK1.below hb2
  have hB2 := below_on hB hb2 hB.size
  have hs2 := hB2.size
  have hs3 : w.heap.size + 1 + 1 < w2.heap.size := hA3.lt
  clear hA2 hb2 hB hK1
  go_wp2_with (refine wpList_store_row rfl 138 _ _ rfl w2.heap.size _ rfl rfl 138 _ (Arr.new w2 138 .u32 zero64).row ?g2 ?g3 (iv_one _ _) ?_)
  case g2 => rw [iv_size, HSl.out]; kernel_rfl
  case g3 => rw [iv_size, iv_size, HSl.out]; rfl
  refine wp_world fun W3 hW3 => ?_
  have hS : Arr W3 w2.heap.size 138 .u32 S := by rw [hW3]; exact (Arr.new w2 _ .u32 zero64).setRow _
  have hA1 : Arr W3 w.heap.size 123 .u32 hs0 := by rw [hW3]; exact (hA1.alloc _).setRow_other (by have := hA1.lt; omega) _
  have hA3 : Arr W3 (w.heap.size + 1 + 1) 123 .u32 (List.replicate 8 0) := by rw [hW3]; exact (hA3.alloc _).setRow_other (by omega) _
  have hB3 : Below w.heap.size w W3 := by rw [hW3]; exact below_setRow (hB2.alloc hs2 _) hs2 _
  have hK3 : KAt W3 := hK.below hB3
  have hp : 0 < w2.heap.size := hK2.pos
  obtain ⟨g5, hg5⟩ : ∃ g, g = w2.heap.size := ⟨_, rfl⟩
  rw [← hg5] at hS hp hs2 hs3 ⊢
  clear hW3 hB2 hK2 hg5
  have r0 : W3.cell? ⟨w.heap.size, 0, none⟩ = some (.int .u32 (Sha.at_ hs0 0 : Nat)) := hA1.get 0 (by omega)
  have r1 : W3.cell? ⟨w.heap.size, 1, none⟩ = some (.int .u32 (Sha.at_ hs0 1 : Nat)) := hA1.get 1 (by omega)
  have r2 : W3.cell? ⟨w.heap.size, 2, none⟩ = some (.int .u32 (Sha.at_ hs0 2 : Nat)) := hA1.get 2 (by omega)
  have r3 : W3.cell? ⟨w.heap.size, 3, none⟩ = some (.int .u32 (Sha.at_ hs0 3 : Nat)) := hA1.get 3 (by omega)
  have r4 : W3.cell? ⟨w.heap.size, 4, none⟩ = some (.int .u32 (Sha.at_ hs0 4 : Nat)) := hA1.get 4 (by omega)
  have r5 : W3.cell? ⟨w.heap.size, 5, none⟩ = some (.int .u32 (Sha.at_ hs0 5 : Nat)) := hA1.get 5 (by omega)
  have r6 : W3.cell? ⟨w.heap.size, 6, none⟩ = some (.int .u32 (Sha.at_ hs0 6 : Nat)) := hA1.get 6 (by omega)
  have r7 : W3.cell? ⟨w.heap.size, 7, none⟩ = some (.int .u32 (Sha.at_ hs0 7 : Nat)) := hA1.get 7 (by omega)
  go_quiet (fail)
  have r4 : (W3.drewN nq).cell? ⟨w.heap.size, 4, none⟩ = some (.int .u32 (Sha.at_ hs0 4 : Nat)) := r4
  have r5 : (W3.drewN nq).cell? ⟨w.heap.size, 5, none⟩ = some (.int .u32 (Sha.at_ hs0 5 : Nat)) := r5
  have r6 : (W3.drewN nq).cell? ⟨w.heap.size, 6, none⟩ = some (.int .u32 (Sha.at_ hs0 6 : Nat)) := r6
  have r7 : (W3.drewN nq).cell? ⟨w.heap.size, 7, none⟩ = some (.int .u32 (Sha.at_ hs0 7 : Nat)) := r7
  have hA1 := hA1.drewN nq
  have hA3 := hA3.drewN nq
  have hS := hS.drewN nq
  have hB3 := below_drewN hB3 nq
  clear r0 r1 r2 r3
  generalize W3.drewN nq = W4 at *
  go_wp2_with fail
  go_quiet (fail)
  have hA1 := hA1.drewN nq
  have hA3 := hA3.drewN nq
  have hS := hS.drewN nq
  have hB3 := below_drewN hB3 nq
  clear r4 r5 r6 r7
  generalize W4.drewN nq = W5 at *
  go_wp2_with fail
  have hs5 := hB3.size
  go_loopw [6, 7, 8, 9, 10, 11, 12, 13, 37] (fun a b c d e f g h i wr => ∃ n : Nat, n ≤ 64 ∧ i = .int .i64 n ∧ a = .int .u32 (Sha.at_ (Sha.rnds S hs0 n) 0 : Nat) ∧ b = .int .u32 (Sha.at_ (Sha.rnds S hs0 n) 1 : Nat) ∧ c = .int .u32 (Sha.at_ (Sha.rnds S hs0 n) 2 : Nat) ∧ d = .int .u32 (Sha.at_ (Sha.rnds S hs0 n) 3 : Nat) ∧ e = .int .u32 (Sha.at_ (Sha.rnds S hs0 n) 4 : Nat) ∧ f = .int .u32 (Sha.at_ (Sha.rnds S hs0 n) 5 : Nat) ∧ g = .int .u32 (Sha.at_ (Sha.rnds S hs0 n) 6 : Nat) ∧ h = .int .u32 (Sha.at_ (Sha.rnds S hs0 n) 7 : Nat) ∧ Below W5.heap.size W5 wr) (fun _ _ _ _ _ _ _ _ i _ => 64 - (intOf i).toNat)
  case atStart => exact ⟨0, by omega, rfl, rfl, rfl, rfl, rfl, rfl, rfl, rfl, rfl, Below.refl _ _⟩
  case round =>
    obtain ⟨n, hn, rfl, rfl, rfl, rfl, rfl, rfl, rfl, rfl, rfl, hw⟩ := hrel
    obtain ⟨V, hV⟩ : ∃ V, Sha.rnds S hs0 n = V := ⟨_, rfl⟩
    have hV32 : ∀ x ∈ V, x < 4294967296 := by rw [← hV]; exact rnds_lt _ _ _ hh32
    simp only [hV]
    rcases Nat.lt_or_ge n 64 with hn64 | hn64
    · skip
      --[1
      obtain ⟨a0, y0, b0⟩ : ∃ x : Nat, x = Sha.at_ V 0 ∧ x < 4294967296 := ⟨_, rfl, at_lt _ _ hV32⟩
      obtain ⟨a1, y1, b1⟩ : ∃ x : Nat, x = Sha.at_ V 1 ∧ x < 4294967296 := ⟨_, rfl, at_lt _ _ hV32⟩
      obtain ⟨a2, y2, b2⟩ : ∃ x : Nat, x = Sha.at_ V 2 ∧ x < 4294967296 := ⟨_, rfl, at_lt _ _ hV32⟩
      obtain ⟨a3, y3, b3⟩ : ∃ x : Nat, x = Sha.at_ V 3 ∧ x < 4294967296 := ⟨_, rfl, at_lt _ _ hV32⟩
      obtain ⟨a4, y4, b4⟩ : ∃ x : Nat, x = Sha.at_ V 4 ∧ x < 4294967296 := ⟨_, rfl, at_lt _ _ hV32⟩
      obtain ⟨a5, y5, b5⟩ : ∃ x : Nat, x = Sha.at_ V 5 ∧ x < 4294967296 := ⟨_, rfl, at_lt _ _ hV32⟩
      obtain ⟨a6, y6, b6⟩ : ∃ x : Nat, x = Sha.at_ V 6 ∧ x < 4294967296 := ⟨_, rfl, at_lt _ _ hV32⟩
      obtain ⟨a7, y7, b7⟩ : ∃ x : Nat, x = Sha.at_ V 7 ∧ x < 4294967296 := ⟨_, rfl, at_lt _ _ hV32⟩
      have ck := (hK.below (hB3.trans (hw.mono hs5))) n hn64
      obtain ⟨wx, yw, bw, cw⟩ : ∃ x : Nat, x = Sha.at_ S n ∧ x < 4294967296 ∧ wr.cell? ⟨g5, n, none⟩ = some (.int .u32 x) := ⟨_, rfl, at_lt _ _ hS32, (hS.later hw).get n (by rw [HSl.out]; exact hn64)⟩
      obtain ⟨kx, yk, bk⟩ : ∃ x : Nat, x = Sha.at_ Sha.K n ∧ x < 4294967296 := ⟨_, rfl, at_lt _ _ (by decide)⟩
      have HV := Lib.hid (show Sha.rnd V kx wx = Sha.rnds S hs0 (n + 1) by rw [yk, yw, ← hV]; rfl)
      have HR := Lib.hid (show Sha.rnd V kx wx = [(Sha.t1 V kx wx + Sha.t2 V) % 4294967296, a0, a1, a2, (a3 + Sha.t1 V kx wx) % 4294967296, a4, a5, a6] by rw [y0, y1, y2, y3, y4, y5, y6]; rfl)
      have HY := Lib.hid (show Sha.t1 V kx wx = (a7 + (Sha.rot a4 6 ^^^ Sha.rot a4 11 ^^^ Sha.rot a4 25) + Sha.ch a4 a5 a6 + kx + wx) % 4294967296 ∧ Sha.t2 V = ((Sha.rot a0 2 ^^^ Sha.rot a0 13 ^^^ Sha.rot a0 22) + Sha.maj a0 a1 a2) % 4294967296 by
        rw [y0, y1, y2, y4, y5, y6, y7]; exact ⟨rfl, rfl⟩)
      rw [← yk] at ck
      rw [← y0, ← y1, ← y2, ← y3, ← y4, ← y5, ← y6, ← y7]
      clear hV hV32 yk yw y0 y1 y2 y3 y4 y5 y6 y7
      obtain ⟨X1, x1⟩ := e_w a4 6 11 25 6 11 25 rfl rfl rfl b4
      obtain ⟨X2, x2⟩ := ch_w a4 a5 a6 b4 b5 b6
      obtain ⟨X3, x3⟩ := e_w a0 2 13 22 2 13 22 rfl rfl rfl b0
      obtain ⟨X4, x4⟩ := maj_w a0 a1 a2 b0 b1 b2
      obtain ⟨z1, hz1⟩ : ∃ z, Sha.rot a4 6 ^^^ Sha.rot a4 11 ^^^ Sha.rot a4 25 = z := ⟨_, rfl⟩
      obtain ⟨z2, hz2'⟩ : ∃ z, Sha.ch a4 a5 a6 = z := ⟨_, rfl⟩
      obtain ⟨z3, hz3⟩ : ∃ z, Sha.rot a0 2 ^^^ Sha.rot a0 13 ^^^ Sha.rot a0 22 = z := ⟨_, rfl⟩
      obtain ⟨z4, hz4⟩ : ∃ z, Sha.maj a0 a1 a2 = z := ⟨_, rfl⟩
      rw [hz1] at X1 x1 HY
      rw [hz2'] at X2 x2 HY
      rw [hz3] at X3 x3 HY
      rw [hz4] at X4 x4 HY
      clear hz1 hz2' hz3 hz4
      go_wp2_with (go_at_call 105; refine (right_g _ _ _ (by omega) (by omega)).mono ?_; rintro e w' ⟨rfl, rfl⟩)
      go_quiet (fail)
      obtain ⟨t, ht⟩ : ∃ t, (a7 + z1 + z2 + kx + wx) % 4294967296 = t := ⟨_, rfl⟩
      rw [ht] at HY
      rw [show (((a7 : Int) + z1 + z2 + kx) % 4294967296 + wx) % 4294967296 = (t : Int) by omega]
      have bt : t < 4294967296 := by omega
      have HL := Lib.hid (show Sha.rnds S hs0 (n + 1) = [(t + (z3 + z4) % 4294967296) % 4294967296, a0, a1, a2, (a3 + t) % 4294967296, a4, a5, a6] by rw [← HV.out, HR.out, HY.out.1, HY.out.2])
      clear ht X1 X2 X3 x1 x2 ck cw HV HR HY
      have hw := below_drewN hw nq
      generalize wr.drewN nq = wr1 at *
      go_wp2_with fail
      go_roundw
      case rel =>
        refine ⟨n + 1, by omega, by go_num, ?_, ?_, ?_, ?_, ?_, ?_, ?_, ?_, hw⟩
        · rw [HL.out]; exact congrArg (Value.int .u32) (by show _ = (((t + (z3 + z4) % 4294967296) % 4294967296 : Nat) : Int); omega)
        · rw [HL.out]; rfl
        · rw [HL.out]; rfl
        · rw [HL.out]; rfl
        · rw [HL.out]; exact congrArg (Value.int .u32) (by show _ = (((a3 + t) % 4294967296 : Nat) : Int); omega)
        · rw [HL.out]; rfl
        · rw [HL.out]; rfl
        · rw [HL.out]; rfl
      case measure => simp [intOf]; omega
      --]1
    · obtain rfl : 64 = n := by omega
      rw [show ((64 : Nat) : Int) = 64 from rfl]
      have hA3 := hA3.later hw
      obtain ⟨v0, y0, b0⟩ : ∃ x : Nat, x = Sha.at_ V 0 ∧ x < 4294967296 := ⟨_, rfl, at_lt _ _ hV32⟩
      obtain ⟨p0, z0, c0, r0⟩ : ∃ x : Nat, x = Sha.at_ hs0 0 ∧ x < 4294967296 ∧ wr.cell? ⟨w.heap.size, 0, none⟩ = some (.int .u32 x) := ⟨_, rfl, at_lt _ _ hh32, (hA1.later hw).get 0 (by omega)⟩
      obtain ⟨v1, y1, b1⟩ : ∃ x : Nat, x = Sha.at_ V 1 ∧ x < 4294967296 := ⟨_, rfl, at_lt _ _ hV32⟩
      obtain ⟨p1, z1, c1, r1⟩ : ∃ x : Nat, x = Sha.at_ hs0 1 ∧ x < 4294967296 ∧ wr.cell? ⟨w.heap.size, 1, none⟩ = some (.int .u32 x) := ⟨_, rfl, at_lt _ _ hh32, (hA1.later hw).get 1 (by omega)⟩
      obtain ⟨v2, y2, b2⟩ : ∃ x : Nat, x = Sha.at_ V 2 ∧ x < 4294967296 := ⟨_, rfl, at_lt _ _ hV32⟩
      obtain ⟨p2, z2, c2, r2⟩ : ∃ x : Nat, x = Sha.at_ hs0 2 ∧ x < 4294967296 ∧ wr.cell? ⟨w.heap.size, 2, none⟩ = some (.int .u32 x) := ⟨_, rfl, at_lt _ _ hh32, (hA1.later hw).get 2 (by omega)⟩
      obtain ⟨v3, y3, b3⟩ : ∃ x : Nat, x = Sha.at_ V 3 ∧ x < 4294967296 := ⟨_, rfl, at_lt _ _ hV32⟩
      obtain ⟨p3, z3, c3, r3⟩ : ∃ x : Nat, x = Sha.at_ hs0 3 ∧ x < 4294967296 ∧ wr.cell? ⟨w.heap.size, 3, none⟩ = some (.int .u32 x) := ⟨_, rfl, at_lt _ _ hh32, (hA1.later hw).get 3 (by omega)⟩
      obtain ⟨v4, y4, b4⟩ : ∃ x : Nat, x = Sha.at_ V 4 ∧ x < 4294967296 := ⟨_, rfl, at_lt _ _ hV32⟩
      obtain ⟨p4, z4, c4, r4⟩ : ∃ x : Nat, x = Sha.at_ hs0 4 ∧ x < 4294967296 ∧ wr.cell? ⟨w.heap.size, 4, none⟩ = some (.int .u32 x) := ⟨_, rfl, at_lt _ _ hh32, (hA1.later hw).get 4 (by omega)⟩
      obtain ⟨v5, y5, b5⟩ : ∃ x : Nat, x = Sha.at_ V 5 ∧ x < 4294967296 := ⟨_, rfl, at_lt _ _ hV32⟩
      obtain ⟨p5, z5, c5, r5⟩ : ∃ x : Nat, x = Sha.at_ hs0 5 ∧ x < 4294967296 ∧ wr.cell? ⟨w.heap.size, 5, none⟩ = some (.int .u32 x) := ⟨_, rfl, at_lt _ _ hh32, (hA1.later hw).get 5 (by omega)⟩
      obtain ⟨v6, y6, b6⟩ : ∃ x : Nat, x = Sha.at_ V 6 ∧ x < 4294967296 := ⟨_, rfl, at_lt _ _ hV32⟩
      obtain ⟨p6, z6, c6, r6⟩ : ∃ x : Nat, x = Sha.at_ hs0 6 ∧ x < 4294967296 ∧ wr.cell? ⟨w.heap.size, 6, none⟩ = some (.int .u32 x) := ⟨_, rfl, at_lt _ _ hh32, (hA1.later hw).get 6 (by omega)⟩
      obtain ⟨v7, y7, b7⟩ : ∃ x : Nat, x = Sha.at_ V 7 ∧ x < 4294967296 := ⟨_, rfl, at_lt _ _ hV32⟩
      obtain ⟨p7, z7, c7, r7⟩ : ∃ x : Nat, x = Sha.at_ hs0 7 ∧ x < 4294967296 ∧ wr.cell? ⟨w.heap.size, 7, none⟩ = some (.int .u32 x) := ⟨_, rfl, at_lt _ _ hh32, (hA1.later hw).get 7 (by omega)⟩
      have HF := Lib.hid (show R = Sha.add8 hs0 V by rw [HR2.out, hV])
      have HG := Lib.hid (show (iv .u32 (Sha.add8 hs0 V)).toArray = #[.int .u32 (((p0 : Int) + v0) % 4294967296), .int .u32 (((p1 : Int) + v1) % 4294967296), .int .u32 (((p2 : Int) + v2) % 4294967296), .int .u32 (((p3 : Int) + v3) % 4294967296), .int .u32 (((p4 : Int) + v4) % 4294967296), .int .u32 (((p5 : Int) + v5) % 4294967296), .int .u32 (((p6 : Int) + v6) % 4294967296), .int .u32 (((p7 : Int) + v7) % 4294967296)] by
        rw [y0, y1, y2, y3, y4, y5, y6, y7, z0, z1, z2, z3, z4, z5, z6, z7]; rfl)
      rw [← y0, ← y1, ← y2, ← y3, ← y4, ← y5, ← y6, ← y7]
      have hB4 := hB3.trans (hw.mono hs5)
      clear y0 y1 y2 y3 y4 y5 y6 y7 z0 z1 z2 z3 z4 z5 z6 z7 hV hV32 hA1 hS hB3 hw hS32 hh32
      go_wp2_with (refine wpList_store_row rfl 123 _ _ rfl (w.heap.size + 1 + 1) _ rfl rfl 123 _ hA3.row ?g4 ?g5 ?g6 ?_)
      case g4 => kernel_rfl
      case g5 => rfl
      case g6 => simp [Value.oneCell']
      exact bodyPost_ret (results_cell_row rfl _ _ (w.heap.size + 1 + 1) 123 _ _ _ rfl (setRow_heap wr _ _ _ _ _ hA3.row) Tryd.underlying123 rfl (by kernel_rfl)) rfl ⟨by rw [HF.out, HG.out], below_setRow hB4 (by omega) _⟩

end Go.Proofs.YtajfmhiejipaoaaDoor
