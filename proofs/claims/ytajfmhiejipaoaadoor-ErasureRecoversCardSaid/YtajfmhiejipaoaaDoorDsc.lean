/-
  Package digest: the words of a block.
-/
import Derived.Test.YtajfmhiejipaoaaDoorArr
import Derived.Test.YtajfmhiejipaoaaDoorDsr
import Derived.Test.YtajfmhiejipaoaaDoorRbl
import Derived.BigRegion
import Derived.Deep.Cut
namespace Go.Proofs.YtajfmhiejipaoaaDoor
open Go.RowKit Bs

theorem wp_world {P : Program} {c : Code} {Q : Exit → Act → World → Prop} {a : Act} {W : World} (h : ∀ W', W' = W → Code.wp P c Q a W') : Code.wp P c Q a W := h W rfl
theorem arrayLen64 : Tryd.prog.arrayLen 127 = 64 := by kernel_rfl
theorem slice64 (W : World) (b l h : Nat) (hl : l ≤ h) (hh : h ≤ 64) (hl64 : l < 64) : (Instr.sliceAt 127 (.pointer (some ⟨b, 0, none⟩)) (some (.int .i64 (l : Int))) (some (.int .i64 (h : Int))) none).run Tryd.prog W = .ok (.slice (some ⟨b, l, none⟩) (h - l) (64 - l)) W := by
  rw [run_sliceAt_array_lh W 127 ⟨b, 0, none⟩ (by kernel_rfl) .i64 .i64 (l : Int) (h : Int) (by omega) (by omega) (by rw [arrayLen64]; omega), arrayLen64]
  have hs : (sizeOf (Tryd.prog.elem 127)).run Tryd.prog W = .ok 1 W := by kernel_rfl
  rw [hs]
  simp [slicedAt, Result.andThen, show ¬ 64 = l by omega, Addr.add]
  omega
def zero64 : List Nat := List.replicate 64 0
/-- the words that a loop has laid so far, zeros behind them -/
structure Upto (L : List Nat) (j : Nat) (f : Nat → Nat) : Prop where
  len : L.length = 64
  eq : ∀ i, i < j → L.getD i 0 = f i
theorem Upto.next {L : List Nat} {j : Nat} {f : Nat → Nat} (h : Upto L j f) (hj : j < 64) (v : Nat) (hv : v = f j) : Upto (L.set j v) (j + 1) f := by
  refine ⟨by simp [h.len], fun i hi => ?_⟩
  have hl := h.len
  rw [List.getD_eq_getElem?_getD, List.getElem?_set]
  by_cases e : j = i
  · subst e; simp [hl, hj, hv]
  · rw [if_neg e, ← List.getD_eq_getElem?_getD]; exact h.eq i (by omega)

theorem grow_old (w : List Nat) (j i : Nat) (hi : i < w.length) : (Sha.grow j w).getD i 0 = w.getD i 0 := by
  induction j generalizing w with
  | zero => rfl
  | succ j ih =>
    rw [Sha.grow, ih _ (by simp; omega)]
    simp [List.getD_eq_getElem?_getD, List.getElem?_append_left hi]
theorem words_len (b : List Nat) : (Sha.words b).length = 16 := by simp [Sha.words]
theorem sched_lo (b : List Nat) (i : Nat) (hi : i < 16) : Sha.at_ (Sha.sched b) i = Sha.word b i := by
  unfold Sha.sched Sha.at_
  rw [grow_old _ _ _ (by rw [words_len]; exact hi)]
  simp [Sha.words, List.getD_eq_getElem?_getD, hi]
theorem grow_at (w : List Nat) (j i : Nat) (h1 : w.length ≤ i) (h2 : i < w.length + j) : (Sha.grow j w).getD i 0 = Sha.next (Sha.grow (i - w.length) w) i := by
  induction j with
  | zero => omega
  | succ j ih =>
    rw [grow_snoc]
    have hl := grow_length w j
    by_cases e : i = w.length + j
    · subst e
      rw [List.getD_eq_getElem?_getD, List.getElem?_append_right (by omega), hl, Nat.sub_self, show w.length + j - w.length = j by omega]; rfl
    · rw [List.getD_eq_getElem?_getD, List.getElem?_append_left (by omega), ← List.getD_eq_getElem?_getD]
      exact ih (by omega)
theorem grow_more (w : List Nat) (a c i : Nat) (h : a ≤ c) (hi : i < w.length + a) : (Sha.grow a w).getD i 0 = (Sha.grow c w).getD i 0 := by
  obtain ⟨e, rfl⟩ := Nat.exists_eq_add_of_le h
  induction e with
  | zero => rfl
  | succ e ih =>
    rw [show a + (e + 1) = (a + e) + 1 by omega, grow_snoc, ih (by omega)]
    have hl := grow_length w (a + e)
    rw [List.getD_eq_getElem?_getD, List.getD_eq_getElem?_getD, List.getElem?_append_left (by omega)]
theorem sched_len (b : List Nat) : (Sha.sched b).length = 64 := by unfold Sha.sched; rw [grow_length, words_len]
theorem sched_hi (b : List Nat) (n : Nat) (h1 : 16 ≤ n) (h2 : n < 64) : Sha.at_ (Sha.sched b) n = Sha.next (Sha.sched b) n := by
  unfold Sha.sched
  rw [Sha.at_, grow_at _ _ _ (by rw [words_len]; exact h1) (by rw [words_len]; omega), words_len]
  unfold Sha.next Sha.at_
  rw [grow_more (Sha.words b) (n - 16) 48 (n - 16) (by omega) (by rw [words_len]; omega), grow_more (Sha.words b) (n - 16) 48 (n - 15) (by omega) (by rw [words_len]; omega),
    grow_more (Sha.words b) (n - 16) 48 (n - 7) (by omega) (by rw [words_len]; omega), grow_more (Sha.words b) (n - 16) 48 (n - 2) (by omega) (by rw [words_len]; omega)]
set_option maxRecDepth 100000 in
set_option maxHeartbeats 1000000 in
theorem schedule_any (b : List Nat) (w : World) (hlb : b.length = 64) (hb8 : ∀ x ∈ b, x < 256) :
    Calls Tryd.prog 104 #[.agg (iv .u8 b).toArray] w fun e w' => e = .returned (.agg (iv .u32 (Sha.sched b)).toArray) ∧ Below w.heap.size w w' := by
  go_enter Tryd.func104, Tryd.ntmps104
  go_wp2_with fail
  refine wp_world fun W hW => ?_
  have hA1 : Arr W w.heap.size 127 .u8 b := by rw [hW]; exact ((Arr.new w _ _ _).alloc _).alloc _
  have hA2 : Arr W (w.heap.size + 1) 138 .u32 zero64 := by rw [hW]; refine Arr.alloc ?_ _; exact ⟨heap_alloc2_new _ _ _⟩
  have hA3 : Arr W (w.heap.size + 1 + 1) 138 .u32 zero64 := by rw [hW]; have := heap_alloc_new ((w.alloc (.cells (iv .u8 b).toArray 127)).alloc (.cells (iv .u32 zero64).toArray 138)) (.cells (iv .u32 zero64).toArray 138); simp only [World.size_alloc] at this; exact ⟨this⟩
  have hB : Below w.heap.size w W := by rw [hW]; exact (((Below.refl _ w).alloc (Nat.le_refl _) _).alloc (by simp) _).alloc (by simp; omega) _
  clear hW
  go_loopw [11] (fun i wr => ∃ (j : Nat) (L : List Nat), j ≤ 16 ∧ i = .int .i64 j ∧ Upto L j (Sha.word b) ∧ Arr wr w.heap.size 127 .u8 b ∧ Arr wr (w.heap.size + 1) 138 .u32 zero64 ∧ Arr wr (w.heap.size + 1 + 1) 138 .u32 L ∧ Below w.heap.size w wr) (fun i _ => 16 - (intOf i).toNat)
  case atStart => exact ⟨0, zero64, by omega, rfl, ⟨rfl, fun i hi => by omega⟩, hA1, hA2, hA3, hB⟩
  case round =>
    clear hA1 hA2 hA3 hB
    obtain ⟨j, L, hj, rfl, hU, hA1, hA2, hA3, hw⟩ := hrel
    have hs := hw.size
    rcases Nat.lt_or_ge j 16 with hj16 | hj16
    · skip
      --[1
      obtain ⟨x0, y0, e0, c0⟩ : ∃ x : Nat, x = Sha.at_ b (4 * j) ∧ x < 256 ∧ wr.cell? ⟨w.heap.size, 4 * j, none⟩ = some (.int .u8 x) := ⟨_, rfl, at_lt _ _ hb8, hA1.get (4 * j) (by omega)⟩
      obtain ⟨x1, y1, e1, c1⟩ : ∃ x : Nat, x = Sha.at_ b (4 * j + 1) ∧ x < 256 ∧ wr.cell? ⟨w.heap.size, 4 * j + 1, none⟩ = some (.int .u8 x) := ⟨_, rfl, at_lt _ _ hb8, hA1.get (4 * j + 1) (by omega)⟩
      obtain ⟨x2, y2, e2, c2⟩ : ∃ x : Nat, x = Sha.at_ b (4 * j + 2) ∧ x < 256 ∧ wr.cell? ⟨w.heap.size, 4 * j + 2, none⟩ = some (.int .u8 x) := ⟨_, rfl, at_lt _ _ hb8, hA1.get (4 * j + 2) (by omega)⟩
      obtain ⟨x3, y3, e3, c3⟩ : ∃ x : Nat, x = Sha.at_ b (4 * j + 3) ∧ x < 256 ∧ wr.cell? ⟨w.heap.size, 4 * j + 3, none⟩ = some (.int .u8 x) := ⟨_, rfl, at_lt _ _ hb8, hA1.get (4 * j + 3) (by omega)⟩
      have hv := Lib.hid (show x0 * 16777216 + x1 * 65536 + x2 * 256 + x3 = Sha.word b j by rw [y0, y1, y2, y3]; rfl)
      have hwo := word_or x0 x1 x2 x3 e0 e1 e2 e3
      rw [wrap_w x0 (by omega), wrap_w x1 (by omega), wrap_w x2 (by omega), wrap_w x3 (by omega), show IntKind.u32.wrap ((x0 : Int) * 16777216) = (x0 : Int) * 16777216 by rw [IntKind.wrap_u32]; omega,
        show IntKind.u32.wrap ((x1 : Int) * 65536) = (x1 : Int) * 65536 by rw [IntKind.wrap_u32]; omega, show IntKind.u32.wrap ((x2 : Int) * 256) = (x2 : Int) * 256 by rw [IntKind.wrap_u32]; omega] at hwo
      have Hwo := Lib.hid hwo
      clear y0 y1 y2 y3 hwo
      have hsl := slice64 wr w.heap.size (4 * j) (4 * j + 4) (by omega) (by omega) (by omega)
      rw [show (((4 * j : Nat)) : Int) = 4 * (j : Int) by omega, show ((4 * j + 4 : Nat) : Int) = 4 * (j : Int) + 4 by omega, show 4 * j + 4 - 4 * j = 4 by omega] at hsl
      have cj := hA3.get j (by rw [hU.len]; omega)
      have fj := hA3.free j
      go_wp2_with fail
      go_region
      go_wp2_with fail
      go_roundw
      case rel => exact ⟨j + 1, _, by omega, by go_num, hU.next (by omega) _ hv.out, (hA1.other (by omega) _).drew, (hA2.other (by omega) _).drew, (hA3.set j _ _ Hwo.out).drew, (hw.setCell (p := ⟨w.heap.size + 1 + 1, j, none⟩) (by simp; omega) _).drew⟩
      case measure => simp [intOf]; omega
      --]1
    · obtain rfl : 16 = j := by omega
      have hU2 : Upto L 16 (Sha.at_ (Sha.sched b)) := ⟨hU.len, fun i hi => by rw [hU.eq i hi]; exact (sched_lo b i hi).symm⟩
      clear hU
      rw [show ((16 : Nat) : Int) = 16 from rfl]
      go_wp2_with fail
      go_loopw [6] (fun i wr => ∃ (n : Nat) (L : List Nat), 16 ≤ n ∧ n ≤ 64 ∧ i = .int .i64 n ∧ Upto L n (Sha.at_ (Sha.sched b)) ∧ Arr wr (w.heap.size + 1) 138 .u32 zero64 ∧ Arr wr (w.heap.size + 1 + 1) 138 .u32 L ∧ Below w.heap.size w wr) (fun i _ => 64 - (intOf i).toNat)
      case atStart => exact ⟨16, L, by omega, by omega, rfl, hU2, hA2, hA3, hw⟩
      case round =>
        clear hA1 hA2 hA3 hw hU2 hs
        obtain ⟨n, L, hn1, hn2, rfl, hU, hA2, hA3, hw⟩ := hrel
        have hs := hw.size
        rcases Nat.lt_or_ge n 64 with hn64 | hn64
        · skip
          --[2
          have hS32 : ∀ x ∈ Sha.sched b, x < 4294967296 := grow_lt _ _ (words_lt b hb8)
          obtain ⟨a, ya, ea, ca⟩ : ∃ x : Nat, x = Sha.at_ (Sha.sched b) (n - 15) ∧ x < 4294967296 ∧ wr.cell? ⟨w.heap.size + 1 + 1, n - 15, none⟩ = some (.int .u32 x) := ⟨_, rfl, at_lt _ _ hS32, by rw [← hU.eq (n - 15) (by omega)]; exact hA3.get _ (by rw [hU.len]; omega)⟩
          obtain ⟨c, yc, ec, cc⟩ : ∃ x : Nat, x = Sha.at_ (Sha.sched b) (n - 2) ∧ x < 4294967296 ∧ wr.cell? ⟨w.heap.size + 1 + 1, n - 2, none⟩ = some (.int .u32 x) := ⟨_, rfl, at_lt _ _ hS32, by rw [← hU.eq (n - 2) (by omega)]; exact hA3.get _ (by rw [hU.len]; omega)⟩
          obtain ⟨d, yd, ed, cd⟩ : ∃ x : Nat, x = Sha.at_ (Sha.sched b) (n - 16) ∧ x < 4294967296 ∧ wr.cell? ⟨w.heap.size + 1 + 1, n - 16, none⟩ = some (.int .u32 x) := ⟨_, rfl, at_lt _ _ hS32, by rw [← hU.eq (n - 16) (by omega)]; exact hA3.get _ (by rw [hU.len]; omega)⟩
          obtain ⟨f, yf, ef, cf⟩ : ∃ x : Nat, x = Sha.at_ (Sha.sched b) (n - 7) ∧ x < 4294967296 ∧ wr.cell? ⟨w.heap.size + 1 + 1, n - 7, none⟩ = some (.int .u32 x) := ⟨_, rfl, at_lt _ _ hS32, by rw [← hU.eq (n - 7) (by omega)]; exact hA3.get _ (by rw [hU.len]; omega)⟩
          have HX := Lib.hid (show (d + Sha.s0 a + f + Sha.s1 c) % 4294967296 = Sha.at_ (Sha.sched b) n by rw [sched_hi b n hn1 hn64, ya, yc, yd, yf]; rfl)
          clear ya yc yd yf hS32
          obtain ⟨X1, lS⟩ := s0_w a ea
          obtain ⟨Y1, lT⟩ := s1_w c ec
          obtain ⟨S, hS⟩ : ∃ S, Sha.s0 a = S := ⟨_, rfl⟩
          obtain ⟨T, hT⟩ : ∃ T, Sha.s1 c = T := ⟨_, rfl⟩
          rw [hS] at X1 lS HX
          rw [hT] at Y1 lT HX
          clear hS hT
          have cn := hA3.get n (by rw [hU.len]; omega)
          have fn := hA3.free n
          go_wp2_with fail
          go_quiet (fail)
          go_wp2_with (go_at_call 105; refine (right_g _ _ _ (by omega) (by omega)).mono ?_; rintro e w' ⟨rfl, rfl⟩)
          have hA2' := hA2.drewN nq
          have hA3' := hA3.drewN nq
          have hw' := below_drewN hw nq
          have hs' : w.heap.size ≤ (wr.drewN nq).heap.size := hs
          have cn' : (wr.drewN nq).cell? ⟨w.heap.size + 1 + 1, n, none⟩ = some (.int .u32 (L.getD n 0 : Nat)) := cn
          have fn' : (wr.drewN nq).frozen? ⟨w.heap.size + 1 + 1, n, none⟩ = false := fn
          have cd' : (wr.drewN nq).cell? ⟨w.heap.size + 1 + 1, n - 16, none⟩ = some (.int .u32 d) := cd
          have cf' : (wr.drewN nq).cell? ⟨w.heap.size + 1 + 1, n - 7, none⟩ = some (.int .u32 f) := cf
          clear hA2 hA3 hw hs cn fn ca cc cd cf X1 Y1
          generalize wr.drewN nq = wr at *
          have HS := Lib.hid (show ((d : Int) + S + f + T) % 4294967296 = (((d + S + f + T) % 4294967296 : Nat) : Int) by omega)
          go_region
          go_wp2_with fail
          go_roundw
          case rel => exact ⟨n + 1, _, by omega, by omega, by go_num, hU.next (by omega) _ HX.out, (hA2'.other (by omega) _).drew, (hA3'.set n _ _ HS.out).drew, (hw'.setCell (p := ⟨w.heap.size + 1 + 1, n, none⟩) (by simp; omega) _).drew⟩
          case measure => simp [intOf]; omega
          --]2
        · obtain rfl : 64 = n := by omega
          have hLS : L = Sha.sched b := by
            refine List.ext_getElem? fun i => ?_
            rcases Nat.lt_or_ge i 64 with hi | hi
            · have := hU.eq i hi
              unfold Sha.at_ at this
              rw [List.getD_eq_getElem?_getD, List.getD_eq_getElem?_getD] at this
              rw [List.getElem?_eq_getElem (by rw [hU.len]; exact hi), List.getElem?_eq_getElem (by rw [sched_len]; exact hi)] at this ⊢
              exact congrArg some this
            · rw [List.getElem?_eq_none (by rw [hU.len]; exact hi), List.getElem?_eq_none (by rw [sched_len]; exact hi)]
          have HLS := Lib.hid hLS
          have Hlen := Lib.hid hU.len
          clear hU hLS
          go_upto_region 15 with fail
          go_step
          refine wpList_load_row rfl 138 _ rfl (w.heap.size + 1 + 1) rfl 138 _ _ _ hA3.row Tryd.underlying138 rfl ?g1 ?_
          case g1 => rw [iv_size, Hlen.out]; kernel_rfl
          refine wpList_store_row rfl 138 _ _ rfl (w.heap.size + 1) _ rfl rfl 138 _ hA2.row ?g2 ?g3 (iv_one _ _) ?_
          case g2 => rw [iv_size, Hlen.out]; kernel_rfl
          case g3 => rw [iv_size, iv_size, Hlen.out]; rfl
          have hA4 := hA2.setRow L
          have hw4 := below_setRow hw (show w.heap.size ≤ w.heap.size + 1 by omega) (iv .u32 L).toArray
          generalize World.setRow wr (w.heap.size + 1) (iv .u32 L).toArray = w4 at *
          clear hA2 hA3 hw hs
          go_wp2_with fail
          exact bodyPost_ret (results_cell_row rfl _ _ (w.heap.size + 1) 138 (iv .u32 L).toArray _ _ rfl hA4.row Tryd.underlying138 rfl (by rw [iv_size, Hlen.out]; kernel_rfl)) rfl ⟨by rw [HLS.out], hw4⟩

end Go.Proofs.YtajfmhiejipaoaaDoor
