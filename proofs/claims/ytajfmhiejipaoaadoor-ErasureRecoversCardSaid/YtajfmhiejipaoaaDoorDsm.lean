/-
  Package digest: the digest of some strings, one after the other.
-/
import Derived.Test.YtajfmhiejipaoaaDoorDbk
import Derived.Test.YtajfmhiejipaoaaDoorRlf
namespace Go.Proofs.YtajfmhiejipaoaaDoor
open Go.RowKit Bs Go.Shelf
attribute [local go_sem] Oper.semAt_some

def blks (T : List Nat) : List (List Nat) := (List.range (Blk.num T)).map (Blk.blk T)
theorem blks_length (T : List Nat) : (blks T).length = Blk.num T := by simp [blks]
theorem blks_get (T : List Nat) (k : Nat) (hk : k < (blks T).length) : (blks T)[k] = Blk.blk T k := by simp [blks]
theorem blocks_yields (gb gp op cp : Nat) (parts : List (List UInt8)) (hn : parts.flatten.length ≤ 2000000) (w : World)
    (hgb : w.cell? ⟨gb, 0, none⟩ = some (.slice (some ⟨gp, op, none⟩) parts.length cp)) (hp : PartsAt w gp op parts) (hgp : gp < w.heap.size) (hlen : parts.length ≤ 10) :
    Rfc.Yields Fence.wide (3 - 1) Tryd.prog 102 #[.pointer (some ⟨gb, 0, none⟩)] (fun x : List Nat => #[.agg (iv .u8 x).toArray]) (· = gp) (blks (nb parts.flatten)) w := by
  intro l J Jx W hW hJ hJx hY h0
  have := blocks1_in l W.heap.size gb gp op cp parts J Jx ⟨hJ, hJx, fun m k W1 hk hj => by
      have h1 := hY k (by rw [blks_length]; exact hk) W1 hj
      rw [blks_get] at h1
      exact yieldAt_any m h1⟩ hn W rfl ((hW.cell (p := ⟨gb, 0, none⟩) (block_lt_of_cell hgb)).trans hgb) (hp.same (hW.block gp hgp)) (Nat.lt_of_lt_of_le hgp hW.size) hlen h0
  rw [← blks_length] at this
  exact this

theorem above_of_below {S : Nat → Prop} {B : Nat} {A C : World} (h : Below A.heap.size A C) : Rfc.Above S B A C := ⟨h.size, fun k _ hk => h.block k hk⟩
theorem out_get (V : List Nat) (i j : Nat) (hi : i < 8) (hj : j < 4) : (Sha.out V).getD (4 * i + j) 0 = Sha.at_ V i / 2 ^ (24 - 8 * j) % 256 := by
  rcases (show i = 0 ∨ i = 1 ∨ i = 2 ∨ i = 3 ∨ i = 4 ∨ i = 5 ∨ i = 6 ∨ i = 7 by omega) with rfl | rfl | rfl | rfl | rfl | rfl | rfl | rfl <;>
  rcases (show j = 0 ∨ j = 1 ∨ j = 2 ∨ j = 3 by omega) with rfl | rfl | rfl | rfl <;> simp [Sha.out, Sha.bytes4, List.range, List.range.loop]
theorem index8 (V : List Nat) (hV : V.length = 8) (i : Nat) (hi : i < 8) (w : World) : (Instr.index 123 (.agg (iv .u32 V).toArray) (.int .i64 (i : Int))).run Tryd.prog w = .ok (.int .u32 (Sha.at_ V i : Nat)) w := by
  have hs : (sizeOf 95).run Tryd.prog w = .ok 1 w := by kernel_rfl
  simp [Instr.index, asIntOf, run_underlying Tryd.underlying123, Sem.run_bind, Result.andThen, hs]
  have hp : (part 95 (iv .u32 V).toArray i).run Tryd.prog w = .ok (.int .u32 (Sha.at_ V i : Nat)) w := by
    have ha : (isAgg 95).run Tryd.prog w = .ok false w := by kernel_rfl
    have hg : (iv .u32 V).toArray[i]? = some (.int .u32 (Sha.at_ V i : Nat)) := by simp [iv, Sha.at_, List.getD_eq_getElem?_getD, show i < V.length by omega]
    unfold part
    rw [Sem.run_bind, ha]
    simp only [Result.andThen, Bool.false_eq_true, if_false, hg]
    rfl
  rw [if_pos hi, hp]
theorem sliceAll32 (W : World) (b : Nat) : (Instr.sliceAt 129 (.pointer (some ⟨b, 0, none⟩)) none none none).run Tryd.prog W = .ok (.slice (some ⟨b, 0, none⟩) 32 32) W := by
  rw [run_sliceAt_array_all W 129 ⟨b, 0, none⟩ (by kernel_rfl), show Tryd.prog.arrayLen 129 = 32 from by kernel_rfl]
  have hs : (sizeOf (Tryd.prog.elem 129)).run Tryd.prog W = .ok 1 W := by kernel_rfl
  rw [hs]
  simp [slicedAt, Result.andThen, Addr.add]
/-- an array of bytes as a string -/
theorem arr_str {W : World} {g n c : Nat} {t : TypeId} {l : List Nat} (h : Arr W g t .u8 l) (hn : l.length = n) (hl : ∀ b ∈ l, b < 256) :
    (convert 48 9 (.slice (some ⟨g, 0, none⟩) n c)).run Tryd.prog W = .ok (.string (bs (ub l))) W := by
  have e : l.map (fun (b : Nat) => (b : Int)) = (ub l).map (fun b => (b.toNat : Int)) := by
    unfold ub
    rw [List.map_map]
    apply List.map_congr_left
    intro b hb
    have := hl b hb
    simp; omega
  rw [run_convert_bytes_arg W 48 5 Tryd.underlying48 Tryd.underlying5 g 0 n c (l.map (fun (b : Nat) => (b : Int))) (by simpa using hn) (fun i hi => by
    rw [Nat.zero_add, h.get i (by omega)]
    congr 2
    rw [List.getD_eq_getElem?_getD, List.getD_eq_getElem?_getD, List.getElem?_map, List.getElem?_eq_getElem (show i < l.length by omega)]; rfl) 9 Tryd.underlying9, e, strOfNums_bytes]
  rfl
/-- the first j of n numbers are laid -/
structure Fill (n : Nat) (L : List Nat) (j : Nat) (f : Nat → Nat) : Prop where
  len : L.length = n
  eq : ∀ i, i < j → L.getD i 0 = f i
theorem Fill.next {n : Nat} {L : List Nat} {j : Nat} {f : Nat → Nat} (h : Fill n L j f) (hj : j < n) (v : Nat) (hv : v = f j) : Fill n (L.set j v) (j + 1) f := by
  refine ⟨by simp [h.len], fun i hi => ?_⟩
  have hl := h.len
  rw [List.getD_eq_getElem?_getD, List.getElem?_set]
  by_cases e : j = i
  · subst e; simp [hl, hj, hv]
  · rw [if_neg e, ← List.getD_eq_getElem?_getD]; exact h.eq i (by omega)
theorem Fill.all {n : Nat} {L M : List Nat} (h : Fill n L n (fun q => M.getD q 0)) (hM : M.length = n) : L = M := by
  refine List.ext_getElem? fun i => ?_
  rcases Nat.lt_or_ge i n with hi | hi
  · have := h.eq i hi
    rw [List.getD_eq_getElem?_getD, List.getD_eq_getElem?_getD] at this
    rw [List.getElem?_eq_getElem (by rw [h.len]; exact hi), List.getElem?_eq_getElem (by rw [hM]; exact hi)] at this ⊢
    exact congrArg some this
  · rw [List.getElem?_eq_none (by rw [h.len]; exact hi), List.getElem?_eq_none (by rw [hM]; exact hi)]
set_option maxRecDepth 100000 in
set_option maxHeartbeats 1000000 in
theorem sum_any (gp op cp : Nat) (parts : List (List UInt8)) (w : World) (hK : KAt w) (hn : parts.flatten.length ≤ 2000000) (hp : PartsAt w gp op parts) (hgp : gp < w.heap.size) (hlen : parts.length ≤ 10) :
    Calls Tryd.prog 77 #[.slice (some ⟨gp, op, none⟩) parts.length cp] w fun e w' => e = .returned (.string (bs (dig parts.flatten))) ∧ Below w.heap.size w w' := by
  refine (callsIn_wide (n := 3)).1 ?_
  refine callsIn_of_wp_marks Tryd.func77 rfl trivial ?_ rfl
  simp only [Tryd.ntmps77, List.size_toArray, List.length_cons, List.length_nil, Nat.reduceAdd, Nat.reduceSub, Array.replicate_succ, Array.replicate_zero, List.push_toArray, List.append_toArray, List.nil_append, List.cons_append]
  gi_wp2_with (refine ⟨trivial, ?_⟩; gi_at_call 93; refine (callsIn_wide.2 (blocks_any _ _ _ _)).mono ?_; rintro e w' ⟨rfl, rfl⟩)
  refine wpIn_world fun W0 hW0 => ?_
  have hAw : Arr W0 w.heap.size 123 .u32 Sha.H0 := by rw [hW0]; exact (Arr.new w 123 .u32 Sha.H0).alloc _
  have hgb : W0.cell? ⟨w.heap.size + 1, 0, none⟩ = some (.slice (some ⟨gp, op, none⟩) parts.length cp) := by rw [hW0, cell_of_row _ _ 0 _ _ _ (heap_alloc2_new _ _ _)]; rfl
  have hB0 : Below w.heap.size w W0 := by rw [hW0]; exact ((Below.refl _ w).alloc (Nat.le_refl _) _).alloc (by simp) _
  have hs0 : W0.heap.size = w.heap.size + 2 := by rw [hW0]; simp
  have hp0 : PartsAt W0 gp op parts := hp.same (hB0.block gp hgp)
  clear hW0
  obtain ⟨T, hT⟩ : ∃ T, nb parts.flatten = T := ⟨_, rfl⟩
  have hT256 : ∀ x ∈ T, x < 256 := by rw [← hT]; exact nb_lt _
  have hyl := blocks_yields (w.heap.size + 1) gp op cp parts hn W0 hgb hp0 (by omega) hlen
  have HT := Lib.hid hT
  rw [hT] at hyl
  clear hT hgb hp0 hp
  refine Rfc.wpIn_rangeFunc_cells rfl (by omega) (gf := 102) (lb := #[.pointer (some ⟨w.heap.size + 1, 0, none⟩)]) rfl trivial (enters_of Tryd.func102 (by kernel_rfl) rfl) (S := (· = gp)) (fun k hk => by subst hk; omega)
    hyl (Below.refl _ _) (fun _ => rfl)
    (fun k W => Arr W w.heap.size 123 .u32 (Sha.blocks Sha.H0 (Sha.pad T) k) ∧ Below w.heap.size w W)
    (fun _ _ _ => False)
    (fun k A C h hb => ⟨h.1.below hb (by omega), h.2.trans (hb.mono (by omega))⟩)
    (fun _ _ _ _ h _ => h) ⟨hAw, hB0⟩ ?round ?done ?stop
  case stop =>
    rintro D c k W _ _ h _
    exact h.elim
  case round =>
    rintro l k hk W hl hlt ⟨hA, hB⟩
    have hb8 := Blk.blk_lt T hT256 k
    have hbl := Blk.blk_len T k (by rw [← blks_length]; exact hk)
    have hCk := blks_get T k hk
    generalize (blks T)[k] = C at *
    subst hCk
    have HBl := Lib.hid hbl
    obtain ⟨C, hC⟩ : ∃ C, Blk.blk T k = C := ⟨_, rfl⟩
    rw [hC] at HBl hb8 hbl ⊢
    have hst : Sha.block (Sha.blocks Sha.H0 (Sha.pad T) k) C = Sha.blocks Sha.H0 (Sha.pad T) (k + 1) := by rw [← hC]; exact (Blk.blocks_succ T k).symm
    clear hC hk

    gi_wp2_with (refine wpListIn_store_row rfl 127 _ _ rfl W.heap.size _ rfl rfl 127 _ (Arr.new W 127 .u8 zero64).row ?g1 ?g2 (iv_one _ _) ?_)
    case g1 => rw [iv_size, HBl.out]; kernel_rfl
    case g2 => rw [iv_size, iv_size, HBl.out]; rfl
    have hbW : Below W.heap.size W ((W.alloc (.cells (iv .u8 zero64).toArray 127)).setRow W.heap.size (iv .u8 C).toArray) := below_setRow ((Below.refl _ W).alloc (Nat.le_refl _) _) (Nat.le_refl _) _
    have hA1 := (hA.alloc (.cells (iv .u8 zero64).toArray 127)).setRow_other (g' := W.heap.size) (by have := hA.lt; omega) (iv .u8 C).toArray
    have hC1 := (Arr.new W 127 .u8 zero64).setRow C
    refine ⟨above_of_below hbW, fun W2 hbu => ?_⟩
    have hbu' : Rfc.But l ((W.alloc (.cells (iv .u8 zero64).toArray 127)).setRow W.heap.size (iv .u8 C).toArray) W2 := hbu
    have hA2 : Arr W2 w.heap.size 123 .u32 (Sha.blocks Sha.H0 (Sha.pad T) k) := ⟨(hbu'.block _ (by omega)).trans hA1.row⟩
    have hC2 : Arr W2 W.heap.size 127 .u8 C := ⟨(hbu'.block _ (by omega)).trans hC1.row⟩
    have hB2 : Below w.heap.size w W2 := (hB.trans (hbW.mono hB.size)).trans (hbu'.below (by omega))
    have hK2 := hK.below hB2
    clear hbu hbu' hA1 hC1 hbW hA hB
    obtain ⟨V, hV⟩ : ∃ V, Sha.blocks Sha.H0 (Sha.pad T) k = V := ⟨_, rfl⟩
    obtain ⟨V', hV'⟩ : ∃ V', Sha.blocks Sha.H0 (Sha.pad T) (k + 1) = V' := ⟨_, rfl⟩
    have hVl : V.length = 8 := by rw [← hV]; exact blocks_length _ _
    have hVl' : V'.length = 8 := by rw [← hV']; exact blocks_length _ _
    have hV32 : ∀ x ∈ V, x < 4294967296 := by rw [← hV]; exact blocks_lt _ _
    rw [hV] at hst hA2
    rw [hV'] at hst
    have HV' := Lib.hid hV'
    have HVl := Lib.hid hVl
    have HVl' := Lib.hid hVl'
    have Hst := Lib.hid hst
    have hmx := mixed_any V C W2 hK2 hVl hV32 hbl hb8
    rw [hst] at hmx
    clear hV hV' hVl hVl' hst hbl
    obtain ⟨gc, hgc⟩ : ∃ gc, W.heap.size = gc := ⟨_, rfl⟩
    rw [hgc] at hC2 hlt ⊢
    clear hgc

    gi_wp2_with (first
      | (refine wpListIn_load_row rfl 123 _ rfl w.heap.size rfl 123 _ _ _ hA2.row Tryd.underlying123 rfl ?g3 ?_)
      | (refine wpListIn_load_row rfl 127 _ rfl gc rfl 127 _ _ _ hC2.row Tryd.underlying127 rfl ?g4 ?_))
    case g3 => rw [iv_size, HVl.out]; kernel_rfl
    case g4 => rw [iv_size, HBl.out]; kernel_rfl
    refine ⟨trivial, (CallsIn.inRound l (callsIn_wide.2 hmx)).mono ?_⟩
    rintro e W3 ⟨rfl, hb3⟩
    have hA3 := hA2.later hb3
    have hB3 := hB2.trans (hb3.mono hB2.size)
    have hab : Rfc.Above (· = gp) W0.heap.size W2 W3 := above_of_below hb3
    gi_wp2_with (refine wpListIn_store_row rfl 123 _ _ rfl w.heap.size _ rfl rfl 123 _ hA3.row ?g5 ?g6 (iv_one _ _) ?_)
    case g5 => rw [iv_size, HVl'.out]; kernel_rfl
    case g6 => rw [iv_size, iv_size, HVl'.out, HVl.out]
    refine ⟨hab.trans ⟨by rw [size_setRow]; exact Nat.le_refl _, fun k hk _ => Go.setRow_other _ _ _ _ (by rcases hk with hk | hk <;> omega)⟩, by rw [HV'.out]; exact hA3.setRow _, below_setRow hB3 (Nat.le_refl _) _⟩
  case done =>
    rintro D W hD hDW ⟨hA, hB⟩ hdef
    rw [blks_length] at hA
    obtain ⟨V, hV⟩ : ∃ V, Sha.blocks Sha.H0 (Sha.pad T) (Blk.num T) = V := ⟨_, rfl⟩
    have hVl : V.length = 8 := by rw [← hV]; exact blocks_length _ _
    have hV32 : ∀ x ∈ V, x < 4294967296 := by rw [← hV]; exact blocks_lt _ _
    have HR := Lib.hid (show Sha.out V = Sha.sha T by rw [← hV]; exact Blk.blocks_num T)
    have HVl := Lib.hid hVl
    rw [hV] at hA
    clear hV hyl hAw hB0
    have hat : Arr (W.alloc (.cells (iv .u8 (List.replicate 32 0)).toArray 129)) W.heap.size 129 .u8 (List.replicate 32 0) := Arr.new _ _ _ _
    have hA1 := hA.alloc (.cells (iv .u8 (List.replicate 32 0)).toArray 129)
    have hdef1 : (W.alloc (.cells (iv .u8 (List.replicate 32 0)).toArray 129)).heap[D]? = some (.deferred (some [])) := (heap_alloc_old _ _ _ hDW).trans hdef
    have hB1 : Below w.heap.size w (W.alloc (.cells (iv .u8 (List.replicate 32 0)).toArray 129)) := hB.alloc hB.size _

    gi_wp2_with (refine wpListIn_load_row rfl 123 _ rfl w.heap.size rfl 123 _ _ _ hA1.row Tryd.underlying123 rfl ?g7 ?_)
    case g7 => rw [iv_size, HVl.out]; kernel_rfl
    refine wpIn_world fun W1 hW1 => ?_
    have hW1' : W1 = W.alloc (.cells (iv .u8 (List.replicate 32 0)).toArray 129) := hW1
    rw [← hW1'] at hat hA1 hdef1 hB1
    obtain ⟨gt, hgt⟩ : ∃ gt, W.heap.size = gt := ⟨_, rfl⟩
    rw [hgt] at hat hDW ⊢
    have hwg : w.heap.size ≤ gt := by rw [← hgt]; exact hB.size
    clear hW1 hW1' hA hB hdef hA1 hgt
    gi_loopw [17] (fun i wr => ∃ (i' : Nat) (L : List Nat), i' ≤ 8 ∧ i = .int .i64 i' ∧ Fill 32 L (4 * i') (fun q => (Sha.out V).getD q 0) ∧ Arr wr gt 129 .u8 L ∧ Below w.heap.size w wr ∧ wr.heap[D]? = some (.deferred (some []))) (fun i _ => 8 - (intOf i).toNat)
    case atStart => exact ⟨0, _, by omega, rfl, ⟨by simp, fun i hi => by omega⟩, hat, hB1, hdef1⟩
    case round =>
      clear hat hB1 hdef1
      obtain ⟨i, L, hi, rfl, hU, hA, hB, hdef⟩ := hrel
      rcases Nat.lt_or_ge i 8 with hi8 | hi8
      · have hix := index8 V HVl.out i hi8
        obtain ⟨x, y0, hx⟩ : ∃ x : Nat, x = Sha.at_ V i ∧ x < 4294967296 := ⟨_, rfl, at_lt _ _ hV32⟩
        rw [← y0] at hix
        have Y0 := Lib.hid y0
        clear y0
        gi_wp2
        clear hix
        gi_loopw [21] (fun j wr => ∃ (j' : Nat) (L : List Nat), j' ≤ 4 ∧ j = .int .i64 j' ∧ Fill 32 L (4 * i + j') (fun q => (Sha.out V).getD q 0) ∧ Arr wr gt 129 .u8 L ∧ Below w.heap.size w wr ∧ wr.heap[D]? = some (.deferred (some []))) (fun j _ => 4 - (intOf j).toNat)
        case atStart => exact ⟨0, L, by omega, rfl, hU, hA, hB, hdef⟩
        case round =>
          clear hU hA hB hdef
          obtain ⟨j, L, hj, rfl, hU, hA, hB, hdef⟩ := hrel
          rcases Nat.lt_or_ge j 4 with hj4 | hj4
          · have cj := hA.get (4 * i + j) (by rw [hU.len]; omega)
            have fj := hA.free (4 * i + j)
            have hv : (((x : Int) / 2 ^ (24 - 8 * j)) % 256) = ((x / 2 ^ (24 - 8 * j) % 256 : Nat) : Int) := by simp
            have hA4 := hA.set (4 * i + j) _ _ hv
            have hU4 := hU.next (by omega) (x / 2 ^ (24 - 8 * j) % 256) (by rw [out_get V i j hi8 hj4, Y0.out])
            have H4 := Lib.hid (And.intro hU4 hA4)
            have HB := Lib.hid (hB.setCell (p := ⟨gt, 4 * i + j, none⟩) hwg (.int .u8 (((x : Int) / 2 ^ (24 - 8 * j)) % 256)))
            have HD := Lib.hid ((heap_setCell_other wr ⟨gt, 4 * i + j, none⟩ D (.int .u8 (((x : Int) / 2 ^ (24 - 8 * j)) % 256)) (by simp; omega)).trans hdef)
            clear hA4 hU4 hv hdef

            gi_wp2


            exact ⟨⟨j + 1, _, by omega, by go_num, H4.out.1, H4.out.2, HB.out, HD.out⟩, by simp [intOf]; omega⟩
          · obtain rfl : 4 = j := by omega
            gi_wp2


            exact ⟨⟨i + 1, L, by omega, by go_num, hU, hA, hB, hdef⟩, by simp [intOf]; omega⟩
      · obtain rfl : 8 = i := by omega
        have hL := hU.all (out_length V 8)
        have hLl := hU.len
        have hsl := sliceAll32 wr gt
        have hcv := arr_str (c := 32) hA hLl (by rw [hL]; exact out_lt V 8)
        rw [hL, HR.out, ← HT.out] at hcv
        clear hU hA hL hLl
        gi_wp2
        refine ⟨by simp, .inl ⟨_, _, rfl, run_takeDeferred hdef, ?_⟩⟩
        exact ⟨_, results_tmp rfl _ _ _, rfl, hB.trans (belowK_b (w := W0) (n₀ := w.heap.size) (by omega) wr D _ _ hD hdef rfl rfl)⟩

end Go.Proofs.YtajfmhiejipaoaaDoor
