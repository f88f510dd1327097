/-
  Package digest: the blocks of some strings, one after the other.
-/
import Derived.Test.YtajfmhiejipaoaaDoorDyl
namespace Go.Proofs.YtajfmhiejipaoaaDoor
open Go.RowKit Bs Go.Shelf
attribute [local go_sem] Oper.semAt_some

theorem blocks_any (a : Option Addr) (n c : Nat) (w : World) :
    Calls Tryd.prog 93 #[.slice a n c] w fun e w' => e = .returned (.func (.func 102) #[] #[.pointer (some ⟨w.heap.size, 0, none⟩)]) ∧ w' = w.alloc (.cells #[.slice a n c] 49) := by
  go_enter Tryd.func93, Tryd.ntmps93
  go_wp2
  go_ret
  exact ⟨rfl, rfl⟩

def strLen : Value → Nat
  | .string s => s.size
  | _ => 0
/-- the parts lie in block gp -/
def PartsAt (W : World) (gp op : Nat) (parts : List (List UInt8)) : Prop := ∀ i, i < parts.length → W.cell? ⟨gp, op + i, none⟩ = some (.string (bs (parts.getD i [])))
theorem PartsAt.same {W W' : World} {gp op : Nat} {parts : List (List UInt8)} (h : PartsAt W gp op parts) (hb : W'.heap[gp]? = W.heap[gp]?) : PartsAt W' gp op parts :=
  fun i hi => (World.cell?_of_block (w := W) hb).trans (h i hi)
/-- how far the buffer has come: d bytes of T are read, k blocks of them handed over -/
structure Buf (T : List Nat) (k d : Nat) (B : List Nat) : Prop where
  len : B.length = 64
  lo : 64 * k ≤ d
  hi : d < 64 * k + 64
  le : d ≤ T.length
  eq : B.take (d - 64 * k) = (T.drop (64 * k)).take (d - 64 * k)
theorem Buf.tail {T B : List Nat} {k d : Nat} (h : Buf T k d B) (hd : d = T.length) : B.take (d - 64 * k) = T.drop (64 * k) := by
  rw [h.eq, List.take_of_length_le (by rw [List.length_drop]; omega)]
theorem Buf.more {T B X : List Nat} {k d m : Nat} (h : Buf T k d B) (hX : X = (T.drop d).take m) (hm : m ≤ 64 - (d - 64 * k)) (hm2 : d + m ≤ T.length) :
    (B.take (d - 64 * k) ++ X ++ B.drop (d - 64 * k + m)).length = 64 ∧ (B.take (d - 64 * k) ++ X ++ B.drop (d - 64 * k + m)).take (d - 64 * k + m) = (T.drop (64 * k)).take (d - 64 * k + m) := by
  have h1 := h.len; have h2 := h.lo; have h3 := h.hi
  have hXl : X.length = m := by rw [hX, List.length_take, List.length_drop]; omega
  have hBl : (B.take (d - 64 * k)).length = d - 64 * k := by rw [List.length_take]; omega
  refine ⟨by simp only [List.length_append, hBl, hXl, List.length_drop]; omega, ?_⟩
  rw [List.take_append_of_le_length (by rw [List.length_append, hBl, hXl]; omega), List.take_of_length_le (by rw [List.length_append, hBl, hXl]; omega), h.eq, hX, List.take_add, List.drop_drop, show 64 * k + (d - 64 * k) = d by omega]
theorem Buf.next {T B X : List Nat} {k d m : Nat} (h : Buf T k d B) (hX : X = (T.drop d).take m) (hm : d - 64 * k + m < 64) (hm2 : d + m ≤ T.length) :
    Buf T k (d + m) (B.take (d - 64 * k) ++ X ++ B.drop (d - 64 * k + m)) := by
  have h1 := h.len; have h2 := h.lo; have h3 := h.hi
  obtain ⟨q1, q2⟩ := h.more hX (by omega) hm2
  refine ⟨q1, by omega, by omega, hm2, ?_⟩
  rw [show d + m - 64 * k = d - 64 * k + m by omega]; exact q2
theorem Buf.full {T B X : List Nat} {k d m : Nat} (h : Buf T k d B) (hX : X = (T.drop d).take m) (hm : d - 64 * k + m = 64) (hm2 : d + m ≤ T.length) :
    B.take (d - 64 * k) ++ X ++ B.drop (d - 64 * k + m) = Blk.blk T k ∧ k < Blk.num T ∧ Buf T (k + 1) (d + m) (Blk.blk T k) := by
  have h1 := h.len; have h2 := h.lo; have h3 := h.hi
  obtain ⟨q1, q2⟩ := h.more hX (by omega) hm2
  obtain ⟨r1, r2⟩ := Blk.blk_full T k (by omega)
  rw [List.take_of_length_le (by omega), hm] at q2
  rw [hm]
  refine ⟨by rw [q2, r1], r2, Blk.blk_len T k r2, by omega, by omega, hm2, ?_⟩
  rw [show d + m - 64 * (k + 1) = 0 by omega]; rfl
/-- the bytes of the parts ahead of i -/
def ahead (parts : List (List UInt8)) (i : Nat) : Nat := (parts.take i).flatten.length
theorem ahead_succ (parts : List (List UInt8)) (i : Nat) (hi : i < parts.length) : ahead parts (i + 1) = ahead parts i + (parts.getD i []).length := by
  unfold ahead
  rw [List.take_succ_eq_append_getElem hi, List.flatten_append, List.length_append]
  simp [List.getD_eq_getElem?_getD, hi]
theorem ahead_le (parts : List (List UInt8)) (i : Nat) : ahead parts i ≤ parts.flatten.length := by
  have h : parts.flatten = (parts.take i).flatten ++ (parts.drop i).flatten := by rw [← List.flatten_append, List.take_append_drop]
  unfold ahead; rw [h, List.length_append]; omega
theorem ahead_all (parts : List (List UInt8)) : ahead parts parts.length = parts.flatten.length := by unfold ahead; rw [List.take_length]
theorem part_at (parts : List (List UInt8)) (i r m : Nat) (hi : i < parts.length) (hr : r + m ≤ (parts.getD i []).length) :
    nb (((parts.getD i []).drop r).take m) = ((nb parts.flatten).drop (ahead parts i + r)).take m := by
  have h : parts.flatten = (parts.take i).flatten ++ ((parts.getD i []) ++ (parts.drop (i + 1)).flatten) := by
    conv => lhs; rw [← List.take_append_drop i parts, List.drop_eq_getElem_cons hi, List.flatten_append, List.flatten_cons]
    simp [List.getD_eq_getElem?_getD, hi]
  obtain ⟨X, hX⟩ : ∃ X, parts.getD i [] = X := ⟨_, rfl⟩
  obtain ⟨A, hA⟩ : ∃ A, (parts.take i).flatten = A := ⟨_, rfl⟩
  have hal : ahead parts i = A.length := by unfold ahead; rw [hA]
  rw [hX] at hr ⊢
  rw [h, hX, hA, hal]
  unfold nb
  rw [← List.map_drop, ← List.map_take, ← List.drop_drop, List.drop_append_of_le_length (Nat.le_refl _), List.drop_of_length_le (Nat.le_refl _), List.nil_append,
    List.drop_append_of_le_length (by omega), List.take_append_of_le_length (by rw [List.length_drop]; omega)]

set_option maxRecDepth 100000 in
set_option maxHeartbeats 1000000 in
theorem blocks1_in (l n0 gb gp op cp : Nat) (parts : List (List UInt8)) (J Jx : Nat → World → Prop) (hR : Rounds (· = gp) l n0 (nb parts.flatten) J Jx) (hn : parts.flatten.length ≤ 2000000)
    (W : World) (hW : W.heap.size = n0) (hgb : W.cell? ⟨gb, 0, none⟩ = some (.slice (some ⟨gp, op, none⟩) parts.length cp)) (hp : PartsAt W gp op parts) (hgp : gp < n0) (hlen : parts.length ≤ 10) (h0 : J 0 W) :
    CallsIn Fence.wide (3 - 1) Tryd.prog 102 #[.func (.yield l) #[] #[], .pointer (some ⟨gb, 0, none⟩)] W fun e W' =>
      (∃ v, e = .returned v) ∧ (J (Blk.num (nb parts.flatten)) W' ∨ ∃ k, Jx k W') := by
  refine callsIn_of_wp Tryd.func102 rfl trivial ?_ rfl
  simp only [Tryd.ntmps102, List.size_toArray, List.length_cons, List.length_nil, Nat.reduceAdd, Nat.reduceSub, Array.replicate_succ, Array.replicate_zero, List.push_toArray, List.append_toArray, List.nil_append, List.cons_append]
  refine wpIn_wide.2 (wp_scope_straight (wpIn_wide (n := 3 - 1).1 ?_))
  iterate 9 gi_step
  refine wpIn_world fun W1 hW1 => ?_
  have hA1 : Arr W1 n0 127 .u8 zero64 := by rw [hW1, ← hW]; exact Arr.new W 127 .u8 zero64
  have hb1 : Below n0 W W1 := by rw [hW1]; exact (Below.refl _ W).alloc (by omega) _
  have hJ1 : J 0 W1 := hR.hJ _ _ _ h0 hb1
  have hp1 : PartsAt W1 gp op parts := hp.same (hb1.block gp hgp)
  have hgb1 : W1.cell? ⟨gb, 0, none⟩ = some (.slice (some ⟨gp, op, none⟩) parts.length cp) := (hb1.cell (p := ⟨gb, 0, none⟩) (by have := block_lt_of_cell hgb; show gb < n0; simp at this; omega)).trans hgb
  have hB0 : Buf (nb parts.flatten) 0 0 zero64 := ⟨rfl, by omega, by omega, by omega, rfl⟩
  clear hW1 hgb hp h0 hb1
  gi_wp2
  refine wpIn_label ?_

  gi_wp2
  gi_loopw [4, 5, 12] (fun s f i wr => ∃ (i' k : Nat) (B : List Nat), i' ≤ parts.length ∧ i = .int .i64 i' ∧ s = .int .u64 (ahead parts i') ∧ f = .int .i64 ((ahead parts i' : Int) - 64 * (k : Int)) ∧
    Buf (nb parts.flatten) k (ahead parts i') B ∧ Arr wr n0 127 .u8 B ∧ J k wr ∧ PartsAt wr gp op parts) (fun _ _ i _ => parts.length - (intOf i).toNat)
  case atStart => exact ⟨0, 0, _, by omega, rfl, rfl, rfl, hB0, hA1, hJ1, hp1⟩
  case round =>
    clear hA1 hJ1 hp1 hB0 hgb1
    obtain ⟨i, k, B, hi, rfl, rfl, rfl, hB, hA, hJ, hp⟩ := hrel
    rcases Nat.lt_or_ge i parts.length with hil | hil
    · obtain ⟨X, hX⟩ : ∃ X, parts.getD i [] = X := ⟨_, rfl⟩
      have hcX := hp i hil
      rw [hX] at hcX
      have hsz := bs_size X
      have hsu := ahead_succ parts i hil
      have hal := ahead_le parts i
      have hal1 := ahead_le parts (i + 1)
      rw [hX] at hsu
      have hbl := hB.lo
      have hbh := hB.hi
      obtain ⟨d, hd⟩ : ∃ d, ahead parts i = d := ⟨_, rfl⟩
      rw [hd] at hsu hal hB hbl hbh ⊢
      have hXl : d + X.length ≤ 2000000 := by omega
      have hXT : d + X.length ≤ parts.flatten.length := by omega
      have HX := Lib.hid hX
      have Hsu := Lib.hid hsu
      have Hd := Lib.hid hd
      clear hX hsu hd
      gi_wp2
      gi_loopw [5, 8] (fun f s wr => ∃ (r k : Nat) (B : List Nat), r ≤ X.length ∧ s = .string (bs (X.drop r)) ∧ f = .int .i64 (((d + r : Nat) : Int) - 64 * (k : Int)) ∧
        Buf (nb parts.flatten) k (d + r) B ∧ Arr wr n0 127 .u8 B ∧ J k wr ∧ PartsAt wr gp op parts) (fun _ s _ => strLen s)
      case atStart => exact ⟨0, k, B, by omega, rfl, rfl, hB, hA, hJ, hp⟩
      case round =>
        clear hB hA hJ hp hcX hbl hbh hsz
        obtain ⟨r, k, B, hr, rfl, rfl, hB, hA, hJ, hp⟩ := hrel
        have hbl := hB.lo
        have hbh := hB.hi
        obtain ⟨f, hf⟩ : ∃ f, d + r - 64 * k = f := ⟨_, rfl⟩
        rw [show (((d + r : Nat) : Int) - 64 * (k : Int)) = (f : Int) by omega]
        obtain ⟨m, hm⟩ : ∃ m, min (X.length - r) (64 - f) = m := ⟨_, rfl⟩
        have hsl := sliceFrom64 wr n0 f (by omega)
        rw [if_neg (show ¬ 64 = f by omega)] at hsl
        have hdl : (X.drop r).length = X.length - r := List.length_drop
        have hcp := run_copy_arr wr 48 9 3 5 n0 f (64 - f) (64 - f) _ B (X.drop r) hA Tryd.underlying48 (by kernel_rfl) (by rw [hB.len]; omega)
        rw [hdl, hm] at hcp
        have hXm : nb ((X.drop r).take m) = ((nb parts.flatten).drop (d + r)).take m := by
          have := part_at parts i r m hil (by rw [HX.out]; omega)
          rw [HX.out, Hd.out] at this; exact this
        have hd2 : d + r + m ≤ (nb parts.flatten).length := by rw [nb_length]; omega
        have hex : (bs (X.drop r)).extract m (bs (X.drop r)).size = bs (X.drop (r + m)) := by
          rw [bs_extract, bs_size, List.drop_drop, List.take_of_length_le (by rw [List.length_drop, List.length_drop]; omega)]
        have hsz := bs_size (X.drop r)
        rw [hdl] at hsz
        have HEX := Lib.hid (show (bs (X.drop r)).extract m (X.length - r) = bs (X.drop (r + m)) by rw [← hsz]; exact hex)
        clear hex
        by_cases hfm : f + m < 64
        · have hB2 := hB.next hXm (by omega) hd2
          rw [hf] at hB2
          obtain ⟨W2, hcp, hA2, hJ2, hp2⟩ : ∃ W2, (Builtin.copy_ #[48, 9] 3 #[.slice (some ⟨n0, f, none⟩) (64 - f) (64 - f), .string (bs (X.drop r))]).run Tryd.prog wr = .ok (.int .i64 (m : Int)) W2 ∧
              Arr W2 n0 127 .u8 (B.take f ++ nb ((X.drop r).take m) ++ B.drop (f + m)) ∧ J k W2 ∧ PartsAt W2 gp op parts :=
            ⟨_, hcp, hA.setRow _, hR.hJ _ _ _ hJ (below_setRow (Below.refl _ _) (Nat.le_refl _) _), hp.same (Go.setRow_other wr n0 gp _ (by omega))⟩
          have hx1 : r + m = X.length := by omega
          have i1 : (f : Int) + (m : Int) < 64 := by omega
          have i2 : m ≤ X.length - r := by omega
          have HE := Lib.hid hx1
          have Hf := Lib.hid hf
          have HB2 := Lib.hid hB2
          clear hB hA hJ hp hm hdl hXm hx1 hB2 hf
          gi_wp2_with (refine wpListIn_builtin2 rfl _ _ 48 9 rfl _ _ _ rfl rfl hcp ?_; clear hcp hsl)
          exact ⟨⟨i + 1, k, _, by omega, by go_num, by rw [Hsu.out]; go_num, by rw [Hsu.out]; exact congrArg (Value.int .i64) (by have := Hf.out; have := HE.out; omega), by rw [Hsu.out, ← HE.out, ← Nat.add_assoc]; exact HB2.out, hA2, hJ2, hp2⟩, by simp [intOf]; omega⟩
        · obtain ⟨hB1, hkn, hB2⟩ := hB.full hXm (by omega) hd2
          rw [hf] at hB1
          obtain ⟨W2, hcp, hA2, hJ2, hp2⟩ : ∃ W2, (Builtin.copy_ #[48, 9] 3 #[.slice (some ⟨n0, f, none⟩) (64 - f) (64 - f), .string (bs (X.drop r))]).run Tryd.prog wr = .ok (.int .i64 (m : Int)) W2 ∧
              Arr W2 n0 127 .u8 (B.take f ++ nb ((X.drop r).take m) ++ B.drop (f + m)) ∧ J k W2 ∧ PartsAt W2 gp op parts :=
            ⟨_, hcp, hA.setRow _, hR.hJ _ _ _ hJ (below_setRow (Below.refl _ _) (Nat.le_refl _) _), hp.same (Go.setRow_other wr n0 gp _ (by omega))⟩
          rw [hB1] at hA2
          obtain ⟨fn, tmps, assign, body, hy, hRd⟩ := hR.hY (3 - 1 - 1) k W2 hkn hJ2
          have hBl := Blk.blk_len (nb parts.flatten) k hkn
          obtain ⟨C, hC⟩ : ∃ C, Blk.blk (nb parts.flatten) k = C := ⟨_, rfl⟩
          rw [hC] at hA2 hB2 hy hBl
          have i1 : (f : Int) + (m : Int) = 64 := by omega
          have i2 : m ≤ X.length - r := by omega
          have i3 : 0 < m := by omega
          have i4 : d + r + m = 64 * (k + 1) := by omega
          have hs2 := hA2.lt
          have hgs : gp < W2.heap.size := by omega
          have HI := Lib.hid i1
          have Hf := Lib.hid hf
          have HB2 := Lib.hid hB2
          have HBl := Lib.hid hBl
          have I4 := Lib.hid i4
          clear hB hA hJ hp hm hdl hXm hB1 hB2 hf hC hBl i4

          gi_wp2_with (first
            | (refine wpListIn_builtin2 rfl _ _ 48 9 rfl _ _ _ rfl rfl hcp ?_; clear hcp hsl)
            | (refine wpListIn_load_row rfl 127 _ rfl n0 rfl 127 _ _ _ hA2.row Tryd.underlying127 rfl ?g1 ?_))
          case g1 => rw [iv_size, HBl.out]; kernel_rfl

          refine hRd.mono ?_
          rintro e W3 (⟨rfl, hJ3, hab⟩ | ⟨rfl, hJx3⟩)
          · have hA3 : Arr W3 n0 127 .u8 C := ⟨(hab.block n0 (.inl (Nat.le_refl _)) hs2).trans hA2.row⟩
            have hp3 : PartsAt W3 gp op parts := hp2.same (hab.block gp (.inr rfl) hgs)
            clear hA2 hp2 hab hy hRd hJ2
            gi_wp2
            refine ⟨⟨r + m, k + 1, C, by omega, congrArg Value.string HEX.out, congrArg (Value.int .i64) (by have := I4.out; omega), by rw [← Nat.add_assoc]; exact HB2.out, hA3, hJ3, hp3⟩, ?_⟩
            show ((bs (X.drop r)).extract m (X.length - r)).size < (bs (X.drop r)).size
            rw [HEX.out, bs_size, bs_size, List.length_drop, List.length_drop]; omega
          · gi_wp2
            rw [Exit.noGoto_ret]
            refine bodyPost_ret (results_none rfl _ _ _) rfl ?_
            exact ⟨⟨_, rfl⟩, .inr ⟨_, hJx3⟩⟩
    · obtain rfl : parts.length = i := by omega
      have hal := ahead_all parts
      have hbl := hB.lo
      have hbh := hB.hi
      have hT : ahead parts parts.length = (nb parts.flatten).length := by rw [nb_length]; exact hal
      rw [hT] at hB hbl hbh ⊢
      obtain ⟨f, hf⟩ : ∃ f, (nb parts.flatten).length - 64 * k = f := ⟨_, rfl⟩
      rw [show (((nb parts.flatten).length : Int) - 64 * (k : Int)) = (f : Int) by omega]
      have hy := yieldLast_in (· = gp) (3 - 1 - 1) l n0 (nb parts.flatten) J Jx hR k f (by omega) (by omega) (by rw [nb_length]; exact hn) B hB.len (by have := hB.tail rfl; rw [hf] at this; exact this) wr (Nat.le_of_lt hA.lt) hJ
      have HBl := Lib.hid hB.len
      obtain ⟨tl, htl⟩ : ∃ tl, (nb parts.flatten).length = tl := ⟨_, rfl⟩
      rw [htl] at hy ⊢
      clear hal hbl hbh hT hf hB hp htl

      gi_wp2_with (first
        | (refine wpListIn_load_row rfl 127 _ rfl n0 rfl 127 _ _ _ hA.row Tryd.underlying127 rfl ?g2 ?_)
        | fail)
      case g2 => rw [iv_size, HBl.out]; kernel_rfl
      refine ⟨trivial, hy.mono ?_⟩
      rintro e W3 ⟨⟨v, rfl⟩, hpost⟩
      gi_wp2
      (try rw [Exit.noGoto_normal])


      go_end0
      exact ⟨⟨_, rfl⟩, hpost⟩

end Go.Proofs.YtajfmhiejipaoaaDoor
