/-
  Put together by program out of these texts, in this order: Rta, CaRTa.
-/
import Derived.Test.YtjkklgpbblkhaaaGreatDoorZCaRTa18
import Derived.Test.YtjkklgpbblkhaaaGreatDoorZCaRTa20
import Derived.Test.YtjkklgpbblkhaaaGreatDoorCards
import Derived.Test.YtjkklgpbblkhaaaGreatDoorTie
import Derived.Test.YtjkklgpbblkhaaaGreatDoorZCaRTa04

/-
  RationalTextMatchesReference: for every fraction of two strings, every four integers, every place, every byte and every string, and in every memory in which the table of the decimal powers holds its numbers, the law returns true.
-/
namespace Go.Proofs.YtjkklgpbblkhaaaGreatDoor
open Go.RowKit Bs Ig Qq

theorem row4t {W : World} {g : Nat} {x0 x1 x2 x3 : Int} (h : W.heap[g]? = some (.cells #[.int .i64 x0, .int .i64 x1, .int .i64 x2, .int .i64 x3] 24 (0, 0))) :
    W.cell? ⟨g, 0, none⟩ = some (.int .i64 x0) ∧ W.cell? ⟨g, 1, none⟩ = some (.int .i64 x1) ∧ W.cell? ⟨g, 2, none⟩ = some (.int .i64 x2) ∧ W.cell? ⟨g, 3, none⟩ = some (.int .i64 x3) :=
  ⟨by rw [cell_of_row _ _ 0 _ _ _ h]; rfl, by rw [cell_of_row _ _ 1 _ _ _ h]; rfl, by rw [cell_of_row _ _ 2 _ _ _ h]; rfl, by rw [cell_of_row _ _ 3 _ _ _ h]; rfl⟩
theorem St.drewt {w W : World} {L} (h : St w W L) : St w W.drew L := h.step ((Below.refl _ W).drew)
theorem al_t (W : World) (o : Obj) : Below W.heap.size W (W.alloc o) := (Below.refl _ W).alloc (Nat.le_refl _) o
theorem al_szt (W : World) (cs : Array Value) (t : TypeId) : (W.alloc (.cells cs t)).heap.size = W.heap.size + 1 := by simp
theorem T_le {z : Int} (h : z.natAbs < big) : (T z).size ≤ 1000 := by unfold T; rw [bs_size]; have := itoa_len h; omega
theorem St.mid2 {w W : World} {x y : Nat × ByteArray × ByteArray} {L} (h : St w W (x :: y :: L)) : St w W (x :: L) :=
  ⟨h.below, h.tab0, fun z hz => h.box z (by rcases List.mem_cons.1 hz with rfl | hz
                                            · exact List.mem_cons_self ..
                                            · exact List.mem_cons_of_mem _ (List.mem_cons_of_mem _ hz))⟩
/-- a list of two fractions -/
structure Two (W : World) (g : Nat) (a b c d : ByteArray) : Prop where
  row : W.heap[g]? = some (.cells #[.string a, .string b, .string c, .string d] 23 (0, 0))
theorem Two.lt {W : World} {g : Nat} {a b c d : ByteArray} (h : Two W g a b c d) : g < W.heap.size := (Array.getElem?_eq_some_iff.1 h.row).1
theorem Two.later {W W' : World} {g : Nat} {a b c d : ByteArray} (h : Two W g a b c d) (hb : Below W.heap.size W W') : Two W' g a b c d := ⟨(hb.block _ h.lt).trans h.row⟩
theorem Two.new (W : World) (a b c d : ByteArray) : Two (W.alloc (.cells #[.string a, .string b, .string c, .string d] 23)) W.heap.size a b c d := ⟨heap_alloc_new _ _⟩
theorem Two.cells {W : World} {g : Nat} {a b c d : ByteArray} (h : Two W g a b c d) :
    W.cell? ⟨g, 0, none⟩ = some (.string a) ∧ W.cell? ⟨g, 1, none⟩ = some (.string b) ∧ W.cell? ⟨g, 2, none⟩ = some (.string c) ∧ W.cell? ⟨g, 3, none⟩ = some (.string d) :=
  ⟨by rw [cell_of_row _ _ 0 _ _ _ h.row]; rfl, by rw [cell_of_row _ _ 1 _ _ _ h.row]; rfl, by rw [cell_of_row _ _ 2 _ _ _ h.row]; rfl, by rw [cell_of_row _ _ 3 _ _ _ h.row]; rfl⟩
/-- a list of two strings -/
structure Txs (W : World) (g : Nat) (a b : ByteArray) : Prop where
  row : W.heap[g]? = some (.cells #[.string a, .string b] 9 (0, 0))
theorem Txs.lt {W : World} {g : Nat} {a b : ByteArray} (h : Txs W g a b) : g < W.heap.size := (Array.getElem?_eq_some_iff.1 h.row).1
theorem Txs.later {W W' : World} {g : Nat} {a b : ByteArray} (h : Txs W g a b) (hb : Below W.heap.size W W') : Txs W' g a b := ⟨(hb.block _ h.lt).trans h.row⟩
theorem Txs.new (W : World) (a b : ByteArray) : Txs (W.alloc (.cells #[.string a, .string b] 9)) W.heap.size a b := ⟨heap_alloc_new _ _⟩
theorem Txs.cells {W : World} {g : Nat} {a b : ByteArray} (h : Txs W g a b) : W.cell? ⟨g, 0, none⟩ = some (.string a) ∧ W.cell? ⟨g, 1, none⟩ = some (.string b) :=
  ⟨by rw [cell_of_row _ _ 0 _ _ _ h.row]; rfl, by rw [cell_of_row _ _ 1 _ _ _ h.row]; rfl⟩

set_option maxRecDepth 100000 in
set_option maxHeartbeats 16000000 in
theorem RationalTextMatchesReference_any (N D : ByteArray) (x0 x1 x2 x3 : Int) (h0 : -9223372036854775808 ≤ x0) (k0 : x0 ≤ 9223372036854775807) (h1 : -9223372036854775808 ≤ x1) (k1 : x1 ≤ 9223372036854775807) (h2 : -9223372036854775808 ≤ x2) (k2 : x2 ≤ 9223372036854775807) (h3 : -9223372036854775808 ≤ x3) (k3 : x3 ≤ 9223372036854775807)
    (at' : Int) (ha0 : -9223372036854775808 ≤ at') (ha1 : at' ≤ 9223372036854775807) (c : Int) (hc0 : 0 ≤ c) (hc1 : c ≤ 255) (raw : ByteArray) (w : World) (ht : TabP w) :
    Calls Tryz.prog 4 #[.agg #[.string N, .string D], .agg #[.int .i64 x0, .int .i64 x1, .int .i64 x2, .int .i64 x3], .int .i64 at', .int .u8 c, .string raw] w fun e w' => e = .returned (.bool true) ∧ Below w.heap.size w w' := by
  have HN := Lib.hid (((St.start ht).add N D).step (al_t _ (.cells #[.int .i64 x0, .int .i64 x1, .int .i64 x2, .int .i64 x3] 24)))
  have h4 := heap_alloc_new (w.alloc (.cells #[.string N, .string D] 23)) (.cells #[.int .i64 x0, .int .i64 x1, .int .i64 x2, .int .i64 x3] 24)
  rw [al_szt] at h4
  have H4 := Lib.hid h4
  clear h4
  have HS := Lib.hid qsane_any
  have HLg := Lib.hid (rLong_any x0 x1 x2 x3 h0 k0 h1 k1 h2 k2 h3 k3)
  have HCut := Lib.hid (fun W => cutQ N D W)
  have K1 := Lib.hid (fun (m : Nat) (hm : 0 < m) W => pick4_any at' ha0 ha1 m (m : Int) rfl hm W)
  have zA : (N.extract 0 (min N.size 210)).size ≤ 210 := by rw [ByteArray.size_extract]; omega
  have zB : (D.extract 0 (min D.size 210)).size ≤ 210 := by rw [ByteArray.size_extract]; omega
  generalize N.extract 0 (min N.size 210) = A at *
  generalize D.extract 0 (min D.size 210) = B at *
  have hmr := run_min420 raw.size
  have hsr := str_h raw (min raw.size 420) ((min raw.size 420 : Nat) : Int) rfl (by omega)
  have zR : (raw.extract 0 (min raw.size 420)).size ≤ 420 := by rw [ByteArray.size_extract]; omega
  generalize hRe : raw.extract 0 (min raw.size 420) = R at *
  obtain ⟨mr, hMr⟩ : ∃ m, min raw.size 420 = m := ⟨_, rfl⟩
  have pr2 : (mr : Int) ≤ (raw.size : Int) := by omega
  rw [hMr] at hmr hsr
  have HMr := Lib.hid (And.intro hmr (And.intro hsr pr2))
  clear ht h0 k0 h1 k1 h2 k2 h3 k3 ha0 ha1 hRe hMr hmr hsr pr2
  go_enter Tryz.func4, Tryz.ntmps4
  go_upto_region 3 with (first
    | (go_at_call 11; (with_reducible refine (HS.out _ HN.out.tab).mono ?_); rintro e w0 ⟨rfl, hB⟩; replace HN := Lib.hid (HN.out.step hB); obtain ⟨q0, q1, q2, q3⟩ := row4t ((hB.block _ (by simp)).trans H4.out); clear hB)
    | (go_at_call 13; (with_reducible refine (HLg.out _).mono ?_); rintro e w1 ⟨p, hp, -, -, rfl, hB⟩; replace HN := Lib.hid ((HN.out.step hB).add (T p.1) (T p.2)); clear hB q0 q1 q2 q3 H4 HS HLg))
  refine wp_world fun W hW => ?_
  rw [← hW] at HN
  clear hW
  obtain ⟨y0, y1, y2, y3⟩ : W.cell? ⟨w.heap.size, 0, none⟩ = some (.string N) ∧ W.cell? ⟨w.heap.size, 1, none⟩ = some (.string D) ∧ W.cell? ⟨w1.heap.size, 0, none⟩ = some (.string (T p.1)) ∧ W.cell? ⟨w1.heap.size, 1, none⟩ = some (.string (T p.2)) := ⟨HN.out.tail.head.c0, HN.out.tail.head.c1, HN.out.head.c0, HN.out.head.c1⟩
  go_region_held3 (fun w' => w'.cell? ⟨w.heap.size, 0, none⟩ = some (.string N) ∧ w'.cell? ⟨w.heap.size, 1, none⟩ = some (.string D) ∧ w'.cell? ⟨w1.heap.size, 0, none⟩ = some (.string (T p.1)) ∧ w'.cell? ⟨w1.heap.size, 1, none⟩ = some (.string (T p.2))) (first | exact ⟨HN.out.tail.head.c0, HN.out.tail.head.c1, HN.out.head.c0, HN.out.head.c1⟩ | go_keep)
    (first | (go_at_call 12; (with_reducible refine (HCut.out _).mono ?_); rintro e w2 ⟨rfl, hB⟩; (first | replace HN := Lib.hid (HN.out.step hB) | replace HN := Lib.hid (HN.out.step (below_undrew hB))); clear hB))
  obtain ⟨hy1, hy2, hy3, hy4⟩ := text_yes hp
  have hrp := fun (W : World) => rPrintQ (T p.1) (T p.2) (T_le hp.b1) (T_le hp.b2) W
  have zM1 := T_le hp.b1
  have zM2 := T_le hp.b2
  generalize printQ (T p.1) (T p.2) = sM at *
  generalize T p.1 = M1 at *
  generalize T p.2 = M2 at *
  have HM := Lib.hid (And.intro hy2 (And.intro hy3 hy4))
  have HRP := Lib.hid hrp
  replace HN := Lib.hid ((HN.out.step (al_t w2 (.cells #[.string A, .string B, .string M1, .string M2] 23))).mid2)
  have H2 := Lib.hid (Two.new w2 A B M1 M2)
  clear hy1 hy2 hy3 hy4 hp hrp HCut y0 y1 y2 y3
  go_wp2_with fail
  go_loopw [34] (fun q wr => ∃ i : Nat, q = .int .i64 (i : Int) ∧ i ≤ 2 ∧ St w wr [(w1.heap.size, M1, M2)] ∧ Two wr w2.heap.size A B M1 M2) (fun q _ => (2 - intOf q).toNat)
  case atStart => exact ⟨0, rfl, by omega, HN.out, H2.out⟩
  case round =>
    clear HN H2
    obtain ⟨i, rfl, hi, hst, h2⟩ := hrel
    have HN := Lib.hid hst
    have H2 := Lib.hid h2
    obtain ⟨t0, t1', t2', t3⟩ := h2.cells
    clear hst h2
    have hcase : i = 0 ∨ i = 1 ∨ i = 2 := by omega
    rcases hcase with rfl | rfl | rfl
    · skip
      obtain ⟨s, t1, t2, er, v, hs, hq, hv, hz, hcs⟩ := txt_facts A B
      have kp := fun (W : World) (h : TabP W) => qPrint_any A B (by omega) (by omega) W h
      have kq := fun (W : World) (h : TabP W) => parse_any4 s (by omega) W h
      have kv := fun (W : World) (h : TabP W) => qValid_any A B W h
      have rp := fun (W : World) => rPrintQ A B (by omega) (by omega) W
      simp only [hs] at kp rp
      unfold Answers at kq
      simp only [hq] at kq
      simp only [hv] at kv
      have KP := Lib.hid kp
      have KQ := Lib.hid kq
      have KV := Lib.hid kv
      have RP := Lib.hid rp
      clear kp kq kv rp hs hq hv hz
      go_upto_region 6 with fail
      clear t0 t1' t2' t3
      replace H2 := Lib.hid (H2.out.later (al_t wr (.cells #[.string A, .string B] 23)))
      replace HN := Lib.hid (HN.out.add A B)
      have y0 := HN.out.head.c0
      have y1 := HN.out.head.c1
      go_upto_region 8 with (first
        | (go_at_call 33; (with_reducible refine (KP.out _ HN.out.tab).mono ?_); rintro ee w3 ⟨rfl, hB⟩; replace HN := Lib.hid (HN.out.step hB); replace H2 := Lib.hid (H2.out.later hB); clear hB; clear y0 y1)
        | (go_at_call 34; (with_reducible refine (KQ.out _ HN.out.tab).mono ?_); rintro ee w4 ⟨rfl, hB⟩; replace HN := Lib.hid ((HN.out.step hB).add t1 t2); replace H2 := Lib.hid ((H2.out.later hB).later (al_t _ (.cells #[.string t1, .string t2] 23))); clear hB))
      have y0 := HN.out.head.c0
      have y1 := HN.out.head.c1
      have y2 := HN.out.tail.head.c0
      have y3 := HN.out.tail.head.c1
      rcases hcs with ⟨rfl, rfl, rfl, rfl, hse⟩ | ⟨rfl, rfl, rfl⟩
      · go_wp2_with (first
          | (go_at_call 35; (with_reducible refine (RP.out _).mono ?_); rintro ee w5 ⟨rfl, hB⟩; replace HN := Lib.hid (HN.out.step hB); replace H2 := Lib.hid (H2.out.later hB); clear hB; replace y0 := HN.out.head.c0; replace y1 := HN.out.head.c1; replace y2 := HN.out.tail.head.c0; replace y3 := HN.out.tail.head.c1)
          | (go_at_call 29; (with_reducible refine (KV.out _ HN.out.tab).mono ?_); rintro ee w6 ⟨rfl, hB⟩; replace HN := Lib.hid (HN.out.step hB); replace H2 := Lib.hid (H2.out.later hB); clear hB; replace y0 := HN.out.head.c0; replace y1 := HN.out.head.c1; replace y2 := HN.out.tail.head.c0; replace y3 := HN.out.tail.head.c1))
        case roundEnd => exact ⟨⟨0 + 1, rfl, by omega, HN.out.tail.tail, H2.out⟩, by simp [intOf]⟩
      · go_wp2_with (first
          | (go_at_call 35; (with_reducible refine (RP.out _).mono ?_); rintro ee w5 ⟨rfl, hB⟩; replace HN := Lib.hid (HN.out.step hB); replace H2 := Lib.hid (H2.out.later hB); clear hB; replace y0 := HN.out.head.c0; replace y1 := HN.out.head.c1; replace y2 := HN.out.tail.head.c0; replace y3 := HN.out.tail.head.c1)
          | (go_at_call 29; (with_reducible refine (KV.out _ HN.out.tab).mono ?_); rintro ee w6 ⟨rfl, hB⟩; replace HN := Lib.hid (HN.out.step hB); replace H2 := Lib.hid (H2.out.later hB); clear hB; replace y0 := HN.out.head.c0; replace y1 := HN.out.head.c1; replace y2 := HN.out.tail.head.c0; replace y3 := HN.out.tail.head.c1))
        case roundEnd => exact ⟨⟨0 + 1, rfl, by omega, HN.out.tail.tail, H2.out⟩, by simp [intOf]⟩
    · skip
      obtain ⟨s, t1, t2, er, v, hs, hq, hv, hz, hcs⟩ := txt_facts M1 M2
      have kp := fun (W : World) (h : TabP W) => qPrint_any M1 M2 (by omega) (by omega) W h
      have kq := fun (W : World) (h : TabP W) => parse_any4 s (by omega) W h
      have kv := fun (W : World) (h : TabP W) => qValid_any M1 M2 W h
      have rp := fun (W : World) => rPrintQ M1 M2 (by omega) (by omega) W
      simp only [hs] at kp rp
      unfold Answers at kq
      simp only [hq] at kq
      simp only [hv] at kv
      have KP := Lib.hid kp
      have KQ := Lib.hid kq
      have KV := Lib.hid kv
      have RP := Lib.hid rp
      clear kp kq kv rp hs hq hv hz
      go_upto_region 6 with fail
      clear t0 t1' t2' t3
      replace H2 := Lib.hid (H2.out.later (al_t wr (.cells #[.string M1, .string M2] 23)))
      replace HN := Lib.hid (HN.out.add M1 M2)
      have y0 := HN.out.head.c0
      have y1 := HN.out.head.c1
      go_upto_region 8 with (first
        | (go_at_call 33; (with_reducible refine (KP.out _ HN.out.tab).mono ?_); rintro ee w3 ⟨rfl, hB⟩; replace HN := Lib.hid (HN.out.step hB); replace H2 := Lib.hid (H2.out.later hB); clear hB; clear y0 y1)
        | (go_at_call 34; (with_reducible refine (KQ.out _ HN.out.tab).mono ?_); rintro ee w4 ⟨rfl, hB⟩; replace HN := Lib.hid ((HN.out.step hB).add t1 t2); replace H2 := Lib.hid ((H2.out.later hB).later (al_t _ (.cells #[.string t1, .string t2] 23))); clear hB))
      have y0 := HN.out.head.c0
      have y1 := HN.out.head.c1
      have y2 := HN.out.tail.head.c0
      have y3 := HN.out.tail.head.c1
      rcases hcs with ⟨rfl, rfl, rfl, rfl, hse⟩ | ⟨rfl, rfl, rfl⟩
      · go_wp2_with (first
          | (go_at_call 35; (with_reducible refine (RP.out _).mono ?_); rintro ee w5 ⟨rfl, hB⟩; replace HN := Lib.hid (HN.out.step hB); replace H2 := Lib.hid (H2.out.later hB); clear hB; replace y0 := HN.out.head.c0; replace y1 := HN.out.head.c1; replace y2 := HN.out.tail.head.c0; replace y3 := HN.out.tail.head.c1)
          | (go_at_call 29; (with_reducible refine (KV.out _ HN.out.tab).mono ?_); rintro ee w6 ⟨rfl, hB⟩; replace HN := Lib.hid (HN.out.step hB); replace H2 := Lib.hid (H2.out.later hB); clear hB; replace y0 := HN.out.head.c0; replace y1 := HN.out.head.c1; replace y2 := HN.out.tail.head.c0; replace y3 := HN.out.tail.head.c1))
        case roundEnd => exact ⟨⟨1 + 1, rfl, by omega, HN.out.tail.tail, H2.out⟩, by simp [intOf]⟩
      · go_wp2_with (first
          | (go_at_call 35; (with_reducible refine (RP.out _).mono ?_); rintro ee w5 ⟨rfl, hB⟩; replace HN := Lib.hid (HN.out.step hB); replace H2 := Lib.hid (H2.out.later hB); clear hB; replace y0 := HN.out.head.c0; replace y1 := HN.out.head.c1; replace y2 := HN.out.tail.head.c0; replace y3 := HN.out.tail.head.c1)
          | (go_at_call 29; (with_reducible refine (KV.out _ HN.out.tab).mono ?_); rintro ee w6 ⟨rfl, hB⟩; replace HN := Lib.hid (HN.out.step hB); replace H2 := Lib.hid (H2.out.later hB); clear hB; replace y0 := HN.out.head.c0; replace y1 := HN.out.head.c1; replace y2 := HN.out.tail.head.c0; replace y3 := HN.out.tail.head.c1))
        case roundEnd => exact ⟨⟨1 + 1, rfl, by omega, HN.out.tail.tail, H2.out⟩, by simp [intOf]⟩
    · skip
      clear t0 t1' t2' t3 H2
      have y0 := HN.out.head.c0
      have y1 := HN.out.head.c1
      have hse := HM.out.1
      go_upto_region 15 with (first
        | (go_at_call 35; (with_reducible refine (HRP.out _).mono ?_); rintro ee w3 ⟨rfl, hB⟩; replace HN := Lib.hid (HN.out.step hB); clear hB y0 y1)
        | (go_at_call 22; (with_reducible refine (K1.out _ HM.out.2.2 _).mono ?_); rintro ee ww ⟨k, hk, rfl, hww⟩; rw [hww]; clear hww ww))
      obtain ⟨hmr, hsr, pr2⟩ := HMr.out
      have hM1 := HM.out.2.1
      have pr1 : (0 : Int) ≤ (mr : Int) := by omega
      have pk1 : (0 : Int) ≤ (k : Int) := by omega
      have pk2 : (k : Int) ≤ (sM.size : Int) := by omega
      have pk3 : (k : Int) + 1 ≤ (sM.size : Int) := by omega
      have pk4 : IntKind.i64.wrap ((k : Int) + 1) = (k : Int) + 1 := by rw [IntKind.wrap_i64]; omega
      have pk5 : (0 : Int) ≤ (k : Int) + 1 := by omega
      have hcv : (convert 48 9 (.slice (some ⟨w3.heap.size, 0, none⟩) 1 1)).run Tryz.prog ((w3.alloc (.cells #[.int .u8 c] 5)).drew) = .ok (.string (bs [UInt8.ofNat c.toNat])) ((w3.alloc (.cells #[.int .u8 c] 5)).drew) :=
        run_convert_bytes_arg _ 48 5 Tryz.underlying48 Tryz.underlying5 w3.heap.size 0 1 1 [c] rfl (fun i hi => by
          obtain rfl : i = 0 := by omega
          rw [cell_of_row _ _ _ _ _ _ (show (w3.alloc (.cells #[.int .u8 c] 5)).drew.heap[w3.heap.size]? = _ from heap_alloc_new w3 _)]; rfl) 9 Tryz.underlying9
      have zX : (sM.extract 0 k).size ≤ 410 := by rw [ByteArray.size_extract]; omega
      have zZ : (sM.extract (k + 1) sM.size).size ≤ 410 := by rw [ByteArray.size_extract]; omega
      generalize hXe : sM.extract 0 k = X at *
      generalize hZe : sM.extract (k + 1) sM.size = Z at *
      obtain ⟨E, hE⟩ : ∃ E, bs [UInt8.ofNat c.toNat] = E := ⟨_, rfl⟩
      have hEz : E.size = 1 := by rw [← hE]; rfl
      rw [hE] at hcv
      have f1 : ¬ 9223372036854775807 < X.size + E.size := by omega
      have f2 : ¬ 9223372036854775807 < X.size + 1 := by omega
      have f3 : ¬ 9223372036854775807 < (X ++ E).size + Z.size := by rw [ByteArray.size_append]; omega
      have f4 : ¬ 9223372036854775807 < X.size + E.size + Z.size := by omega
      have f5 : ¬ 9223372036854775807 < X.size + 1 + Z.size := by omega
      have zY : (X ++ E ++ Z).size ≤ 900 := by rw [ByteArray.size_append, ByteArray.size_append]; omega
      have HE := Lib.hid (And.intro hE hEz)
      have HXZ := Lib.hid (And.intro hXe hZe)
      clear hE zA zB zX zZ
      have HN3 := HN
      go_cut [94, 95, 96] (fun l n i wx => l = .slice (some ⟨w3.heap.size + 1, 0, none⟩) 2 2 ∧ n = .int .i64 2 ∧ i = .int .i64 0 ∧ wx = ((w3.alloc (.cells #[.int .u8 c] 5)).alloc (.cells #[.string R, .string (X ++ E ++ Z)] 9)).drew)
      case first =>
        clear HN3 HN HM HMr HRP HXZ HE hse
        go_region_with (fail)
        all_goals
          go_wp2_with fail
          go_meet
          exact ⟨rfl, rfl, rfl, rfl⟩
      case rest =>
        obtain ⟨rfl, rfl, rfl, rfl⟩ := hcut
        have hT : Txs ((w3.alloc (.cells #[.int .u8 c] 5)).alloc (.cells #[.string R, .string (X ++ E ++ Z)] 9)).drew (w3.heap.size + 1) R (X ++ E ++ Z) := by
          have h := Txs.new (w3.alloc (.cells #[.int .u8 c] 5)) R (X ++ E ++ Z)
          rw [al_szt] at h
          exact ⟨h.row⟩
        have hN2 : St w ((w3.alloc (.cells #[.int .u8 c] 5)).alloc (.cells #[.string R, .string (X ++ E ++ Z)] 9)).drew [(w1.heap.size, M1, M2)] := ((HN3.out.step (al_t w3 (.cells #[.int .u8 c] 5))).step (al_t _ (.cells #[.string R, .string (X ++ E ++ Z)] 9))).drewt
        have H3 := Lib.hid hT
        have HN := Lib.hid hN2
        clear HN3 hT hN2 f1 f2 f3 f4 f5 pk1 pk2 pk3 pk4 pk5 pr1 pr2 hmr hsr hcv HM HMr HRP HXZ HE hse hEz hM1
        generalize X ++ E ++ Z = Y at *
        go_wp2_with fail
        go_loopw [96] (fun q wr => ∃ i : Nat, q = .int .i64 (i : Int) ∧ i ≤ 2 ∧ St w wr [(w1.heap.size, M1, M2)] ∧ Txs wr (w3.heap.size + 1) R Y) (fun q _ => (2 - intOf q).toNat)
        case atStart => exact ⟨0, rfl, by omega, HN.out, H3.out⟩
        case round =>
          clear HN H3
          obtain ⟨i, rfl, hi, hst, h2⟩ := hrel
          have HN := Lib.hid hst
          have H2 := Lib.hid h2
          obtain ⟨t0, t1'⟩ := h2.cells
          clear hst h2
          have hcase : i = 0 ∨ i = 1 ∨ i = 2 := by omega
          rcases hcase with rfl | rfl | rfl
          · skip
            obtain ⟨a, b, er, hq, za, zb, hcs⟩ := parse_back R
            have kq := fun (W : World) (h : TabP W) => parse_any4 R (by omega) W h
            have rq := fun (W : World) => rParseQ R (by omega) W
            unfold Answers at kq rq
            simp only [hq] at kq rq
            have kp := fun (W : World) (h : TabP W) => qPrint_any a b (by omega) (by omega) W h
            have KQ := Lib.hid kq
            have RQ := Lib.hid rq
            clear kq rq hq za zb
            go_upto_region 20 with (first
              | (go_at_call 34; (with_reducible refine (KQ.out _ HN.out.tab).mono ?_); rintro ee w4 ⟨rfl, hB⟩; replace HN := Lib.hid ((HN.out.step hB).add a b); replace H2 := Lib.hid ((H2.out.later hB).later (al_t _ (.cells #[.string a, .string b] 23))); clear hB t0 t1')
              | (go_at_call 36; (with_reducible refine (RQ.out _).mono ?_); rintro ee w5 ⟨rfl, hB⟩; replace HN := Lib.hid ((HN.out.step hB).add a b); replace H2 := Lib.hid ((H2.out.later hB).later (al_t _ (.cells #[.string a, .string b] 23))); clear hB))
            have y0 := HN.out.head.c0
            have y1 := HN.out.head.c1
            have y2 := HN.out.tail.head.c0
            have y3 := HN.out.tail.head.c1
            rcases hcs with rfl | ⟨rfl, hpr⟩
            · clear kp
              go_wp2_with fail
              case roundEnd => exact ⟨⟨0 + 1, rfl, by omega, HN.out.tail.tail, H2.out⟩, by simp [intOf]⟩
            · simp only [hpr] at kp
              have KP := Lib.hid kp
              clear kp hpr
              go_wp2_with (go_at_call 33; (with_reducible refine (KP.out _ HN.out.tab).mono ?_); rintro ee w6 ⟨rfl, hB⟩; replace HN := Lib.hid (HN.out.step hB); replace H2 := Lib.hid (H2.out.later hB); clear hB)
              case roundEnd => exact ⟨⟨0 + 1, rfl, by omega, HN.out.tail.tail, H2.out⟩, by simp [intOf]⟩
          · skip
            obtain ⟨a, b, er, hq, za, zb, hcs⟩ := parse_back Y
            have kq := fun (W : World) (h : TabP W) => parse_any4 Y (by omega) W h
            have rq := fun (W : World) => rParseQ Y (by omega) W
            unfold Answers at kq rq
            simp only [hq] at kq rq
            have kp := fun (W : World) (h : TabP W) => qPrint_any a b (by omega) (by omega) W h
            have KQ := Lib.hid kq
            have RQ := Lib.hid rq
            clear kq rq hq za zb
            go_upto_region 20 with (first
              | (go_at_call 34; (with_reducible refine (KQ.out _ HN.out.tab).mono ?_); rintro ee w4 ⟨rfl, hB⟩; replace HN := Lib.hid ((HN.out.step hB).add a b); replace H2 := Lib.hid ((H2.out.later hB).later (al_t _ (.cells #[.string a, .string b] 23))); clear hB t0 t1')
              | (go_at_call 36; (with_reducible refine (RQ.out _).mono ?_); rintro ee w5 ⟨rfl, hB⟩; replace HN := Lib.hid ((HN.out.step hB).add a b); replace H2 := Lib.hid ((H2.out.later hB).later (al_t _ (.cells #[.string a, .string b] 23))); clear hB))
            have y0 := HN.out.head.c0
            have y1 := HN.out.head.c1
            have y2 := HN.out.tail.head.c0
            have y3 := HN.out.tail.head.c1
            rcases hcs with rfl | ⟨rfl, hpr⟩
            · clear kp
              go_wp2_with fail
              case roundEnd => exact ⟨⟨1 + 1, rfl, by omega, HN.out.tail.tail, H2.out⟩, by simp [intOf]⟩
            · simp only [hpr] at kp
              have KP := Lib.hid kp
              clear kp hpr
              go_wp2_with (go_at_call 33; (with_reducible refine (KP.out _ HN.out.tab).mono ?_); rintro ee w6 ⟨rfl, hB⟩; replace HN := Lib.hid (HN.out.step hB); replace H2 := Lib.hid (H2.out.later hB); clear hB)
              case roundEnd => exact ⟨⟨1 + 1, rfl, by omega, HN.out.tail.tail, H2.out⟩, by simp [intOf]⟩
          · clear t0 t1' H2
            go_wp2_with fail
            go_ret
            exact ⟨rfl, HN.out.below⟩

end Go.Proofs.YtjkklgpbblkhaaaGreatDoor

/-
  RationalTextMatchesReference: for every input the law returns true, and each argument reads afterwards as it read before.
  Conditions: the variables (the tables of the decimal powers and of the bit counts, and the errors of strconv) hold what the program's own text lays there, which the card ties to that text. The card's set-up speaks of the pruned copy of the project.
-/
namespace Go.Proofs.YtjkklgpbblkhaaaGreatDoor.rationalTextMatchesReference
open Go.ChangeShapes Go.WideShapes Go.ChangeAt Go.RowKit
open Go.ChangeMaps (open_string shut_string)

theorem list2 {α : Type} (l : List α) (h : (⟨l⟩ : Array α).size = 2) : ∃ a b, l = [a, b] := by
  match l, h with
  | [a, b], _ => exact ⟨a, b, rfl⟩
theorem list4 {α : Type} (l : List α) (h : (⟨l⟩ : Array α).size = 4) : ∃ a b c d, l = [a, b, c, d] := by
  match l, h with
  | [a, b, c, d], _ => exact ⟨a, b, c, d, rfl⟩
theorem params_ok : ∀ t ∈ Tryz.f4.params.toList, Tryz.prog.readableRec t = true ∧ t < Tryz.prog.types.size := by
  rw [Tryz.params4]
  intro t ht
  simp only [List.mem_cons, List.not_mem_nil, or_false] at ht
  rcases ht with rfl | rfl | rfl | rfl | rfl <;> exact ⟨by kernel_rfl, of_decide_eq_true (by kernel_rfl)⟩

set_option maxRecDepth 100000 in
theorem walk_args {H : Type} {enc : TypeId × Value → H} {W : World} {base : Nat} {args : Array Value} {ds : List (DataW H)} {p : List MemPlace}
    (hval : ∀ (j : Nat) t v, Tryz.f4.params[j]? = some t → args[j]? = some v → Value.okWide Tryz.prog W .any base t v)
    (hA : DataW.TrodAll enc Tryz.prog W 0 (fun _ => true) true Tryz.f4.params.toList args.toList ds p) (ht : TabP W) :
    ds.length = 5 ∧ Calls Tryz.prog 4 args W fun e W' => e = .returned (.bool true) ∧ Below W.heap.size W W' := by
  rw [Tryz.params4] at hA hval
  obtain ⟨v0, vs0, d0, ds0, p0, q0, hargs, rfl, rfl, h0, r0⟩ := trodAll_cons hA
  obtain ⟨v1, vs1, d1, ds1, p1, q1, rfl, rfl, rfl, h1, r1⟩ := trodAll_cons r0
  obtain ⟨v2, vs2, d2, ds2, p2, q2, rfl, rfl, rfl, h2, r2⟩ := trodAll_cons r1
  obtain ⟨v3, vs3, d3, ds3, p3, q3, rfl, rfl, rfl, h3, r3⟩ := trodAll_cons r2
  obtain ⟨v4, vs4, d4, ds4, p4, q4, rfl, rfl, rfl, h4, r4⟩ := trodAll_cons r3
  obtain ⟨rfl, rfl, rfl⟩ := trodAll_nil r4
  obtain rfl : args = #[v0, v1, v2, v3, v4] := by cases args; simp_all
  refine ⟨rfl, ?_⟩
  obtain ⟨cs0, rfl, hsz0, _⟩ : ∃ cs, v0 = .agg cs ∧ cs.size = Tryz.prog.cellsOf 23 ∧ Row.okWide Tryz.prog W .any base 23 cs := by
    have := hval 0 23 v0 rfl rfl
    simpa [Value.okWide, Tryz.underlying23] using this
  rw [show Tryz.prog.cellsOf 23 = 2 from by kernel_rfl] at hsz0
  obtain ⟨cl0⟩ := cs0
  obtain ⟨c00, c01, rfl⟩ := list2 cl0 hsz0
  obtain ⟨fuel0, hf0⟩ := h0
  obtain ⟨y00, y01, m0, -, -, e00, e01⟩ := trod_struct2 Tryz.underlying23 hf0
  dsimp only at e00 e01
  rw [show Tryz.prog.cellsOf 9 = 1 from by kernel_rfl] at e00 e01
  obtain ⟨b00, x00, -, z00⟩ := DataW.trod_string Tryz.underlying9 e00
  obtain ⟨b01, x01, -, z01⟩ := DataW.trod_string Tryz.underlying9 e01
  simp [Value.cells] at x00 x01
  subst x00 x01
  obtain ⟨cs1, rfl, hsz1, _⟩ : ∃ cs, v1 = .agg cs ∧ cs.size = Tryz.prog.cellsOf 24 ∧ Row.okWide Tryz.prog W .any base 24 cs := by
    have := hval 1 24 v1 rfl rfl
    simpa [Value.okWide, Tryz.underlying24] using this
  rw [show Tryz.prog.cellsOf 24 = 4 from by kernel_rfl] at hsz1
  obtain ⟨cl1⟩ := cs1
  obtain ⟨c10, c11, c12, c13, rfl⟩ := list4 cl1 hsz1
  obtain ⟨fuel1, hf1⟩ := h1
  obtain ⟨xs1, m1, rfl, -, -, hxl1, hxs1⟩ := DataW.trod_array Tryz.underlying24 hf1
  have e10 := hxs1 0 (by omega)
  have e11 := hxs1 1 (by omega)
  have e12 := hxs1 2 (by omega)
  have e13 := hxs1 3 (by omega)
  rw [List.getElem?_eq_getElem (by omega), show Tryz.prog.cellsOf 3 = 1 from by kernel_rfl] at e10 e11 e12 e13
  obtain ⟨b10, x10, -, z10⟩ := DataW.trod_int Tryz.underlying3 e10
  obtain ⟨b11, x11, -, z11⟩ := DataW.trod_int Tryz.underlying3 e11
  obtain ⟨b12, x12, -, z12⟩ := DataW.trod_int Tryz.underlying3 e12
  obtain ⟨b13, x13, -, z13⟩ := DataW.trod_int Tryz.underlying3 e13
  simp [Value.cells] at x10 x11 x12 x13
  subst x10 x11 x12 x13
  obtain ⟨l10, u10⟩ := bounds_i64 z10
  obtain ⟨l11, u11⟩ := bounds_i64 z11
  obtain ⟨l12, u12⟩ := bounds_i64 z12
  obtain ⟨l13, u13⟩ := bounds_i64 z13
  obtain ⟨a2, rfl, rfl, rfl, w2⟩ := open_int Tryz.underlying3 (hval 2 3 v2 rfl rfl) h2
  obtain ⟨l2, u2⟩ := bounds_i64 w2
  obtain ⟨a3, rfl, rfl, rfl, w3⟩ := open_int Tryz.underlying5 (hval 3 5 v3 rfl rfl) h3
  obtain ⟨l3, u3⟩ := bounds_u8 w3
  obtain ⟨a4, rfl, rfl, rfl, w4⟩ := open_string Tryz.underlying9 (hval 4 9 v4 rfl rfl) h4
  exact RationalTextMatchesReference_any b00 b01 b10 b11 b12 b13 l10 u10 l11 u11 l12 u12 l13 u13 a2 l2 u2 a3 l3 u3 a4 W ht

def wargs : Array Value := #[.agg #[.string ByteArray.empty, .string ByteArray.empty], .agg #[.int .i64 0, .int .i64 0, .int .i64 0, .int .i64 0], .int .i64 0, .int .u8 0, .string ByteArray.empty]
theorem laid_met (os : Os) : laidMet Tryz.prog Rows.rationalTextMatchesReferenceRow.laid ((Tab.laidWorld os).forCall (fun _ _ => 0) ⟨#[], wargs, []⟩).memory :=
  Tab.laid_met os wargs
theorem reads (os : Os) {H : Type} (enc : TypeId × Value → H) : ∃ ds places, DataW.whole enc Tryz.prog ((Tab.laidWorld os).forCall (fun _ _ => 0) ⟨#[], wargs, []⟩).memory Tryz.f4.params.toList Rows.rationalTextMatchesReferenceSpec.vars false wargs.toList 8 = some (ds, [], places) :=
  ⟨[.agg [.lit (.string []), .lit (.string [])], .agg [.lit (.int .i64 0), .lit (.int .i64 0), .lit (.int .i64 0), .lit (.int .i64 0)], .lit (.int .i64 0), .lit (.int .u8 0), .lit (.string [])], [], by kernel_rfl⟩

set_option maxRecDepth 100000 in
theorem lifted (os : Os) (started : os.Started) (H : Type) (enc : TypeId × Value → H) (F : Stop.Interp) :
    ReturnsInHanded {} Tryz.checked os 4 .any ((OpenSpec.ofChange Rows.rationalTextMatchesReferenceSpec).preRow enc Tryz.prog Tryz.f4 Rows.rationalTextMatchesReferenceRow.domain false Rows.rationalTextMatchesReferenceRow.laid) (((OpenSpec.ofChange Rows.rationalTextMatchesReferenceSpec).at F).post enc Tryz.prog Tryz.f4 false true false false) := by
  obtain ⟨wd, places, hx⟩ := reads os enc
  refine returnsInHanded_of_row (C := Tryz.checked) (s := OpenSpec.ofChange Rows.rationalTextMatchesReferenceSpec) Tab.own started (by kernel_rfl) Tryz.func4
    (witness_row_at (enc := enc) (C := Tryz.checked) false (Tab.laidWorld os) wargs (Tab.laidWorld_os os) (by kernel_rfl) (by kernel_rfl) (by kernel_rfl)
      (OpenSpec.preRow_of_cond 8 hx (by kernel_rfl) (fun k hk => by cases hk) (by kernel_rfl) (laid_met os))) ?_
  intro W base args ds gs before hval hW _ _ _ hL _ _
  have hW' := hW
  obtain ⟨p, q, hA, -, -, -, -⟩ := hW'
  obtain ⟨h3, walk⟩ := walk_args hval hA (Tab.table hL)
  refine Fr.law_contract Tab.laidOut params_ok rfl (by kernel_rfl) Tryz.underlying4 hW ?_ walk
  match ds, h3 with
  | [_, _, _, _, _], _ => rfl

theorem said : Rows.RationalTextMatchesReferenceSaid :=
  OpenClaim.holds_of_cond 4 Tryz.f4 rfl rfl rfl rfl rfl rfl rfl ⟨rfl, rfl, rfl, rfl, rfl⟩ rfl rfl rfl rfl rfl (by kernel_rfl) Tryz.func4 (by kernel_rfl)
    (of_decide_eq_true (by kernel_rfl)) (by unfold Func.isWrapper; first | (rw [if_pos (by decide +kernel)]; kernel_rfl) | (rw [if_neg (by decide +kernel)]; exact ⟨rfl, rfl⟩))
    (fun os started H enc _ F => by rw [OpenClaim.pre_eq_preRow]; exact lifted os started H enc F)

theorem plain (f : FuncId) (fn : Func) (hf : Tryz.pinned.checked.prog.funcNamed "longliner/longlinerlaw04.RationalTextMatchesReference" = some f) (hfn : Tryz.pinned.checked.prog.funcs[f]? = some fn) :
    true = Tryz.pinned.checked.prog.looks [] ∧ ∀ (j : Nat) t, fn.params[j]? = some t → Tryz.pinned.checked.prog.wantsStandIn t = false := by
  obtain rfl : f = 4 := Option.some.inj ((show Tryz.prog.funcNamed "longliner/longlinerlaw04.RationalTextMatchesReference" = some 4 by kernel_rfl).symm.trans hf) |>.symm
  obtain rfl : fn = Tryz.f4 := (Option.some.inj (Tryz.func4.symm.trans hfn)).symm
  refine ⟨by kernel_rfl, fun j t ht => ?_⟩
  rw [Tryz.params4] at ht
  have hm := Array.mem_of_getElem? ht
  simp only [List.mem_toArray, List.mem_cons, List.not_mem_nil, or_false] at hm
  rcases hm with rfl | rfl | rfl | rfl | rfl
  all_goals (show Tryz.prog.wantsStandIn _ = false; kernel_rfl)

theorem card : Rows.RationalTextMatchesReferenceCardSaid :=
  Claim7.holds_tied_plain_at .later [] _ _ _ _ said (fun _ h => by cases h) (by kernel_rfl) (fun _ h => by cases h) rationalTextMatchesReference_row_tie rfl ⟨rfl, rfl⟩ (by kernel_rfl) rfl plain (by kernel_rfl)
end Go.Proofs.YtjkklgpbblkhaaaGreatDoor.rationalTextMatchesReference
