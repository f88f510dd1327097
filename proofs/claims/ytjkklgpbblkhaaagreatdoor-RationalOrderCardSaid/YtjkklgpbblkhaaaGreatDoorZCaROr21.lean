/-
  Put together by program out of these texts, in this order: Qoo, CaROr.
-/
import Derived.Test.YtjkklgpbblkhaaaGreatDoorZCaROr20
import Derived.Deep.DeepCutAuto
import Derived.Test.YtjkklgpbblkhaaaGreatDoorCards
import Derived.Test.YtjkklgpbblkhaaaGreatDoorTie
import Derived.Test.YtjkklgpbblkhaaaGreatDoorZCaROr04

/-
  RationalOrder: for every fourteen integers, and in every memory in which the table of the decimal powers holds its numbers, the law returns true.
-/
namespace Go.Proofs.YtjkklgpbblkhaaaGreatDoor
open Go.RowKit Bs Ig Qq

theorem row4o {W : World} {g : Nat} {x0 x1 x2 x3 : Int} (h : W.heap[g]? = some (.cells #[.int .i64 x0, .int .i64 x1, .int .i64 x2, .int .i64 x3] 24 (0, 0))) :
    W.cell? ⟨g, 0, none⟩ = some (.int .i64 x0) ∧ W.cell? ⟨g, 1, none⟩ = some (.int .i64 x1) ∧ W.cell? ⟨g, 2, none⟩ = some (.int .i64 x2) ∧ W.cell? ⟨g, 3, none⟩ = some (.int .i64 x3) :=
  ⟨by rw [cell_of_row _ _ 0 _ _ _ h]; rfl, by rw [cell_of_row _ _ 1 _ _ _ h]; rfl, by rw [cell_of_row _ _ 2 _ _ _ h]; rfl, by rw [cell_of_row _ _ 3 _ _ _ h]; rfl⟩
theorem row2o {W : World} {g : Nat} {x0 x1 : Int} (h : W.heap[g]? = some (.cells #[.int .i64 x0, .int .i64 x1] 25 (0, 0))) :
    W.cell? ⟨g, 0, none⟩ = some (.int .i64 x0) ∧ W.cell? ⟨g, 1, none⟩ = some (.int .i64 x1) :=
  ⟨by rw [cell_of_row _ _ 0 _ _ _ h]; rfl, by rw [cell_of_row _ _ 1 _ _ _ h]; rfl⟩
theorem below_al (W : World) (o : Obj) : Below W.heap.size W (W.alloc o) := (Below.refl _ W).alloc (Nat.le_refl _) o
/-- the blocks of the four arguments -/
structure Args (w W : World) (x0 x1 x2 x3 y0 y1 y2 y3 z0 z1 z2 z3 s0 s1 : Int) : Prop where
  x : W.heap[w.heap.size]? = some (.cells #[.int .i64 x0, .int .i64 x1, .int .i64 x2, .int .i64 x3] 24 (0, 0))
  y : W.heap[w.heap.size + 1]? = some (.cells #[.int .i64 y0, .int .i64 y1, .int .i64 y2, .int .i64 y3] 24 (0, 0))
  z : W.heap[w.heap.size + 1 + 1]? = some (.cells #[.int .i64 z0, .int .i64 z1, .int .i64 z2, .int .i64 z3] 24 (0, 0))
  s : W.heap[w.heap.size + 1 + 1 + 1]? = some (.cells #[.int .i64 s0, .int .i64 s1] 25 (0, 0))
theorem Args.later {w W W' : World} {x0 x1 x2 x3 y0 y1 y2 y3 z0 z1 z2 z3 s0 s1 : Int} (h : Args w W x0 x1 x2 x3 y0 y1 y2 y3 z0 z1 z2 z3 s0 s1) (hb : Below W.heap.size W W') : Args w W' x0 x1 x2 x3 y0 y1 y2 y3 z0 z1 z2 z3 s0 s1 :=
  ⟨cells_later h.x hb, cells_later h.y hb, cells_later h.z hb, cells_later h.s hb⟩
theorem al_size (W : World) (cs : Array Value) (t : TypeId) : (W.alloc (.cells cs t)).heap.size = W.heap.size + 1 := by simp
theorem Args.first (w : World) (x0 x1 x2 x3 y0 y1 y2 y3 z0 z1 z2 z3 s0 s1 : Int) : Args w ((((w.alloc (.cells #[.int .i64 x0, .int .i64 x1, .int .i64 x2, .int .i64 x3] 24)).alloc (.cells #[.int .i64 y0, .int .i64 y1, .int .i64 y2, .int .i64 y3] 24)).alloc (.cells #[.int .i64 z0, .int .i64 z1, .int .i64 z2, .int .i64 z3] 24)).alloc (.cells #[.int .i64 s0, .int .i64 s1] 25)) x0 x1 x2 x3 y0 y1 y2 y3 z0 z1 z2 z3 s0 s1 := by
  refine ⟨?_, ?_, ?_, ?_⟩
  · exact cells_later (cells_later (cells_later (heap_alloc_new w _) (below_al _ _)) (below_al _ _)) (below_al _ _)
  · have h := cells_later (cells_later (heap_alloc_new (w.alloc (.cells #[.int .i64 x0, .int .i64 x1, .int .i64 x2, .int .i64 x3] 24)) (.cells #[.int .i64 y0, .int .i64 y1, .int .i64 y2, .int .i64 y3] 24)) (below_al _ (.cells #[.int .i64 z0, .int .i64 z1, .int .i64 z2, .int .i64 z3] 24))) (below_al _ (.cells #[.int .i64 s0, .int .i64 s1] 25))
    rw [al_size] at h
    exact h
  · have h := cells_later (heap_alloc_new ((w.alloc (.cells #[.int .i64 x0, .int .i64 x1, .int .i64 x2, .int .i64 x3] 24)).alloc (.cells #[.int .i64 y0, .int .i64 y1, .int .i64 y2, .int .i64 y3] 24)) (.cells #[.int .i64 z0, .int .i64 z1, .int .i64 z2, .int .i64 z3] 24)) (below_al _ (.cells #[.int .i64 s0, .int .i64 s1] 25))
    rw [al_size, al_size] at h
    exact h
  · have h := heap_alloc_new (((w.alloc (.cells #[.int .i64 x0, .int .i64 x1, .int .i64 x2, .int .i64 x3] 24)).alloc (.cells #[.int .i64 y0, .int .i64 y1, .int .i64 y2, .int .i64 y3] 24)).alloc (.cells #[.int .i64 z0, .int .i64 z1, .int .i64 z2, .int .i64 z3] 24)) (.cells #[.int .i64 s0, .int .i64 s1] 25)
    rw [al_size, al_size, al_size] at h
    exact h
theorem St.drewo {w W : World} {L} (h : St w W L) : St w W.drew L := h.step ((Below.refl _ W).drew)
theorem St.cells4o {w W : World} {g1 : Nat} {a1 b1 : ByteArray} {g2 : Nat} {a2 b2 : ByteArray} {g3 : Nat} {a3 b3 : ByteArray} {g4 : Nat} {a4 b4 : ByteArray} {L} (h : St w W ((g4, a4, b4) :: (g3, a3, b3) :: (g2, a2, b2) :: (g1, a1, b1) :: L)) :
    W.cell? ⟨g1, 0, none⟩ = some (.string a1) ∧ W.cell? ⟨g1, 1, none⟩ = some (.string b1) ∧ W.cell? ⟨g2, 0, none⟩ = some (.string a2) ∧ W.cell? ⟨g2, 1, none⟩ = some (.string b2) ∧ W.cell? ⟨g3, 0, none⟩ = some (.string a3) ∧ W.cell? ⟨g3, 1, none⟩ = some (.string b3) ∧ W.cell? ⟨g4, 0, none⟩ = some (.string a4) ∧ W.cell? ⟨g4, 1, none⟩ = some (.string b4) :=
  ⟨h.tail.tail.tail.head.c0, h.tail.tail.tail.head.c1, h.tail.tail.head.c0, h.tail.tail.head.c1, h.tail.head.c0, h.tail.head.c1, h.head.c0, h.head.c1⟩

theorem St.putN {w W : World} {L} {g : Nat} {a b : ByteArray} (h : St w W ((g, a, b) :: L)) (hg : w.heap.size ≤ g ∧ ∀ x ∈ L, x.1 ≠ g) (N D : ByteArray) : St w ((W.setCell ⟨g, 0, none⟩ (.string N)).setCell ⟨g, 1, none⟩ (.string D)) ((g, N, D) :: L) := by
  refine ⟨fin1 h.head h.below hg.1 N D, h.tab0, fun x hx => ?_⟩
  · rcases List.mem_cons.1 hx with rfl | hx
    · exact two_strs h.head N D
    · exact far_strs (h.box x (List.mem_cons_of_mem _ hx)) (hg.2 x hx).symm N D
theorem St.swap {w W : World} {x y : Nat × ByteArray × ByteArray} {L} (h : St w W (x :: y :: L)) : St w W (y :: x :: L) :=
  ⟨h.below, h.tab0, fun z hz => h.box z (by rcases List.mem_cons.1 hz with rfl | hz
                                            · exact List.mem_cons_of_mem _ (List.mem_cons_self ..)
                                            · rcases List.mem_cons.1 hz with rfl | hz
                                              · exact List.mem_cons_self ..
                                              · exact List.mem_cons_of_mem _ (List.mem_cons_of_mem _ hz))⟩
theorem St.mid {w W : World} {x y : Nat × ByteArray × ByteArray} {L} (h : St w W (x :: y :: L)) : St w W (x :: L) :=
  ⟨h.below, h.tab0, fun z hz => h.box z (by rcases List.mem_cons.1 hz with rfl | hz
                                            · exact List.mem_cons_self ..
                                            · exact List.mem_cons_of_mem _ (List.mem_cons_of_mem _ hz))⟩
theorem tl_inj {A B : ByteArray} (h : A.toList = B.toList) : A = B := by
  rw [toList_eq, toList_eq] at h
  rw [← bs_bytes A, ← bs_bytes B, h]
theorem cases3 {x : Int} (h1 : -1 ≤ x) (h2 : x ≤ 1) : x = -1 ∨ x = 0 ∨ x = 1 := by omega
theorem sub_two' {a b c d : ByteArray} {ab : Int} (h : subQ a b c d = (⟨#[]⟩, ⟨#[]⟩, 40) ∨ ∃ D1 D2, subQ a b c d = (D1, D2, 0) ∧
      ∀ W, TabP W → Calls Tryz.prog 20 #[.agg #[.string D1, .string D2], .agg #[.string ⟨#[48]⟩, .string ⟨#[49]⟩]] W fun e w' => e = .returned (.int .i64 ab) ∧ Below W.heap.size W w') :
    ∃ (D1 D2 : ByteArray) (E : Int), subQ a b c d = (D1, D2, E) ∧ (E = 40 ∨ E = 0 ∧ ∀ W, TabP W → Calls Tryz.prog 20 #[.agg #[.string D1, .string D2], .agg #[.string ⟨#[48]⟩, .string ⟨#[49]⟩]] W fun e w' => e = .returned (.int .i64 ab) ∧ Below W.heap.size W w') := by
  rcases h with h | ⟨D1, D2, h, hc⟩
  · exact ⟨_, _, _, h, .inl rfl⟩
  · exact ⟨_, _, _, h, .inr ⟨rfl, hc⟩⟩

theorem St.cells3o {w W : World} {g1 : Nat} {a1 b1 : ByteArray} {g2 : Nat} {a2 b2 : ByteArray} {g3 : Nat} {a3 b3 : ByteArray} {L} (h : St w W ((g3, a3, b3) :: (g2, a2, b2) :: (g1, a1, b1) :: L)) :
    W.cell? ⟨g1, 0, none⟩ = some (.string a1) ∧ W.cell? ⟨g1, 1, none⟩ = some (.string b1) ∧ W.cell? ⟨g2, 0, none⟩ = some (.string a2) ∧ W.cell? ⟨g2, 1, none⟩ = some (.string b2) ∧ W.cell? ⟨g3, 0, none⟩ = some (.string a3) ∧ W.cell? ⟨g3, 1, none⟩ = some (.string b3) :=
  ⟨h.tail.tail.head.c0, h.tail.tail.head.c1, h.tail.head.c0, h.tail.head.c1, h.head.c0, h.head.c1⟩

set_option maxRecDepth 100000 in
set_option maxHeartbeats 16000000 in
theorem RationalOrder_any (x0 x1 x2 x3 y0 y1 y2 y3 z0 z1 z2 z3 s0 s1 : Int) (hx0 : -9223372036854775808 ≤ x0) (kx0 : x0 ≤ 9223372036854775807) (hx1 : -9223372036854775808 ≤ x1) (kx1 : x1 ≤ 9223372036854775807) (hx2 : -9223372036854775808 ≤ x2) (kx2 : x2 ≤ 9223372036854775807) (hx3 : -9223372036854775808 ≤ x3) (kx3 : x3 ≤ 9223372036854775807)
    (hy0 : -9223372036854775808 ≤ y0) (ky0 : y0 ≤ 9223372036854775807) (hy1 : -9223372036854775808 ≤ y1) (ky1 : y1 ≤ 9223372036854775807) (hy2 : -9223372036854775808 ≤ y2) (ky2 : y2 ≤ 9223372036854775807) (hy3 : -9223372036854775808 ≤ y3) (ky3 : y3 ≤ 9223372036854775807)
    (hz0 : -9223372036854775808 ≤ z0) (kz0 : z0 ≤ 9223372036854775807) (hz1 : -9223372036854775808 ≤ z1) (kz1 : z1 ≤ 9223372036854775807) (hz2 : -9223372036854775808 ≤ z2) (kz2 : z2 ≤ 9223372036854775807) (hz3 : -9223372036854775808 ≤ z3) (kz3 : z3 ≤ 9223372036854775807)
    (hs0 : -9223372036854775808 ≤ s0) (ks0 : s0 ≤ 9223372036854775807) (hs1 : -9223372036854775808 ≤ s1) (ks1 : s1 ≤ 9223372036854775807) (w : World) (ht : TabP w) :
    Calls Tryz.prog 7 #[.agg #[.int .i64 x0, .int .i64 x1, .int .i64 x2, .int .i64 x3], .agg #[.int .i64 y0, .int .i64 y1, .int .i64 y2, .int .i64 y3], .agg #[.int .i64 z0, .int .i64 z1, .int .i64 z2, .int .i64 z3], .agg #[.int .i64 s0, .int .i64 s1]] w fun e w' => e = .returned (.bool true) ∧ Below w.heap.size w w' := by
  have hA := Args.first w x0 x1 x2 x3 y0 y1 y2 y3 z0 z1 z2 z3 s0 s1
  have HN := Lib.hid (((((St.start ht).step (below_al w (.cells #[.int .i64 x0, .int .i64 x1, .int .i64 x2, .int .i64 x3] 24))).step (below_al _ (.cells #[.int .i64 y0, .int .i64 y1, .int .i64 y2, .int .i64 y3] 24))).step (below_al _ (.cells #[.int .i64 z0, .int .i64 z1, .int .i64 z2, .int .i64 z3] 24))).step (below_al _ (.cells #[.int .i64 s0, .int .i64 s1] 25)))
  have HA := Lib.hid hA
  have HI := Lib.hid is_any
  have HS := Lib.hid qsane_any
  have L1 := Lib.hid (rLong_any x0 x1 x2 x3 hx0 kx0 hx1 kx1 hx2 kx2 hx3 kx3)
  have L2 := Lib.hid (rLong_any y0 y1 y2 y3 hy0 ky0 hy1 ky1 hy2 ky2 hy3 ky3)
  have L3 := Lib.hid (rLong_any z0 z1 z2 z3 hz0 kz0 hz1 kz1 hz2 kz2 hz3 kz3)
  have L4 := Lib.hid (rSmall_any s0 s1 hs0 ks0 hs1 ks1)
  clear ht hA hx0 kx0 hx1 kx1 hx2 kx2 hx3 kx3 hy0 ky0 hy1 ky1 hy2 ky2 hy3 ky3 hz0 kz0 hz1 kz1 hz2 kz2 hz3 kz3 hs0 ks0 hs1 ks1
  go_enter Tryz.func7, Tryz.ntmps7
  go_upto_region 6 with (first
    | (go_at_call 11; (with_reducible refine (HS.out _ HN.out.tab).mono ?_); rintro e w0 ⟨rfl, hB⟩; have HN := Lib.hid (HN.out.step hB); have HA := Lib.hid (HA.out.later hB); clear hB; obtain ⟨q0, q1, q2, q3⟩ := row4o HA.out.x)
    | (go_at_call 13; (with_reducible refine (L1.out _).mono ?_); rintro e w1 ⟨p, hp, hp1, hp2, rfl, hB⟩; have HN := Lib.hid ((HN.out.step hB).add (T p.1) (T p.2)); have HA := Lib.hid ((HA.out.later hB).later (below_al _ (.cells #[.string (T p.1), .string (T p.2)] 23))); clear hB q0 q1 q2 q3; obtain ⟨q0, q1, q2, q3⟩ := row4o HA.out.y)
    | (go_at_call 13; (with_reducible refine (L2.out _).mono ?_); rintro e w2 ⟨q, hq, hq1, hq2, rfl, hB⟩; have HN := Lib.hid ((HN.out.step hB).add (T q.1) (T q.2)); have HA := Lib.hid ((HA.out.later hB).later (below_al _ (.cells #[.string (T q.1), .string (T q.2)] 23))); clear hB q0 q1 q2 q3; obtain ⟨q0, q1, q2, q3⟩ := row4o HA.out.z)
    | (go_at_call 13; (with_reducible refine (L3.out _).mono ?_); rintro e w3 ⟨r, hr, -, -, rfl, hB⟩; have HN := Lib.hid ((HN.out.step hB).add (T r.1) (T r.2)); have HA := Lib.hid ((HA.out.later hB).later (below_al _ (.cells #[.string (T r.1), .string (T r.2)] 23))); clear hB q0 q1 q2 q3; obtain ⟨q0, q1⟩ := row2o HA.out.s)
    | (go_at_call 14; (with_reducible refine (L4.out _ HN.out.tab).mono ?_); rintro e w4 ⟨t, ht, ht1, ht2, rfl, hB⟩; have HN := Lib.hid ((HN.out.step hB).add (T t.1) (T t.2)); clear hB q0 q1 HA))
  obtain ⟨ab, bc, ac, s, P1, P2, Q1, Q2, M1, M2, N1, N2, hbd, hE, hT, hL, c1, c2, c3, c4, c5, hS, a1, a2, m1, m2, c6, c7, c8⟩ := ord_facts hp hq hr ht hp1 hp2 hq1 hq2 ht1 ht2
  generalize T p.1 = A1 at *
  generalize T p.2 = A2 at *
  generalize T q.1 = B1 at *
  generalize T q.2 = B2 at *
  generalize T r.1 = C1 at *
  generalize T r.2 = C2 at *
  generalize T t.1 = T1 at *
  generalize T t.2 = T2 at *
  have C1' := Lib.hid c1
  have C2' := Lib.hid c2
  have C3' := Lib.hid c3
  have C4' := Lib.hid c4
  have C5' := Lib.hid c5
  have C6' := Lib.hid c6
  have C7' := Lib.hid c7
  have C8' := Lib.hid c8
  have HF := Lib.hid (And.intro hbd (And.intro hE (And.intro hT hL)))
  have HSu := Lib.hid hS
  have HAD := Lib.hid (And.intro a1 (And.intro a2 (And.intro m1 m2)))
  clear c1 c2 c3 c4 c5 c6 c7 c8 hbd hE hT hL hS a1 a2 m1 m2 hp hq hr ht hp1 hp2 hq1 hq2 ht1 ht2 L1 L2 L3 L4 HS
  have ⟨y0, y1, y2, y3, y4, y5, y6, y7⟩ := HN.out.cells4o
  go_upto_region 9 with (first
    | (go_at_call 20; (with_reducible refine (C1'.out _ HN.out.tab).mono ?_); rintro e w5 ⟨rfl, hB⟩; have HN := Lib.hid (HN.out.step hB); clear hB y0 y1 y2 y3 y4 y5 y6 y7; have ⟨y0, y1, y2, y3, y4, y5, y6, y7⟩ := HN.out.cells4o)
    | (go_at_call 20; (with_reducible refine (C2'.out _ HN.out.tab).mono ?_); rintro e w6 ⟨rfl, hB⟩; have HN := Lib.hid (HN.out.step hB); clear hB y0 y1 y2 y3 y4 y5 y6 y7; have ⟨y0, y1, y2, y3, y4, y5, y6, y7⟩ := HN.out.cells4o)
    | (go_at_call 20; (with_reducible refine (C3'.out _ HN.out.tab).mono ?_); rintro e w7 ⟨rfl, hB⟩; have HN := Lib.hid (HN.out.step hB); clear hB y0 y1 y2 y3 y4 y5 y6 y7; have ⟨y0, y1, y2, y3, y4, y5, y6, y7⟩ := HN.out.cells4o))
  have HN7 := HN
  go_cut [92] (fun v wx => v = .bool false ∧ St w wx [(w4.heap.size, T1, T2), (w3.heap.size, C1, C2), (w2.heap.size, B1, B2), (w1.heap.size, A1, A2)])
  case first =>
    clear HSu HAD C1' C2' C3' C6' C7' C8' HI HN7
    obtain ⟨⟨b1, b2, b3, b4, b5, b6, -, -⟩, hE, hT, hL⟩ := HF.out
    clear HF
    rcases cases3 b1 b2 with rfl | rfl | rfl
    · have hne : ¬ (A1.toList = B1.toList ∧ A2.toList = B2.toList) := fun h => by have := hE.2 ⟨tl_inj h.1, tl_inj h.2⟩; omega
      have hac := hT (by omega)
      have hac2 := hL (by omega)
      clear hE hT hL b1 b2
      go_wp2_with (first
        | (go_at_call 20; (with_reducible refine (C4'.out _ HN.out.tab).mono ?_); rintro e w8 ⟨rfl, hB⟩; have HN := Lib.hid (HN.out.step hB); clear hB y0 y1 y2 y3 y4 y5 y6 y7; have ⟨y0, y1, y2, y3, y4, y5, y6, y7⟩ := HN.out.cells4o)
        | (go_at_call 20; (with_reducible refine (C5'.out _ HN.out.tab).mono ?_); rintro e w9 ⟨rfl, hB⟩; have HN := Lib.hid (HN.out.step hB); clear hB y0 y1 y2 y3 y4 y5 y6 y7; have ⟨y0, y1, y2, y3, y4, y5, y6, y7⟩ := HN.out.cells4o))
      all_goals
        go_meet
        refine ⟨?_, HN.out⟩
        first | rfl | (exfalso; omega) | (congr 1; exact decide_eq_false (by omega)) | (simp; omega) | (exact absurd ⟨by assumption, by assumption⟩ hne)
    · obtain ⟨rfl, rfl⟩ := hE.1 rfl
      have hne : ¬ (False ∧ False) := fun h => h.1
      have hac := hT (by omega)
      have hac2 := hL (by omega)
      clear hE hT hL b1 b2
      go_wp2_with (first
        | (go_at_call 20; (with_reducible refine (C4'.out _ HN.out.tab).mono ?_); rintro e w8 ⟨rfl, hB⟩; have HN := Lib.hid (HN.out.step hB); clear hB y0 y1 y2 y3 y4 y5 y6 y7; have ⟨y0, y1, y2, y3, y4, y5, y6, y7⟩ := HN.out.cells4o)
        | (go_at_call 20; (with_reducible refine (C5'.out _ HN.out.tab).mono ?_); rintro e w9 ⟨rfl, hB⟩; have HN := Lib.hid (HN.out.step hB); clear hB y0 y1 y2 y3 y4 y5 y6 y7; have ⟨y0, y1, y2, y3, y4, y5, y6, y7⟩ := HN.out.cells4o))
      all_goals
        go_meet
        refine ⟨?_, HN.out⟩
        first | rfl | (exfalso; omega) | (congr 1; exact decide_eq_false (by omega)) | (simp; omega) | (exact absurd ⟨by assumption, by assumption⟩ hne)
    · have hne : ¬ (A1.toList = B1.toList ∧ A2.toList = B2.toList) := fun h => by have := hE.2 ⟨tl_inj h.1, tl_inj h.2⟩; omega
      clear hE hT hL b1 b2
      go_wp2_with (first
        | (go_at_call 20; (with_reducible refine (C4'.out _ HN.out.tab).mono ?_); rintro e w8 ⟨rfl, hB⟩; have HN := Lib.hid (HN.out.step hB); clear hB y0 y1 y2 y3 y4 y5 y6 y7; have ⟨y0, y1, y2, y3, y4, y5, y6, y7⟩ := HN.out.cells4o)
        | (go_at_call 20; (with_reducible refine (C5'.out _ HN.out.tab).mono ?_); rintro e w9 ⟨rfl, hB⟩; have HN := Lib.hid (HN.out.step hB); clear hB y0 y1 y2 y3 y4 y5 y6 y7; have ⟨y0, y1, y2, y3, y4, y5, y6, y7⟩ := HN.out.cells4o))
      all_goals
        go_meet
        refine ⟨?_, HN.out⟩
        first | rfl | (exfalso; omega) | (congr 1; exact decide_eq_false (by omega)) | (simp; omega) | (exact absurd ⟨by assumption, by assumption⟩ hne)
  case rest =>
    obtain ⟨rfl, hst⟩ := hcut
    clear HN7 y0 y1 y2 y3 y4 y5 y6 y7 C1' C2' C3' C4' C5' HN
    have HN := Lib.hid hst.mid
    clear hst
    obtain ⟨D1, D2, E, hs, hE⟩ := sub_two' HSu.out
    have su := fun (W : World) (h : TabP W) => qSub_any A1 A2 B1 B2 W h
    have ad1 := fun (W : World) (h : TabP W) => qAdd_any A1 A2 T1 T2 W h
    have ad2 := fun (W : World) (h : TabP W) => qAdd_any B1 B2 T1 T2 W h
    have mu1 := fun (W : World) (h : TabP W) => qMul_any A1 A2 T1 T2 W h
    have mu2 := fun (W : World) (h : TabP W) => qMul_any B1 B2 T1 T2 W h
    simp only [hs, HAD.out.1, HAD.out.2.1, HAD.out.2.2.1, HAD.out.2.2.2] at su ad1 ad2 mu1 mu2
    unfold Answers at su ad1 ad2 mu1 mu2
    simp only at su ad1 ad2 mu1 mu2
    have SU := Lib.hid su
    have AD1 := Lib.hid ad1
    have AD2 := Lib.hid ad2
    have MU1 := Lib.hid mu1
    have MU2 := Lib.hid mu2
    have HE := Lib.hid hE
    clear su ad1 ad2 mu1 mu2 hs hE HSu HAD
    have ⟨y0, y1, y2, y3, y4, y5⟩ := HN.out.cells3o
    go_upto_region 12 with (go_at_call 40; (with_reducible refine (SU.out _ HN.out.tab).mono ?_); rintro e w10 ⟨rfl, hB⟩; have HN := Lib.hid ((HN.out.step hB).add D1 D2); clear hB y0 y1 y2 y3 y4 y5)
    refine wp_world fun W hW => ?_
    rw [← hW] at HN
    clear hW
    have HN8 := Lib.hid HN.out
    go_cut [107] (fun v wx => v = .bool false ∧ St w wx [(w4.heap.size, T1, T2), (w2.heap.size, B1, B2), (w1.heap.size, A1, A2)])
    case first =>
      clear HN8 AD1 AD2 MU1 MU2 C6' C7' C8'
      have hbd := HF.out.1
      clear HF
      have y0 := HN.out.head.c0
      have y1 := HN.out.head.c1
      rcases HE.out with rfl | ⟨rfl, c9⟩
      · go_quiet (fail)
        go_wp2_with fail
        go_meet
        exact ⟨rfl, HN.out.tail.step (below_drewN (Below.refl _ _) nq)⟩
      · have C9' := Lib.hid c9
        clear c9
        go_region_held3 (fun w' => w'.cell? ⟨w10.heap.size, 0, none⟩ = some (.string D1) ∧ w'.cell? ⟨w10.heap.size, 1, none⟩ = some (.string D2)) (first | exact ⟨HN.out.head.c0, HN.out.head.c1⟩ | go_keep)
          (first
            | (go_at_call 41; (with_reducible refine (HI.out _ _ _).mono ?_); rintro e ww ⟨rfl, hB⟩; (first | have HN := Lib.hid (HN.out.step hB) | have HN := Lib.hid (HN.out.step (below_undrew hB))); clear hB)
            | (go_at_call 20; (with_reducible first | refine (C9'.out _ HN.out.tab).mono ?_ | refine (C9'.out _ HN.out.drewo.tab).mono ?_); rintro e ww ⟨rfl, hB⟩; (first | have HN := Lib.hid (HN.out.step hB) | have HN := Lib.hid (HN.out.step (below_undrew hB))); clear hB))
        go_wp2_with fail
        go_meet
        exact ⟨rfl, HN.out.tail⟩
    case rest =>
      obtain ⟨rfl, hst⟩ := hcut
      clear HN8 HN SU HE
      have HN := Lib.hid hst
      clear hst
      have ⟨y0, y1, y2, y3, y4, y5⟩ := HN.out.cells3o
      go_upto_region 18 with (first
        | (go_at_call 38; (with_reducible refine (AD1.out _ HN.out.tab).mono ?_); rintro e w11 ⟨rfl, hB⟩; have HL1 := Lib.hid (HN.out.step hB).lts; have HN := Lib.hid ((HN.out.step hB).add P1 P2); clear hB y0 y1 y2 y3 y4 y5; have ⟨y0, y1, y2, y3, y4, y5⟩ := HN.out.tail.cells3o)
        | (go_at_call 38; (with_reducible refine (AD2.out _ HN.out.tab).mono ?_); rintro e w12 ⟨rfl, hB⟩; have HL2 := Lib.hid (HN.out.step hB).lts; have HN := Lib.hid ((HN.out.step hB).add Q1 Q2); clear hB y0 y1 y2 y3 y4 y5; have y0 := HN.out.head.c0; have y1 := HN.out.head.c1; have y2 := HN.out.tail.head.c0; have y3 := HN.out.tail.head.c1)
        | (go_at_call 20; (with_reducible refine (C6'.out _ HN.out.tab).mono ?_); rintro e w13 ⟨rfl, hB⟩; have HN := Lib.hid (HN.out.step hB); clear hB y0 y1 y2 y3))
      have k1 := HL1.out.2 _ (List.mem_cons_self ..)
      have k2 := HL1.out.2 _ (List.mem_cons_of_mem _ (List.mem_cons_self ..))
      have k3 := HL1.out.2 _ (List.mem_cons_of_mem _ (List.mem_cons_of_mem _ (List.mem_cons_self ..)))
      have k4 := HL2.out.2 _ (List.mem_cons_self ..)
      have k5 := HL1.out.1
      simp only at k1 k2 k3 k4
      have hp := Lib.hid (show (w.heap.size ≤ w11.heap.size ∧ ∀ x ∈ [(w12.heap.size, Q1, Q2), (w4.heap.size, T1, T2), (w2.heap.size, B1, B2), (w1.heap.size, A1, A2)], x.1 ≠ w11.heap.size) from ⟨k5, fun x hx => by
          simp only [List.mem_cons, List.not_mem_nil, or_false] at hx
          rcases hx with rfl | rfl | rfl | rfl <;> simp only <;> omega⟩)
      have hq := Lib.hid (show (w.heap.size ≤ w12.heap.size ∧ ∀ x ∈ [(w11.heap.size, M1, M2), (w4.heap.size, T1, T2), (w2.heap.size, B1, B2), (w1.heap.size, A1, A2)], x.1 ≠ w12.heap.size) from ⟨by omega, fun x hx => by
          simp only [List.mem_cons, List.not_mem_nil, or_false] at hx
          rcases hx with rfl | rfl | rfl | rfl <;> simp only <;> omega⟩)
      clear k1 k2 k3 k4 k5 HL1 HL2
      have hbd := HF.out.1
      obtain ⟨r, hr⟩ : ∃ r, ab * s = r := ⟨_, rfl⟩
      have hr1 : -1 ≤ r ∧ r ≤ 1 := by
        obtain ⟨h1, h2, -, -, -, -, h7, h8⟩ := hbd
        rw [← hr]
        rcases cases3 h1 h2 with rfl | rfl | rfl <;> omega
      obtain ⟨hr2, hr3⟩ := hr1
      rw [hr] at C7'
      have hwr : IntKind.i64.wrap r = r := by rw [IntKind.wrap_i64]; omega
      clear HF hbd
      have ⟨y0, y1, y2, y3, y4, y5⟩ := HN.out.tail.tail.cells3o
      go_upto_region 20 with (first
        | (go_at_call 39; (with_reducible refine (MU1.out _ HN.out.tab).mono ?_); rintro e w14 ⟨rfl, hB⟩; replace HN := Lib.hid (HN.out.step hB); clear hB y0 y1 y2 y3 y4 y5; have x0 := HN.out.tail.head.f0; have x1 := HN.out.tail.head.f1; have x2 := HN.out.tail.head.c0; have x3 := HN.out.tail.head.c1; replace HN := Lib.hid (HN.out.swap.putN hp.out M1 M2); have ⟨y0, y1, y2, y3, y4, y5⟩ := HN.out.tail.tail.cells3o)
        | (go_at_call 39; (with_reducible refine (MU2.out _ HN.out.tab).mono ?_); rintro e w15 ⟨rfl, hB⟩; replace HN := Lib.hid (HN.out.step hB); clear hB y0 y1 y2 y3 y4 y5 x0 x1 x2 x3; have x0 := HN.out.tail.head.f0; have x1 := HN.out.tail.head.f1; have x2 := HN.out.tail.head.c0; have x3 := HN.out.tail.head.c1; replace HN := Lib.hid (HN.out.swap.putN hq.out N1 N2)))
      refine wp_world fun W hW => ?_
      rw [← hW] at HN
      clear hW x0 x1 x2 x3
      go_region_held3 (fun w' => w'.cell? ⟨w4.heap.size, 0, none⟩ = some (.string T1) ∧ w'.cell? ⟨w4.heap.size, 1, none⟩ = some (.string T2) ∧ w'.cell? ⟨w11.heap.size, 0, none⟩ = some (.string M1) ∧ w'.cell? ⟨w11.heap.size, 1, none⟩ = some (.string M2) ∧ w'.cell? ⟨w12.heap.size, 0, none⟩ = some (.string N1) ∧ w'.cell? ⟨w12.heap.size, 1, none⟩ = some (.string N2)) (first | exact HN.out.cells3o | go_keep)
        (first
          | (go_at_call 20; (with_reducible first | refine (C7'.out _ HN.out.tab).mono ?_ | refine (C7'.out _ HN.out.drewo.tab).mono ?_); rintro e ww ⟨rfl, hB⟩; (first | replace HN := Lib.hid (HN.out.step hB) | replace HN := Lib.hid (HN.out.step (below_undrew hB))); clear hB)
          | (go_at_call 41; (with_reducible refine (HI.out _ _ _).mono ?_); rintro e ww ⟨rfl, hB⟩; (first | replace HN := Lib.hid (HN.out.step hB) | replace HN := Lib.hid (HN.out.step (below_undrew hB))); clear hB)
          | (go_at_call 20; (with_reducible first | refine (C8'.out _ HN.out.tab).mono ?_ | refine (C8'.out _ HN.out.drewo.tab).mono ?_); rintro e ww ⟨rfl, hB⟩; (first | replace HN := Lib.hid (HN.out.step hB) | replace HN := Lib.hid (HN.out.step (below_undrew hB))); clear hB))
      go_wp2_with fail
      go_ret
      exact ⟨rfl, HN.out.below⟩

end Go.Proofs.YtjkklgpbblkhaaaGreatDoor

/-
  RationalOrder: for every input the law returns true, and each argument reads afterwards as it read before.
  Conditions: the variables (the tables of the decimal powers and of the bit counts, and the errors of strconv) hold what the program's own text lays there, which the card ties to that text. The card's set-up speaks of the pruned copy of the project.
-/
namespace Go.Proofs.YtjkklgpbblkhaaaGreatDoor.rationalOrder
open Go.ChangeShapes Go.WideShapes Go.ChangeAt Go.RowKit
open Go.ChangeMaps (open_string shut_string)

theorem list2 {α : Type} (l : List α) (h : (⟨l⟩ : Array α).size = 2) : ∃ a b, l = [a, b] := by
  match l, h with
  | [a, b], _ => exact ⟨a, b, rfl⟩
theorem list4 {α : Type} (l : List α) (h : (⟨l⟩ : Array α).size = 4) : ∃ a b c d, l = [a, b, c, d] := by
  match l, h with
  | [a, b, c, d], _ => exact ⟨a, b, c, d, rfl⟩
theorem params_ok : ∀ t ∈ Tryz.f7.params.toList, Tryz.prog.readableRec t = true ∧ t < Tryz.prog.types.size := by
  rw [Tryz.params7]
  intro t ht
  simp only [List.mem_cons, List.not_mem_nil, or_false] at ht
  rcases ht with rfl | rfl | rfl | rfl <;> exact ⟨by kernel_rfl, of_decide_eq_true (by kernel_rfl)⟩

set_option maxRecDepth 100000 in
theorem walk_args {H : Type} {enc : TypeId × Value → H} {W : World} {base : Nat} {args : Array Value} {ds : List (DataW H)} {p : List MemPlace}
    (hval : ∀ (j : Nat) t v, Tryz.f7.params[j]? = some t → args[j]? = some v → Value.okWide Tryz.prog W .any base t v)
    (hA : DataW.TrodAll enc Tryz.prog W 0 (fun _ => true) true Tryz.f7.params.toList args.toList ds p) (ht : TabP W) :
    ds.length = 4 ∧ Calls Tryz.prog 7 args W fun e W' => e = .returned (.bool true) ∧ Below W.heap.size W W' := by
  rw [Tryz.params7] at hA hval
  obtain ⟨v0, vs0, d0, ds0, p0, q0, hargs, rfl, rfl, h0, r0⟩ := trodAll_cons hA
  obtain ⟨v1, vs1, d1, ds1, p1, q1, rfl, rfl, rfl, h1, r1⟩ := trodAll_cons r0
  obtain ⟨v2, vs2, d2, ds2, p2, q2, rfl, rfl, rfl, h2, r2⟩ := trodAll_cons r1
  obtain ⟨v3, vs3, d3, ds3, p3, q3, rfl, rfl, rfl, h3, r3⟩ := trodAll_cons r2
  obtain ⟨rfl, rfl, rfl⟩ := trodAll_nil r3
  obtain rfl : args = #[v0, v1, v2, v3] := by cases args; simp_all
  refine ⟨rfl, ?_⟩
  obtain ⟨cs0, rfl, hsz0, _⟩ : ∃ cs, v0 = .agg cs ∧ cs.size = Tryz.prog.cellsOf 24 ∧ Row.okWide Tryz.prog W .any base 24 cs := by
    have := hval 0 24 v0 rfl rfl
    simpa [Value.okWide, Tryz.underlying24] using this
  rw [show Tryz.prog.cellsOf 24 = 4 from by kernel_rfl] at hsz0
  obtain ⟨cl0⟩ := cs0
  obtain ⟨c00, c01, c02, c03, rfl⟩ := list4 cl0 hsz0
  obtain ⟨fuel0, hf0⟩ := h0
  obtain ⟨xs0, m0, rfl, -, -, hxl0, hxs0⟩ := DataW.trod_array Tryz.underlying24 hf0
  have e00 := hxs0 0 (by omega)
  have e01 := hxs0 1 (by omega)
  have e02 := hxs0 2 (by omega)
  have e03 := hxs0 3 (by omega)
  rw [List.getElem?_eq_getElem (by omega), show Tryz.prog.cellsOf 3 = 1 from by kernel_rfl] at e00 e01 e02 e03
  obtain ⟨b00, x00, -, z00⟩ := DataW.trod_int Tryz.underlying3 e00
  obtain ⟨b01, x01, -, z01⟩ := DataW.trod_int Tryz.underlying3 e01
  obtain ⟨b02, x02, -, z02⟩ := DataW.trod_int Tryz.underlying3 e02
  obtain ⟨b03, x03, -, z03⟩ := DataW.trod_int Tryz.underlying3 e03
  simp [Value.cells] at x00 x01 x02 x03
  subst x00 x01 x02 x03
  obtain ⟨l00, u00⟩ := bounds_i64 z00
  obtain ⟨l01, u01⟩ := bounds_i64 z01
  obtain ⟨l02, u02⟩ := bounds_i64 z02
  obtain ⟨l03, u03⟩ := bounds_i64 z03
  obtain ⟨cs1, rfl, hsz1, _⟩ : ∃ cs, v1 = .agg cs ∧ cs.size = Tryz.prog.cellsOf 24 ∧ Row.okWide Tryz.prog W .any base 24 cs := by
    have := hval 1 24 v1 rfl rfl
    simpa [Value.okWide, Tryz.underlying24] using this
  rw [show Tryz.prog.cellsOf 24 = 4 from by kernel_rfl] at hsz1
  obtain ⟨cl1⟩ := cs1
  obtain ⟨c10, c11, c12, c13, rfl⟩ := list4 cl1 hsz1
  obtain ⟨fuel1, hf1⟩ := h1
  obtain ⟨xs1, m1, rfl, -, -, hxl1, hxs1⟩ := DataW.trod_array Tryz.underlying24 hf1
  have e10 := hxs1 0 (by omega)
  have e11 := hxs1 1 (by omega)
  have e12 := hxs1 2 (by omega)
  have e13 := hxs1 3 (by omega)
  rw [List.getElem?_eq_getElem (by omega), show Tryz.prog.cellsOf 3 = 1 from by kernel_rfl] at e10 e11 e12 e13
  obtain ⟨b10, x10, -, z10⟩ := DataW.trod_int Tryz.underlying3 e10
  obtain ⟨b11, x11, -, z11⟩ := DataW.trod_int Tryz.underlying3 e11
  obtain ⟨b12, x12, -, z12⟩ := DataW.trod_int Tryz.underlying3 e12
  obtain ⟨b13, x13, -, z13⟩ := DataW.trod_int Tryz.underlying3 e13
  simp [Value.cells] at x10 x11 x12 x13
  subst x10 x11 x12 x13
  obtain ⟨l10, u10⟩ := bounds_i64 z10
  obtain ⟨l11, u11⟩ := bounds_i64 z11
  obtain ⟨l12, u12⟩ := bounds_i64 z12
  obtain ⟨l13, u13⟩ := bounds_i64 z13
  obtain ⟨cs2, rfl, hsz2, _⟩ : ∃ cs, v2 = .agg cs ∧ cs.size = Tryz.prog.cellsOf 24 ∧ Row.okWide Tryz.prog W .any base 24 cs := by
    have := hval 2 24 v2 rfl rfl
    simpa [Value.okWide, Tryz.underlying24] using this
  rw [show Tryz.prog.cellsOf 24 = 4 from by kernel_rfl] at hsz2
  obtain ⟨cl2⟩ := cs2
  obtain ⟨c20, c21, c22, c23, rfl⟩ := list4 cl2 hsz2
  obtain ⟨fuel2, hf2⟩ := h2
  obtain ⟨xs2, m2, rfl, -, -, hxl2, hxs2⟩ := DataW.trod_array Tryz.underlying24 hf2
  have e20 := hxs2 0 (by omega)
  have e21 := hxs2 1 (by omega)
  have e22 := hxs2 2 (by omega)
  have e23 := hxs2 3 (by omega)
  rw [List.getElem?_eq_getElem (by omega), show Tryz.prog.cellsOf 3 = 1 from by kernel_rfl] at e20 e21 e22 e23
  obtain ⟨b20, x20, -, z20⟩ := DataW.trod_int Tryz.underlying3 e20
  obtain ⟨b21, x21, -, z21⟩ := DataW.trod_int Tryz.underlying3 e21
  obtain ⟨b22, x22, -, z22⟩ := DataW.trod_int Tryz.underlying3 e22
  obtain ⟨b23, x23, -, z23⟩ := DataW.trod_int Tryz.underlying3 e23
  simp [Value.cells] at x20 x21 x22 x23
  subst x20 x21 x22 x23
  obtain ⟨l20, u20⟩ := bounds_i64 z20
  obtain ⟨l21, u21⟩ := bounds_i64 z21
  obtain ⟨l22, u22⟩ := bounds_i64 z22
  obtain ⟨l23, u23⟩ := bounds_i64 z23
  obtain ⟨cs3, rfl, hsz3, _⟩ : ∃ cs, v3 = .agg cs ∧ cs.size = Tryz.prog.cellsOf 25 ∧ Row.okWide Tryz.prog W .any base 25 cs := by
    have := hval 3 25 v3 rfl rfl
    simpa [Value.okWide, Tryz.underlying25] using this
  rw [show Tryz.prog.cellsOf 25 = 2 from by kernel_rfl] at hsz3
  obtain ⟨cl3⟩ := cs3
  obtain ⟨c30, c31, rfl⟩ := list2 cl3 hsz3
  obtain ⟨fuel3, hf3⟩ := h3
  obtain ⟨xs3, m3, rfl, -, -, hxl3, hxs3⟩ := DataW.trod_array Tryz.underlying25 hf3
  have e30 := hxs3 0 (by omega)
  have e31 := hxs3 1 (by omega)
  rw [List.getElem?_eq_getElem (by omega), show Tryz.prog.cellsOf 3 = 1 from by kernel_rfl] at e30 e31
  obtain ⟨b30, x30, -, z30⟩ := DataW.trod_int Tryz.underlying3 e30
  obtain ⟨b31, x31, -, z31⟩ := DataW.trod_int Tryz.underlying3 e31
  simp [Value.cells] at x30 x31
  subst x30 x31
  obtain ⟨l30, u30⟩ := bounds_i64 z30
  obtain ⟨l31, u31⟩ := bounds_i64 z31
  exact RationalOrder_any b00 b01 b02 b03 b10 b11 b12 b13 b20 b21 b22 b23 b30 b31 l00 u00 l01 u01 l02 u02 l03 u03 l10 u10 l11 u11 l12 u12 l13 u13 l20 u20 l21 u21 l22 u22 l23 u23 l30 u30 l31 u31 W ht

def wargs : Array Value := #[.agg #[.int .i64 0, .int .i64 0, .int .i64 0, .int .i64 0], .agg #[.int .i64 0, .int .i64 0, .int .i64 0, .int .i64 0], .agg #[.int .i64 0, .int .i64 0, .int .i64 0, .int .i64 0], .agg #[.int .i64 0, .int .i64 0]]
theorem laid_met (os : Os) : laidMet Tryz.prog Rows.rationalOrderRow.laid ((Tab.laidWorld os).forCall (fun _ _ => 0) ⟨#[], wargs, []⟩).memory :=
  Tab.laid_met os wargs
theorem reads (os : Os) {H : Type} (enc : TypeId × Value → H) : ∃ ds places, DataW.whole enc Tryz.prog ((Tab.laidWorld os).forCall (fun _ _ => 0) ⟨#[], wargs, []⟩).memory Tryz.f7.params.toList Rows.rationalOrderSpec.vars false wargs.toList 8 = some (ds, [], places) :=
  ⟨[.agg [.lit (.int .i64 0), .lit (.int .i64 0), .lit (.int .i64 0), .lit (.int .i64 0)], .agg [.lit (.int .i64 0), .lit (.int .i64 0), .lit (.int .i64 0), .lit (.int .i64 0)], .agg [.lit (.int .i64 0), .lit (.int .i64 0), .lit (.int .i64 0), .lit (.int .i64 0)], .agg [.lit (.int .i64 0), .lit (.int .i64 0)]], [], by kernel_rfl⟩

set_option maxRecDepth 100000 in
theorem lifted (os : Os) (started : os.Started) (H : Type) (enc : TypeId × Value → H) (F : Stop.Interp) :
    ReturnsInHanded {} Tryz.checked os 7 .any ((OpenSpec.ofChange Rows.rationalOrderSpec).preRow enc Tryz.prog Tryz.f7 Rows.rationalOrderRow.domain false Rows.rationalOrderRow.laid) (((OpenSpec.ofChange Rows.rationalOrderSpec).at F).post enc Tryz.prog Tryz.f7 false true false false) := by
  obtain ⟨wd, places, hx⟩ := reads os enc
  refine returnsInHanded_of_row (C := Tryz.checked) (s := OpenSpec.ofChange Rows.rationalOrderSpec) Tab.own started (by kernel_rfl) Tryz.func7
    (witness_row_at (enc := enc) (C := Tryz.checked) false (Tab.laidWorld os) wargs (Tab.laidWorld_os os) (by kernel_rfl) (by kernel_rfl) (by kernel_rfl)
      (OpenSpec.preRow_of_cond 8 hx (by kernel_rfl) (fun k hk => by cases hk) (by kernel_rfl) (laid_met os))) ?_
  intro W base args ds gs before hval hW _ _ _ hL _ _
  have hW' := hW
  obtain ⟨p, q, hA, -, -, -, -⟩ := hW'
  obtain ⟨h3, walk⟩ := walk_args hval hA (Tab.table hL)
  refine Fr.law_contract Tab.laidOut params_ok rfl (by kernel_rfl) Tryz.underlying4 hW ?_ walk
  match ds, h3 with
  | [_, _, _, _], _ => rfl

theorem said : Rows.RationalOrderSaid :=
  OpenClaim.holds_of_cond 7 Tryz.f7 rfl rfl rfl rfl rfl rfl rfl ⟨rfl, rfl, rfl, rfl, rfl⟩ rfl rfl rfl rfl rfl (by kernel_rfl) Tryz.func7 (by kernel_rfl)
    (of_decide_eq_true (by kernel_rfl)) (by unfold Func.isWrapper; first | (rw [if_pos (by decide +kernel)]; kernel_rfl) | (rw [if_neg (by decide +kernel)]; exact ⟨rfl, rfl⟩))
    (fun os started H enc _ F => by rw [OpenClaim.pre_eq_preRow]; exact lifted os started H enc F)

theorem plain (f : FuncId) (fn : Func) (hf : Tryz.pinned.checked.prog.funcNamed "longliner/longlinerlaw04.RationalOrder" = some f) (hfn : Tryz.pinned.checked.prog.funcs[f]? = some fn) :
    true = Tryz.pinned.checked.prog.looks [] ∧ ∀ (j : Nat) t, fn.params[j]? = some t → Tryz.pinned.checked.prog.wantsStandIn t = false := by
  obtain rfl : f = 7 := Option.some.inj ((show Tryz.prog.funcNamed "longliner/longlinerlaw04.RationalOrder" = some 7 by kernel_rfl).symm.trans hf) |>.symm
  obtain rfl : fn = Tryz.f7 := (Option.some.inj (Tryz.func7.symm.trans hfn)).symm
  refine ⟨by kernel_rfl, fun j t ht => ?_⟩
  rw [Tryz.params7] at ht
  have hm := Array.mem_of_getElem? ht
  simp only [List.mem_toArray, List.mem_cons, List.not_mem_nil, or_false] at hm
  rcases hm with rfl | rfl | rfl | rfl
  all_goals (show Tryz.prog.wantsStandIn _ = false; kernel_rfl)

theorem card : Rows.RationalOrderCardSaid :=
  Claim7.holds_tied_plain_at .later [] _ _ _ _ said (fun _ h => by cases h) (by kernel_rfl) (fun _ h => by cases h) rationalOrder_row_tie rfl ⟨rfl, rfl⟩ (by kernel_rfl) rfl plain (by kernel_rfl)
end Go.Proofs.YtjkklgpbblkhaaaGreatDoor.rationalOrder
