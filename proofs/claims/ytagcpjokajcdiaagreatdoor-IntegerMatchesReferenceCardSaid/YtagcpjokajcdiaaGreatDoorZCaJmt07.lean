/-
  Put together by program out of these texts, in this order: Ihb, Ihe, Ihc, Ihd, Ihf.
-/
import Derived.Test.YtagcpjokajcdiaaGreatDoorZCaJmt06
import Derived.BigQuiet

/-
  Layer 3: differences, products, greatest common divisors and quotients of numbers with signs.
-/
namespace Go.Proofs.YtagcpjokajcdiaaGreatDoor
open Go.RowKit Bs Ig

set_option maxRecDepth 100000 in
set_option maxHeartbeats 2000000 in
theorem nminus_any (x y : Int) (a : Option Addr) (n c : Nat) (b : Option Addr) (k d : Nat) (w : World) (hl : IsZ w a n c (zs (G x.natAbs))) (hm : IsZ w b k d (zs (G y.natAbs))) (hn : n ≤ 400) (hk : k ≤ 400) :
    Calls Tryz.prog 32 #[numV x a n c, numV y b k d] w fun e w' => ∃ a1 n1 c1, e = .returned (numV (x - y) a1 n1 c1) ∧ IsZ w' a1 n1 c1 (zs (G (x - y).natAbs)) ∧ Below w.heap.size w w' := by
  have hst := Bx.start w (decide (x < 0)) a n c (decide (y < 0)) b k d
  have hny : ∀ a n c, numV (-y) a n c = numV (if (!decide (y < 0)) = true then -(y.natAbs : Int) else (y.natAbs : Int)) a n c := fun a n c => by
    congr 1
    by_cases h : y < 0
    · simp [h]; omega
    · simp [h]; omega
  have HS := Lib.hid (fun (W : World) (hb : Bx w W (decide (x < 0)) a n c (decide (y < 0)) b k d) => (show Calls Tryz.prog 51 #[.bool (!decide (y < 0)), .slice b k d] W (fun e w' => e = .returned (numV (-y) b k d) ∧ Below W.heap.size W w') from (signed_any (!decide (y < 0)) b k d y.natAbs W (hm.later hb.below)).mono (fun e w' h2 => by rw [hny]; exact h2)))
  have HP := Lib.hid (fun (W : World) (hb : Bx w W (decide (x < 0)) a n c (decide (y < 0)) b k d) => (show Calls Tryz.prog 29 #[numV x a n c, numV (-y) b k d] W (fun e w' => ∃ a1 n1 c1, e = .returned (numV (x - y) a1 n1 c1) ∧ IsZ w' a1 n1 c1 (zs (G (x - y).natAbs)) ∧ Below W.heap.size W w') from by
    have := nplus_any x (-y) a n c b k d W (hl.later hb.below) (by rw [Int.natAbs_neg]; exact hm.later hb.below) hn hk
    rw [show x + -y = x - y by omega] at this
    exact this))
  unfold numV at *
  obtain ⟨bx, hbx⟩ : ∃ bx, decide (x < 0) = bx := ⟨_, rfl⟩
  obtain ⟨bz, hbz⟩ : ∃ bz, decide (y < 0) = bz := ⟨_, rfl⟩
  obtain ⟨bn, hbn⟩ : ∃ bn, decide (-y < 0) = bn := ⟨_, rfl⟩
  obtain ⟨br, hbr⟩ : ∃ br, decide (x - y < 0) = br := ⟨_, rfl⟩
  rw [hbx, hbz] at hst
  simp only [hbx, hbz, hbn, hbr] at HS HP ⊢
  clear hl hm hny hbx hbz hbn hbr
  go_enter Tryz.func32, Tryz.ntmps32
  go_wp2_with fail
  refine wp_world fun W hW => ?_
  rw [← hW] at hst
  have hd := hst.later (Below.refl _ W).drew
  have c0 := hst.c00
  have c1 := hst.c01
  have c2 := hst.c10
  have c3 := hst.c11
  clear hW
  go_region_held3 (fun w' => w'.cell? ⟨w.heap.size, 0, none⟩ = some (.bool bx) ∧ w'.cell? ⟨w.heap.size, 1, none⟩ = some (.slice a n c) ∧ w'.cell? ⟨w.heap.size + 1, 0, none⟩ = some (.bool bz) ∧ w'.cell? ⟨w.heap.size + 1, 1, none⟩ = some (.slice b k d)) (first | exact ⟨far2 (ne0 _) k60, far2 (ne0 _) k61, far2 (ne1 _) k62, far2 (ne1 _) k63⟩ | go_keep)
    (first
      | (go_at_call 51; (with_reducible refine (HS.out _ hd).mono ?_); rintro e w5 ⟨rfl, B5⟩; have x5 := hd.later B5; have k50 := x5.c00; have k51 := x5.c01; have k52 := x5.c10; have k53 := x5.c11)
      | (go_at_call 29; (with_reducible refine (HP.out _ x5).mono ?_); rintro e w6 ⟨a5, n5, c5, rfl, z6, B6⟩; have x6 := x5.later B6; have k60 := x6.c00; have k61 := x6.c01; have k62 := x6.c10; have k63 := x6.c11; obtain ⟨b0, s0, m0, e0, r6⟩ := x6.r2; have q0 : w6.cell? ⟨w.heap.size + 1 + 1, 0, none⟩ = some (.bool b0) := (by rw [cell_of_row _ _ 0 _ _ _ r6]; rfl); have q1 : w6.cell? ⟨w.heap.size + 1 + 1, 1, none⟩ = some (.slice s0 m0 e0) := (by rw [cell_of_row _ _ 1 _ _ _ r6]; rfl); have f0 : w6.frozen? ⟨w.heap.size + 1 + 1, 0, none⟩ = false := frozen_of_row _ _ 0 _ _ r6; have f1 : w6.frozen? ⟨w.heap.size + 1 + 1, 1, none⟩ = false := frozen_of_row _ _ 1 _ _ r6))
  have hfin := two_sets r6 br a5 n5 c5
  have hz := IsZ.two r6 br a5 n5 c5 z6
  have hB := (x6.below.setCell (p := ⟨w.heap.size + 1 + 1, 0, none⟩) (by show w.heap.size ≤ w.heap.size + 1 + 1; omega) (.bool br)).setCell (p := ⟨w.heap.size + 1 + 1, 1, none⟩) (by show w.heap.size ≤ w.heap.size + 1 + 1; omega) (.slice a5 n5 c5)
  go_wp2_with fail
  exact bodyPost_ret (results_cell_row rfl _ _ (w.heap.size + 1 + 1) 47 #[.bool br, .slice a5 n5 c5] _ _ rfl hfin Tryz.underlying47 rfl (by kernel_rfl)) rfl ⟨a5, n5, c5, rfl, hz, hB⟩

theorem mul_sign (x y : Int) : x * y = if (decide (x < 0) != decide (y < 0)) = true then -((x.natAbs * y.natAbs : Nat) : Int) else ((x.natAbs * y.natAbs : Nat) : Int) := by
  have d0 : ∀ n : Nat, decide ((n : Int) < 0) = false := fun n => by simp
  have d1 : ∀ n : Nat, 0 < n → decide (-(n : Int) < 0) = true := fun n h => by simp; omega
  rcases int_cases x with ⟨p, rfl⟩ | ⟨p, hp, rfl⟩ <;> rcases int_cases y with ⟨q, rfl⟩ | ⟨q, hq, rfl⟩
  · rw [d0, d0, if_neg (by decide), Int.natAbs_natCast, Int.natAbs_natCast, Int.natCast_mul]
  · rw [d0, d1 q hq, if_pos (by decide), Int.natAbs_natCast, Int.natAbs_neg, Int.natAbs_natCast, Int.natCast_mul, Int.mul_neg]
  · rw [d0, d1 p hp, if_pos (by decide), Int.natAbs_natCast, Int.natAbs_neg, Int.natAbs_natCast, Int.natCast_mul, Int.neg_mul]
  · rw [d1 p hp, d1 q hq, if_neg (by decide), Int.natAbs_neg, Int.natAbs_neg, Int.natAbs_natCast, Int.natAbs_natCast, Int.natCast_mul, Int.neg_mul_neg]

set_option maxRecDepth 100000 in
set_option maxHeartbeats 2000000 in
theorem ntimes_any (x y : Int) (a : Option Addr) (n c : Nat) (b : Option Addr) (k d : Nat) (w : World) (hl : IsZ w a n c (zs (G x.natAbs))) (hm : IsZ w b k d (zs (G y.natAbs))) (hn : n ≤ 400) (hk : k ≤ 400) :
    Calls Tryz.prog 33 #[numV x a n c, numV y b k d] w fun e w' => ∃ a1 n1 c1, e = .returned (numV (x * y) a1 n1 c1) ∧ IsZ w' a1 n1 c1 (zs (G (x * y).natAbs)) ∧ Below w.heap.size w w' := by
  have hst := Bx.start w (decide (x < 0)) a n c (decide (y < 0)) b k d
  have hsum := mul_sign x y
  unfold numV
  obtain ⟨bx, hbx⟩ : ∃ bx, decide (x < 0) = bx := ⟨_, rfl⟩
  obtain ⟨bz, hbz⟩ : ∃ bz, decide (y < 0) = bz := ⟨_, rfl⟩
  rw [hbx, hbz] at hst hsum ⊢
  obtain ⟨m, hm'⟩ : ∃ m, x.natAbs * y.natAbs = m := ⟨_, rfl⟩
  rw [hm'] at hsum
  have hab : (x * y).natAbs = m := by rw [Int.natAbs_mul]; exact hm'
  obtain ⟨bd, hbd⟩ : ∃ bd, (bx != bz) = bd := ⟨_, rfl⟩
  rw [hbd] at hsum
  obtain ⟨bb, hbb⟩ : ∃ bb, (bd && decide (0 < m)) = bb := ⟨_, rfl⟩
  have hnv : ∀ a n c, numV (x * y) a n c = .agg #[.bool bb, .slice a n c] := fun a n c => by rw [hsum, numV_eq, hbb]
  have HS := Lib.hid (fun (W : World) (a : Option Addr) (n c : Nat) (h : IsZ W a n c (zs (G m))) => (show Calls Tryz.prog 51 #[.bool bd, .slice a n c] W (fun e w' => e = .returned (.agg #[.bool bb, .slice a n c]) ∧ Below W.heap.size W w') from (signed_any bd a n c m W h).mono (fun e w' h2 => by rw [numV_eq, hbb] at h2; exact h2)))
  have HR := Lib.hid (And.intro hnv hab)
  have HP := Lib.hid (fun (W : World) (hb : Bx w W bx a n c bz b k d) => times_any a n c (G x.natAbs) b k d (G y.natAbs) x.natAbs y.natAbs W (hl.later hb.below) (hm.later hb.below) (G_lt _) (G_lt _) (V_G _) (V_G _) (by omega) (by omega))
  rw [hm'] at HP
  have hbd2 : (!(bx == bz)) = bd := hbd
  clear hl hm hbx hbz hm' hsum hab hnv hbb hbd
  go_enter Tryz.func33, Tryz.ntmps33
  go_wp2_with fail
  refine wp_world fun W hW => ?_
  rw [← hW] at hst
  have hd := hst.later (Below.refl _ W).drew
  have c0 := hst.c00
  have c1 := hst.c01
  have c2 := hst.c10
  have c3 := hst.c11
  clear hW
  go_region_held3 (fun w' => w'.cell? ⟨w.heap.size, 0, none⟩ = some (.bool bx) ∧ w'.cell? ⟨w.heap.size, 1, none⟩ = some (.slice a n c) ∧ w'.cell? ⟨w.heap.size + 1, 0, none⟩ = some (.bool bz) ∧ w'.cell? ⟨w.heap.size + 1, 1, none⟩ = some (.slice b k d)) (first | exact ⟨far2 (ne0 _) k60, far2 (ne0 _) k61, far2 (ne1 _) k62, far2 (ne1 _) k63⟩ | go_keep)
    (first
      | (go_at_call 55; (with_reducible refine (HP.out _ hd).mono ?_); rintro e w5 ⟨a5, n5, c5, rfl, z5, B5⟩; have x5 := hd.later B5; have k50 := x5.c00; have k51 := x5.c01; have k52 := x5.c10; have k53 := x5.c11)
      | (go_at_call 51; (with_reducible refine (HS.out _ _ _ _ z5).mono ?_); rintro e w6 ⟨rfl, B6⟩; have x6 := x5.later B6; have z6 := z5.later B6; have k60 := x6.c00; have k61 := x6.c01; have k62 := x6.c10; have k63 := x6.c11; obtain ⟨b0, s0, m0, e0, r6⟩ := x6.r2; have q0 : w6.cell? ⟨w.heap.size + 1 + 1, 0, none⟩ = some (.bool b0) := (by rw [cell_of_row _ _ 0 _ _ _ r6]; rfl); have q1 : w6.cell? ⟨w.heap.size + 1 + 1, 1, none⟩ = some (.slice s0 m0 e0) := (by rw [cell_of_row _ _ 1 _ _ _ r6]; rfl); have f0 : w6.frozen? ⟨w.heap.size + 1 + 1, 0, none⟩ = false := frozen_of_row _ _ 0 _ _ r6; have f1 : w6.frozen? ⟨w.heap.size + 1 + 1, 1, none⟩ = false := frozen_of_row _ _ 1 _ _ r6))
  have hfin := two_sets r6 bb (some a5) n5 c5
  have hz := IsZ.two r6 bb (some a5) n5 c5 z6
  have hB := (x6.below.setCell (p := ⟨w.heap.size + 1 + 1, 0, none⟩) (by show w.heap.size ≤ w.heap.size + 1 + 1; omega) (.bool bb)).setCell (p := ⟨w.heap.size + 1 + 1, 1, none⟩) (by show w.heap.size ≤ w.heap.size + 1 + 1; omega) (.slice (some a5) n5 c5)
  go_wp2_with fail
  exact bodyPost_ret (results_cell_row rfl _ _ (w.heap.size + 1 + 1) 47 #[.bool bb, .slice (some a5) n5 c5] _ _ rfl hfin Tryz.underlying47 rfl (by kernel_rfl)) rfl ⟨some a5, n5, c5, congrArg Ending.returned (HR.out.1 _ _ _).symm, by rw [HR.out.2]; exact hz, hB⟩

end Go.Proofs.YtagcpjokajcdiaaGreatDoor

/-
  Layer 3: integers' quotients from those of their sizes.
-/
namespace Go.Proofs.YtagcpjokajcdiaaGreatDoor
open Go.RowKit Bs Ig

theorem ediv_pos_a (p q : Nat) (hq : 0 < q) : (p : Int) / (q : Int) = ((p / q : Nat) : Int) ∧ (p : Int) % (q : Int) = ((p % q : Nat) : Int) := ⟨rfl, rfl⟩
theorem ediv_neg_a (p q : Nat) (hq : 0 < q) (h : p % q = 0) : (-(p : Int)) / (q : Int) = -((p / q : Nat) : Int) ∧ (-(p : Int)) % (q : Int) = ((p % q : Nat) : Int) := by
  refine (Int.ediv_emod_unique (by omega)).2 ⟨?_, by omega, by rw [h]; omega⟩
  have h1 := Nat.div_add_mod p q
  rw [h] at h1 ⊢
  have h2 : (q : Int) * ((p / q : Nat) : Int) = (p : Int) := by exact_mod_cast h1
  rw [Int.mul_neg, h2]
  simp
theorem ediv_neg_b (p q : Nat) (hq : 0 < q) (h : 0 < p % q) : (-(p : Int)) / (q : Int) = -((p / q + 1 : Nat) : Int) ∧ (-(p : Int)) % (q : Int) = ((q - p % q : Nat) : Int) := by
  have hlt := Nat.mod_lt p hq
  refine (Int.ediv_emod_unique (by omega)).2 ⟨?_, by omega, by omega⟩
  have h1 := Nat.div_add_mod p q
  have h2 : (q : Int) * ((p / q : Nat) : Int) + ((p % q : Nat) : Int) = (p : Int) := by exact_mod_cast h1
  rw [Int.mul_neg, show ((p / q + 1 : Nat) : Int) = ((p / q : Nat) : Int) + 1 by omega, Int.mul_add, Int.mul_one]
  omega

theorem ediv_sign (x y : Int) (hy : y ≠ 0) (Q R : Nat)
    (h : (decide (x < 0) = false ∨ x.natAbs % y.natAbs = 0) ∧ Q = x.natAbs / y.natAbs ∧ R = x.natAbs % y.natAbs ∨ (decide (x < 0) = true ∧ 0 < x.natAbs % y.natAbs) ∧ Q = x.natAbs / y.natAbs + 1 ∧ R = y.natAbs - x.natAbs % y.natAbs) :
    x / y = (if (decide (x < 0) != decide (y < 0)) = true then -(Q : Int) else (Q : Int)) ∧ x % y = (R : Int) := by
  have d0 : ∀ n : Nat, decide ((n : Int) < 0) = false := fun n => by simp
  have d1 : ∀ n : Nat, 0 < n → decide (-(n : Int) < 0) = true := fun n h => by simp; omega
  rcases int_cases x with ⟨p, rfl⟩ | ⟨p, hp, rfl⟩ <;> rcases int_cases y with ⟨q, rfl⟩ | ⟨q, hq, rfl⟩
  · have hq : 0 < q := by omega
    rw [d0] at h ⊢
    rw [d0]
    rw [Int.natAbs_natCast, Int.natAbs_natCast] at h
    rcases h with ⟨_, rfl, rfl⟩ | ⟨⟨h, _⟩, _⟩
    · exact ediv_pos_a p q hq
    · cases h
  · rw [d0] at h ⊢
    rw [d1 q hq]
    rw [Int.natAbs_natCast, Int.natAbs_neg, Int.natAbs_natCast] at h
    rw [Int.ediv_neg, Int.emod_neg]
    rcases h with ⟨_, rfl, rfl⟩ | ⟨⟨h, _⟩, _⟩
    · obtain ⟨h1, h2⟩ := ediv_pos_a p q hq
      rw [h1, h2]
      exact ⟨rfl, rfl⟩
    · cases h
  · have hq : 0 < q := by omega
    rw [d1 p hp] at h ⊢
    rw [d0]
    rw [Int.natAbs_natCast, Int.natAbs_neg, Int.natAbs_natCast] at h
    rcases h with ⟨h | h, rfl, rfl⟩ | ⟨⟨_, h⟩, rfl, rfl⟩
    · cases h
    · exact ediv_neg_a p q hq h
    · exact ediv_neg_b p q hq h
  · rw [d1 p hp] at h ⊢
    rw [d1 q hq]
    rw [Int.natAbs_neg, Int.natAbs_neg, Int.natAbs_natCast, Int.natAbs_natCast] at h
    rw [Int.ediv_neg, Int.emod_neg]
    rcases h with ⟨h | h, rfl, rfl⟩ | ⟨⟨_, h⟩, rfl, rfl⟩
    · cases h
    · obtain ⟨h1, h2⟩ := ediv_neg_a p q hq h
      rw [h1, h2, Int.neg_neg]
      exact ⟨rfl, rfl⟩
    · obtain ⟨h1, h2⟩ := ediv_neg_b p q hq h
      rw [h1, h2, Int.neg_neg]
      exact ⟨rfl, rfl⟩

theorem results_two_rows {P : Program} {fn : Func} {p q : Tmp} {ty : TypeId} (h : fn.results = #[.cell p ty, .cell q ty]) (tmps : Array Value) (w : World) (g k : Nat) (t t' : TypeId) (cs ds : Array Value) (fr fr' : Nat × Nat) (d : TypeDesc)
    (hp : tmps.getD p undef = .pointer (some ⟨g, 0, none⟩)) (hq : tmps.getD q undef = .pointer (some ⟨k, 0, none⟩)) (hg : w.heap[g]? = some (.cells cs t fr)) (hk : w.heap[k]? = some (.cells ds t' fr'))
    (hu : P.underlying ty = some d) (hd : (match d with | .struct _ | .array _ _ => true | _ => false) = true) (hi : (P.info? ty).map (·.size) = some cs.size) (hj : (P.info? ty).map (·.size) = some ds.size) :
    (results fn tmps).run P w = .ok (.tuple #[.agg cs, .agg ds]) w := by
  have hp' : tmps[p]?.getD undef = .pointer (some ⟨g, 0, none⟩) := by simpa using hp
  have hq' : tmps[q]?.getD undef = .pointer (some ⟨k, 0, none⟩) := by simpa using hq
  simp [results, h, hp', hq', asAddr, Sem.run_bind, Result.andThen, run_loadVar_row w g t ty cs fr d hg hu hd hi, run_loadVar_row w k t' ty ds fr' d hk hu hd hj]

/-- four boxes -/
structure Bw (w W : World) (bx : Bool) (a : Option Addr) (n c : Nat) (bz : Bool) (b : Option Addr) (k d : Nat) : Prop where
  bx : Bx w W bx a n c bz b k d
  r3 : ∃ b0 s m e, W.heap[w.heap.size + 1 + 1 + 1]? = some (.cells #[.bool b0, .slice s m e] 47 (0, 0))
theorem Bw.start (w : World) (bx : Bool) (a : Option Addr) (n c : Nat) (bz : Bool) (b : Option Addr) (k d : Nat) :
    Bw w ((((w.alloc (.cells #[.bool bx, .slice a n c] 47)).alloc (.cells #[.bool bz, .slice b k d] 47)).alloc (.cells #[.bool false, .slice none 0 0] 47)).alloc (.cells #[.bool false, .slice none 0 0] 47)) bx a n c bz b k d := by
  refine ⟨(Bx.start w bx a n c bz b k d).later ((Below.refl _ _).alloc (Nat.le_refl _) _), false, none, 0, 0, ?_⟩
  have := heap_alloc_new (((w.alloc (.cells #[.bool bx, .slice a n c] 47)).alloc (.cells #[.bool bz, .slice b k d] 47)).alloc (.cells #[.bool false, .slice none 0 0] 47)) (.cells #[.bool false, .slice none 0 0] 47)
  simp only [World.size_alloc] at this
  exact this
theorem Bw.later {w W W' : World} {bx bz : Bool} {a b : Option Addr} {n c k d : Nat} (h : Bw w W bx a n c bz b k d) (hb : Below W.heap.size W W') : Bw w W' bx a n c bz b k d := by
  obtain ⟨b0, s, m, e, h2⟩ := h.r3
  exact ⟨h.bx.later hb, b0, s, m, e, (hb.block _ (Array.getElem?_eq_some_iff.1 h2).1).trans h2⟩

end Go.Proofs.YtagcpjokajcdiaaGreatDoor

/-
  Layer 3: greatest common divisors and quotients of numbers with signs.
-/
namespace Go.Proofs.YtagcpjokajcdiaaGreatDoor
open Go.RowKit Bs Ig

set_option maxRecDepth 100000 in
set_option maxHeartbeats 2000000 in
theorem ngcd_any (x y : Int) (a : Option Addr) (n c : Nat) (b : Option Addr) (k d : Nat) (w : World) (hl : IsZ w a n c (zs (G x.natAbs))) (hm : IsZ w b k d (zs (G y.natAbs))) (hn : n ≤ 400) (hk : k ≤ 400) :
    Calls Tryz.prog 43 #[numV x a n c, numV y b k d] w fun e w' => ∃ a1 n1 c1, e = .returned (numV (Int.gcd x y : Nat) a1 n1 c1) ∧ IsZ w' a1 n1 c1 (zs (G (Int.gcd x y))) ∧ Below w.heap.size w w' := by
  have hst := Bx.start w (decide (x < 0)) a n c (decide (y < 0)) b k d
  have hgc : Int.gcd x y = Nat.gcd x.natAbs y.natAbs := rfl
  have hl2 := hl.later hst.below
  have hm2 := hm.later hst.below
  obtain ⟨M, hM⟩ := numOf
  have HM := Lib.hid hM
  unfold numV
  obtain ⟨bx, hbx⟩ : ∃ bx, decide (x < 0) = bx := ⟨_, rfl⟩
  obtain ⟨bz, hbz⟩ : ∃ bz, decide (y < 0) = bz := ⟨_, rfl⟩
  rw [hbx, hbz] at hst hl2 hm2 ⊢
  rw [show decide (((Int.gcd x y : Nat) : Int) < 0) = false by simp]
  obtain ⟨gg, hgg⟩ : ∃ gg, Int.gcd x y = gg := ⟨_, rfl⟩
  rw [hgg] at hgc ⊢
  have Hg := Lib.hid hgc.symm
  clear hl hm hbx hbz hgg hgc hM
  go_enter Tryz.func43, Tryz.ntmps43
  go_wp2_with fail
  refine wp_world fun W hW => ?_
  rw [← hW] at hst hl2 hm2
  have c1 := hst.c01
  have c3 := hst.c11
  have Hl := Lib.hid (And.intro hl2 hm2)
  clear hW hl2 hm2
  go_quiet (fail)
  have hst1 := hst.later (Below.refl _ W)
  have hB1 : Below W.heap.size W (W.drewN nq) := below_drewN (Below.refl _ _) nq
  have hst2 := hst.later hB1
  have H2 := Lib.hid (And.intro (Hl.out.1.later hB1) (Hl.out.2.later hB1))
  clear c1 c3 hst hst1 hB1 Hl
  generalize W.drewN nq = W2 at *
  go_wp2_with fail
  go_loopw [5, 6] (fun p q wr => ∃ (pa : Option Addr) (pn pc u : Nat) (qa : Option Addr) (qn qc v : Nat), p = .slice pa pn pc ∧ q = .slice qa qn qc ∧ IsZ wr pa pn pc (zs (G u)) ∧ IsZ wr qa qn qc (zs (G v)) ∧ Nat.gcd u v = gg ∧ pn ≤ 400 ∧ qn ≤ 400 ∧ Below W2.heap.size W2 wr) (fun _ q wr => M q wr)
  case atStart => exact ⟨a, n, c, x.natAbs, b, k, d, y.natAbs, rfl, rfl, H2.out.1, H2.out.2, Hg.out, hn, hk, Below.refl _ _⟩
  case round =>
    obtain ⟨pa, pn, pc, u, qa, qn, qc, v, rfl, rfl, hu, hv, hg, hpn, hqn, hw⟩ := hrel
    have hlp := len_pos hv
    rcases Nat.eq_zero_or_pos v with h0 | h0
    · have hq0 : qn = 0 := by omega
      subst hq0
      subst h0
      rw [Nat.gcd_zero_right] at hg
      subst hg
      have hx := hst2.later hw
      have hsg := signed_any false pa pn pc u wr hu
      rw [show (if false = true then -(u : Int) else (u : Int)) = (u : Int) from rfl] at hsg
      unfold numV at hsg
      rw [show decide ((u : Int) < 0) = false by simp] at hsg
      have HS := Lib.hid hsg
      have Hu := Lib.hid hu
      clear hu hv hlp hsg
      go_wp2_with (go_at_call 51; (with_reducible refine HS.out.mono ?_); rintro e w6 ⟨rfl, B6⟩; have x6 := hx.later B6; obtain ⟨b0, s0, m0, e0, r6⟩ := x6.r2; have q0 : w6.cell? ⟨w.heap.size + 1 + 1, 0, none⟩ = some (.bool b0) := (by rw [cell_of_row _ _ 0 _ _ _ r6]; rfl); have q1 : w6.cell? ⟨w.heap.size + 1 + 1, 1, none⟩ = some (.slice s0 m0 e0) := (by rw [cell_of_row _ _ 1 _ _ _ r6]; rfl); have f0 : w6.frozen? ⟨w.heap.size + 1 + 1, 0, none⟩ = false := frozen_of_row _ _ 0 _ _ r6; have f1 : w6.frozen? ⟨w.heap.size + 1 + 1, 1, none⟩ = false := frozen_of_row _ _ 1 _ _ r6)
      have hfin := two_sets r6 false pa pn pc
      have hz := IsZ.two r6 false pa pn pc (Hu.out.later B6)
      have hB := (x6.below.setCell (p := ⟨w.heap.size + 1 + 1, 0, none⟩) (by show w.heap.size ≤ w.heap.size + 1 + 1; omega) (.bool false)).setCell (p := ⟨w.heap.size + 1 + 1, 1, none⟩) (by show w.heap.size ≤ w.heap.size + 1 + 1; omega) (.slice pa pn pc)
      exact bodyPost_ret (results_cell_row rfl _ _ (w.heap.size + 1 + 1) 47 #[.bool false, .slice pa pn pc] _ _ rfl hfin Tryz.underlying47 rfl (by kernel_rfl)) rfl ⟨pa, pn, pc, rfl, hz, hB⟩
    · have hdq : decide (0 < qn) = true := decide_eq_true (by omega)
      have hdq2 : decide (0 < (qn : Int)) = true := decide_eq_true (by omega)
      have hd := divide_any pa pn pc qa qn qc u v wr hu hv h0 (by omega) (by omega)
      have HD := Lib.hid hd
      have Hv := Lib.hid (And.intro hv hg)
      have hmod := Nat.mod_lt u h0
      have hgc2 : Nat.gcd v (u % v) = gg := by rw [Nat.gcd_comm v, ← Nat.gcd_rec, Nat.gcd_comm]; exact hg
      have Hm := Lib.hid (And.intro hmod hgc2)
      clear hu hv hlp hd hg hmod hgc2
      go_wp2_with (go_at_call 58; refine HD.out.mono ?_; rintro e w4 ⟨a1, n1, c1, a2, n2, c2, rfl, hz1, hz2, hb4⟩)
      go_roundw
      case rel =>
        refine ⟨qa, qn, qc, v, a2, n2, c2, u % v, rfl, rfl, Hv.out.1.later hb4, hz2, Hm.out.2, hqn, ?_, below_on hw hb4 hw.size⟩
        rw [← hz2.glen]
        exact Nat.le_trans (dgs_length_mono (Nat.le_of_lt Hm.out.1)) (by rw [show (dgs 9998 v).length = qn from Hv.out.1.glen]; exact hqn)
      case measure =>
        rw [HM.out _ _ _ _ _ hz2, HM.out _ _ _ _ _ Hv.out.1]
        exact Hm.out.1

end Go.Proofs.YtagcpjokajcdiaaGreatDoor

/-
  Layer 3: quotients of numbers with signs.
-/
namespace Go.Proofs.YtagcpjokajcdiaaGreatDoor
open Go.RowKit Bs Ig

set_option maxRecDepth 100000 in
set_option maxHeartbeats 2000000 in
theorem ndivide_any (x y : Int) (hy : y ≠ 0) (a : Option Addr) (n c : Nat) (b : Option Addr) (k d : Nat) (w : World) (hl : IsZ w a n c (zs (G x.natAbs))) (hm : IsZ w b k d (zs (G y.natAbs))) (hn : n ≤ 400) (hk : k ≤ 400) :
    Calls Tryz.prog 37 #[numV x a n c, numV y b k d] w fun e w' => ∃ a1 n1 c1 a2 n2 c2, e = .returned (.tuple #[numV (x / y) a1 n1 c1, numV (x % y) a2 n2 c2]) ∧ IsZ w' a1 n1 c1 (zs (G (x / y).natAbs)) ∧ IsZ w' a2 n2 c2 (zs (G (x % y).natAbs)) ∧ Below w.heap.size w w' := by
  have hst := Bw.start w (decide (x < 0)) a n c (decide (y < 0)) b k d
  have hsg := ediv_sign x y hy
  have hyp : 0 < y.natAbs := by omega
  unfold numV
  obtain ⟨bx, hbx⟩ : ∃ bx, decide (x < 0) = bx := ⟨_, rfl⟩
  obtain ⟨bz, hbz⟩ : ∃ bz, decide (y < 0) = bz := ⟨_, rfl⟩
  rw [hbx, hbz] at hst hsg ⊢
  obtain ⟨p, hp⟩ : ∃ p, x.natAbs = p := ⟨_, rfl⟩
  obtain ⟨q, hq⟩ : ∃ q, y.natAbs = q := ⟨_, rfl⟩
  rw [hp] at hl hsg
  rw [hq] at hm hsg hyp
  have hd := divide_any a n c b k d p q _ (hl.later hst.bx.below) (hm.later hst.bx.below) hyp (by omega) (by omega)
  obtain ⟨bd, hbd⟩ : ∃ bd, (bx != bz) = bd := ⟨_, rfl⟩
  rw [hbd] at hsg
  have hbd2 : (!(bx == bz)) = bd := hbd
  have HD := Lib.hid hd
  have HB := Lib.hid hst
  have hS : ∀ (Q : Nat), ∃ bb, ∀ (Z : Int), Z = (if bd = true then -(Q : Int) else (Q : Int)) → (∀ a n c, numV Z a n c = .agg #[.bool bb, .slice a n c]) ∧ Z.natAbs = Q ∧ ∀ (W : World) (a : Option Addr) (n c : Nat), IsZ W a n c (zs (G Q)) → Calls Tryz.prog 51 #[.bool bd, .slice a n c] W (fun e w' => e = .returned (.agg #[.bool bb, .slice a n c]) ∧ Below W.heap.size W w') := fun Q => by
    refine ⟨bd && decide (0 < Q), fun Z hZ => ⟨fun a n c => by rw [hZ, numV_eq], by rw [hZ]; split <;> simp, fun W a n c h => (signed_any bd a n c Q W h).mono (fun e w' h2 => by rw [numV_eq] at h2; exact h2)⟩⟩
  have hT : ∀ (R : Nat) (W : World) (a : Option Addr) (n c : Nat), IsZ W a n c (zs (G R)) → Calls Tryz.prog 51 #[.bool false, .slice a n c] W (fun e w' => e = .returned (.agg #[.bool false, .slice a n c]) ∧ Below W.heap.size W w') := fun R W a n c h => (signed_any false a n c R W h).mono (fun e w' h2 => by rw [numV_eq, Bool.false_and] at h2; exact h2)
  have hT2 : ∀ (R : Nat) a n c, numV (R : Int) a n c = .agg #[.bool false, .slice a n c] := fun R a n c => by unfold numV; rw [show decide ((R : Int) < 0) = false by simp]
  change Calls Tryz.prog 37 #[.agg #[.bool bx, .slice a n c], .agg #[.bool bz, .slice b k d]] w fun e w' => ∃ a1 n1 c1 a2 n2 c2, e = .returned (.tuple #[numV (x / y) a1 n1 c1, numV (x % y) a2 n2 c2]) ∧ IsZ w' a1 n1 c1 (zs (G (x / y).natAbs)) ∧ IsZ w' a2 n2 c2 (zs (G (x % y).natAbs)) ∧ Below w.heap.size w w'
  have hmo := Nat.mod_lt p hyp
  cases bx with
  | false =>
    have hb3 : bz = bd := by simpa using hbd2
    clear hbd2
    subst hb3
    obtain ⟨Q, hQ⟩ : ∃ Q, p / q = Q := ⟨_, rfl⟩
    obtain ⟨R, hR⟩ : ∃ R, p % q = R := ⟨_, rfl⟩
    obtain ⟨he1, he2⟩ := hsg Q R (Or.inl ⟨.inl rfl, hQ.symm, hR.symm⟩)
    obtain ⟨bb, hbb⟩ := hS Q
    obtain ⟨hV, hA, hS1⟩ := hbb _ he1
    have hA2 : (x % y).natAbs = R := by rw [he2]; simp
    have HS := Lib.hid hS1
    have HT := Lib.hid (hT R)
    have HV := Lib.hid (And.intro hV (And.intro hA (And.intro hA2 (show ∀ a n c, numV (x % y) a n c = .agg #[.bool false, .slice a n c] from fun a n c => by rw [he2]; exact hT2 R a n c))))
    rw [hQ, hR] at HD
    clear hl hm hst hsg hyp hbx hbz hp hq hd hbd hS hT hT2 hmo hQ hR he1 he2 hbb hV hA hS1 hA2
    go_enter Tryz.func37, Tryz.ntmps37
    go_wp2_with (first
      | (go_at_call 58; (with_reducible refine HD.out.mono ?_); rintro e w1 ⟨qa, qn, qc, ra, rn, rc, rfl, z1, z2, B1⟩; have x1 := HB.out.later B1; have c0 := x1.bx.c00; have c2 := x1.bx.c10;  skip)
      | (go_at_call 51; (with_reducible refine (HT.out _ _ _ _ z2').mono ?_); rintro e w3 ⟨rfl, B3⟩; have x3 := x2.later B3; have z13 := z1'.later B3; have z23 := z2'.later B3; obtain ⟨t0, t1, t2, t3, hr2⟩ := x3.bx.r2; obtain ⟨u0, u1, u2, u3, hr3⟩ := x3.r3; have hr3' : (w3.setRow (w.heap.size + 1 + 1) #[.bool bb, .slice qa qn qc]).heap[w.heap.size + 1 + 1 + 1]? = some (.cells #[.bool u0, .slice u1 u2 u3] 47 (0, 0)) := (Go.setRow_other w3 (w.heap.size + 1 + 1) _ _ (by omega)).trans hr3)
      | (go_at_call 51; (with_reducible refine (HS.out _ _ _ _ z1).mono ?_); rintro e w2 ⟨rfl, B2⟩; have x2 := x1.later B2; have z1' := z1.later B2; have z2' := z2.later B2)
      | (refine wpList_store_row rfl 47 _ _ rfl (w.heap.size + 1 + 1) _ rfl rfl 47 _ hr2 ?s1 ?s2 ?s3 ?_)
      | (refine wpList_store_row rfl 47 _ _ rfl (w.heap.size + 1 + 1 + 1) _ rfl rfl 47 _ hr3' ?s4 ?s5 ?s6 ?_))
    case s1 => kernel_rfl
    case s2 => rfl
    case s3 => exact two_cells _ _ _ _
    case s4 => kernel_rfl
    case s5 => rfl
    case s6 => exact two_cells _ _ _ _
    have hf2 := setRow_heap w3 (w.heap.size + 1 + 1) _ #[.bool bb, .slice qa qn qc] _ _ hr2
    have hf3 := setRow_heap (w3.setRow (w.heap.size + 1 + 1) #[.bool bb, .slice qa qn qc]) (w.heap.size + 1 + 1 + 1) _ #[.bool false, .slice ra rn rc] _ _ hr3'
    exact bodyPost_ret (results_two_rows rfl _ _ (w.heap.size + 1 + 1) (w.heap.size + 1 + 1 + 1) 47 47 #[.bool bb, .slice qa qn qc] #[.bool false, .slice ra rn rc] _ _ _ rfl rfl ((Go.setRow_other _ _ _ _ (by omega)).trans hf2) hf3 Tryz.underlying47 rfl (by kernel_rfl) (by kernel_rfl)) rfl ⟨qa, qn, qc, ra, rn, rc, by rw [HV.out.1, HV.out.2.2.2], by rw [HV.out.2.1]; exact (z13.setRow hr2 _).setRow hr3' _, by rw [HV.out.2.2.1]; exact (z23.setRow hr2 _).setRow hr3' _, below_row (below_row x3.bx.below (by omega) _) (by omega) _⟩
  | true =>
    have hb3 : (!bz) = bd := by simpa using hbd2
    clear hbd2
    rcases Nat.eq_zero_or_pos (p % q) with hr0 | hr0
    · have HL := Lib.hid (fun (W : World) a n c (h : IsZ W a n c (zs (G (p % q)))) => (show n = 0 from by have := len_pos h; omega))
      obtain ⟨Q, hQ⟩ : ∃ Q, p / q = Q := ⟨_, rfl⟩
      obtain ⟨R, hR⟩ : ∃ R, p % q = R := ⟨_, rfl⟩
      obtain ⟨he1, he2⟩ := hsg Q R (Or.inl ⟨.inr hr0, hQ.symm, hR.symm⟩)
      obtain ⟨bb, hbb⟩ := hS Q
      obtain ⟨hV, hA, hS1⟩ := hbb _ he1
      have hA2 : (x % y).natAbs = R := by rw [he2]; simp
      have HS := Lib.hid hS1
      have HT := Lib.hid (hT R)
      have HV := Lib.hid (And.intro hV (And.intro hA (And.intro hA2 (show ∀ a n c, numV (x % y) a n c = .agg #[.bool false, .slice a n c] from fun a n c => by rw [he2]; exact hT2 R a n c))))
      rw [hQ, hR] at HD
      rw [hR] at HL
      clear hl hm hst hsg hyp hbx hbz hp hq hd hbd hS hT hT2 hmo hQ hR he1 he2 hbb hV hA hS1 hA2 hr0
      go_enter Tryz.func37, Tryz.ntmps37
      go_wp2_with (first
        | (go_at_call 58; (with_reducible refine HD.out.mono ?_); rintro e w1 ⟨qa, qn, qc, ra, rn, rc, rfl, z1, z2, B1⟩; have x1 := HB.out.later B1; have c0 := x1.bx.c00; have c2 := x1.bx.c10;  obtain rfl : rn = 0 := HL.out _ _ _ _ z2)
        | (go_at_call 51; (with_reducible refine (HT.out _ _ _ _ z2').mono ?_); rintro e w3 ⟨rfl, B3⟩; have x3 := x2.later B3; have z13 := z1'.later B3; have z23 := z2'.later B3; obtain ⟨t0, t1, t2, t3, hr2⟩ := x3.bx.r2; obtain ⟨u0, u1, u2, u3, hr3⟩ := x3.r3; have hr3' : (w3.setRow (w.heap.size + 1 + 1) #[.bool bb, .slice qa qn qc]).heap[w.heap.size + 1 + 1 + 1]? = some (.cells #[.bool u0, .slice u1 u2 u3] 47 (0, 0)) := (Go.setRow_other w3 (w.heap.size + 1 + 1) _ _ (by omega)).trans hr3)
        | (go_at_call 51; (with_reducible refine (HS.out _ _ _ _ z1).mono ?_); rintro e w2 ⟨rfl, B2⟩; have x2 := x1.later B2; have z1' := z1.later B2; have z2' := z2.later B2)
        | (refine wpList_store_row rfl 47 _ _ rfl (w.heap.size + 1 + 1) _ rfl rfl 47 _ hr2 ?s1 ?s2 ?s3 ?_)
        | (refine wpList_store_row rfl 47 _ _ rfl (w.heap.size + 1 + 1 + 1) _ rfl rfl 47 _ hr3' ?s4 ?s5 ?s6 ?_))
      case s1 => kernel_rfl
      case s2 => rfl
      case s3 => exact two_cells _ _ _ _
      case s4 => kernel_rfl
      case s5 => rfl
      case s6 => exact two_cells _ _ _ _
      have hf2 := setRow_heap w3 (w.heap.size + 1 + 1) _ #[.bool bb, .slice qa qn qc] _ _ hr2
      have hf3 := setRow_heap (w3.setRow (w.heap.size + 1 + 1) #[.bool bb, .slice qa qn qc]) (w.heap.size + 1 + 1 + 1) _ #[.bool false, .slice ra 0 rc] _ _ hr3'
      exact bodyPost_ret (results_two_rows rfl _ _ (w.heap.size + 1 + 1) (w.heap.size + 1 + 1 + 1) 47 47 #[.bool bb, .slice qa qn qc] #[.bool false, .slice ra 0 rc] _ _ _ rfl rfl ((Go.setRow_other _ _ _ _ (by omega)).trans hf2) hf3 Tryz.underlying47 rfl (by kernel_rfl) (by kernel_rfl)) rfl ⟨qa, qn, qc, ra, 0, rc, by rw [HV.out.1, HV.out.2.2.2], by rw [HV.out.2.1]; exact (z13.setRow hr2 _).setRow hr3' _, by rw [HV.out.2.2.1]; exact (z23.setRow hr2 _).setRow hr3' _, below_row (below_row x3.bx.below (by omega) _) (by omega) _⟩
    · have HL := Lib.hid (fun (W : World) a n c (h : IsZ W a n c (zs (G (p % q)))) => (show 0 < n from by have := len_pos h; omega))
      obtain ⟨Q, hQ⟩ : ∃ Q, p / q + 1 = Q := ⟨_, rfl⟩
      obtain ⟨R, hR⟩ : ∃ R, q - p % q = R := ⟨_, rfl⟩
      obtain ⟨he1, he2⟩ := hsg Q R (Or.inr ⟨⟨rfl, hr0⟩, hQ.symm, hR.symm⟩)
      obtain ⟨bb, hbb⟩ := hS Q
      obtain ⟨hV, hA, hS1⟩ := hbb _ he1
      have hA2 : (x % y).natAbs = R := by rw [he2]; simp
      have HS := Lib.hid hS1
      have HT := Lib.hid (hT R)
      have HV := Lib.hid (And.intro hV (And.intro hA (And.intro hA2 (show ∀ a n c, numV (x % y) a n c = .agg #[.bool false, .slice a n c] from fun a n c => by rw [he2]; exact hT2 R a n c))))
      have HQ := Lib.hid (fun (W : World) (qa : Option Addr) (qn qc : Nat) (h : IsZ W qa qn qc (zs (G (p / q)))) (h400 : qn ≤ 400) => (show Calls Tryz.prog 52 #[.slice qa qn qc, .slice (some ⟨W.heap.size, 0, none⟩) 1 1] (W.alloc (.cells #[.int .i64 1] 3)).drew (fun e w' => ∃ a' n' c', e = .returned (.slice (some a') n' c') ∧ IsZ w' (some a') n' c' (zs (G Q)) ∧ Below W.heap.size W w') from by
        have hB : Below W.heap.size W (W.alloc (.cells #[.int .i64 1] 3)).drew := ((Below.refl _ _).alloc (Nat.le_refl _) _).drew
        have := plus_any qa qn qc (G (p / q)) (some ⟨W.heap.size, 0, none⟩) 1 1 [1] (p / q) 1 (W.alloc (.cells #[.int .i64 1] 3)).drew (h.later hB) ((one_isZ W 1).later (Below.refl _ _).drew) (G_lt _) (fun z hz => by rw [List.mem_singleton.1 hz]; omega) (V_G _) (V_one 1) (by omega) (by omega)
        rw [hQ] at this
        exact this.mono (fun e w' ⟨a', n', c', he, hz, hb⟩ => ⟨a', n', c', he, hz, below_on hB hb hB.size⟩)))
      have HR := Lib.hid (fun (W : World) (ra : Option Addr) (rn rc : Nat) (hb : Bw w W true a n c bz b k d) (h : IsZ W ra rn rc (zs (G (p % q)))) => (show Calls Tryz.prog 54 #[.slice b k d, .slice ra rn rc] W (fun e w' => ∃ a' n' c', e = .returned (.slice (some a') n' c') ∧ IsZ w' (some a') n' c' (zs (G R)) ∧ Below W.heap.size W w') from by
        have hmb := hm.later hb.bx.below
        have := minus_any b k d (G q) ra rn rc (G (p % q)) q (p % q) W hmb h (G_lt _) (G_lt _) (V_G _) (V_G _) (by omega) (by rw [← h.glen, ← hmb.glen]; exact dgs_length_mono (by omega)) (by omega)
        rw [hR] at this
        exact this))
      have HN := Lib.hid (fun (W : World) (qa : Option Addr) (qn qc : Nat) (h : IsZ W qa qn qc (zs (G (p / q)))) => (show qn ≤ 400 from by rw [← h.glen]; exact Nat.le_trans (dgs_length_mono (Nat.div_le_self p q)) (by rw [show (dgs 9998 p).length = n from hl.glen]; exact hn)))
      clear hl hm hst hsg hyp hbx hbz hp hq hd hbd hS hT hT2 hmo hQ hR he1 he2 hbb hV hA hS1 hA2 hr0
      go_enter Tryz.func37, Tryz.ntmps37
      go_wp2_with (go_at_call 58; (with_reducible refine HD.out.mono ?_); rintro e w1 ⟨pa, pn, pc, sa, sn, sc, rfl, y1, y2, B1⟩; have xx := HB.out.later B1; have c0 := xx.bx.c00; have hsn := HL.out _ _ _ _ y2; have hdn : decide (0 < sn) = true := decide_eq_true hsn; have hdi : decide (0 < (sn : Int)) = true := decide_eq_true (by omega))
      have h400 := HN.out _ _ _ _ y1
      have k1 := xx.bx.c11
      clear hsn hdn hdi
      go_region_held3 (fun w' => w'.cell? ⟨w.heap.size + 1, 1, none⟩ = some (.slice b k d)) (first | go_keep)
        (first
          | (go_at_call 52; (with_reducible refine (HQ.out _ _ _ _ y1 h400).mono ?_); rintro e w5 ⟨q5, n5, c5, rfl, z5, B5⟩; have x5 := xx.later B5; have y5 := y2.later B5; have k5 := x5.bx.c11)
          | (go_at_call 54; (with_reducible refine (HR.out _ _ _ _ x5 y5).mono ?_); rintro e w6 ⟨q6, n6, c6, rfl, z6, B6⟩; have x6 := x5.later B6; have z56 := z5.later B6; have k6 := x6.bx.c11))
      have d0 := x6.bx.c00
      have d2 := x6.bx.c10
      clear k1 k5 k6
      go_wp2_with (first
        | (go_at_call 51; (with_reducible refine (HT.out _ _ _ _ z2').mono ?_); rintro e w3 ⟨rfl, B3⟩; have x3 := x2.later B3; have z13 := z1'.later B3; have z23 := z2'.later B3; obtain ⟨t0, t1, t2, t3, hr2⟩ := x3.bx.r2; obtain ⟨u0, u1, u2, u3, hr3⟩ := x3.r3; have hr3' : (w3.setRow (w.heap.size + 1 + 1) #[.bool bb, .slice (some q5) n5 c5]).heap[w.heap.size + 1 + 1 + 1]? = some (.cells #[.bool u0, .slice u1 u2 u3] 47 (0, 0)) := (Go.setRow_other w3 (w.heap.size + 1 + 1) _ _ (by omega)).trans hr3)
        | (go_at_call 51; (with_reducible refine (HS.out _ _ _ _ z56).mono ?_); rintro e w2 ⟨rfl, B2⟩; have x2 := x6.later B2; have z1' := z56.later B2; have z2' := z6.later B2)
        | (refine wpList_store_row rfl 47 _ _ rfl (w.heap.size + 1 + 1) _ rfl rfl 47 _ hr2 ?s1 ?s2 ?s3 ?_)
        | (refine wpList_store_row rfl 47 _ _ rfl (w.heap.size + 1 + 1 + 1) _ rfl rfl 47 _ hr3' ?s4 ?s5 ?s6 ?_))
      case s1 => kernel_rfl
      case s2 => rfl
      case s3 => exact two_cells _ _ _ _
      case s4 => kernel_rfl
      case s5 => rfl
      case s6 => exact two_cells _ _ _ _
      have hf2 := setRow_heap w3 (w.heap.size + 1 + 1) _ #[.bool bb, .slice (some q5) n5 c5] _ _ hr2
      have hf3 := setRow_heap (w3.setRow (w.heap.size + 1 + 1) #[.bool bb, .slice (some q5) n5 c5]) (w.heap.size + 1 + 1 + 1) _ #[.bool false, .slice (some q6) n6 c6] _ _ hr3'
      exact bodyPost_ret (results_two_rows rfl _ _ (w.heap.size + 1 + 1) (w.heap.size + 1 + 1 + 1) 47 47 #[.bool bb, .slice (some q5) n5 c5] #[.bool false, .slice (some q6) n6 c6] _ _ _ rfl rfl ((Go.setRow_other _ _ _ _ (by omega)).trans hf2) hf3 Tryz.underlying47 rfl (by kernel_rfl) (by kernel_rfl)) rfl ⟨some q5, n5, c5, some q6, n6, c6, by rw [HV.out.1, HV.out.2.2.2], by rw [HV.out.2.1]; exact (z13.setRow hr2 _).setRow hr3' _, by rw [HV.out.2.2.1]; exact (z23.setRow hr2 _).setRow hr3' _, below_row (below_row x3.bx.below (by omega) _) (by omega) _⟩

end Go.Proofs.YtagcpjokajcdiaaGreatDoor

/-
  Layer 3: which strings are integers.
-/
namespace Go.Proofs.YtagcpjokajcdiaaGreatDoor
open Go.RowKit Bs Ig

set_option maxRecDepth 100000 in
set_option maxHeartbeats 1000000 in
theorem Valid_any (l : List UInt8) (w : World) :
    Calls Tryz.prog 21 #[.string (bs l)] w fun e w' => ∃ r, e = .returned (.bool r) ∧ (r = true ↔ IsI l) ∧ w' = w := by
  have hc := Tryz.strings_TrimPrefix (bs l) ⟨#[45]⟩
  rw [show (bs l).data.toList = l from rfl, show (ByteArray.mk #[45]).data.toList = [45] from rfl, trim45] at hc
  have hII := isI_iff l
  obtain ⟨b, hb⟩ : ∃ b, body l = b := ⟨_, rfl⟩
  rw [hb] at hc hII
  have hcs : ∀ W, Calls Tryz.prog 48 #[.string (bs l), .string ⟨#[45]⟩] W fun e w' => e = .returned (.string (bs b)) ∧ w' = W := hc
  have HC := Lib.hid hcs
  have hsz : (bs b).size = b.length := bs_size b
  clear hc hcs
  obtain ⟨S, hS⟩ : ∃ S, bs b = S := ⟨_, rfl⟩
  obtain ⟨T, hT⟩ : ∃ T, bs l = T := ⟨_, rfl⟩
  rw [hS, hT] at HC
  rw [hS] at hsz
  rw [hT]
  have h48 : l = [48] → b = [48] := fun h => by rw [← hb, h]; rfl
  have hget : ∀ (i : Nat) (h : i < S.size), (S[i]'h) = b.getD i 0 := fun i h => by
    subst hS
    rw [List.getD_eq_getElem?_getD, List.getElem?_eq_getElem (show i < b.length by omega)]
    rfl
  have HI := Lib.hid hII
  have HG := Lib.hid hget
  have H48 := Lib.hid h48
  have HT := Lib.hid hT
  clear hII hget h48 hb hS hT
  rcases Nat.eq_zero_or_pos b.length with h0 | h0
  · have hd0 : ((b.length : Int) == 0) = true := by rw [h0]; rfl
    go_enter Tryz.func21, Tryz.ntmps21
    go_wp2_with (first | (go_at_call 48; refine (HC.out _).mono ?_; rintro e w1 ⟨rfl, rfl⟩))
    go_ret
    exact ⟨false, rfl, ⟨fun h => (by cases h), fun h => by
      rcases HI.out.1 h with h | h
      · rw [H48.out h] at h0; cases h0
      · omega⟩, rfl⟩
  have hd0 : ((b.length : Int) == 0) = false := beq_false_of_ne (by omega)
  rcases Nat.lt_or_ge 200 b.length with h2 | h2
  · have hd2 : decide (200 < (b.length : Int)) = true := decide_eq_true (by omega)
    go_enter Tryz.func21, Tryz.ntmps21
    go_wp2_with (first | (go_at_call 48; refine (HC.out _).mono ?_; rintro e w1 ⟨rfl, rfl⟩))
    go_ret
    exact ⟨false, rfl, ⟨fun h => (by cases h), fun h => by
      rcases HI.out.1 h with h | h
      · rw [H48.out h] at h2; simp at h2
      · omega⟩, rfl⟩
  have hd2 : decide (200 < (b.length : Int)) = false := decide_eq_false (by omega)
  have hi0 : 0 < S.size := by omega
  obtain ⟨k0, hk0⟩ : ∃ k0, (S[0]'hi0).toNat = k0 := ⟨_, rfl⟩
  have Hk0 := Lib.hid hk0
  rcases Decidable.em (k0 = 48) with h3 | h3
  · subst h3
    go_enter Tryz.func21, Tryz.ntmps21
    go_wp2_with (first | (go_at_call 48; refine (HC.out _).mono ?_; rintro e w1 ⟨rfl, rfl⟩))
    go_ret
    refine ⟨_, rfl, ⟨fun h => HI.out.2 (.inl ?_), fun h => ?_⟩, rfl⟩
    · rw [← HT.out, bs_toList] at h; exact eq_of_beq h
    · rw [← HT.out, bs_toList]
      rcases HI.out.1 h with h | h
      · rw [h]; rfl
      · exfalso
        refine h.2.2.1 ?_
        rw [← HG.out 0 hi0]
        exact byte_ext Hk0.out
  · have hd3 : ((k0 : Int) == 48) = false := beq_false_of_ne (by omega)
    have HI3 := Lib.hid (show IsI l ↔ ∀ i, i < b.length → isDig (b.getD i 0) from by
      have hne : b.getD 0 0 ≠ 48 := by
        rw [← HG.out 0 hi0]; intro h; rw [h] at hk0; exact h3 hk0.symm
      constructor
      · intro h
        rcases HI.out.1 h with h | h
        · rw [H48.out h] at hne; exact absurd rfl hne
        · exact h.2.2.2
      · intro h; exact HI.out.2 (.inr ⟨h0, h2, hne, h⟩))
    go_enter Tryz.func21, Tryz.ntmps21
    go_wp2_with (first | (go_at_call 48; refine (HC.out _).mono ?_; rintro e w1 ⟨rfl, rfl⟩))
    go_loopw [22] (fun u wr => ∃ i : Nat, i ≤ b.length ∧ u = .int .i64 (i : Int) ∧ (∀ j, j < i → isDig (b.getD j 0)) ∧ w1 = wr) (fun u _ => (b.length - intOf u).toNat)
    case atStart => exact ⟨0, Nat.zero_le _, rfl, fun j h => absurd h (Nat.not_lt_zero _), rfl⟩
    case round =>
      obtain ⟨i, hi, rfl, hdg, rfl⟩ := hrel
      have HD := Lib.hid hdg
      clear hdg
      rcases Nat.lt_or_ge i b.length with hlt | hge
      · have hiS : i < S.size := by omega
        obtain ⟨k, hk⟩ : ∃ k, (S[i]'hiS).toNat = k := ⟨_, rfl⟩
        have Hk := Lib.hid hk
        rcases Decidable.em (48 ≤ k ∧ k ≤ 57) with hkd | hkd
        · have e1 : decide ((k : Int) < 48) = false := decide_eq_false (by omega)
          have e2 : decide (57 < (k : Int)) = false := decide_eq_false (by omega)
          go_wp2_with fail
          go_roundw
          case rel => exact ⟨i + 1, by omega, by go_num, fun j hj => by
            rcases Nat.lt_or_ge j i with h | h
            · exact HD.out j h
            · obtain rfl : j = i := by omega
              rw [← HG.out j hiS]; unfold isDig; rw [Hk.out]; exact hkd, trivial⟩
          case measure => simp [intOf]; omega
        · have hno : ¬ IsI l := fun h => by
            have := HI3.out.1 h i hlt
            rw [← HG.out i hiS] at this; unfold isDig at this; rw [hk] at this; exact hkd this
          have HN := Lib.hid hno
          clear hno
          rcases Nat.lt_or_ge k 48 with hk4 | hk4
          · have e1 : decide ((k : Int) < 48) = true := decide_eq_true (by omega)
            go_wp2_with fail
            go_ret
            exact ⟨false, rfl, ⟨fun h => (by cases h), fun h => (HN.out h).elim⟩, rfl⟩
          · have e1 : decide ((k : Int) < 48) = false := decide_eq_false (by omega)
            have e2 : decide (57 < (k : Int)) = true := decide_eq_true (by omega)
            go_wp2_with fail
            go_ret
            exact ⟨false, rfl, ⟨fun h => (by cases h), fun h => (HN.out h).elim⟩, rfl⟩
      · obtain rfl : i = b.length := by omega
        go_wp2_with fail
        go_ret
        exact ⟨true, rfl, ⟨fun _ => HI3.out.2 HD.out, fun _ => rfl⟩, rfl⟩

end Go.Proofs.YtagcpjokajcdiaaGreatDoor
