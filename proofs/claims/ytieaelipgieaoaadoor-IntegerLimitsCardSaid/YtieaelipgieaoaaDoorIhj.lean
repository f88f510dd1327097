/-
  Layer 3: quotients and roots.
-/
import Derived.Test.YtieaelipgieaoaaDoorIhi
namespace Go.Proofs.YtieaelipgieaoaaDoor
open Go.RowKit Bs Ig

theorem itoa_zero (y : Int) (hy : y ≠ 0) : (Lib.itoa y == [48]) = false := by
  refine beq_false_of_ne (fun h => hy (itoa_inj (y := 0) ?_))
  rw [h, show (0 : Int) = ((0 : Nat) : Int) from rfl, itoa_nat, dec_small (by omega)]; rfl
theorem itoa_pos (z : Int) (h : 0 ≤ z) : Lib.itoa z = Lib.decDigits z.natAbs := by
  obtain ⟨n, rfl⟩ : ∃ n : Nat, z = n := ⟨z.natAbs, by omega⟩
  rw [itoa_nat]; rfl
theorem results_tmp3 {fn : Func} {t u v : Tmp} (h : fn.results = #[.tmp t, .tmp u, .tmp v]) (tmps : Array Value) (P : Program) (w : World) :
    (results fn tmps).run P w = .ok (.tuple #[tmps.getD t undef, tmps.getD u undef, tmps.getD v undef]) w := by
  simp [results, h]
theorem big_sq : big ≤ big * big := Nat.le_mul_of_pos_right _ (Nat.pow_pos (by omega))

set_option maxRecDepth 100000 in
set_option maxHeartbeats 1000000 in
theorem Div_any (x y : Int) (hx : x.natAbs < big) (hy : y.natAbs < big) (hy0 : y ≠ 0) (w : World) (ht : TabP w) :
    Calls Tryd.prog 18 #[.string (bs (Lib.itoa x)), .string (bs (Lib.itoa y))] w fun e w' => e = .returned (.tuple #[.string (bs (Lib.itoa (x / y))), .string (bs (Lib.itoa (x % y))), .int .i64 0]) ∧ Below w.heap.size w w' := by
  have hq : (x / y).natAbs < big := Nat.lt_of_le_of_lt (Int.natAbs_ediv_le_natAbs x y) hx
  have hr0 : 0 ≤ x % y := Int.emod_nonneg x hy0
  have hr1 : (x % y).natAbs < big := by
    have := Int.emod_lt x hy0
    omega
  have HV1 := Lib.hid (Valid_yes x hx)
  have HV2 := Lib.hid (Valid_yes y hy)
  have HN1 := Lib.hid (numberOf_any x hx)
  have HN2 := Lib.hid (numberOf_any y hy)
  have HK := Lib.hid (ndivide_any x y hy0)
  have HR := Lib.hid (fun (W : World) (a : Option Addr) (n c : Nat) (h : IsZ W a n c (zs (G (x / y).natAbs))) (hb : Below w.heap.size w W) => (show Calls Tryd.prog 34 #[numV (x / y) a n c] W (fun e w' => e = .returned (.tuple #[.string (bs (Lib.itoa (x / y))), .int .i64 0]) ∧ Below W.heap.size W w') from by
    have := valid_any (x / y) a n c W h (len_z h (Nat.lt_of_lt_of_le hq big_sq)) (ht.later hb)
    unfold txt err at this
    rw [if_pos hq, if_pos hq] at this
    exact this))
  have HD := Lib.hid (fun (W : World) (a : Option Addr) (n c : Nat) (h : IsZ W a n c (zs (G (x % y).natAbs))) (hb : Below w.heap.size w W) => (show Calls Tryd.prog 35 #[.slice a n c] W (fun e w' => e = .returned (.string (bs (Lib.itoa (x % y)))) ∧ Below W.heap.size W w') from by
    have := digits_any a n c (x % y).natAbs W h (len_z h (Nat.lt_of_lt_of_le hr1 big_sq)) (ht.later hb)
    rw [itoa_pos _ hr0]
    exact this))
  unfold numV at HN1 HN2 HK HR
  obtain ⟨bx, hbx⟩ : ∃ bx, decide (x < 0) = bx := ⟨_, rfl⟩
  obtain ⟨bz, hbz⟩ : ∃ bz, decide (y < 0) = bz := ⟨_, rfl⟩
  obtain ⟨bq, hbq⟩ : ∃ bq, decide (x / y < 0) = bq := ⟨_, rfl⟩
  obtain ⟨br, hbr⟩ : ∃ br, decide (x % y < 0) = br := ⟨_, rfl⟩
  simp only [hbx, hbz, hbq, hbr] at HN1 HN2 HR HK
  have hne : ((bs (Lib.itoa y)).toList == [48]) = false := by rw [bs_toList]; exact itoa_zero y hy0
  generalize bs (Lib.itoa x) = S at *
  generalize bs (Lib.itoa y) = T at *
  generalize bs (Lib.itoa (x / y)) = U at *
  generalize bs (Lib.itoa (x % y)) = V at *
  clear hx hy hy0 hq hr0 hr1 ht hbx hbz hbq hbr
  go_enter Tryd.func18, Tryd.ntmps18
  go_wp2_with (first
    | (go_at_call 19; (with_reducible refine (HV1.out _).mono ?_); rintro e w1 ⟨rfl, rfl⟩)
    | (go_at_call 19; (with_reducible refine (HV2.out _).mono ?_); rintro e w1 ⟨rfl, rfl⟩)
    | (go_at_call 31; (with_reducible refine (HN2.out _).mono ?_); rintro e w3 ⟨a2, n2, c2, rfl, z2, l2, B2⟩; have z12 := z1.later B2; have B12 := below_on B1 B2 B1.size)
    | (go_at_call 31; (with_reducible refine (HN1.out _).mono ?_); rintro e w2 ⟨a1, n1, c1, rfl, z1, l1, B1⟩)
    | (go_at_call 33; (with_reducible refine (HK.out _ _ _ _ _ _ _ z12 z2 (by omega) (by omega)).mono ?_); rintro e w4 ⟨qa, qn, qc, ra, rn, rc, rfl, z3, z4, B3⟩; have B23 := below_on B12 B3 B12.size; have hr7 : ((w4.alloc (.cells #[.bool false, .slice none 0 0] 51)).alloc (.cells #[.bool false, .slice none 0 0] 51)).heap[w4.heap.size]? = some (.cells #[.bool false, .slice none 0 0] 51 (0, 0)) := ((heap_alloc_old _ _ (by simp)).trans (heap_alloc_new _ _)); have hr8 : ((w4.alloc (.cells #[.bool false, .slice none 0 0] 51)).alloc (.cells #[.bool false, .slice none 0 0] 51)).heap[w4.heap.size + 1]? = some (.cells #[.bool false, .slice none 0 0] 51 (0, 0)) := (by have := heap_alloc_new (w4.alloc (.cells #[.bool false, .slice none 0 0] 51)) (.cells #[.bool false, .slice none 0 0] 51); simp only [World.size_alloc] at this; exact this); have hr9 := (Go.setRow_other _ w4.heap.size (w4.heap.size + 1) #[.bool bq, .slice qa qn qc] (by omega)).trans hr8; have hA := (Go.setRow_other _ (w4.heap.size + 1) w4.heap.size #[.bool br, .slice ra rn rc] (by omega)).trans (setRow_heap _ w4.heap.size _ #[.bool bq, .slice qa qn qc] _ _ hr7); have hBB := setRow_heap _ (w4.heap.size + 1) _ #[.bool br, .slice ra rn rc] _ _ hr9; have hB4 := below_row (below_row (((Below.refl _ w4).alloc (Nat.le_refl _) (.cells #[.bool false, .slice none 0 0] 51)).alloc (by simp) (.cells #[.bool false, .slice none 0 0] 51)) (Nat.le_refl _) #[.bool bq, .slice qa qn qc]) (show w4.heap.size ≤ w4.heap.size + 1 by omega) #[.bool br, .slice ra rn rc]; have z5 := z3.later hB4; have z6 := z4.later hB4; have B5 := below_on B23 hB4 B23.size)
    | (refine wpList_load_row rfl 51 _ rfl w4.heap.size rfl 51 _ _ _ hA Tryd.underlying51 rfl ?l1 ?_)
    | (go_at_call 34; (with_reducible refine (HR.out _ _ _ _ z5 B5).mono ?_); rintro e w5 ⟨rfl, B6⟩; have z7 := z6.later B6; have B56 := below_on B5 B6 B5.size; have hc8 : w5.cell? ⟨w4.heap.size + 1, 1, none⟩ = some (.slice ra rn rc) := (by rw [cell_of_row _ _ 1 _ _ _ ((B6.block _ (Array.getElem?_eq_some_iff.1 hBB).1).trans hBB)]; rfl))
    | (go_at_call 35; (with_reducible refine (HD.out _ _ _ _ z7 B56).mono ?_); rintro e w6 ⟨rfl, B7⟩)
    | (refine wpList_store_row rfl 51 _ _ rfl w4.heap.size _ rfl rfl 51 _ hr7 ?s1 ?s2 ?s3 ?_)
    | (refine wpList_store_row rfl 51 _ _ rfl (w4.heap.size + 1) _ rfl rfl 51 _ hr9 ?s4 ?s5 ?s6 ?_))
  case s1 => kernel_rfl
  case s2 => rfl
  case s3 => exact two_cells _ _ _ _
  case s4 => kernel_rfl
  case s5 => rfl
  case s6 => exact two_cells _ _ _ _
  case l1 => kernel_rfl
  exact bodyPost_ret (results_tmp3 rfl _ _ _) rfl ⟨rfl, below_on B56 B7 B56.size⟩

set_option maxRecDepth 100000 in
set_option maxHeartbeats 1000000 in
theorem Div_zero (x : Int) (hx : x.natAbs < big) (w : World) :
    Calls Tryd.prog 18 #[.string (bs (Lib.itoa x)), .string (bs (Lib.itoa 0))] w fun e w' => e = .returned (.tuple #[.string (bs []), .string (bs []), .int .i64 30]) ∧ Below w.heap.size w w' := by
  have HV1 := Lib.hid (Valid_yes x hx)
  have HV2 := Lib.hid (Valid_yes 0 (Nat.pow_pos (by omega)))
  have hne : ((bs (Lib.itoa 0)).toList == [48]) = true := by
    rw [bs_toList, show (0 : Int) = ((0 : Nat) : Int) from rfl, itoa_nat, dec_small (by omega)]; rfl
  generalize bs (Lib.itoa x) = S at *
  generalize bs (Lib.itoa 0) = T at *
  clear hx
  go_enter Tryd.func18, Tryd.ntmps18
  go_wp2_with (first
    | (go_at_call 19; (with_reducible refine (HV1.out _).mono ?_); rintro e w1 ⟨rfl, rfl⟩)
    | (go_at_call 19; (with_reducible refine (HV2.out _).mono ?_); rintro e w1 ⟨rfl, rfl⟩))
  exact bodyPost_ret (results_tmp3 rfl _ _ _) rfl ⟨rfl, Below.refl _ _⟩

set_option maxRecDepth 100000 in
set_option maxHeartbeats 1000000 in
theorem Root_any (x : Int) (hx : x.natAbs < big) (hx0 : 0 ≤ x) (w : World) (ht : TabP w) :
    Calls Tryd.prog 22 #[.string (bs (Lib.itoa x))] w fun e w' => e = .returned (.tuple #[.string (bs (Lib.itoa (rt x.natAbs : Nat))), .int .i64 0]) ∧ Below w.heap.size w w' := by
  have hrb : ((rt x.natAbs : Nat) : Int).natAbs < big := by rw [Int.natAbs_natCast]; exact Nat.lt_of_le_of_lt (rt_le _) hx
  have HV1 := Lib.hid (Valid_yes x hx)
  have HN1 := Lib.hid (numberOf_any x hx)
  have HK := Lib.hid (fun (a : Option Addr) (n c : Nat) => root_any a n c x.natAbs)
  have HR := Lib.hid (fun (W : World) (a : Option Addr) (n c : Nat) (h : IsZ W a n c (zs (G (rt x.natAbs)))) (hb : Below w.heap.size w W) => (show Calls Tryd.prog 34 #[.agg #[.bool false, .slice a n c]] W (fun e w' => e = .returned (.tuple #[.string (bs (Lib.itoa (rt x.natAbs : Nat))), .int .i64 0]) ∧ Below W.heap.size W w') from by
    have := valid_any ((rt x.natAbs : Nat) : Int) a n c W (by rw [Int.natAbs_natCast]; exact h) (len_z h (Nat.lt_of_lt_of_le (by rw [Int.natAbs_natCast] at hrb; exact hrb) big_sq)) (ht.later hb)
    unfold txt err numV at this
    rw [if_pos hrb, if_pos hrb, show decide (((rt x.natAbs : Nat) : Int) < 0) = false by simp] at this
    exact this))
  have h0 : 0 < (bs (Lib.itoa x)).size := by rw [bs_size, itoa_pos x hx0]; exact dec_pos _
  obtain ⟨k0, hk0⟩ : ∃ k0, ((bs (Lib.itoa x))[0]'h0).toNat = k0 := ⟨_, rfl⟩
  have h45 : k0 ≠ 45 := by
    rw [← hk0]
    intro h
    have h1 : (Lib.itoa x).getD 0 0 = 45 := by
      rw [List.getD_eq_getElem?_getD, List.getElem?_eq_getElem (by rw [bs_size] at h0; exact h0)]
      exact byte_ext h
    rw [itoa_pos x hx0] at h1
    cases hd : Lib.decDigits x.natAbs with
    | nil => exact dec_ne _ hd
    | cons c r =>
      rw [hd] at h1
      exact dec_no45 x.natAbs r (by rw [hd]; rw [List.getD_cons_zero] at h1; rw [h1])
  have hd3 : ((k0 : Int) == 45) = false := beq_false_of_ne (by omega)
  unfold numV at HN1
  obtain ⟨bx, hbx⟩ : ∃ bx, decide (x < 0) = bx := ⟨_, rfl⟩
  simp only [hbx] at HN1
  generalize bs (Lib.itoa x) = S at *
  generalize bs (Lib.itoa (rt x.natAbs : Nat)) = U at *
  clear hx hx0 hrb h45 ht hbx
  have hfd : ∀ (a : Option Addr) (n c : Nat) (W : World), (Instr.field 51 (.agg #[.bool bx, .slice a n c]) 1).run Tryd.prog W = .ok (.slice a n c) W := fun _ _ _ _ => by kernel_rfl
  go_enter Tryd.func22, Tryd.ntmps22
  go_wp2_with (first
    | (go_at_call 19; (with_reducible refine (HV1.out _).mono ?_); rintro e w1 ⟨rfl, rfl⟩)
    | (go_at_call 31; (with_reducible refine (HN1.out _).mono ?_); rintro e w2 ⟨a1, n1, c1, rfl, z1, l1, B1⟩)
    | (go_at_call 40; (with_reducible refine (HK.out _ _ _ _ z1 (by omega)).mono ?_); rintro e w4 ⟨qa, qn, qc, rfl, z3, B3⟩; have B23 := below_on B1 B3 B1.size)
    | (go_at_call 34; (with_reducible refine (HR.out _ _ _ _ z3 B23).mono ?_); rintro e w5 ⟨rfl, B4⟩))
  go_ret2
  exact ⟨rfl, below_on B23 B4 B23.size⟩

set_option maxRecDepth 100000 in
set_option maxHeartbeats 1000000 in
theorem Root_neg (x : Int) (hx : x.natAbs < big) (hx0 : x < 0) (w : World) :
    Calls Tryd.prog 22 #[.string (bs (Lib.itoa x))] w fun e w' => e = .returned (.tuple #[.string (bs []), .int .i64 30]) ∧ Below w.heap.size w w' := by
  have HV1 := Lib.hid (Valid_yes x hx)
  obtain ⟨n, hn, rfl⟩ : ∃ n : Nat, 0 < n ∧ x = -(n : Int) := ⟨x.natAbs, by omega, by omega⟩
  have h0 : 0 < (bs (Lib.itoa (-(n : Int)))).size := by rw [bs_size, itoa_neg _ hn]; simp
  have hk0 : ((bs (Lib.itoa (-(n : Int))))[0]'h0) = 45 := by
    have h1 : (Lib.itoa (-(n : Int))).getD 0 0 = 45 := by rw [itoa_neg _ hn]; rfl
    rw [List.getD_eq_getElem?_getD, List.getElem?_eq_getElem (by rw [bs_size] at h0; exact h0)] at h1
    exact h1
  generalize bs (Lib.itoa (-(n : Int))) = S at *
  clear hx hx0
  go_enter Tryd.func22, Tryd.ntmps22
  go_wp2_with (first
    | (go_at_call 19; (with_reducible refine (HV1.out _).mono ?_); rintro e w1 ⟨rfl, rfl⟩))
  go_ret2
  exact ⟨rfl, Below.refl _ _⟩

end Go.Proofs.YtieaelipgieaoaaDoor
