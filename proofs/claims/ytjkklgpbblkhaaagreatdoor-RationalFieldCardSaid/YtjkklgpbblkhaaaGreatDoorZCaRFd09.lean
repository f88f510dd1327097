/-
  Put together by program out of these texts, in this order: Ihj, Ihm, Qma, Qsa.
-/
import Derived.Test.YtjkklgpbblkhaaaGreatDoorZCaRFd08
import Derived.Test.YtjkklgpbblkhaaaGreatDoorZCaRFd06

/-
  Layer 3: quotients and roots.
-/
namespace Go.Proofs.YtjkklgpbblkhaaaGreatDoor
open Go.RowKit Bs Ig

theorem itoa_zero (y : Int) (hy : y ≠ 0) : (Lib.itoa y == [48]) = false := by
  refine beq_false_of_ne (fun h => hy (itoa_inj (y := 0) ?_))
  rw [h, show (0 : Int) = ((0 : Nat) : Int) from rfl, itoa_nat, dec_small (by omega)]; rfl
theorem itoa_pos (z : Int) (h : 0 ≤ z) : Lib.itoa z = Lib.decDigits z.natAbs := by
  obtain ⟨n, rfl⟩ : ∃ n : Nat, z = n := ⟨z.natAbs, by omega⟩
  rw [itoa_nat]; rfl
theorem results_tmp3 {fn : Func} {t u v : Tmp} (h : fn.results = #[.tmp t, .tmp u, .tmp v]) (tmps : Array Value) (P : Program) (w : World) :
    (results fn tmps).run P w = .ok (.tuple #[tmps.getD t undef, tmps.getD u undef, tmps.getD v undef]) w := by
  simp [results, h]
theorem big_sq : big ≤ big * big := Nat.le_mul_of_pos_right _ (Nat.pow_pos (by omega))

set_option maxRecDepth 100000 in
set_option maxHeartbeats 1000000 in
theorem Div_any (x y : Int) (hx : x.natAbs < big) (hy : y.natAbs < big) (hy0 : y ≠ 0) (w : World) (ht : TabP w) :
    Calls Tryz.prog 50 #[.string (bs (Lib.itoa x)), .string (bs (Lib.itoa y))] w fun e w' => e = .returned (.tuple #[.string (bs (Lib.itoa (x / y))), .string (bs (Lib.itoa (x % y))), .int .i64 0]) ∧ Below w.heap.size w w' := by
  have hq : (x / y).natAbs < big := Nat.lt_of_le_of_lt (Int.natAbs_ediv_le_natAbs x y) hx
  have hr0 : 0 ≤ x % y := Int.emod_nonneg x hy0
  have hr1 : (x % y).natAbs < big := by
    have := Int.emod_lt x hy0
    omega
  have HV1 := Lib.hid (Valid_yes x hx)
  have HV2 := Lib.hid (Valid_yes y hy)
  have HN1 := Lib.hid (numberOf_any x hx)
  have HN2 := Lib.hid (numberOf_any y hy)
  have HK := Lib.hid (ndivide_any x y hy0)
  have HR := Lib.hid (fun (W : World) (a : Option Addr) (n c : Nat) (h : IsZ W a n c (zs (G (x / y).natAbs))) (hb : Below w.heap.size w W) => (show Calls Tryz.prog 81 #[numV (x / y) a n c] W (fun e w' => e = .returned (.tuple #[.string (bs (Lib.itoa (x / y))), .int .i64 0]) ∧ Below W.heap.size W w') from by
    have := valid_any (x / y) a n c W h (len_z h (Nat.lt_of_lt_of_le hq big_sq)) (ht.later hb)
    unfold txt err at this
    rw [if_pos hq, if_pos hq] at this
    exact this))
  have HD := Lib.hid (fun (W : World) (a : Option Addr) (n c : Nat) (h : IsZ W a n c (zs (G (x % y).natAbs))) (hb : Below w.heap.size w W) => (show Calls Tryz.prog 82 #[.slice a n c] W (fun e w' => e = .returned (.string (bs (Lib.itoa (x % y)))) ∧ Below W.heap.size W w') from by
    have := digits_any a n c (x % y).natAbs W h (len_z h (Nat.lt_of_lt_of_le hr1 big_sq)) (ht.later hb)
    rw [itoa_pos _ hr0]
    exact this))
  unfold numV at HN1 HN2 HK HR
  obtain ⟨bx, hbx⟩ : ∃ bx, decide (x < 0) = bx := ⟨_, rfl⟩
  obtain ⟨bz, hbz⟩ : ∃ bz, decide (y < 0) = bz := ⟨_, rfl⟩
  obtain ⟨bq, hbq⟩ : ∃ bq, decide (x / y < 0) = bq := ⟨_, rfl⟩
  obtain ⟨br, hbr⟩ : ∃ br, decide (x % y < 0) = br := ⟨_, rfl⟩
  simp only [hbx, hbz, hbq, hbr] at HN1 HN2 HR HK
  have hne : ((bs (Lib.itoa y)).toList == [48]) = false := by rw [bs_toList]; exact itoa_zero y hy0
  generalize bs (Lib.itoa x) = S at *
  generalize bs (Lib.itoa y) = T at *
  generalize bs (Lib.itoa (x / y)) = U at *
  generalize bs (Lib.itoa (x % y)) = V at *
  clear hx hy hy0 hq hr0 hr1 ht hbx hbz hbq hbr
  go_enter Tryz.func50, Tryz.ntmps50
  go_wp2_with (first
    | (go_at_call 78; (with_reducible refine (HV1.out _).mono ?_); rintro e w1 ⟨rfl, rfl⟩)
    | (go_at_call 78; (with_reducible refine (HV2.out _).mono ?_); rintro e w1 ⟨rfl, rfl⟩)
    | (go_at_call 79; (with_reducible refine (HN2.out _).mono ?_); rintro e w3 ⟨a2, n2, c2, rfl, z2, l2, B2⟩; have z12 := z1.later B2; have B12 := below_on B1 B2 B1.size)
    | (go_at_call 79; (with_reducible refine (HN1.out _).mono ?_); rintro e w2 ⟨a1, n1, c1, rfl, z1, l1, B1⟩)
    | (go_at_call 80; (with_reducible refine (HK.out _ _ _ _ _ _ _ z12 z2 (by omega) (by omega)).mono ?_); rintro e w4 ⟨qa, qn, qc, ra, rn, rc, rfl, z3, z4, B3⟩; have B23 := below_on B12 B3 B12.size; have hr7 : ((w4.alloc (.cells #[.bool false, .slice none 0 0] 91)).alloc (.cells #[.bool false, .slice none 0 0] 91)).heap[w4.heap.size]? = some (.cells #[.bool false, .slice none 0 0] 91 (0, 0)) := ((heap_alloc_old _ _ (by simp)).trans (heap_alloc_new _ _)); have hr8 : ((w4.alloc (.cells #[.bool false, .slice none 0 0] 91)).alloc (.cells #[.bool false, .slice none 0 0] 91)).heap[w4.heap.size + 1]? = some (.cells #[.bool false, .slice none 0 0] 91 (0, 0)) := (by have := heap_alloc_new (w4.alloc (.cells #[.bool false, .slice none 0 0] 91)) (.cells #[.bool false, .slice none 0 0] 91); simp only [World.size_alloc] at this; exact this); have hr9 := (Go.setRow_other _ w4.heap.size (w4.heap.size + 1) #[.bool bq, .slice qa qn qc] (by omega)).trans hr8; have hA := (Go.setRow_other _ (w4.heap.size + 1) w4.heap.size #[.bool br, .slice ra rn rc] (by omega)).trans (setRow_heap _ w4.heap.size _ #[.bool bq, .slice qa qn qc] _ _ hr7); have hBB := setRow_heap _ (w4.heap.size + 1) _ #[.bool br, .slice ra rn rc] _ _ hr9; have hB4 := below_row (below_row (((Below.refl _ w4).alloc (Nat.le_refl _) (.cells #[.bool false, .slice none 0 0] 91)).alloc (by simp) (.cells #[.bool false, .slice none 0 0] 91)) (Nat.le_refl _) #[.bool bq, .slice qa qn qc]) (show w4.heap.size ≤ w4.heap.size + 1 by omega) #[.bool br, .slice ra rn rc]; have z5 := z3.later hB4; have z6 := z4.later hB4; have B5 := below_on B23 hB4 B23.size)
    | (refine wpList_load_row rfl 91 _ rfl w4.heap.size rfl 91 _ _ _ hA Tryz.underlying91 rfl ?l1 ?_)
    | (go_at_call 81; (with_reducible refine (HR.out _ _ _ _ z5 B5).mono ?_); rintro e w5 ⟨rfl, B6⟩; have z7 := z6.later B6; have B56 := below_on B5 B6 B5.size; have hc8 : w5.cell? ⟨w4.heap.size + 1, 1, none⟩ = some (.slice ra rn rc) := (by rw [cell_of_row _ _ 1 _ _ _ ((B6.block _ (Array.getElem?_eq_some_iff.1 hBB).1).trans hBB)]; rfl))
    | (go_at_call 82; (with_reducible refine (HD.out _ _ _ _ z7 B56).mono ?_); rintro e w6 ⟨rfl, B7⟩)
    | (refine wpList_store_row rfl 91 _ _ rfl w4.heap.size _ rfl rfl 91 _ hr7 ?s1 ?s2 ?s3 ?_)
    | (refine wpList_store_row rfl 91 _ _ rfl (w4.heap.size + 1) _ rfl rfl 91 _ hr9 ?s4 ?s5 ?s6 ?_))
  case s1 => kernel_rfl
  case s2 => rfl
  case s3 => exact two_cells _ _ _ _
  case s4 => kernel_rfl
  case s5 => rfl
  case s6 => exact two_cells _ _ _ _
  case l1 => kernel_rfl
  exact bodyPost_ret (results_tmp3 rfl _ _ _) rfl ⟨rfl, below_on B56 B7 B56.size⟩

set_option maxRecDepth 100000 in
set_option maxHeartbeats 1000000 in
theorem Div_zero (x : Int) (hx : x.natAbs < big) (w : World) :
    Calls Tryz.prog 50 #[.string (bs (Lib.itoa x)), .string (bs (Lib.itoa 0))] w fun e w' => e = .returned (.tuple #[.string (bs []), .string (bs []), .int .i64 30]) ∧ Below w.heap.size w w' := by
  have HV1 := Lib.hid (Valid_yes x hx)
  have HV2 := Lib.hid (Valid_yes 0 (Nat.pow_pos (by omega)))
  have hne : ((bs (Lib.itoa 0)).toList == [48]) = true := by
    rw [bs_toList, show (0 : Int) = ((0 : Nat) : Int) from rfl, itoa_nat, dec_small (by omega)]; rfl
  generalize bs (Lib.itoa x) = S at *
  generalize bs (Lib.itoa 0) = T at *
  clear hx
  go_enter Tryz.func50, Tryz.ntmps50
  go_wp2_with (first
    | (go_at_call 78; (with_reducible refine (HV1.out _).mono ?_); rintro e w1 ⟨rfl, rfl⟩)
    | (go_at_call 78; (with_reducible refine (HV2.out _).mono ?_); rintro e w1 ⟨rfl, rfl⟩))
  exact bodyPost_ret (results_tmp3 rfl _ _ _) rfl ⟨rfl, Below.refl _ _⟩

end Go.Proofs.YtjkklgpbblkhaaaGreatDoor

/-
  Layer 3: the exported functions at strings that are no integers.
-/
namespace Go.Proofs.YtjkklgpbblkhaaaGreatDoor
open Go.RowKit Bs Ig

set_option maxRecDepth 100000 in
set_option maxHeartbeats 1000000 in
theorem calculate_no2 (x : Int) (hx : x.natAbs < big) (l : List UInt8) (hl : ¬ IsI l) (v : Value) (w : World) :
    Calls Tryz.prog 93 #[.string (bs (Lib.itoa x)), .string (bs l), v] w fun e w' => e = .returned (.tuple #[.string (bs []), .int .i64 30]) ∧ Below w.heap.size w w' := by
  have HV1 := Lib.hid (Valid_yes x hx)
  have HV2 := Lib.hid (Valid_no l hl)
  generalize bs (Lib.itoa x) = S at *
  generalize bs l = T at *
  clear hl hx
  go_enter Tryz.func93, Tryz.ntmps93
  go_wp2_with (first
    | (go_at_call 78; (with_reducible refine (HV1.out _).mono ?_); rintro e w1 ⟨rfl, rfl⟩)
    | (go_at_call 78; (with_reducible refine (HV2.out _).mono ?_); rintro e w1 ⟨rfl, rfl⟩))
  go_ret2
  exact ⟨rfl, Below.refl _ _⟩

set_option maxRecDepth 100000 in
set_option maxHeartbeats 1000000 in
theorem Add_no2 (x : Int) (hx : x.natAbs < big) (l : List UInt8) (hl : ¬ IsI l) (w : World) :
    Calls Tryz.prog 67 #[.string (bs (Lib.itoa x)), .string (bs l)] w fun e w' => e = .returned (.tuple #[.string (bs []), .int .i64 30]) ∧ Below w.heap.size w w' := by
  have HC := Lib.hid (fun (W : World) v => calculate_no2 x hx l hl v W)
  generalize bs (Lib.itoa x) = S at *
  generalize bs l = T at *
  generalize bs [] = U at *
  clear hl hx
  go_enter Tryz.func67, Tryz.ntmps67
  go_wp2_with (go_at_call 93; (with_reducible refine (HC.out _ _).mono ?_); rintro e w1 ⟨rfl, B1⟩)
  go_ret2
  exact ⟨rfl, B1⟩

set_option maxRecDepth 100000 in
set_option maxHeartbeats 1000000 in
theorem Sub_no2 (x : Int) (hx : x.natAbs < big) (l : List UInt8) (hl : ¬ IsI l) (w : World) :
    Calls Tryz.prog 72 #[.string (bs (Lib.itoa x)), .string (bs l)] w fun e w' => e = .returned (.tuple #[.string (bs []), .int .i64 30]) ∧ Below w.heap.size w w' := by
  have HC := Lib.hid (fun (W : World) v => calculate_no2 x hx l hl v W)
  generalize bs (Lib.itoa x) = S at *
  generalize bs l = T at *
  generalize bs [] = U at *
  clear hl hx
  go_enter Tryz.func72, Tryz.ntmps72
  go_wp2_with (go_at_call 93; (with_reducible refine (HC.out _ _).mono ?_); rintro e w1 ⟨rfl, B1⟩)
  go_ret2
  exact ⟨rfl, B1⟩

set_option maxRecDepth 100000 in
set_option maxHeartbeats 1000000 in
theorem Mul_no2 (x : Int) (hx : x.natAbs < big) (l : List UInt8) (hl : ¬ IsI l) (w : World) :
    Calls Tryz.prog 70 #[.string (bs (Lib.itoa x)), .string (bs l)] w fun e w' => e = .returned (.tuple #[.string (bs []), .int .i64 30]) ∧ Below w.heap.size w w' := by
  have HC := Lib.hid (fun (W : World) v => calculate_no2 x hx l hl v W)
  generalize bs (Lib.itoa x) = S at *
  generalize bs l = T at *
  generalize bs [] = U at *
  clear hl hx
  go_enter Tryz.func70, Tryz.ntmps70
  go_wp2_with (go_at_call 93; (with_reducible refine (HC.out _ _).mono ?_); rintro e w1 ⟨rfl, B1⟩)
  go_ret2
  exact ⟨rfl, B1⟩

set_option maxRecDepth 100000 in
set_option maxHeartbeats 1000000 in
theorem Gcd_no2 (x : Int) (hx : x.natAbs < big) (l : List UInt8) (hl : ¬ IsI l) (w : World) :
    Calls Tryz.prog 63 #[.string (bs (Lib.itoa x)), .string (bs l)] w fun e w' => e = .returned (.tuple #[.string (bs []), .int .i64 30]) ∧ Below w.heap.size w w' := by
  have HC := Lib.hid (fun (W : World) v => calculate_no2 x hx l hl v W)
  generalize bs (Lib.itoa x) = S at *
  generalize bs l = T at *
  generalize bs [] = U at *
  clear hl hx
  go_enter Tryz.func63, Tryz.ntmps63
  go_wp2_with (go_at_call 93; (with_reducible refine (HC.out _ _).mono ?_); rintro e w1 ⟨rfl, B1⟩)
  go_ret2
  exact ⟨rfl, B1⟩

set_option maxRecDepth 100000 in
set_option maxHeartbeats 1000000 in
theorem Div_no (l : List UInt8) (hl : ¬ IsI l) (T : ByteArray) (w : World) :
    Calls Tryz.prog 50 #[.string (bs l), .string T] w fun e w' => e = .returned (.tuple #[.string ⟨#[]⟩, .string ⟨#[]⟩, .int .i64 30]) ∧ Below w.heap.size w w' := by
  have HV1 := Lib.hid (Valid_no l hl)
  generalize bs l = S at *
  clear hl
  go_enter Tryz.func50, Tryz.ntmps50
  go_wp2_with (first
    | (go_at_call 78; (with_reducible refine (HV1.out _).mono ?_); rintro e w1 ⟨rfl, rfl⟩))
  exact bodyPost_ret (results_tmp3 rfl _ _ _) rfl ⟨rfl, Below.refl _ _⟩
set_option maxRecDepth 100000 in
set_option maxHeartbeats 1000000 in
theorem Div_no2 (x : Int) (hx : x.natAbs < big) (l : List UInt8) (hl : ¬ IsI l) (w : World) :
    Calls Tryz.prog 50 #[.string (bs (Lib.itoa x)), .string (bs l)] w fun e w' => e = .returned (.tuple #[.string ⟨#[]⟩, .string ⟨#[]⟩, .int .i64 30]) ∧ Below w.heap.size w w' := by
  have HV1 := Lib.hid (Valid_yes x hx)
  have HV2 := Lib.hid (Valid_no l hl)
  generalize bs (Lib.itoa x) = S at *
  generalize bs l = T at *
  clear hl hx
  go_enter Tryz.func50, Tryz.ntmps50
  go_wp2_with (first
    | (go_at_call 78; (with_reducible refine (HV1.out _).mono ?_); rintro e w1 ⟨rfl, rfl⟩)
    | (go_at_call 78; (with_reducible refine (HV2.out _).mono ?_); rintro e w1 ⟨rfl, rfl⟩))
  exact bodyPost_ret (results_tmp3 rfl _ _ _) rfl ⟨rfl, Below.refl _ _⟩

set_option maxRecDepth 100000 in
set_option maxHeartbeats 1000000 in
theorem Compare_no (l : List UInt8) (hl : ¬ IsI l) (T : ByteArray) (w : World) :
    Calls Tryz.prog 51 #[.string (bs l), .string T] w fun e w' => e = .returned (.int .i64 0) ∧ Below w.heap.size w w' := by
  have HV1 := Lib.hid (Valid_no l hl)
  generalize bs l = S at *
  clear hl
  go_enter Tryz.func51, Tryz.ntmps51
  go_wp2_with (first
    | (go_at_call 78; (with_reducible refine (HV1.out _).mono ?_); rintro e w1 ⟨rfl, rfl⟩))
  go_ret
  exact ⟨rfl, Below.refl _ _⟩
set_option maxRecDepth 100000 in
set_option maxHeartbeats 1000000 in
theorem Compare_no2 (x : Int) (hx : x.natAbs < big) (l : List UInt8) (hl : ¬ IsI l) (w : World) :
    Calls Tryz.prog 51 #[.string (bs (Lib.itoa x)), .string (bs l)] w fun e w' => e = .returned (.int .i64 0) ∧ Below w.heap.size w w' := by
  have HV1 := Lib.hid (Valid_yes x hx)
  have HV2 := Lib.hid (Valid_no l hl)
  generalize bs (Lib.itoa x) = S at *
  generalize bs l = T at *
  clear hl hx
  go_enter Tryz.func51, Tryz.ntmps51
  go_wp2_with (first
    | (go_at_call 78; (with_reducible refine (HV1.out _).mono ?_); rintro e w1 ⟨rfl, rfl⟩)
    | (go_at_call 78; (with_reducible refine (HV2.out _).mono ?_); rintro e w1 ⟨rfl, rfl⟩))
  go_ret
  exact ⟨rfl, Below.refl _ _⟩

end Go.Proofs.YtjkklgpbblkhaaaGreatDoor

/-
  Layer 4, mathematics: fractions in lowest terms, their values, their order, rounding. Nothing of the program stands here.
-/
namespace Go.Proofs.YtjkklgpbblkhaaaGreatDoor.Qq
open Go
/-- a fraction in lowest terms -/
structure IsF (p : Int × Int) : Prop where
  pos : 0 < p.2
  low : Int.gcd p.1 p.2 = 1
/-- p has the value n / d -/
def Val (p : Int × Int) (n d : Int) : Prop := d ≠ 0 ∧ p.1 * d = n * p.2
/-- n / d in lowest terms -/
def red (n d : Int) : Int × Int := if d < 0 then (-n / (Int.gcd n d : Int), -d / (Int.gcd n d : Int)) else (n / (Int.gcd n d : Int), d / (Int.gcd n d : Int))

theorem gcd_pos {n d : Int} (h : d ≠ 0) : 0 < Int.gcd n d := Int.gcd_pos_of_ne_zero_right n h
theorem dvd_of_gcd {b a d : Int} (h : Int.gcd b a = 1) (hd : b ∣ a * d) : b ∣ d := by
  have h2 := Int.natAbs_dvd_natAbs.2 hd
  rw [Int.natAbs_mul] at h2
  exact Int.natAbs_dvd_natAbs.1 (Nat.Coprime.dvd_of_dvd_mul_left h h2)
theorem isF_ext {p q : Int × Int} (hp : IsF p) (hq : IsF q) (h : p.1 * q.2 = q.1 * p.2) : p = q := by
  obtain ⟨a, b⟩ := p
  obtain ⟨c, d⟩ := q
  have h1 := hp.pos; have h2 := hq.pos; have h3 := hp.low; have h4 := hq.low
  simp only at *
  have hb : b ∣ d := by
    have : b ∣ a * d := ⟨c, by rw [h, Int.mul_comm]⟩
    exact dvd_of_gcd (by rw [Int.gcd_comm]; exact h3) this
  have hd : d ∣ b := by
    have : d ∣ c * b := ⟨a, by rw [← h, Int.mul_comm]⟩
    exact dvd_of_gcd (by rw [Int.gcd_comm]; exact h4) this
  have e : b = d := Int.dvd_antisymm (by omega) (by omega) hb hd
  subst e
  have : a = c := Int.eq_of_mul_eq_mul_right (by omega) h
  rw [this]
theorem red_isF {n d : Int} (h : d ≠ 0) : IsF (red n d) := by
  have hg := gcd_pos (n := n) h
  have h1 : (Int.gcd n d : Int) ∣ n := Int.gcd_dvd_left ..
  have h2 : (Int.gcd n d : Int) ∣ d := Int.gcd_dvd_right ..
  obtain ⟨x, hx⟩ := h1
  obtain ⟨y, hy⟩ := h2
  have h3 : Int.gcd x y = 1 := by
    have := Int.gcd_mul_left (Int.gcd n d) x y
    rw [← hx, ← hy] at this
    have e : (Int.gcd n d : Int).natAbs = Int.gcd n d := Int.natAbs_natCast _
    rw [e] at this
    exact Nat.eq_of_mul_eq_mul_left hg (by rw [Nat.mul_one]; exact this.symm)
  generalize hG : Int.gcd n d = g at *
  have hg' : (0 : Int) < g := by omega
  unfold red
  rw [hG]
  have q1 : n / (g : Int) = x := by rw [hx]; exact Int.mul_ediv_cancel_left _ (by omega)
  have q2 : d / (g : Int) = y := by rw [hy]; exact Int.mul_ediv_cancel_left _ (by omega)
  have q3 : -n / (g : Int) = -x := by rw [hx, ← Int.mul_neg]; exact Int.mul_ediv_cancel_left _ (by omega)
  have q4 : -d / (g : Int) = -y := by rw [hy, ← Int.mul_neg]; exact Int.mul_ediv_cancel_left _ (by omega)
  rw [q1, q2, q3, q4]
  split
  · refine ⟨?_, by simpa using h3⟩
    show 0 < -y
    rcases Int.lt_or_le y 0 with h' | h'
    · omega
    · have := Int.mul_nonneg (Int.le_of_lt hg') h'; omega
  · refine ⟨?_, h3⟩
    show 0 < y
    rcases Int.lt_or_le 0 y with h' | h'
    · omega
    · have := Int.mul_nonneg (Int.le_of_lt hg') (show 0 ≤ -y by omega); rw [Int.mul_neg] at this; omega
theorem red_val {n d : Int} (h : d ≠ 0) : Val (red n d) n d := by
  have hg := gcd_pos (n := n) h
  obtain ⟨x, hx⟩ : (Int.gcd n d : Int) ∣ n := Int.gcd_dvd_left ..
  obtain ⟨y, hy⟩ : (Int.gcd n d : Int) ∣ d := Int.gcd_dvd_right ..
  generalize hG : Int.gcd n d = g at *
  refine ⟨h, ?_⟩
  unfold red
  rw [hG]
  have q1 : n / (g : Int) = x := by rw [hx]; exact Int.mul_ediv_cancel_left _ (by omega)
  have q2 : d / (g : Int) = y := by rw [hy]; exact Int.mul_ediv_cancel_left _ (by omega)
  have q3 : -n / (g : Int) = -x := by rw [hx, ← Int.mul_neg]; exact Int.mul_ediv_cancel_left _ (by omega)
  have q4 : -d / (g : Int) = -y := by rw [hy, ← Int.mul_neg]; exact Int.mul_ediv_cancel_left _ (by omega)
  rw [q1, q2, q3, q4]
  split <;> simp only [] <;> rw [hx, hy] <;> grind
theorem red_le {n d : Int} : (red n d).1.natAbs ≤ n.natAbs ∧ (red n d).2.natAbs ≤ d.natAbs := by
  unfold red
  split
  · exact ⟨by simpa using Int.natAbs_ediv_le_natAbs (-n) _, by simpa using Int.natAbs_ediv_le_natAbs (-d) _⟩
  · exact ⟨Int.natAbs_ediv_le_natAbs n _, Int.natAbs_ediv_le_natAbs d _⟩
theorem Val.self {p : Int × Int} (h : IsF p) : Val p p.1 p.2 := ⟨by have := h.pos; omega, rfl⟩
/-- two fractions of one value are the same -/
theorem Val.uniq {p q : Int × Int} {n d m e : Int} (hp : IsF p) (hq : IsF q) (h1 : Val p n d) (h2 : Val q m e) (h : n * e = m * d) : p = q := by
  obtain ⟨hd, h1⟩ := h1
  obtain ⟨he, h2⟩ := h2
  refine isF_ext hp hq ?_
  have : (p.1 * q.2) * (d * e) = (q.1 * p.2) * (d * e) := by
    rw [show (p.1 * q.2) * (d * e) = (p.1 * d) * (q.2 * e) by grind, h1, show (q.1 * p.2) * (d * e) = (q.1 * e) * (p.2 * d) by grind, h2]
    grind
  exact Int.eq_of_mul_eq_mul_right (Int.mul_ne_zero hd he) this
theorem red_eq {n d : Int} {p : Int × Int} (h : d ≠ 0) (hp : IsF p) (e : p.1 * d = n * p.2) : red n d = p :=
  Val.uniq (red_isF h) hp (red_val h) ⟨h, e⟩ rfl
theorem red_self {p : Int × Int} (hp : IsF p) : red p.1 p.2 = p := red_eq (by have := hp.pos; omega) hp rfl
theorem red_congr {n d m e : Int} (h : d ≠ 0) (k : e ≠ 0) (hh : n * e = m * d) : red n d = red m e := Val.uniq (red_isF h) (red_isF k) (red_val h) (red_val k) hh

/-! the operations, as values -/
theorem Val.add {p q : Int × Int} {n d m e : Int} (hp : IsF p) (hq : IsF q) (h1 : Val p n d) (h2 : Val q m e) : Val (red (p.1 * q.2 + q.1 * p.2) (p.2 * q.2)) (n * e + m * d) (d * e) := by
  have a1 := hp.pos; have a2 := hq.pos
  have h0 : p.2 * q.2 ≠ 0 := Int.mul_ne_zero (by omega) (by omega)
  obtain ⟨_, h3⟩ := red_val (n := p.1 * q.2 + q.1 * p.2) h0
  obtain ⟨hd, h1⟩ := h1
  obtain ⟨he, h2⟩ := h2
  refine ⟨Int.mul_ne_zero hd he, Int.eq_of_mul_eq_mul_right h0 ?_⟩
  generalize red (p.1 * q.2 + q.1 * p.2) (p.2 * q.2) = r at *
  grind
theorem Val.sub {p q : Int × Int} {n d m e : Int} (hp : IsF p) (hq : IsF q) (h1 : Val p n d) (h2 : Val q m e) : Val (red (p.1 * q.2 - q.1 * p.2) (p.2 * q.2)) (n * e - m * d) (d * e) := by
  have a1 := hp.pos; have a2 := hq.pos
  have h0 : p.2 * q.2 ≠ 0 := Int.mul_ne_zero (by omega) (by omega)
  obtain ⟨_, h3⟩ := red_val (n := p.1 * q.2 - q.1 * p.2) h0
  obtain ⟨hd, h1⟩ := h1
  obtain ⟨he, h2⟩ := h2
  refine ⟨Int.mul_ne_zero hd he, Int.eq_of_mul_eq_mul_right h0 ?_⟩
  generalize red (p.1 * q.2 - q.1 * p.2) (p.2 * q.2) = r at *
  grind
theorem Val.mul {p q : Int × Int} {n d m e : Int} (hp : IsF p) (hq : IsF q) (h1 : Val p n d) (h2 : Val q m e) : Val (red (p.1 * q.1) (p.2 * q.2)) (n * m) (d * e) := by
  have a1 := hp.pos; have a2 := hq.pos
  have h0 : p.2 * q.2 ≠ 0 := Int.mul_ne_zero (by omega) (by omega)
  obtain ⟨_, h3⟩ := red_val (n := p.1 * q.1) h0
  obtain ⟨hd, h1⟩ := h1
  obtain ⟨he, h2⟩ := h2
  refine ⟨Int.mul_ne_zero hd he, Int.eq_of_mul_eq_mul_right h0 ?_⟩
  generalize red (p.1 * q.1) (p.2 * q.2) = r at *
  grind
theorem Val.num0 {p : Int × Int} {n d : Int} (hp : IsF p) (h1 : Val p n d) : p.1 = 0 ↔ n = 0 := by
  obtain ⟨hd, h1⟩ := h1
  have := hp.pos
  constructor
  · intro h; rw [h, Int.zero_mul] at h1
    rcases Int.mul_eq_zero.1 h1.symm with h | h <;> omega
  · intro h; rw [h, Int.zero_mul] at h1
    rcases Int.mul_eq_zero.1 h1 with h | h <;> omega
theorem Val.div {p q : Int × Int} {n d m e : Int} (hp : IsF p) (hq : IsF q) (h1 : Val p n d) (h2 : Val q m e) (hm : m ≠ 0) : Val (red (p.1 * q.2) (p.2 * q.1)) (n * e) (d * m) := by
  have a1 := hp.pos; have a2 := hq.pos
  have hq0 : q.1 ≠ 0 := fun h => hm ((h2.num0 hq).1 h)
  have h0 : p.2 * q.1 ≠ 0 := Int.mul_ne_zero (by omega) hq0
  obtain ⟨_, h3⟩ := red_val (n := p.1 * q.2) h0
  obtain ⟨hd, h1⟩ := h1
  obtain ⟨he, h2⟩ := h2
  refine ⟨Int.mul_ne_zero hd hm, Int.eq_of_mul_eq_mul_right h0 ?_⟩
  generalize red (p.1 * q.2) (p.2 * q.1) = r at *
  grind

/-! the order -/
def cmpF (p q : Int × Int) : Int := Int.sign (p.1 * q.2 - q.1 * p.2)
theorem sign_of_pos {z k : Int} (h : 0 < k) : Int.sign (z * k) = Int.sign z := by rw [Int.sign_mul, Int.sign_eq_one_of_pos h, Int.mul_one]
theorem cmp_val {p q : Int × Int} {n d m e : Int} (hp : IsF p) (hq : IsF q) (h1 : Val p n d) (h2 : Val q m e) (hd : 0 < d) (he : 0 < e) : cmpF p q = Int.sign (n * e - m * d) := by
  unfold cmpF
  rw [← sign_of_pos (z := p.1 * q.2 - q.1 * p.2) (Int.mul_pos hd he), ← sign_of_pos (z := n * e - m * d) (Int.mul_pos hp.pos hq.pos)]
  congr 1
  have := h1.2
  have := h2.2
  grind
theorem cmp_bounds (p q : Int × Int) : -1 ≤ cmpF p q ∧ cmpF p q ≤ 1 := by
  unfold cmpF
  rcases Int.lt_trichotomy (p.1 * q.2 - q.1 * p.2) 0 with h | h | h
  · rw [Int.sign_eq_neg_one_of_neg h]; decide
  · rw [h]; decide
  · rw [Int.sign_eq_one_of_pos h]; decide
theorem cmp_swap (p q : Int × Int) : cmpF q p = -cmpF p q := by
  unfold cmpF; rw [← Int.sign_neg]; congr 1; omega
theorem cmp_self (p : Int × Int) : cmpF p p = 0 := by unfold cmpF; rw [Int.sub_self]; rfl
theorem cmp_zero {p q : Int × Int} (hp : IsF p) (hq : IsF q) : cmpF p q = 0 ↔ p = q := by
  constructor
  · intro h; exact isF_ext hp hq (by have := Int.sign_eq_zero_iff_zero.1 h; omega)
  · rintro rfl; exact cmp_self _
theorem sign_le {z : Int} : Int.sign z ≤ 0 ↔ z ≤ 0 := by
  rcases Int.lt_trichotomy z 0 with h | h | h
  · rw [Int.sign_eq_neg_one_of_neg h]; omega
  · rw [h]; decide
  · rw [Int.sign_eq_one_of_pos h]; omega
theorem sign_lt {z : Int} : Int.sign z < 0 ↔ z < 0 := by
  rcases Int.lt_trichotomy z 0 with h | h | h
  · rw [Int.sign_eq_neg_one_of_neg h]; omega
  · rw [h]; decide
  · rw [Int.sign_eq_one_of_pos h]; omega
theorem cmp_trans {p q r : Int × Int} (hp : IsF p) (hq : IsF q) (hr : IsF r) (h1 : cmpF p q ≤ 0) (h2 : cmpF q r ≤ 0) : cmpF p r ≤ 0 := by
  unfold cmpF at *
  rw [sign_le] at *
  have a := hp.pos; have b := hq.pos; have c := hr.pos
  have e1 := Int.mul_le_mul_of_nonneg_right (show p.1 * q.2 ≤ q.1 * p.2 by omega) (Int.le_of_lt c)
  have e2 := Int.mul_le_mul_of_nonneg_right (show q.1 * r.2 ≤ r.1 * q.2 by omega) (Int.le_of_lt a)
  have e3 : (p.1 * r.2) * q.2 ≤ (r.1 * p.2) * q.2 := by
    rw [show p.1 * r.2 * q.2 = p.1 * q.2 * r.2 by grind, show r.1 * p.2 * q.2 = r.1 * q.2 * p.2 by grind]
    refine Int.le_trans e1 ?_
    rw [show q.1 * p.2 * r.2 = q.1 * r.2 * p.2 by grind]
    exact e2
  have := Int.le_of_mul_le_mul_right e3 b
  omega
theorem cmp_trans_lt {p q r : Int × Int} (hp : IsF p) (hq : IsF q) (hr : IsF r) (h1 : cmpF p q ≤ 0) (h2 : cmpF q r < 0) : cmpF p r < 0 := by
  have h3 := cmp_trans hp hq hr h1 (by omega)
  rcases Int.lt_or_le (cmpF p r) 0 with h | h
  · exact h
  · have h0 : cmpF p r = 0 := by omega
    rw [cmp_zero hp hr] at h0
    subst h0
    have := cmp_swap p q
    omega
theorem zero_isF : IsF (0, 1) := ⟨by decide, by decide⟩
theorem cmp_sub {p q : Int × Int} (hp : IsF p) (hq : IsF q) : cmpF (red (p.1 * q.2 - q.1 * p.2) (p.2 * q.2)) (0, 1) = cmpF p q := by
  have h0 : p.2 * q.2 ≠ 0 := Int.mul_ne_zero (by have := hp.pos; omega) (by have := hq.pos; omega)
  rw [cmp_val (red_isF h0) zero_isF (red_val h0) (Val.self zero_isF) (Int.mul_pos hp.pos hq.pos) (by decide)]
  unfold cmpF
  congr 1
  grind
theorem cmp_add {p q t : Int × Int} (hp : IsF p) (hq : IsF q) (ht : IsF t) : cmpF (red (p.1 * t.2 + t.1 * p.2) (p.2 * t.2)) (red (q.1 * t.2 + t.1 * q.2) (q.2 * t.2)) = cmpF p q := by
  have h0 : p.2 * t.2 ≠ 0 := Int.mul_ne_zero (by have := hp.pos; omega) (by have := ht.pos; omega)
  have h1 : q.2 * t.2 ≠ 0 := Int.mul_ne_zero (by have := hq.pos; omega) (by have := ht.pos; omega)
  rw [cmp_val (red_isF h0) (red_isF h1) (red_val h0) (red_val h1) (Int.mul_pos hp.pos ht.pos) (Int.mul_pos hq.pos ht.pos)]
  unfold cmpF
  rw [← sign_of_pos (z := p.1 * q.2 - q.1 * p.2) (Int.mul_pos ht.pos ht.pos)]
  congr 1
  grind
theorem cmp_mul {p q t : Int × Int} (hp : IsF p) (hq : IsF q) (ht : IsF t) : cmpF (red (p.1 * t.1) (p.2 * t.2)) (red (q.1 * t.1) (q.2 * t.2)) = cmpF p q * cmpF t (0, 1) := by
  have h0 : p.2 * t.2 ≠ 0 := Int.mul_ne_zero (by have := hp.pos; omega) (by have := ht.pos; omega)
  have h1 : q.2 * t.2 ≠ 0 := Int.mul_ne_zero (by have := hq.pos; omega) (by have := ht.pos; omega)
  rw [cmp_val (red_isF h0) (red_isF h1) (red_val h0) (red_val h1) (Int.mul_pos hp.pos ht.pos) (Int.mul_pos hq.pos ht.pos)]
  unfold cmpF
  rw [← Int.sign_mul, ← sign_of_pos (z := (p.1 * q.2 - q.1 * p.2) * _) ht.pos]
  congr 1
  grind

/-! one round of the comparison -/
theorem div_pos {n d : Int} (h : 0 < d) : n = d * (n / d) + n % d ∧ 0 ≤ n % d ∧ n % d < d := ⟨by have := Int.emod_add_mul_ediv n d; omega, Int.emod_nonneg _ (by omega), Int.emod_lt_of_pos _ h⟩
theorem cross_lt {x y : Int × Int} (hx : 0 < x.2) (hy : 0 < y.2) (h : x.1 / x.2 < y.1 / y.2) : cmpF x y = -1 := by
  unfold cmpF
  refine Int.sign_eq_neg_one_of_neg ?_
  obtain ⟨e1, l1, u1⟩ := div_pos (n := x.1) hx
  obtain ⟨e2, l2, u2⟩ := div_pos (n := y.1) hy
  generalize x.1 / x.2 = q1 at *
  generalize x.1 % x.2 = r1 at *
  generalize y.1 / y.2 = q2 at *
  generalize y.1 % y.2 = r2 at *
  have h1 : x.1 < x.2 * (q1 + 1) := by rw [Int.mul_add, Int.mul_one]; omega
  have h2 : y.2 * q2 ≤ y.1 := by omega
  have h3 : x.2 * (q1 + 1) ≤ x.2 * q2 := Int.mul_le_mul_of_nonneg_left (by omega) (by omega)
  have h4 : x.1 * y.2 < x.2 * q2 * y.2 := Int.mul_lt_mul_of_pos_right (by omega) hy
  have h5 : (y.2 * q2) * x.2 ≤ y.1 * x.2 := Int.mul_le_mul_of_nonneg_right h2 (by omega)
  have h6 : x.2 * q2 * y.2 = (y.2 * q2) * x.2 := by grind
  omega
theorem cross_gt {x y : Int × Int} (hx : 0 < x.2) (hy : 0 < y.2) (h : y.1 / y.2 < x.1 / x.2) : cmpF x y = 1 := by
  have := cross_lt hy hx h
  have := cmp_swap x y
  omega
theorem cross_eq {x y : Int × Int} (hx : 0 < x.2) (hy : 0 < y.2) (h : x.1 / x.2 = y.1 / y.2) : cmpF x y = Int.sign ((x.1 % x.2) * y.2 - (y.1 % y.2) * x.2) := by
  unfold cmpF
  obtain ⟨e1, l1, u1⟩ := div_pos (n := x.1) hx
  obtain ⟨e2, l2, u2⟩ := div_pos (n := y.1) hy
  rw [h] at e1
  congr 1
  generalize y.1 / y.2 = q at *
  generalize x.1 % x.2 = r1 at *
  generalize y.1 % y.2 = r2 at *
  rw [e1, e2]
  grind
theorem cross_zero {x y : Int × Int} (hx : 0 < x.2) (hy : 0 < y.2) (h : x.1 / x.2 = y.1 / y.2) (h0 : x.1 % x.2 = 0 ∨ y.1 % y.2 = 0) : cmpF x y = Int.sign (x.1 % x.2 - y.1 % y.2) := by
  rw [cross_eq hx hy h]
  obtain ⟨-, l1, -⟩ := div_pos (n := x.1) hx
  obtain ⟨-, l2, -⟩ := div_pos (n := y.1) hy
  rcases h0 with h0 | h0 <;> rw [h0]
  · rw [Int.zero_mul, Int.zero_sub, Int.zero_sub, ← Int.neg_mul, sign_of_pos hx]
  · rw [Int.zero_mul, Int.sub_zero, Int.sub_zero, sign_of_pos hy]
theorem cross_next {x y : Int × Int} (hx : 0 < x.2) (hy : 0 < y.2) (h : x.1 / x.2 = y.1 / y.2) : cmpF x y = cmpF (y.2, y.1 % y.2) (x.2, x.1 % x.2) := by
  rw [cross_eq hx hy h]
  unfold cmpF
  congr 1
  grind

/-! the grid -/
def fl (x d : Int) : Int := x / d
def ce (x d : Int) : Int := if x % d = 0 then x / d else x / d + 1
theorem ce_neg {x d : Int} (h : 0 < d) : ce x d = -((-x) / d) := by
  obtain ⟨e, l, u⟩ := div_pos (n := x) h
  unfold ce
  split
  · rename_i h0
    have : (-x) / d = -(x / d) ∧ (-x) % d = 0 := (Int.ediv_emod_unique h).2 ⟨by rw [Int.mul_neg]; omega, by omega, h⟩
    omega
  · rename_i h0
    have : (-x) / d = -(x / d) - 1 ∧ (-x) % d = d - x % d := (Int.ediv_emod_unique h).2 ⟨by rw [Int.mul_sub, Int.mul_neg, Int.mul_one]; omega, by omega, by omega⟩
    omega
theorem ce_le {x d : Int} : x / d ≤ ce x d ∧ ce x d ≤ x / d + 1 := by unfold ce; split <;> omega

def neg (p : Int × Int) : Int × Int := (-p.1, p.2)
theorem neg_isF {p : Int × Int} (h : IsF p) : IsF (neg p) := ⟨h.pos, by have := h.low; unfold neg; simpa using this⟩
theorem neg_sub {p : Int × Int} (h : IsF p) : red (0 * p.2 - p.1 * 1) (1 * p.2) = neg p :=
  red_eq (by have := h.pos; omega) (neg_isF h) (by unfold neg; grind)
def dn (r : Int × Int) (t : Int) : Int × Int := red (fl (r.1 * t) r.2) t
def up (r : Int × Int) (t : Int) : Int × Int := red (ce (r.1 * t) r.2) t
variable {r : Int × Int} {t : Int}
theorem dn_isF (ht : 0 < t) : IsF (dn r t) := red_isF (by omega)
theorem up_isF (ht : 0 < t) : IsF (up r t) := red_isF (by omega)
theorem neg_dn (hr : IsF r) (ht : 0 < t) : neg (dn (neg r) t) = up r t := by
  have h := red_val (n := fl ((neg r).1 * t) (neg r).2) (d := t) (by omega)
  refine (red_eq (by omega) (neg_isF (dn_isF ht)) ?_).symm
  rw [ce_neg hr.pos]
  have e := h.2
  unfold dn
  generalize red (fl ((neg r).1 * t) (neg r).2) t = a at *
  unfold neg fl at *
  simp only [Int.neg_mul] at *
  grind
/-- a multiple of the grid, taken up again -/
theorem on_grid {k : Int} (ht : 0 < t) : ((red k t).1 * t) % (red k t).2 = 0 ∧ ((red k t).1 * t) / (red k t).2 = k := by
  have h := (red_val (n := k) (d := t) (by omega)).2
  have hp := (red_isF (n := k) (d := t) (by omega)).pos
  rw [h]
  exact ⟨Int.mul_emod_left _ _, Int.mul_ediv_cancel _ (by omega)⟩
theorem dn_grid {k : Int} (ht : 0 < t) : dn (red k t) t = red k t := by unfold dn fl; rw [(on_grid ht).2]
theorem up_grid {k : Int} (ht : 0 < t) : up (red k t) t = red k t := by unfold up ce; rw [if_pos (on_grid ht).1, (on_grid ht).2]
theorem dn_up (ht : 0 < t) : dn (up r t) t = up r t := dn_grid ht
theorem up_dn (ht : 0 < t) : up (dn r t) t = dn r t := up_grid ht
theorem grid_den {k : Int} (ht : 0 < t) : red ((red k t).1 * t) ((red k t).2 * 1) = (k, 1) := by
  have h := (red_val (n := k) (d := t) (by omega)).2
  have hp := (red_isF (n := k) (d := t) (by omega)).pos
  refine red_eq (by omega) ⟨by show (0 : Int) < 1; decide, by simp⟩ ?_
  rw [h]
  grind
theorem cmp_grid {k : Int} (hr : IsF r) (ht : 0 < t) : cmpF (red k t) r = Int.sign (k * r.2 - r.1 * t) :=
  cmp_val (red_isF (by omega)) hr (red_val (by omega)) (Val.self hr) ht hr.pos
theorem dn_le (hr : IsF r) (ht : 0 < t) : cmpF (dn r t) r ≤ 0 := by
  unfold dn fl
  rw [cmp_grid hr ht, sign_le]
  obtain ⟨e, l, u⟩ := div_pos (n := r.1 * t) hr.pos
  generalize r.1 * t / r.2 = q at *
  have : q * r.2 = r.2 * q := Int.mul_comm ..
  omega
theorem up_ge (hr : IsF r) (ht : 0 < t) : 0 ≤ cmpF (up r t) r := by
  have h := cmp_swap r (up r t)
  have : cmpF r (up r t) ≤ 0 := by
    have h2 := dn_le (neg_isF hr) ht
    have e := neg_dn hr ht
    have : cmpF r (up r t) = cmpF (dn (neg r) t) (neg r) := by
      rw [← e]; unfold cmpF neg; simp only []; congr 1; grind
    omega
  have := cmp_swap (up r t) r
  omega
theorem dn_exact (hr : IsF r) (ht : 0 < t) : cmpF (dn r t) r = 0 ↔ (r.1 * t) % r.2 = 0 := by
  unfold dn fl
  rw [cmp_grid hr ht, Int.sign_eq_zero_iff_zero]
  obtain ⟨e, l, u⟩ := div_pos (n := r.1 * t) hr.pos
  generalize r.1 * t / r.2 = q at *
  have : q * r.2 = r.2 * q := Int.mul_comm ..
  omega
theorem up_exact (hr : IsF r) (ht : 0 < t) : cmpF (up r t) r = 0 ↔ (r.1 * t) % r.2 = 0 := by
  unfold up
  rw [cmp_grid hr ht, Int.sign_eq_zero_iff_zero]
  obtain ⟨e, l, u⟩ := div_pos (n := r.1 * t) hr.pos
  unfold ce
  generalize r.1 * t / r.2 = q at *
  have h1 : q * r.2 = r.2 * q := Int.mul_comm ..
  have h2 : (q + 1) * r.2 = r.2 * q + r.2 := by grind
  split <;> omega
theorem one_isF (ht : 0 < t) : IsF (1, t) := ⟨ht, by simp⟩
theorem width (ht : 0 < t) : red ((up r t).1 * (dn r t).2 - (dn r t).1 * (up r t).2) ((up r t).2 * (dn r t).2) = if (r.1 * t) % r.2 = 0 then (0, 1) else (1, t) := by
  have h1 : Val (up r t) (ce (r.1 * t) r.2) t := red_val (by omega)
  have h2 : Val (dn r t) (r.1 * t / r.2) t := red_val (by omega)
  have hs := Val.sub (up_isF ht) (dn_isF ht) h1 h2
  have h0 : (up r t).2 * (dn r t).2 ≠ 0 := Int.mul_ne_zero (by have := (up_isF (r := r) ht).pos; omega) (by have := (dn_isF (r := r) ht).pos; omega)
  unfold ce at hs
  split
  · rename_i h
    rw [if_pos h] at hs
    exact Val.uniq (red_isF h0) zero_isF hs (Val.self zero_isF) (by grind)
  · rename_i h
    rw [if_neg h] at hs
    exact Val.uniq (red_isF h0) (one_isF ht) hs (Val.self (one_isF ht)) (by grind)

/-! the field -/
abbrev plus (p q : Int × Int) : Int × Int := red (p.1 * q.2 + q.1 * p.2) (p.2 * q.2)
abbrev less (p q : Int × Int) : Int × Int := red (p.1 * q.2 - q.1 * p.2) (p.2 * q.2)
abbrev times (p q : Int × Int) : Int × Int := red (p.1 * q.1) (p.2 * q.2)
abbrev over (p q : Int × Int) : Int × Int := red (p.1 * q.2) (p.2 * q.1)
theorem den_ne {p q : Int × Int} (hp : IsF p) (hq : IsF q) : p.2 * q.2 ≠ 0 := Int.mul_ne_zero (by have := hp.pos; omega) (by have := hq.pos; omega)
variable {p q s : Int × Int}
theorem plus_isF (hp : IsF p) (hq : IsF q) : IsF (plus p q) := red_isF (den_ne hp hq)
theorem less_isF (hp : IsF p) (hq : IsF q) : IsF (less p q) := red_isF (den_ne hp hq)
theorem times_isF (hp : IsF p) (hq : IsF q) : IsF (times p q) := red_isF (den_ne hp hq)
theorem over_isF (hp : IsF p) (h : q.1 ≠ 0) : IsF (over p q) := red_isF (Int.mul_ne_zero (by have := hp.pos; omega) h)
theorem plus_comm : plus p q = plus q p := by unfold plus; rw [Int.add_comm, Int.mul_comm p.2]
theorem times_comm : times p q = times q p := by unfold times; rw [Int.mul_comm p.1, Int.mul_comm p.2]
theorem plus_assoc (hp : IsF p) (hq : IsF q) (hs : IsF s) : plus (plus p q) s = plus p (plus q s) := by
  refine Val.uniq (plus_isF (plus_isF hp hq) hs) (plus_isF hp (plus_isF hq hs)) (Val.add (plus_isF hp hq) hs (Val.add hp hq (Val.self hp) (Val.self hq)) (Val.self hs)) (Val.add hp (plus_isF hq hs) (Val.self hp) (Val.add hq hs (Val.self hq) (Val.self hs))) ?_
  grind
theorem times_assoc (hp : IsF p) (hq : IsF q) (hs : IsF s) : times p (times q s) = times (times p q) s := by
  refine Val.uniq (times_isF hp (times_isF hq hs)) (times_isF (times_isF hp hq) hs) (Val.mul hp (times_isF hq hs) (Val.self hp) (Val.mul hq hs (Val.self hq) (Val.self hs))) (Val.mul (times_isF hp hq) hs (Val.mul hp hq (Val.self hp) (Val.self hq)) (Val.self hs)) ?_
  grind
theorem distrib (hp : IsF p) (hq : IsF q) (hs : IsF s) : plus (times p s) (times q s) = times (plus p q) s := by
  refine Val.uniq (plus_isF (times_isF hp hs) (times_isF hq hs)) (times_isF (plus_isF hp hq) hs) (Val.add (times_isF hp hs) (times_isF hq hs) (Val.mul hp hs (Val.self hp) (Val.self hs)) (Val.mul hq hs (Val.self hq) (Val.self hs))) (Val.mul (plus_isF hp hq) hs (Val.add hp hq (Val.self hp) (Val.self hq)) (Val.self hs)) ?_
  grind
theorem plus_less (hp : IsF p) (hq : IsF q) : less (plus p q) q = p := by
  refine Val.uniq (less_isF (plus_isF hp hq) hq) hp (Val.sub (plus_isF hp hq) hq (Val.add hp hq (Val.self hp) (Val.self hq)) (Val.self hq)) (Val.self hp) ?_
  grind
theorem over_times (hp : IsF p) (hq : IsF q) (h : q.1 ≠ 0) : times (over p q) q = p := by
  refine Val.uniq (times_isF (over_isF hp h) hq) hp (Val.mul (over_isF hp h) hq (Val.div hp hq (Val.self hp) (Val.self hq) h) (Val.self hq)) (Val.self hp) ?_
  grind
end Go.Proofs.YtjkklgpbblkhaaaGreatDoor.Qq

/-
  Layer 4: what the functions of package integer answer at whatever strings, as functions on strings.
-/
namespace Go.Proofs.YtjkklgpbblkhaaaGreatDoor
open Go.RowKit Bs Ig

/-- the integer that a string is -/
noncomputable def rd (s : ByteArray) : Option Int := open Classical in if h : ∃ z : Int, z.natAbs < big ∧ s = bs (Lib.itoa z) then some h.choose else none
/-- an integer as the functions answer it: with more than 200 digits it is an error -/
def wrS (z : Int) : ByteArray × Int := (bs (txt z), err z)
def noS : ByteArray × Int := (⟨#[]⟩, 30)
theorem rd_some {z : Int} (h : z.natAbs < big) : rd (bs (Lib.itoa z)) = some z := by
  have hex : ∃ y : Int, y.natAbs < big ∧ bs (Lib.itoa z) = bs (Lib.itoa y) := ⟨z, h, rfl⟩
  unfold rd
  rw [dif_pos hex]
  congr 1
  exact (itoa_inj (bs_inj hex.choose_spec.2)).symm
theorem rd_eq {s : ByteArray} {z : Int} (h : rd s = some z) : z.natAbs < big ∧ s = bs (Lib.itoa z) := by
  unfold rd at h
  split at h
  · rename_i hex
    cases h
    exact hex.choose_spec
  · cases h
theorem rd_none {s : ByteArray} (h : rd s = none) : ∃ l, s = bs l ∧ ¬ IsI l := by
  refine ⟨s.data.toList, (bs_bytes s).symm, fun hi => ?_⟩
  obtain ⟨z, hz, hl⟩ := hi
  have : s = bs (Lib.itoa z) := by rw [← hl, bs_bytes]
  rw [this, rd_some hz] at h
  cases h
theorem rd_no {l : List UInt8} (h : ¬ IsI l) : rd (bs l) = none := by
  cases hr : rd (bs l) with
  | none => rfl
  | some z =>
    obtain ⟨h1, h2⟩ := rd_eq hr
    exact (h ⟨z, h1, bs_inj h2⟩).elim
noncomputable def onS (f : Int → Int → ByteArray × Int) (a b : ByteArray) : ByteArray × Int := match rd a, rd b with
  | some x, some y => f x y
  | _, _ => noS
noncomputable def addS (a b : ByteArray) : ByteArray × Int := onS (fun x y => wrS (x + y)) a b
noncomputable def subS (a b : ByteArray) : ByteArray × Int := onS (fun x y => wrS (x - y)) a b
noncomputable def mulS (a b : ByteArray) : ByteArray × Int := onS (fun x y => wrS (x * y)) a b
noncomputable def gcdS (a b : ByteArray) : ByteArray × Int := onS (fun x y => wrS (Int.gcd x y : Nat)) a b
noncomputable def cmpS (a b : ByteArray) : Int := match rd a, rd b with
  | some x, some y => cmpZ x y
  | _, _ => 0
/-- quotient, remainder, error -/
noncomputable def divS (a b : ByteArray) : ByteArray × ByteArray × Int := match rd a, rd b with
  | some x, some y => if y = 0 then (⟨#[]⟩, ⟨#[]⟩, 30) else (bs (Lib.itoa (x / y)), bs (Lib.itoa (x % y)), 0)
  | _, _ => (⟨#[]⟩, ⟨#[]⟩, 30)
theorem lt_bb4 {n : Nat} (h : n < big) : n < big * big := Nat.lt_of_lt_of_le h big_sq
theorem big5_4 : 100000 * 100000 ≤ big := by decide +kernel
theorem gcd_big4 {x y : Int} (hx : x.natAbs < big) (hy : y.natAbs < big) : Int.gcd x y < big := by
  rcases Nat.eq_zero_or_pos y.natAbs with h | h
  · unfold Int.gcd; rw [h, Nat.gcd_zero_right]; exact hx
  · exact Nat.lt_of_le_of_lt (Nat.gcd_le_right _ h) hy
/-- the call answers the string and the error r -/
abbrev Gives (f : FuncId) (a b : ByteArray) (r : ByteArray × Int) (W : World) : Prop :=
  Calls Tryz.prog f #[.string a, .string b] W fun e w' => e = .returned (.tuple #[.string r.1, .int .i64 r.2]) ∧ Below W.heap.size W w'
theorem Add_all (a b : ByteArray) (W : World) (hW : TabP W) : Gives 67 a b (addS a b) W := by
  unfold Gives addS onS
  cases ha : rd a with
  | none =>
    obtain ⟨l, rfl, hl⟩ := rd_none ha
    exact Add_no l hl b W
  | some x =>
    obtain ⟨hx, rfl⟩ := rd_eq ha
    cases hb : rd b with
    | none =>
      obtain ⟨l, rfl, hl⟩ := rd_none hb
      exact Add_no2 x hx l hl W
    | some y =>
      obtain ⟨hy, rfl⟩ := rd_eq hb
      exact Add_any x y hx hy (by
        have h5 := big5_4
        have := Int.natAbs_add_le x y
        have h2 : 2 * big ≤ big * big := Nat.mul_le_mul_right _ (by omega)
        omega) W hW
theorem Sub_all (a b : ByteArray) (W : World) (hW : TabP W) : Gives 72 a b (subS a b) W := by
  unfold Gives subS onS
  cases ha : rd a with
  | none =>
    obtain ⟨l, rfl, hl⟩ := rd_none ha
    exact Sub_no l hl b W
  | some x =>
    obtain ⟨hx, rfl⟩ := rd_eq ha
    cases hb : rd b with
    | none =>
      obtain ⟨l, rfl, hl⟩ := rd_none hb
      exact Sub_no2 x hx l hl W
    | some y =>
      obtain ⟨hy, rfl⟩ := rd_eq hb
      exact Sub_any x y hx hy (by
        have h5 := big5_4
        have := Int.natAbs_sub_le x y
        have h2 : 2 * big ≤ big * big := Nat.mul_le_mul_right _ (by omega)
        omega) W hW
theorem Mul_all (a b : ByteArray) (W : World) (hW : TabP W) : Gives 70 a b (mulS a b) W := by
  unfold Gives mulS onS
  cases ha : rd a with
  | none =>
    obtain ⟨l, rfl, hl⟩ := rd_none ha
    exact Mul_no l hl b W
  | some x =>
    obtain ⟨hx, rfl⟩ := rd_eq ha
    cases hb : rd b with
    | none =>
      obtain ⟨l, rfl, hl⟩ := rd_none hb
      exact Mul_no2 x hx l hl W
    | some y =>
      obtain ⟨hy, rfl⟩ := rd_eq hb
      exact Mul_any x y hx hy (by rw [Int.natAbs_mul]; exact Nat.mul_lt_mul'' hx hy) W hW
theorem Gcd_all (a b : ByteArray) (W : World) (hW : TabP W) : Gives 63 a b (gcdS a b) W := by
  unfold Gives gcdS onS
  cases ha : rd a with
  | none =>
    obtain ⟨l, rfl, hl⟩ := rd_none ha
    exact Gcd_no l hl b W
  | some x =>
    obtain ⟨hx, rfl⟩ := rd_eq ha
    cases hb : rd b with
    | none =>
      obtain ⟨l, rfl, hl⟩ := rd_none hb
      exact Gcd_no2 x hx l hl W
    | some y =>
      obtain ⟨hy, rfl⟩ := rd_eq hb
      exact Gcd_any x y hx hy (lt_bb4 (gcd_big4 hx hy)) W hW
theorem Compare_all (a b : ByteArray) (W : World) :
    Calls Tryz.prog 51 #[.string a, .string b] W fun e w' => e = .returned (.int .i64 (cmpS a b)) ∧ Below W.heap.size W w' := by
  unfold cmpS
  cases ha : rd a with
  | none =>
    obtain ⟨l, rfl, hl⟩ := rd_none ha
    exact Compare_no l hl b W
  | some x =>
    obtain ⟨hx, rfl⟩ := rd_eq ha
    cases hb : rd b with
    | none =>
      obtain ⟨l, rfl, hl⟩ := rd_none hb
      exact Compare_no2 x hx l hl W
    | some y =>
      obtain ⟨hy, rfl⟩ := rd_eq hb
      exact Compare_any x y hx hy W
theorem Div_all (a b : ByteArray) (W : World) (hW : TabP W) :
    Calls Tryz.prog 50 #[.string a, .string b] W fun e w' => e = .returned (.tuple #[.string (divS a b).1, .string (divS a b).2.1, .int .i64 (divS a b).2.2]) ∧ Below W.heap.size W w' := by
  unfold divS
  cases ha : rd a with
  | none =>
    obtain ⟨l, rfl, hl⟩ := rd_none ha
    exact Div_no l hl b W
  | some x =>
    obtain ⟨hx, rfl⟩ := rd_eq ha
    cases hb : rd b with
    | none =>
      obtain ⟨l, rfl, hl⟩ := rd_none hb
      exact Div_no2 x hx l hl W
    | some y =>
      obtain ⟨hy, rfl⟩ := rd_eq hb
      by_cases h0 : y = 0
      · subst h0
        exact Div_zero x hx W
      · simp only [if_neg h0]
        exact Div_any x y hx hy h0 W hW
theorem Valid_all (a : ByteArray) (W : World) :
    Calls Tryz.prog 78 #[.string a] W fun e w' => e = .returned (.bool (rd a).isSome) ∧ w' = W := by
  cases ha : rd a with
  | none =>
    obtain ⟨l, rfl, hl⟩ := rd_none ha
    exact Valid_no l hl W
  | some x =>
    obtain ⟨hx, rfl⟩ := rd_eq ha
    exact Valid_yes x hx W

end Go.Proofs.YtjkklgpbblkhaaaGreatDoor
