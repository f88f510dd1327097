/-
  Layer 3: quotients of numbers with signs.
-/
import Derived.Test.YtieaelipgieaoaaDoorIhc
namespace Go.Proofs.YtieaelipgieaoaaDoor
open Go.RowKit Bs Ig

set_option maxRecDepth 100000 in
set_option maxHeartbeats 2000000 in
theorem ndivide_any (x y : Int) (hy : y ≠ 0) (a : Option Addr) (n c : Nat) (b : Option Addr) (k d : Nat) (w : World) (hl : IsZ w a n c (zs (G x.natAbs))) (hm : IsZ w b k d (zs (G y.natAbs))) (hn : n ≤ 400) (hk : k ≤ 400) :
    Calls Tryd.prog 33 #[numV x a n c, numV y b k d] w fun e w' => ∃ a1 n1 c1 a2 n2 c2, e = .returned (.tuple #[numV (x / y) a1 n1 c1, numV (x % y) a2 n2 c2]) ∧ IsZ w' a1 n1 c1 (zs (G (x / y).natAbs)) ∧ IsZ w' a2 n2 c2 (zs (G (x % y).natAbs)) ∧ Below w.heap.size w w' := by
  have hst := Bw.start w (decide (x < 0)) a n c (decide (y < 0)) b k d
  have hsg := ediv_sign x y hy
  have hyp : 0 < y.natAbs := by omega
  unfold numV
  obtain ⟨bx, hbx⟩ : ∃ bx, decide (x < 0) = bx := ⟨_, rfl⟩
  obtain ⟨bz, hbz⟩ : ∃ bz, decide (y < 0) = bz := ⟨_, rfl⟩
  rw [hbx, hbz] at hst hsg ⊢
  obtain ⟨p, hp⟩ : ∃ p, x.natAbs = p := ⟨_, rfl⟩
  obtain ⟨q, hq⟩ : ∃ q, y.natAbs = q := ⟨_, rfl⟩
  rw [hp] at hl hsg
  rw [hq] at hm hsg hyp
  have hd := divide_any a n c b k d p q _ (hl.later hst.bx.below) (hm.later hst.bx.below) hyp (by omega) (by omega)
  obtain ⟨bd, hbd⟩ : ∃ bd, (bx != bz) = bd := ⟨_, rfl⟩
  rw [hbd] at hsg
  have hbd2 : (!(bx == bz)) = bd := hbd
  have HD := Lib.hid hd
  have HB := Lib.hid hst
  have hS : ∀ (Q : Nat), ∃ bb, ∀ (Z : Int), Z = (if bd = true then -(Q : Int) else (Q : Int)) → (∀ a n c, numV Z a n c = .agg #[.bool bb, .slice a n c]) ∧ Z.natAbs = Q ∧ ∀ (W : World) (a : Option Addr) (n c : Nat), IsZ W a n c (zs (G Q)) → Calls Tryd.prog 44 #[.bool bd, .slice a n c] W (fun e w' => e = .returned (.agg #[.bool bb, .slice a n c]) ∧ Below W.heap.size W w') := fun Q => by
    refine ⟨bd && decide (0 < Q), fun Z hZ => ⟨fun a n c => by rw [hZ, numV_eq], by rw [hZ]; split <;> simp, fun W a n c h => (signed_any bd a n c Q W h).mono (fun e w' h2 => by rw [numV_eq] at h2; exact h2)⟩⟩
  have hT : ∀ (R : Nat) (W : World) (a : Option Addr) (n c : Nat), IsZ W a n c (zs (G R)) → Calls Tryd.prog 44 #[.bool false, .slice a n c] W (fun e w' => e = .returned (.agg #[.bool false, .slice a n c]) ∧ Below W.heap.size W w') := fun R W a n c h => (signed_any false a n c R W h).mono (fun e w' h2 => by rw [numV_eq, Bool.false_and] at h2; exact h2)
  have hT2 : ∀ (R : Nat) a n c, numV (R : Int) a n c = .agg #[.bool false, .slice a n c] := fun R a n c => by unfold numV; rw [show decide ((R : Int) < 0) = false by simp]
  change Calls Tryd.prog 33 #[.agg #[.bool bx, .slice a n c], .agg #[.bool bz, .slice b k d]] w fun e w' => ∃ a1 n1 c1 a2 n2 c2, e = .returned (.tuple #[numV (x / y) a1 n1 c1, numV (x % y) a2 n2 c2]) ∧ IsZ w' a1 n1 c1 (zs (G (x / y).natAbs)) ∧ IsZ w' a2 n2 c2 (zs (G (x % y).natAbs)) ∧ Below w.heap.size w w'
  have hmo := Nat.mod_lt p hyp
  cases bx with
  | false =>
    have hb3 : bz = bd := by simpa using hbd2
    clear hbd2
    subst hb3
    obtain ⟨Q, hQ⟩ : ∃ Q, p / q = Q := ⟨_, rfl⟩
    obtain ⟨R, hR⟩ : ∃ R, p % q = R := ⟨_, rfl⟩
    obtain ⟨he1, he2⟩ := hsg Q R (Or.inl ⟨.inl rfl, hQ.symm, hR.symm⟩)
    obtain ⟨bb, hbb⟩ := hS Q
    obtain ⟨hV, hA, hS1⟩ := hbb _ he1
    have hA2 : (x % y).natAbs = R := by rw [he2]; simp
    have HS := Lib.hid hS1
    have HT := Lib.hid (hT R)
    have HV := Lib.hid (And.intro hV (And.intro hA (And.intro hA2 (show ∀ a n c, numV (x % y) a n c = .agg #[.bool false, .slice a n c] from fun a n c => by rw [he2]; exact hT2 R a n c))))
    rw [hQ, hR] at HD
    clear hl hm hst hsg hyp hbx hbz hp hq hd hbd hS hT hT2 hmo hQ hR he1 he2 hbb hV hA hS1 hA2
    go_enter Tryd.func33, Tryd.ntmps33
    go_wp2_with (first
      | (go_at_call 51; (with_reducible refine HD.out.mono ?_); rintro e w1 ⟨qa, qn, qc, ra, rn, rc, rfl, z1, z2, B1⟩; have x1 := HB.out.later B1; have c0 := x1.bx.c00; have c2 := x1.bx.c10;  skip)
      | (go_at_call 44; (with_reducible refine (HT.out _ _ _ _ z2').mono ?_); rintro e w3 ⟨rfl, B3⟩; have x3 := x2.later B3; have z13 := z1'.later B3; have z23 := z2'.later B3; obtain ⟨t0, t1, t2, t3, hr2⟩ := x3.bx.r2; obtain ⟨u0, u1, u2, u3, hr3⟩ := x3.r3; have hr3' : (w3.setRow (w.heap.size + 1 + 1) #[.bool bb, .slice qa qn qc]).heap[w.heap.size + 1 + 1 + 1]? = some (.cells #[.bool u0, .slice u1 u2 u3] 51 (0, 0)) := (Go.setRow_other w3 (w.heap.size + 1 + 1) _ _ (by omega)).trans hr3)
      | (go_at_call 44; (with_reducible refine (HS.out _ _ _ _ z1).mono ?_); rintro e w2 ⟨rfl, B2⟩; have x2 := x1.later B2; have z1' := z1.later B2; have z2' := z2.later B2)
      | (refine wpList_store_row rfl 51 _ _ rfl (w.heap.size + 1 + 1) _ rfl rfl 51 _ hr2 ?s1 ?s2 ?s3 ?_)
      | (refine wpList_store_row rfl 51 _ _ rfl (w.heap.size + 1 + 1 + 1) _ rfl rfl 51 _ hr3' ?s4 ?s5 ?s6 ?_))
    case s1 => kernel_rfl
    case s2 => rfl
    case s3 => exact two_cells _ _ _ _
    case s4 => kernel_rfl
    case s5 => rfl
    case s6 => exact two_cells _ _ _ _
    have hf2 := setRow_heap w3 (w.heap.size + 1 + 1) _ #[.bool bb, .slice qa qn qc] _ _ hr2
    have hf3 := setRow_heap (w3.setRow (w.heap.size + 1 + 1) #[.bool bb, .slice qa qn qc]) (w.heap.size + 1 + 1 + 1) _ #[.bool false, .slice ra rn rc] _ _ hr3'
    exact bodyPost_ret (results_two_rows rfl _ _ (w.heap.size + 1 + 1) (w.heap.size + 1 + 1 + 1) 51 51 #[.bool bb, .slice qa qn qc] #[.bool false, .slice ra rn rc] _ _ _ rfl rfl ((Go.setRow_other _ _ _ _ (by omega)).trans hf2) hf3 Tryd.underlying51 rfl (by kernel_rfl) (by kernel_rfl)) rfl ⟨qa, qn, qc, ra, rn, rc, by rw [HV.out.1, HV.out.2.2.2], by rw [HV.out.2.1]; exact (z13.setRow hr2 _).setRow hr3' _, by rw [HV.out.2.2.1]; exact (z23.setRow hr2 _).setRow hr3' _, below_row (below_row x3.bx.below (by omega) _) (by omega) _⟩
  | true =>
    have hb3 : (!bz) = bd := by simpa using hbd2
    clear hbd2
    rcases Nat.eq_zero_or_pos (p % q) with hr0 | hr0
    · have HL := Lib.hid (fun (W : World) a n c (h : IsZ W a n c (zs (G (p % q)))) => (show n = 0 from by have := len_pos h; omega))
      obtain ⟨Q, hQ⟩ : ∃ Q, p / q = Q := ⟨_, rfl⟩
      obtain ⟨R, hR⟩ : ∃ R, p % q = R := ⟨_, rfl⟩
      obtain ⟨he1, he2⟩ := hsg Q R (Or.inl ⟨.inr hr0, hQ.symm, hR.symm⟩)
      obtain ⟨bb, hbb⟩ := hS Q
      obtain ⟨hV, hA, hS1⟩ := hbb _ he1
      have hA2 : (x % y).natAbs = R := by rw [he2]; simp
      have HS := Lib.hid hS1
      have HT := Lib.hid (hT R)
      have HV := Lib.hid (And.intro hV (And.intro hA (And.intro hA2 (show ∀ a n c, numV (x % y) a n c = .agg #[.bool false, .slice a n c] from fun a n c => by rw [he2]; exact hT2 R a n c))))
      rw [hQ, hR] at HD
      rw [hR] at HL
      clear hl hm hst hsg hyp hbx hbz hp hq hd hbd hS hT hT2 hmo hQ hR he1 he2 hbb hV hA hS1 hA2 hr0
      go_enter Tryd.func33, Tryd.ntmps33
      go_wp2_with (first
        | (go_at_call 51; (with_reducible refine HD.out.mono ?_); rintro e w1 ⟨qa, qn, qc, ra, rn, rc, rfl, z1, z2, B1⟩; have x1 := HB.out.later B1; have c0 := x1.bx.c00; have c2 := x1.bx.c10;  obtain rfl : rn = 0 := HL.out _ _ _ _ z2)
        | (go_at_call 44; (with_reducible refine (HT.out _ _ _ _ z2').mono ?_); rintro e w3 ⟨rfl, B3⟩; have x3 := x2.later B3; have z13 := z1'.later B3; have z23 := z2'.later B3; obtain ⟨t0, t1, t2, t3, hr2⟩ := x3.bx.r2; obtain ⟨u0, u1, u2, u3, hr3⟩ := x3.r3; have hr3' : (w3.setRow (w.heap.size + 1 + 1) #[.bool bb, .slice qa qn qc]).heap[w.heap.size + 1 + 1 + 1]? = some (.cells #[.bool u0, .slice u1 u2 u3] 51 (0, 0)) := (Go.setRow_other w3 (w.heap.size + 1 + 1) _ _ (by omega)).trans hr3)
        | (go_at_call 44; (with_reducible refine (HS.out _ _ _ _ z1).mono ?_); rintro e w2 ⟨rfl, B2⟩; have x2 := x1.later B2; have z1' := z1.later B2; have z2' := z2.later B2)
        | (refine wpList_store_row rfl 51 _ _ rfl (w.heap.size + 1 + 1) _ rfl rfl 51 _ hr2 ?s1 ?s2 ?s3 ?_)
        | (refine wpList_store_row rfl 51 _ _ rfl (w.heap.size + 1 + 1 + 1) _ rfl rfl 51 _ hr3' ?s4 ?s5 ?s6 ?_))
      case s1 => kernel_rfl
      case s2 => rfl
      case s3 => exact two_cells _ _ _ _
      case s4 => kernel_rfl
      case s5 => rfl
      case s6 => exact two_cells _ _ _ _
      have hf2 := setRow_heap w3 (w.heap.size + 1 + 1) _ #[.bool bb, .slice qa qn qc] _ _ hr2
      have hf3 := setRow_heap (w3.setRow (w.heap.size + 1 + 1) #[.bool bb, .slice qa qn qc]) (w.heap.size + 1 + 1 + 1) _ #[.bool false, .slice ra 0 rc] _ _ hr3'
      exact bodyPost_ret (results_two_rows rfl _ _ (w.heap.size + 1 + 1) (w.heap.size + 1 + 1 + 1) 51 51 #[.bool bb, .slice qa qn qc] #[.bool false, .slice ra 0 rc] _ _ _ rfl rfl ((Go.setRow_other _ _ _ _ (by omega)).trans hf2) hf3 Tryd.underlying51 rfl (by kernel_rfl) (by kernel_rfl)) rfl ⟨qa, qn, qc, ra, 0, rc, by rw [HV.out.1, HV.out.2.2.2], by rw [HV.out.2.1]; exact (z13.setRow hr2 _).setRow hr3' _, by rw [HV.out.2.2.1]; exact (z23.setRow hr2 _).setRow hr3' _, below_row (below_row x3.bx.below (by omega) _) (by omega) _⟩
    · have HL := Lib.hid (fun (W : World) a n c (h : IsZ W a n c (zs (G (p % q)))) => (show 0 < n from by have := len_pos h; omega))
      obtain ⟨Q, hQ⟩ : ∃ Q, p / q + 1 = Q := ⟨_, rfl⟩
      obtain ⟨R, hR⟩ : ∃ R, q - p % q = R := ⟨_, rfl⟩
      obtain ⟨he1, he2⟩ := hsg Q R (Or.inr ⟨⟨rfl, hr0⟩, hQ.symm, hR.symm⟩)
      obtain ⟨bb, hbb⟩ := hS Q
      obtain ⟨hV, hA, hS1⟩ := hbb _ he1
      have hA2 : (x % y).natAbs = R := by rw [he2]; simp
      have HS := Lib.hid hS1
      have HT := Lib.hid (hT R)
      have HV := Lib.hid (And.intro hV (And.intro hA (And.intro hA2 (show ∀ a n c, numV (x % y) a n c = .agg #[.bool false, .slice a n c] from fun a n c => by rw [he2]; exact hT2 R a n c))))
      have HQ := Lib.hid (fun (W : World) (qa : Option Addr) (qn qc : Nat) (h : IsZ W qa qn qc (zs (G (p / q)))) (h400 : qn ≤ 400) => (show Calls Tryd.prog 45 #[.slice qa qn qc, .slice (some ⟨W.heap.size, 0, none⟩) 1 1] (W.alloc (.cells #[.int .i64 1] 3)).drew (fun e w' => ∃ a' n' c', e = .returned (.slice (some a') n' c') ∧ IsZ w' (some a') n' c' (zs (G Q)) ∧ Below W.heap.size W w') from by
        have hB : Below W.heap.size W (W.alloc (.cells #[.int .i64 1] 3)).drew := ((Below.refl _ _).alloc (Nat.le_refl _) _).drew
        have := plus_any qa qn qc (G (p / q)) (some ⟨W.heap.size, 0, none⟩) 1 1 [1] (p / q) 1 (W.alloc (.cells #[.int .i64 1] 3)).drew (h.later hB) ((one_isZ W 1).later (Below.refl _ _).drew) (G_lt _) (fun z hz => by rw [List.mem_singleton.1 hz]; omega) (V_G _) (V_one 1) (by omega) (by omega)
        rw [hQ] at this
        exact this.mono (fun e w' ⟨a', n', c', he, hz, hb⟩ => ⟨a', n', c', he, hz, below_on hB hb hB.size⟩)))
      have HR := Lib.hid (fun (W : World) (ra : Option Addr) (rn rc : Nat) (hb : Bw w W true a n c bz b k d) (h : IsZ W ra rn rc (zs (G (p % q)))) => (show Calls Tryd.prog 47 #[.slice b k d, .slice ra rn rc] W (fun e w' => ∃ a' n' c', e = .returned (.slice (some a') n' c') ∧ IsZ w' (some a') n' c' (zs (G R)) ∧ Below W.heap.size W w') from by
        have hmb := hm.later hb.bx.below
        have := minus_any b k d (G q) ra rn rc (G (p % q)) q (p % q) W hmb h (G_lt _) (G_lt _) (V_G _) (V_G _) (by omega) (by rw [← h.glen, ← hmb.glen]; exact dgs_length_mono (by omega)) (by omega)
        rw [hR] at this
        exact this))
      have HN := Lib.hid (fun (W : World) (qa : Option Addr) (qn qc : Nat) (h : IsZ W qa qn qc (zs (G (p / q)))) => (show qn ≤ 400 from by rw [← h.glen]; exact Nat.le_trans (dgs_length_mono (Nat.div_le_self p q)) (by rw [show (dgs 9998 p).length = n from hl.glen]; exact hn)))
      clear hl hm hst hsg hyp hbx hbz hp hq hd hbd hS hT hT2 hmo hQ hR he1 he2 hbb hV hA hS1 hA2 hr0
      go_enter Tryd.func33, Tryd.ntmps33
      go_wp2_with (go_at_call 51; (with_reducible refine HD.out.mono ?_); rintro e w1 ⟨pa, pn, pc, sa, sn, sc, rfl, y1, y2, B1⟩; have xx := HB.out.later B1; have c0 := xx.bx.c00; have hsn := HL.out _ _ _ _ y2; have hdn : decide (0 < sn) = true := decide_eq_true hsn; have hdi : decide (0 < (sn : Int)) = true := decide_eq_true (by omega))
      have h400 := HN.out _ _ _ _ y1
      have k1 := xx.bx.c11
      clear hsn hdn hdi
      go_region_held3 (fun w' => w'.cell? ⟨w.heap.size + 1, 1, none⟩ = some (.slice b k d)) (first | go_keep)
        (first
          | (go_at_call 45; (with_reducible refine (HQ.out _ _ _ _ y1 h400).mono ?_); rintro e w5 ⟨q5, n5, c5, rfl, z5, B5⟩; have x5 := xx.later B5; have y5 := y2.later B5; have k5 := x5.bx.c11)
          | (go_at_call 47; (with_reducible refine (HR.out _ _ _ _ x5 y5).mono ?_); rintro e w6 ⟨q6, n6, c6, rfl, z6, B6⟩; have x6 := x5.later B6; have z56 := z5.later B6; have k6 := x6.bx.c11))
      have d0 := x6.bx.c00
      have d2 := x6.bx.c10
      clear k1 k5 k6
      go_wp2_with (first
        | (go_at_call 44; (with_reducible refine (HT.out _ _ _ _ z2').mono ?_); rintro e w3 ⟨rfl, B3⟩; have x3 := x2.later B3; have z13 := z1'.later B3; have z23 := z2'.later B3; obtain ⟨t0, t1, t2, t3, hr2⟩ := x3.bx.r2; obtain ⟨u0, u1, u2, u3, hr3⟩ := x3.r3; have hr3' : (w3.setRow (w.heap.size + 1 + 1) #[.bool bb, .slice (some q5) n5 c5]).heap[w.heap.size + 1 + 1 + 1]? = some (.cells #[.bool u0, .slice u1 u2 u3] 51 (0, 0)) := (Go.setRow_other w3 (w.heap.size + 1 + 1) _ _ (by omega)).trans hr3)
        | (go_at_call 44; (with_reducible refine (HS.out _ _ _ _ z56).mono ?_); rintro e w2 ⟨rfl, B2⟩; have x2 := x6.later B2; have z1' := z56.later B2; have z2' := z6.later B2)
        | (refine wpList_store_row rfl 51 _ _ rfl (w.heap.size + 1 + 1) _ rfl rfl 51 _ hr2 ?s1 ?s2 ?s3 ?_)
        | (refine wpList_store_row rfl 51 _ _ rfl (w.heap.size + 1 + 1 + 1) _ rfl rfl 51 _ hr3' ?s4 ?s5 ?s6 ?_))
      case s1 => kernel_rfl
      case s2 => rfl
      case s3 => exact two_cells _ _ _ _
      case s4 => kernel_rfl
      case s5 => rfl
      case s6 => exact two_cells _ _ _ _
      have hf2 := setRow_heap w3 (w.heap.size + 1 + 1) _ #[.bool bb, .slice (some q5) n5 c5] _ _ hr2
      have hf3 := setRow_heap (w3.setRow (w.heap.size + 1 + 1) #[.bool bb, .slice (some q5) n5 c5]) (w.heap.size + 1 + 1 + 1) _ #[.bool false, .slice (some q6) n6 c6] _ _ hr3'
      exact bodyPost_ret (results_two_rows rfl _ _ (w.heap.size + 1 + 1) (w.heap.size + 1 + 1 + 1) 51 51 #[.bool bb, .slice (some q5) n5 c5] #[.bool false, .slice (some q6) n6 c6] _ _ _ rfl rfl ((Go.setRow_other _ _ _ _ (by omega)).trans hf2) hf3 Tryd.underlying51 rfl (by kernel_rfl) (by kernel_rfl)) rfl ⟨some q5, n5, c5, some q6, n6, c6, by rw [HV.out.1, HV.out.2.2.2], by rw [HV.out.2.1]; exact (z13.setRow hr2 _).setRow hr3' _, by rw [HV.out.2.2.1]; exact (z23.setRow hr2 _).setRow hr3' _, below_row (below_row x3.bx.below (by omega) _) (by omega) _⟩

end Go.Proofs.YtieaelipgieaoaaDoor
