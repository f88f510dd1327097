/-
  Put together by program out of these texts, in this order: Ihd, Ihf, Ihg, Ihh, Ihi.
-/
import Derived.Test.YtjkklgpbblkhaaaGreatDoorZCaRFd07

/-
  Layer 3: quotients of numbers with signs.
-/
namespace Go.Proofs.YtjkklgpbblkhaaaGreatDoor
open Go.RowKit Bs Ig

set_option maxRecDepth 100000 in
set_option maxHeartbeats 2000000 in
theorem ndivide_any (x y : Int) (hy : y ≠ 0) (a : Option Addr) (n c : Nat) (b : Option Addr) (k d : Nat) (w : World) (hl : IsZ w a n c (zs (G x.natAbs))) (hm : IsZ w b k d (zs (G y.natAbs))) (hn : n ≤ 400) (hk : k ≤ 400) :
    Calls Tryz.prog 80 #[numV x a n c, numV y b k d] w fun e w' => ∃ a1 n1 c1 a2 n2 c2, e = .returned (.tuple #[numV (x / y) a1 n1 c1, numV (x % y) a2 n2 c2]) ∧ IsZ w' a1 n1 c1 (zs (G (x / y).natAbs)) ∧ IsZ w' a2 n2 c2 (zs (G (x % y).natAbs)) ∧ Below w.heap.size w w' := by
  have hst := Bw.start w (decide (x < 0)) a n c (decide (y < 0)) b k d
  have hsg := ediv_sign x y hy
  have hyp : 0 < y.natAbs := by omega
  unfold numV
  obtain ⟨bx, hbx⟩ : ∃ bx, decide (x < 0) = bx := ⟨_, rfl⟩
  obtain ⟨bz, hbz⟩ : ∃ bz, decide (y < 0) = bz := ⟨_, rfl⟩
  rw [hbx, hbz] at hst hsg ⊢
  obtain ⟨p, hp⟩ : ∃ p, x.natAbs = p := ⟨_, rfl⟩
  obtain ⟨q, hq⟩ : ∃ q, y.natAbs = q := ⟨_, rfl⟩
  rw [hp] at hl hsg
  rw [hq] at hm hsg hyp
  have hd := divide_any a n c b k d p q _ (hl.later hst.bx.below) (hm.later hst.bx.below) hyp (by omega) (by omega)
  obtain ⟨bd, hbd⟩ : ∃ bd, (bx != bz) = bd := ⟨_, rfl⟩
  rw [hbd] at hsg
  have hbd2 : (!(bx == bz)) = bd := hbd
  have HD := Lib.hid hd
  have HB := Lib.hid hst
  have hS : ∀ (Q : Nat), ∃ bb, ∀ (Z : Int), Z = (if bd = true then -(Q : Int) else (Q : Int)) → (∀ a n c, numV Z a n c = .agg #[.bool bb, .slice a n c]) ∧ Z.natAbs = Q ∧ ∀ (W : World) (a : Option Addr) (n c : Nat), IsZ W a n c (zs (G Q)) → Calls Tryz.prog 111 #[.bool bd, .slice a n c] W (fun e w' => e = .returned (.agg #[.bool bb, .slice a n c]) ∧ Below W.heap.size W w') := fun Q => by
    refine ⟨bd && decide (0 < Q), fun Z hZ => ⟨fun a n c => by rw [hZ, numV_eq], by rw [hZ]; split <;> simp, fun W a n c h => (signed_any bd a n c Q W h).mono (fun e w' h2 => by rw [numV_eq] at h2; exact h2)⟩⟩
  have hT : ∀ (R : Nat) (W : World) (a : Option Addr) (n c : Nat), IsZ W a n c (zs (G R)) → Calls Tryz.prog 111 #[.bool false, .slice a n c] W (fun e w' => e = .returned (.agg #[.bool false, .slice a n c]) ∧ Below W.heap.size W w') := fun R W a n c h => (signed_any false a n c R W h).mono (fun e w' h2 => by rw [numV_eq, Bool.false_and] at h2; exact h2)
  have hT2 : ∀ (R : Nat) a n c, numV (R : Int) a n c = .agg #[.bool false, .slice a n c] := fun R a n c => by unfold numV; rw [show decide ((R : Int) < 0) = false by simp]
  change Calls Tryz.prog 80 #[.agg #[.bool bx, .slice a n c], .agg #[.bool bz, .slice b k d]] w fun e w' => ∃ a1 n1 c1 a2 n2 c2, e = .returned (.tuple #[numV (x / y) a1 n1 c1, numV (x % y) a2 n2 c2]) ∧ IsZ w' a1 n1 c1 (zs (G (x / y).natAbs)) ∧ IsZ w' a2 n2 c2 (zs (G (x % y).natAbs)) ∧ Below w.heap.size w w'
  have hmo := Nat.mod_lt p hyp
  cases bx with
  | false =>
    have hb3 : bz = bd := by simpa using hbd2
    clear hbd2
    subst hb3
    obtain ⟨Q, hQ⟩ : ∃ Q, p / q = Q := ⟨_, rfl⟩
    obtain ⟨R, hR⟩ : ∃ R, p % q = R := ⟨_, rfl⟩
    obtain ⟨he1, he2⟩ := hsg Q R (Or.inl ⟨.inl rfl, hQ.symm, hR.symm⟩)
    obtain ⟨bb, hbb⟩ := hS Q
    obtain ⟨hV, hA, hS1⟩ := hbb _ he1
    have hA2 : (x % y).natAbs = R := by rw [he2]; simp
    have HS := Lib.hid hS1
    have HT := Lib.hid (hT R)
    have HV := Lib.hid (And.intro hV (And.intro hA (And.intro hA2 (show ∀ a n c, numV (x % y) a n c = .agg #[.bool false, .slice a n c] from fun a n c => by rw [he2]; exact hT2 R a n c))))
    rw [hQ, hR] at HD
    clear hl hm hst hsg hyp hbx hbz hp hq hd hbd hS hT hT2 hmo hQ hR he1 he2 hbb hV hA hS1 hA2
    go_enter Tryz.func80, Tryz.ntmps80
    go_wp2_with (first
      | (go_at_call 108; (with_reducible refine HD.out.mono ?_); rintro e w1 ⟨qa, qn, qc, ra, rn, rc, rfl, z1, z2, B1⟩; have x1 := HB.out.later B1; have c0 := x1.bx.c00; have c2 := x1.bx.c10;  skip)
      | (go_at_call 111; (with_reducible refine (HT.out _ _ _ _ z2').mono ?_); rintro e w3 ⟨rfl, B3⟩; have x3 := x2.later B3; have z13 := z1'.later B3; have z23 := z2'.later B3; obtain ⟨t0, t1, t2, t3, hr2⟩ := x3.bx.r2; obtain ⟨u0, u1, u2, u3, hr3⟩ := x3.r3; have hr3' : (w3.setRow (w.heap.size + 1 + 1) #[.bool bb, .slice qa qn qc]).heap[w.heap.size + 1 + 1 + 1]? = some (.cells #[.bool u0, .slice u1 u2 u3] 91 (0, 0)) := (Go.setRow_other w3 (w.heap.size + 1 + 1) _ _ (by omega)).trans hr3)
      | (go_at_call 111; (with_reducible refine (HS.out _ _ _ _ z1).mono ?_); rintro e w2 ⟨rfl, B2⟩; have x2 := x1.later B2; have z1' := z1.later B2; have z2' := z2.later B2)
      | (refine wpList_store_row rfl 91 _ _ rfl (w.heap.size + 1 + 1) _ rfl rfl 91 _ hr2 ?s1 ?s2 ?s3 ?_)
      | (refine wpList_store_row rfl 91 _ _ rfl (w.heap.size + 1 + 1 + 1) _ rfl rfl 91 _ hr3' ?s4 ?s5 ?s6 ?_))
    case s1 => kernel_rfl
    case s2 => rfl
    case s3 => exact two_cells _ _ _ _
    case s4 => kernel_rfl
    case s5 => rfl
    case s6 => exact two_cells _ _ _ _
    have hf2 := setRow_heap w3 (w.heap.size + 1 + 1) _ #[.bool bb, .slice qa qn qc] _ _ hr2
    have hf3 := setRow_heap (w3.setRow (w.heap.size + 1 + 1) #[.bool bb, .slice qa qn qc]) (w.heap.size + 1 + 1 + 1) _ #[.bool false, .slice ra rn rc] _ _ hr3'
    exact bodyPost_ret (results_two_rows rfl _ _ (w.heap.size + 1 + 1) (w.heap.size + 1 + 1 + 1) 91 91 #[.bool bb, .slice qa qn qc] #[.bool false, .slice ra rn rc] _ _ _ rfl rfl ((Go.setRow_other _ _ _ _ (by omega)).trans hf2) hf3 Tryz.underlying91 rfl (by kernel_rfl) (by kernel_rfl)) rfl ⟨qa, qn, qc, ra, rn, rc, by rw [HV.out.1, HV.out.2.2.2], by rw [HV.out.2.1]; exact (z13.setRow hr2 _).setRow hr3' _, by rw [HV.out.2.2.1]; exact (z23.setRow hr2 _).setRow hr3' _, below_row (below_row x3.bx.below (by omega) _) (by omega) _⟩
  | true =>
    have hb3 : (!bz) = bd := by simpa using hbd2
    clear hbd2
    rcases Nat.eq_zero_or_pos (p % q) with hr0 | hr0
    · have HL := Lib.hid (fun (W : World) a n c (h : IsZ W a n c (zs (G (p % q)))) => (show n = 0 from by have := len_pos h; omega))
      obtain ⟨Q, hQ⟩ : ∃ Q, p / q = Q := ⟨_, rfl⟩
      obtain ⟨R, hR⟩ : ∃ R, p % q = R := ⟨_, rfl⟩
      obtain ⟨he1, he2⟩ := hsg Q R (Or.inl ⟨.inr hr0, hQ.symm, hR.symm⟩)
      obtain ⟨bb, hbb⟩ := hS Q
      obtain ⟨hV, hA, hS1⟩ := hbb _ he1
      have hA2 : (x % y).natAbs = R := by rw [he2]; simp
      have HS := Lib.hid hS1
      have HT := Lib.hid (hT R)
      have HV := Lib.hid (And.intro hV (And.intro hA (And.intro hA2 (show ∀ a n c, numV (x % y) a n c = .agg #[.bool false, .slice a n c] from fun a n c => by rw [he2]; exact hT2 R a n c))))
      rw [hQ, hR] at HD
      rw [hR] at HL
      clear hl hm hst hsg hyp hbx hbz hp hq hd hbd hS hT hT2 hmo hQ hR he1 he2 hbb hV hA hS1 hA2 hr0
      go_enter Tryz.func80, Tryz.ntmps80
      go_wp2_with (first
        | (go_at_call 108; (with_reducible refine HD.out.mono ?_); rintro e w1 ⟨qa, qn, qc, ra, rn, rc, rfl, z1, z2, B1⟩; have x1 := HB.out.later B1; have c0 := x1.bx.c00; have c2 := x1.bx.c10;  obtain rfl : rn = 0 := HL.out _ _ _ _ z2)
        | (go_at_call 111; (with_reducible refine (HT.out _ _ _ _ z2').mono ?_); rintro e w3 ⟨rfl, B3⟩; have x3 := x2.later B3; have z13 := z1'.later B3; have z23 := z2'.later B3; obtain ⟨t0, t1, t2, t3, hr2⟩ := x3.bx.r2; obtain ⟨u0, u1, u2, u3, hr3⟩ := x3.r3; have hr3' : (w3.setRow (w.heap.size + 1 + 1) #[.bool bb, .slice qa qn qc]).heap[w.heap.size + 1 + 1 + 1]? = some (.cells #[.bool u0, .slice u1 u2 u3] 91 (0, 0)) := (Go.setRow_other w3 (w.heap.size + 1 + 1) _ _ (by omega)).trans hr3)
        | (go_at_call 111; (with_reducible refine (HS.out _ _ _ _ z1).mono ?_); rintro e w2 ⟨rfl, B2⟩; have x2 := x1.later B2; have z1' := z1.later B2; have z2' := z2.later B2)
        | (refine wpList_store_row rfl 91 _ _ rfl (w.heap.size + 1 + 1) _ rfl rfl 91 _ hr2 ?s1 ?s2 ?s3 ?_)
        | (refine wpList_store_row rfl 91 _ _ rfl (w.heap.size + 1 + 1 + 1) _ rfl rfl 91 _ hr3' ?s4 ?s5 ?s6 ?_))
      case s1 => kernel_rfl
      case s2 => rfl
      case s3 => exact two_cells _ _ _ _
      case s4 => kernel_rfl
      case s5 => rfl
      case s6 => exact two_cells _ _ _ _
      have hf2 := setRow_heap w3 (w.heap.size + 1 + 1) _ #[.bool bb, .slice qa qn qc] _ _ hr2
      have hf3 := setRow_heap (w3.setRow (w.heap.size + 1 + 1) #[.bool bb, .slice qa qn qc]) (w.heap.size + 1 + 1 + 1) _ #[.bool false, .slice ra 0 rc] _ _ hr3'
      exact bodyPost_ret (results_two_rows rfl _ _ (w.heap.size + 1 + 1) (w.heap.size + 1 + 1 + 1) 91 91 #[.bool bb, .slice qa qn qc] #[.bool false, .slice ra 0 rc] _ _ _ rfl rfl ((Go.setRow_other _ _ _ _ (by omega)).trans hf2) hf3 Tryz.underlying91 rfl (by kernel_rfl) (by kernel_rfl)) rfl ⟨qa, qn, qc, ra, 0, rc, by rw [HV.out.1, HV.out.2.2.2], by rw [HV.out.2.1]; exact (z13.setRow hr2 _).setRow hr3' _, by rw [HV.out.2.2.1]; exact (z23.setRow hr2 _).setRow hr3' _, below_row (below_row x3.bx.below (by omega) _) (by omega) _⟩
    · have HL := Lib.hid (fun (W : World) a n c (h : IsZ W a n c (zs (G (p % q)))) => (show 0 < n from by have := len_pos h; omega))
      obtain ⟨Q, hQ⟩ : ∃ Q, p / q + 1 = Q := ⟨_, rfl⟩
      obtain ⟨R, hR⟩ : ∃ R, q - p % q = R := ⟨_, rfl⟩
      obtain ⟨he1, he2⟩ := hsg Q R (Or.inr ⟨⟨rfl, hr0⟩, hQ.symm, hR.symm⟩)
      obtain ⟨bb, hbb⟩ := hS Q
      obtain ⟨hV, hA, hS1⟩ := hbb _ he1
      have hA2 : (x % y).natAbs = R := by rw [he2]; simp
      have HS := Lib.hid hS1
      have HT := Lib.hid (hT R)
      have HV := Lib.hid (And.intro hV (And.intro hA (And.intro hA2 (show ∀ a n c, numV (x % y) a n c = .agg #[.bool false, .slice a n c] from fun a n c => by rw [he2]; exact hT2 R a n c))))
      have HQ := Lib.hid (fun (W : World) (qa : Option Addr) (qn qc : Nat) (h : IsZ W qa qn qc (zs (G (p / q)))) (h400 : qn ≤ 400) => (show Calls Tryz.prog 109 #[.slice qa qn qc, .slice (some ⟨W.heap.size, 0, none⟩) 1 1] (W.alloc (.cells #[.int .i64 1] 3)).drew (fun e w' => ∃ a' n' c', e = .returned (.slice (some a') n' c') ∧ IsZ w' (some a') n' c' (zs (G Q)) ∧ Below W.heap.size W w') from by
        have hB : Below W.heap.size W (W.alloc (.cells #[.int .i64 1] 3)).drew := ((Below.refl _ _).alloc (Nat.le_refl _) _).drew
        have := plus_any qa qn qc (G (p / q)) (some ⟨W.heap.size, 0, none⟩) 1 1 [1] (p / q) 1 (W.alloc (.cells #[.int .i64 1] 3)).drew (h.later hB) ((one_isZ W 1).later (Below.refl _ _).drew) (G_lt _) (fun z hz => by rw [List.mem_singleton.1 hz]; omega) (V_G _) (V_one 1) (by omega) (by omega)
        rw [hQ] at this
        exact this.mono (fun e w' ⟨a', n', c', he, hz, hb⟩ => ⟨a', n', c', he, hz, below_on hB hb hB.size⟩)))
      have HR := Lib.hid (fun (W : World) (ra : Option Addr) (rn rc : Nat) (hb : Bw w W true a n c bz b k d) (h : IsZ W ra rn rc (zs (G (p % q)))) => (show Calls Tryz.prog 110 #[.slice b k d, .slice ra rn rc] W (fun e w' => ∃ a' n' c', e = .returned (.slice (some a') n' c') ∧ IsZ w' (some a') n' c' (zs (G R)) ∧ Below W.heap.size W w') from by
        have hmb := hm.later hb.bx.below
        have := minus_any b k d (G q) ra rn rc (G (p % q)) q (p % q) W hmb h (G_lt _) (G_lt _) (V_G _) (V_G _) (by omega) (by rw [← h.glen, ← hmb.glen]; exact dgs_length_mono (by omega)) (by omega)
        rw [hR] at this
        exact this))
      have HN := Lib.hid (fun (W : World) (qa : Option Addr) (qn qc : Nat) (h : IsZ W qa qn qc (zs (G (p / q)))) => (show qn ≤ 400 from by rw [← h.glen]; exact Nat.le_trans (dgs_length_mono (Nat.div_le_self p q)) (by rw [show (dgs 9998 p).length = n from hl.glen]; exact hn)))
      clear hl hm hst hsg hyp hbx hbz hp hq hd hbd hS hT hT2 hmo hQ hR he1 he2 hbb hV hA hS1 hA2 hr0
      go_enter Tryz.func80, Tryz.ntmps80
      go_wp2_with (go_at_call 108; (with_reducible refine HD.out.mono ?_); rintro e w1 ⟨pa, pn, pc, sa, sn, sc, rfl, y1, y2, B1⟩; have xx := HB.out.later B1; have c0 := xx.bx.c00; have hsn := HL.out _ _ _ _ y2; have hdn : decide (0 < sn) = true := decide_eq_true hsn; have hdi : decide (0 < (sn : Int)) = true := decide_eq_true (by omega))
      have h400 := HN.out _ _ _ _ y1
      have k1 := xx.bx.c11
      clear hsn hdn hdi
      go_region_held3 (fun w' => w'.cell? ⟨w.heap.size + 1, 1, none⟩ = some (.slice b k d)) (first | go_keep)
        (first
          | (go_at_call 109; (with_reducible refine (HQ.out _ _ _ _ y1 h400).mono ?_); rintro e w5 ⟨q5, n5, c5, rfl, z5, B5⟩; have x5 := xx.later B5; have y5 := y2.later B5; have k5 := x5.bx.c11)
          | (go_at_call 110; (with_reducible refine (HR.out _ _ _ _ x5 y5).mono ?_); rintro e w6 ⟨q6, n6, c6, rfl, z6, B6⟩; have x6 := x5.later B6; have z56 := z5.later B6; have k6 := x6.bx.c11))
      have d0 := x6.bx.c00
      have d2 := x6.bx.c10
      clear k1 k5 k6
      go_wp2_with (first
        | (go_at_call 111; (with_reducible refine (HT.out _ _ _ _ z2').mono ?_); rintro e w3 ⟨rfl, B3⟩; have x3 := x2.later B3; have z13 := z1'.later B3; have z23 := z2'.later B3; obtain ⟨t0, t1, t2, t3, hr2⟩ := x3.bx.r2; obtain ⟨u0, u1, u2, u3, hr3⟩ := x3.r3; have hr3' : (w3.setRow (w.heap.size + 1 + 1) #[.bool bb, .slice (some q5) n5 c5]).heap[w.heap.size + 1 + 1 + 1]? = some (.cells #[.bool u0, .slice u1 u2 u3] 91 (0, 0)) := (Go.setRow_other w3 (w.heap.size + 1 + 1) _ _ (by omega)).trans hr3)
        | (go_at_call 111; (with_reducible refine (HS.out _ _ _ _ z56).mono ?_); rintro e w2 ⟨rfl, B2⟩; have x2 := x6.later B2; have z1' := z56.later B2; have z2' := z6.later B2)
        | (refine wpList_store_row rfl 91 _ _ rfl (w.heap.size + 1 + 1) _ rfl rfl 91 _ hr2 ?s1 ?s2 ?s3 ?_)
        | (refine wpList_store_row rfl 91 _ _ rfl (w.heap.size + 1 + 1 + 1) _ rfl rfl 91 _ hr3' ?s4 ?s5 ?s6 ?_))
      case s1 => kernel_rfl
      case s2 => rfl
      case s3 => exact two_cells _ _ _ _
      case s4 => kernel_rfl
      case s5 => rfl
      case s6 => exact two_cells _ _ _ _
      have hf2 := setRow_heap w3 (w.heap.size + 1 + 1) _ #[.bool bb, .slice (some q5) n5 c5] _ _ hr2
      have hf3 := setRow_heap (w3.setRow (w.heap.size + 1 + 1) #[.bool bb, .slice (some q5) n5 c5]) (w.heap.size + 1 + 1 + 1) _ #[.bool false, .slice (some q6) n6 c6] _ _ hr3'
      exact bodyPost_ret (results_two_rows rfl _ _ (w.heap.size + 1 + 1) (w.heap.size + 1 + 1 + 1) 91 91 #[.bool bb, .slice (some q5) n5 c5] #[.bool false, .slice (some q6) n6 c6] _ _ _ rfl rfl ((Go.setRow_other _ _ _ _ (by omega)).trans hf2) hf3 Tryz.underlying91 rfl (by kernel_rfl) (by kernel_rfl)) rfl ⟨some q5, n5, c5, some q6, n6, c6, by rw [HV.out.1, HV.out.2.2.2], by rw [HV.out.2.1]; exact (z13.setRow hr2 _).setRow hr3' _, by rw [HV.out.2.2.1]; exact (z23.setRow hr2 _).setRow hr3' _, below_row (below_row x3.bx.below (by omega) _) (by omega) _⟩

end Go.Proofs.YtjkklgpbblkhaaaGreatDoor

/-
  Layer 3: which strings are integers.
-/
namespace Go.Proofs.YtjkklgpbblkhaaaGreatDoor
open Go.RowKit Bs Ig

set_option maxRecDepth 100000 in
set_option maxHeartbeats 1000000 in
theorem Valid_any (l : List UInt8) (w : World) :
    Calls Tryz.prog 78 #[.string (bs l)] w fun e w' => ∃ r, e = .returned (.bool r) ∧ (r = true ↔ IsI l) ∧ w' = w := by
  have hc := Tryz.strings_TrimPrefix (bs l) ⟨#[45]⟩
  rw [show (bs l).data.toList = l from rfl, show (ByteArray.mk #[45]).data.toList = [45] from rfl, trim45] at hc
  have hII := isI_iff l
  obtain ⟨b, hb⟩ : ∃ b, body l = b := ⟨_, rfl⟩
  rw [hb] at hc hII
  have hcs : ∀ W, Calls Tryz.prog 105 #[.string (bs l), .string ⟨#[45]⟩] W fun e w' => e = .returned (.string (bs b)) ∧ w' = W := hc
  have HC := Lib.hid hcs
  have hsz : (bs b).size = b.length := bs_size b
  clear hc hcs
  obtain ⟨S, hS⟩ : ∃ S, bs b = S := ⟨_, rfl⟩
  obtain ⟨T, hT⟩ : ∃ T, bs l = T := ⟨_, rfl⟩
  rw [hS, hT] at HC
  rw [hS] at hsz
  rw [hT]
  have h48 : l = [48] → b = [48] := fun h => by rw [← hb, h]; rfl
  have hget : ∀ (i : Nat) (h : i < S.size), (S[i]'h) = b.getD i 0 := fun i h => by
    subst hS
    rw [List.getD_eq_getElem?_getD, List.getElem?_eq_getElem (show i < b.length by omega)]
    rfl
  have HI := Lib.hid hII
  have HG := Lib.hid hget
  have H48 := Lib.hid h48
  have HT := Lib.hid hT
  clear hII hget h48 hb hS hT
  rcases Nat.eq_zero_or_pos b.length with h0 | h0
  · have hd0 : ((b.length : Int) == 0) = true := by rw [h0]; rfl
    go_enter Tryz.func78, Tryz.ntmps78
    go_wp2_with (first | (go_at_call 105; refine (HC.out _).mono ?_; rintro e w1 ⟨rfl, rfl⟩))
    go_ret
    exact ⟨false, rfl, ⟨fun h => (by cases h), fun h => by
      rcases HI.out.1 h with h | h
      · rw [H48.out h] at h0; cases h0
      · omega⟩, rfl⟩
  have hd0 : ((b.length : Int) == 0) = false := beq_false_of_ne (by omega)
  rcases Nat.lt_or_ge 200 b.length with h2 | h2
  · have hd2 : decide (200 < (b.length : Int)) = true := decide_eq_true (by omega)
    go_enter Tryz.func78, Tryz.ntmps78
    go_wp2_with (first | (go_at_call 105; refine (HC.out _).mono ?_; rintro e w1 ⟨rfl, rfl⟩))
    go_ret
    exact ⟨false, rfl, ⟨fun h => (by cases h), fun h => by
      rcases HI.out.1 h with h | h
      · rw [H48.out h] at h2; simp at h2
      · omega⟩, rfl⟩
  have hd2 : decide (200 < (b.length : Int)) = false := decide_eq_false (by omega)
  have hi0 : 0 < S.size := by omega
  obtain ⟨k0, hk0⟩ : ∃ k0, (S[0]'hi0).toNat = k0 := ⟨_, rfl⟩
  have Hk0 := Lib.hid hk0
  rcases Decidable.em (k0 = 48) with h3 | h3
  · subst h3
    go_enter Tryz.func78, Tryz.ntmps78
    go_wp2_with (first | (go_at_call 105; refine (HC.out _).mono ?_; rintro e w1 ⟨rfl, rfl⟩))
    go_ret
    refine ⟨_, rfl, ⟨fun h => HI.out.2 (.inl ?_), fun h => ?_⟩, rfl⟩
    · rw [← HT.out, bs_toList] at h; exact eq_of_beq h
    · rw [← HT.out, bs_toList]
      rcases HI.out.1 h with h | h
      · rw [h]; rfl
      · exfalso
        refine h.2.2.1 ?_
        rw [← HG.out 0 hi0]
        exact byte_ext Hk0.out
  · have hd3 : ((k0 : Int) == 48) = false := beq_false_of_ne (by omega)
    have HI3 := Lib.hid (show IsI l ↔ ∀ i, i < b.length → isDig (b.getD i 0) from by
      have hne : b.getD 0 0 ≠ 48 := by
        rw [← HG.out 0 hi0]; intro h; rw [h] at hk0; exact h3 hk0.symm
      constructor
      · intro h
        rcases HI.out.1 h with h | h
        · rw [H48.out h] at hne; exact absurd rfl hne
        · exact h.2.2.2
      · intro h; exact HI.out.2 (.inr ⟨h0, h2, hne, h⟩))
    go_enter Tryz.func78, Tryz.ntmps78
    go_wp2_with (first | (go_at_call 105; refine (HC.out _).mono ?_; rintro e w1 ⟨rfl, rfl⟩))
    go_loopw [22] (fun u wr => ∃ i : Nat, i ≤ b.length ∧ u = .int .i64 (i : Int) ∧ (∀ j, j < i → isDig (b.getD j 0)) ∧ w1 = wr) (fun u _ => (b.length - intOf u).toNat)
    case atStart => exact ⟨0, Nat.zero_le _, rfl, fun j h => absurd h (Nat.not_lt_zero _), rfl⟩
    case round =>
      obtain ⟨i, hi, rfl, hdg, rfl⟩ := hrel
      have HD := Lib.hid hdg
      clear hdg
      rcases Nat.lt_or_ge i b.length with hlt | hge
      · have hiS : i < S.size := by omega
        obtain ⟨k, hk⟩ : ∃ k, (S[i]'hiS).toNat = k := ⟨_, rfl⟩
        have Hk := Lib.hid hk
        rcases Decidable.em (48 ≤ k ∧ k ≤ 57) with hkd | hkd
        · have e1 : decide ((k : Int) < 48) = false := decide_eq_false (by omega)
          have e2 : decide (57 < (k : Int)) = false := decide_eq_false (by omega)
          go_wp2_with fail
          go_roundw
          case rel => exact ⟨i + 1, by omega, by go_num, fun j hj => by
            rcases Nat.lt_or_ge j i with h | h
            · exact HD.out j h
            · obtain rfl : j = i := by omega
              rw [← HG.out j hiS]; unfold isDig; rw [Hk.out]; exact hkd, trivial⟩
          case measure => simp [intOf]; omega
        · have hno : ¬ IsI l := fun h => by
            have := HI3.out.1 h i hlt
            rw [← HG.out i hiS] at this; unfold isDig at this; rw [hk] at this; exact hkd this
          have HN := Lib.hid hno
          clear hno
          rcases Nat.lt_or_ge k 48 with hk4 | hk4
          · have e1 : decide ((k : Int) < 48) = true := decide_eq_true (by omega)
            go_wp2_with fail
            go_ret
            exact ⟨false, rfl, ⟨fun h => (by cases h), fun h => (HN.out h).elim⟩, rfl⟩
          · have e1 : decide ((k : Int) < 48) = false := decide_eq_false (by omega)
            have e2 : decide (57 < (k : Int)) = true := decide_eq_true (by omega)
            go_wp2_with fail
            go_ret
            exact ⟨false, rfl, ⟨fun h => (by cases h), fun h => (HN.out h).elim⟩, rfl⟩
      · obtain rfl : i = b.length := by omega
        go_wp2_with fail
        go_ret
        exact ⟨true, rfl, ⟨fun _ => HI3.out.2 HD.out, fun _ => rfl⟩, rfl⟩

end Go.Proofs.YtjkklgpbblkhaaaGreatDoor

/-
  Layer 3: the exported functions of two integers.
-/
namespace Go.Proofs.YtjkklgpbblkhaaaGreatDoor
open Go.RowKit Bs Ig

theorem isI_itoa {z : Int} (hz : z.natAbs < big) : IsI (Lib.itoa z) := ⟨z, hz, rfl⟩
theorem Valid_yes (z : Int) (hz : z.natAbs < big) (w : World) :
    Calls Tryz.prog 78 #[.string (bs (Lib.itoa z))] w fun e w' => e = .returned (.bool true) ∧ w' = w :=
  (Valid_any (Lib.itoa z) w).mono fun e w' ⟨r, he, hr, hw⟩ => ⟨by rw [he, hr.2 (isI_itoa hz)], hw⟩
theorem Valid_no (l : List UInt8) (hl : ¬ IsI l) (w : World) :
    Calls Tryz.prog 78 #[.string (bs l)] w fun e w' => e = .returned (.bool false) ∧ w' = w :=
  (Valid_any l w).mono fun e w' ⟨r, he, hr, hw⟩ => ⟨by rw [he]; cases r with | false => rfl | true => exact (hl (hr.1 rfl)).elim, hw⟩

theorem len_z {W : World} {a : Option Addr} {n c x : Nat} (h : IsZ W a n c (zs (G x))) (hx : x < big * big) : n ≤ 100000 := by
  have := h.gle (m := 100) (by rw [big_pow, ← Nat.pow_add] at hx; exact hx)
  omega

set_option maxRecDepth 100000 in
set_option maxHeartbeats 1000000 in
theorem calc_add (x y : Int) (hx : x.natAbs < big) (hy : y.natAbs < big) (hz : (x + y).natAbs < big * big) (w : World) (ht : TabP w) :
    Calls Tryz.prog 93 #[.string (bs (Lib.itoa x)), .string (bs (Lib.itoa y)), .func (.func 98) #[] #[]] w fun e w' => e = .returned (.tuple #[.string (bs (txt (x + y))), .int .i64 (err (x + y))]) ∧ Below w.heap.size w w' := by
  have HV1 := Lib.hid (Valid_yes x hx)
  have HV2 := Lib.hid (Valid_yes y hy)
  have HN1 := Lib.hid (numberOf_any x hx)
  have HN2 := Lib.hid (numberOf_any y hy)
  have HR := Lib.hid (fun (W : World) (a : Option Addr) (n c : Nat) (h : IsZ W a n c (zs (G (x + y).natAbs))) (hb : Below w.heap.size w W) => valid_any (x + y) a n c W h (len_z h hz) (ht.later hb))
  have HK := Lib.hid (nplus_any x y)
  unfold numV at HN1 HN2 HR HK
  obtain ⟨bx, hbx⟩ : ∃ bx, decide (x < 0) = bx := ⟨_, rfl⟩
  obtain ⟨bz, hbz⟩ : ∃ bz, decide (y < 0) = bz := ⟨_, rfl⟩
  obtain ⟨br, hbr⟩ : ∃ br, decide ((x + y) < 0) = br := ⟨_, rfl⟩
  simp only [hbx, hbz, hbr] at HN1 HN2 HR HK
  generalize bs (Lib.itoa x) = S at *
  generalize bs (Lib.itoa y) = T at *
  generalize bs (txt (x + y)) = U at *
  generalize err (x + y) = er at *
  clear hx hy hz ht hbx hbz hbr
  go_enter Tryz.func93, Tryz.ntmps93
  go_wp2_with (first
    | (go_at_call 78; (with_reducible refine (HV1.out _).mono ?_); rintro e w1 ⟨rfl, rfl⟩)
    | (go_at_call 78; (with_reducible refine (HV2.out _).mono ?_); rintro e w1 ⟨rfl, rfl⟩)
    | (go_at_call 79; (with_reducible refine (HN2.out _).mono ?_); rintro e w3 ⟨a2, n2, c2, rfl, z2, l2, B2⟩; have z12 := z1.later B2; have B12 := below_on B1 B2 B1.size)
    | (go_at_call 79; (with_reducible refine (HN1.out _).mono ?_); rintro e w2 ⟨a1, n1, c1, rfl, z1, l1, B1⟩)
    | (go_at_call 98; (with_reducible refine (HK.out _ _ _ _ _ _ _ z12 z2 (by omega) (by omega)).mono ?_); rintro e w4 ⟨a3, n3, c3, rfl, z3, B3⟩; have B23 := below_on B12 B3 B12.size)
    | (go_at_call 81; (with_reducible refine (HR.out _ _ _ _ z3 B23).mono ?_); rintro e w5 ⟨rfl, B4⟩))
  go_ret2
  exact ⟨rfl, below_on B23 B4 B23.size⟩

set_option maxRecDepth 100000 in
set_option maxHeartbeats 1000000 in
theorem calc_sub (x y : Int) (hx : x.natAbs < big) (hy : y.natAbs < big) (hz : (x - y).natAbs < big * big) (w : World) (ht : TabP w) :
    Calls Tryz.prog 93 #[.string (bs (Lib.itoa x)), .string (bs (Lib.itoa y)), .func (.func 103) #[] #[]] w fun e w' => e = .returned (.tuple #[.string (bs (txt (x - y))), .int .i64 (err (x - y))]) ∧ Below w.heap.size w w' := by
  have HV1 := Lib.hid (Valid_yes x hx)
  have HV2 := Lib.hid (Valid_yes y hy)
  have HN1 := Lib.hid (numberOf_any x hx)
  have HN2 := Lib.hid (numberOf_any y hy)
  have HR := Lib.hid (fun (W : World) (a : Option Addr) (n c : Nat) (h : IsZ W a n c (zs (G (x - y).natAbs))) (hb : Below w.heap.size w W) => valid_any (x - y) a n c W h (len_z h hz) (ht.later hb))
  have HK := Lib.hid (nminus_any x y)
  unfold numV at HN1 HN2 HR HK
  obtain ⟨bx, hbx⟩ : ∃ bx, decide (x < 0) = bx := ⟨_, rfl⟩
  obtain ⟨bz, hbz⟩ : ∃ bz, decide (y < 0) = bz := ⟨_, rfl⟩
  obtain ⟨br, hbr⟩ : ∃ br, decide ((x - y) < 0) = br := ⟨_, rfl⟩
  simp only [hbx, hbz, hbr] at HN1 HN2 HR HK
  generalize bs (Lib.itoa x) = S at *
  generalize bs (Lib.itoa y) = T at *
  generalize bs (txt (x - y)) = U at *
  generalize err (x - y) = er at *
  clear hx hy hz ht hbx hbz hbr
  go_enter Tryz.func93, Tryz.ntmps93
  go_wp2_with (first
    | (go_at_call 78; (with_reducible refine (HV1.out _).mono ?_); rintro e w1 ⟨rfl, rfl⟩)
    | (go_at_call 78; (with_reducible refine (HV2.out _).mono ?_); rintro e w1 ⟨rfl, rfl⟩)
    | (go_at_call 79; (with_reducible refine (HN2.out _).mono ?_); rintro e w3 ⟨a2, n2, c2, rfl, z2, l2, B2⟩; have z12 := z1.later B2; have B12 := below_on B1 B2 B1.size)
    | (go_at_call 79; (with_reducible refine (HN1.out _).mono ?_); rintro e w2 ⟨a1, n1, c1, rfl, z1, l1, B1⟩)
    | (go_at_call 103; (with_reducible refine (HK.out _ _ _ _ _ _ _ z12 z2 (by omega) (by omega)).mono ?_); rintro e w4 ⟨a3, n3, c3, rfl, z3, B3⟩; have B23 := below_on B12 B3 B12.size)
    | (go_at_call 81; (with_reducible refine (HR.out _ _ _ _ z3 B23).mono ?_); rintro e w5 ⟨rfl, B4⟩))
  go_ret2
  exact ⟨rfl, below_on B23 B4 B23.size⟩

set_option maxRecDepth 100000 in
set_option maxHeartbeats 1000000 in
theorem calc_mul (x y : Int) (hx : x.natAbs < big) (hy : y.natAbs < big) (hz : (x * y).natAbs < big * big) (w : World) (ht : TabP w) :
    Calls Tryz.prog 93 #[.string (bs (Lib.itoa x)), .string (bs (Lib.itoa y)), .func (.func 101) #[] #[]] w fun e w' => e = .returned (.tuple #[.string (bs (txt (x * y))), .int .i64 (err (x * y))]) ∧ Below w.heap.size w w' := by
  have HV1 := Lib.hid (Valid_yes x hx)
  have HV2 := Lib.hid (Valid_yes y hy)
  have HN1 := Lib.hid (numberOf_any x hx)
  have HN2 := Lib.hid (numberOf_any y hy)
  have HR := Lib.hid (fun (W : World) (a : Option Addr) (n c : Nat) (h : IsZ W a n c (zs (G (x * y).natAbs))) (hb : Below w.heap.size w W) => valid_any (x * y) a n c W h (len_z h hz) (ht.later hb))
  have HK := Lib.hid (ntimes_any x y)
  unfold numV at HN1 HN2 HR HK
  obtain ⟨bx, hbx⟩ : ∃ bx, decide (x < 0) = bx := ⟨_, rfl⟩
  obtain ⟨bz, hbz⟩ : ∃ bz, decide (y < 0) = bz := ⟨_, rfl⟩
  obtain ⟨br, hbr⟩ : ∃ br, decide ((x * y) < 0) = br := ⟨_, rfl⟩
  simp only [hbx, hbz, hbr] at HN1 HN2 HR HK
  generalize bs (Lib.itoa x) = S at *
  generalize bs (Lib.itoa y) = T at *
  generalize bs (txt (x * y)) = U at *
  generalize err (x * y) = er at *
  clear hx hy hz ht hbx hbz hbr
  go_enter Tryz.func93, Tryz.ntmps93
  go_wp2_with (first
    | (go_at_call 78; (with_reducible refine (HV1.out _).mono ?_); rintro e w1 ⟨rfl, rfl⟩)
    | (go_at_call 78; (with_reducible refine (HV2.out _).mono ?_); rintro e w1 ⟨rfl, rfl⟩)
    | (go_at_call 79; (with_reducible refine (HN2.out _).mono ?_); rintro e w3 ⟨a2, n2, c2, rfl, z2, l2, B2⟩; have z12 := z1.later B2; have B12 := below_on B1 B2 B1.size)
    | (go_at_call 79; (with_reducible refine (HN1.out _).mono ?_); rintro e w2 ⟨a1, n1, c1, rfl, z1, l1, B1⟩)
    | (go_at_call 101; (with_reducible refine (HK.out _ _ _ _ _ _ _ z12 z2 (by omega) (by omega)).mono ?_); rintro e w4 ⟨a3, n3, c3, rfl, z3, B3⟩; have B23 := below_on B12 B3 B12.size)
    | (go_at_call 81; (with_reducible refine (HR.out _ _ _ _ z3 B23).mono ?_); rintro e w5 ⟨rfl, B4⟩))
  go_ret2
  exact ⟨rfl, below_on B23 B4 B23.size⟩

set_option maxRecDepth 100000 in
set_option maxHeartbeats 1000000 in
theorem calc_gcd (x y : Int) (hx : x.natAbs < big) (hy : y.natAbs < big) (hz : (Int.gcd x y) < big * big) (w : World) (ht : TabP w) :
    Calls Tryz.prog 93 #[.string (bs (Lib.itoa x)), .string (bs (Lib.itoa y)), .func (.func 94) #[] #[]] w fun e w' => e = .returned (.tuple #[.string (bs (txt ((Int.gcd x y : Nat) : Int))), .int .i64 (err ((Int.gcd x y : Nat) : Int))]) ∧ Below w.heap.size w w' := by
  have HV1 := Lib.hid (Valid_yes x hx)
  have HV2 := Lib.hid (Valid_yes y hy)
  have HN1 := Lib.hid (numberOf_any x hx)
  have HN2 := Lib.hid (numberOf_any y hy)
  have HR := Lib.hid (fun (W : World) (a : Option Addr) (n c : Nat) (h : IsZ W a n c (zs (G (Int.gcd x y)))) (hb : Below w.heap.size w W) => valid_any ((Int.gcd x y : Nat) : Int) a n c W (by rw [Int.natAbs_natCast]; exact h) (len_z h hz) (ht.later hb))
  have HK := Lib.hid (ngcd_any x y)
  unfold numV at HN1 HN2 HR HK
  obtain ⟨bx, hbx⟩ : ∃ bx, decide (x < 0) = bx := ⟨_, rfl⟩
  obtain ⟨bz, hbz⟩ : ∃ bz, decide (y < 0) = bz := ⟨_, rfl⟩
  obtain ⟨br, hbr⟩ : ∃ br, decide (((Int.gcd x y : Nat) : Int) < 0) = br := ⟨_, rfl⟩
  simp only [hbx, hbz, hbr] at HN1 HN2 HR HK
  generalize bs (Lib.itoa x) = S at *
  generalize bs (Lib.itoa y) = T at *
  generalize bs (txt ((Int.gcd x y : Nat) : Int)) = U at *
  generalize err ((Int.gcd x y : Nat) : Int) = er at *
  clear hx hy hz ht hbx hbz hbr
  go_enter Tryz.func93, Tryz.ntmps93
  go_wp2_with (first
    | (go_at_call 78; (with_reducible refine (HV1.out _).mono ?_); rintro e w1 ⟨rfl, rfl⟩)
    | (go_at_call 78; (with_reducible refine (HV2.out _).mono ?_); rintro e w1 ⟨rfl, rfl⟩)
    | (go_at_call 79; (with_reducible refine (HN2.out _).mono ?_); rintro e w3 ⟨a2, n2, c2, rfl, z2, l2, B2⟩; have z12 := z1.later B2; have B12 := below_on B1 B2 B1.size)
    | (go_at_call 79; (with_reducible refine (HN1.out _).mono ?_); rintro e w2 ⟨a1, n1, c1, rfl, z1, l1, B1⟩)
    | (go_at_call 94; (with_reducible refine (HK.out _ _ _ _ _ _ _ z12 z2 (by omega) (by omega)).mono ?_); rintro e w4 ⟨a3, n3, c3, rfl, z3, B3⟩; have B23 := below_on B12 B3 B12.size)
    | (go_at_call 81; (with_reducible refine (HR.out _ _ _ _ z3 B23).mono ?_); rintro e w5 ⟨rfl, B4⟩))
  go_ret2
  exact ⟨rfl, below_on B23 B4 B23.size⟩

set_option maxRecDepth 100000 in
set_option maxHeartbeats 1000000 in
theorem calculate_no (l : List UInt8) (hl : ¬ IsI l) (T : ByteArray) (v : Value) (w : World) :
    Calls Tryz.prog 93 #[.string (bs l), .string T, v] w fun e w' => e = .returned (.tuple #[.string (bs []), .int .i64 30]) ∧ Below w.heap.size w w' := by
  have HV1 := Lib.hid (Valid_no l hl)
  generalize bs l = S at *
  clear hl
  go_enter Tryz.func93, Tryz.ntmps93
  go_wp2_with (first
    | (go_at_call 78; (with_reducible refine (HV1.out _).mono ?_); rintro e w1 ⟨rfl, rfl⟩))
  go_ret2
  exact ⟨rfl, Below.refl _ _⟩

end Go.Proofs.YtjkklgpbblkhaaaGreatDoor

/-
  Layer 3: the exported functions.
-/
namespace Go.Proofs.YtjkklgpbblkhaaaGreatDoor
open Go.RowKit Bs Ig

set_option maxRecDepth 100000 in
set_option maxHeartbeats 1000000 in
theorem Add_any (x y : Int) (hx : x.natAbs < big) (hy : y.natAbs < big) (hz : (x + y).natAbs < big * big) (w : World) (ht : TabP w) :
    Calls Tryz.prog 67 #[.string (bs (Lib.itoa x)), .string (bs (Lib.itoa y))] w fun e w' => e = .returned (.tuple #[.string (bs (txt (x + y))), .int .i64 (err (x + y))]) ∧ Below w.heap.size w w' := by
  have HC := Lib.hid (fun (W : World) (hb : Below w.heap.size w W) => calc_add x y hx hy hz W (ht.later hb))
  generalize bs (Lib.itoa x) = S at *
  generalize bs (Lib.itoa y) = T at *
  generalize bs (txt (x + y)) = U at *
  generalize err (x + y) = er at *
  clear hx hy hz ht
  go_enter Tryz.func67, Tryz.ntmps67
  go_wp2_with (go_at_call 93; (with_reducible refine (HC.out _ (Below.refl _ _)).mono ?_); rintro e w1 ⟨rfl, B1⟩)
  go_ret2
  exact ⟨rfl, B1⟩

set_option maxRecDepth 100000 in
set_option maxHeartbeats 1000000 in
theorem Add_no (l : List UInt8) (hl : ¬ IsI l) (T : ByteArray) (w : World) :
    Calls Tryz.prog 67 #[.string (bs l), .string T] w fun e w' => e = .returned (.tuple #[.string (bs []), .int .i64 30]) ∧ Below w.heap.size w w' := by
  have HC := Lib.hid (fun (W : World) v => calculate_no l hl T v W)
  generalize bs l = S at *
  generalize bs [] = U at *
  clear hl
  go_enter Tryz.func67, Tryz.ntmps67
  go_wp2_with (go_at_call 93; (with_reducible refine (HC.out _ _).mono ?_); rintro e w1 ⟨rfl, B1⟩)
  go_ret2
  exact ⟨rfl, B1⟩

set_option maxRecDepth 100000 in
set_option maxHeartbeats 1000000 in
theorem Sub_any (x y : Int) (hx : x.natAbs < big) (hy : y.natAbs < big) (hz : (x - y).natAbs < big * big) (w : World) (ht : TabP w) :
    Calls Tryz.prog 72 #[.string (bs (Lib.itoa x)), .string (bs (Lib.itoa y))] w fun e w' => e = .returned (.tuple #[.string (bs (txt (x - y))), .int .i64 (err (x - y))]) ∧ Below w.heap.size w w' := by
  have HC := Lib.hid (fun (W : World) (hb : Below w.heap.size w W) => calc_sub x y hx hy hz W (ht.later hb))
  generalize bs (Lib.itoa x) = S at *
  generalize bs (Lib.itoa y) = T at *
  generalize bs (txt (x - y)) = U at *
  generalize err (x - y) = er at *
  clear hx hy hz ht
  go_enter Tryz.func72, Tryz.ntmps72
  go_wp2_with (go_at_call 93; (with_reducible refine (HC.out _ (Below.refl _ _)).mono ?_); rintro e w1 ⟨rfl, B1⟩)
  go_ret2
  exact ⟨rfl, B1⟩

set_option maxRecDepth 100000 in
set_option maxHeartbeats 1000000 in
theorem Sub_no (l : List UInt8) (hl : ¬ IsI l) (T : ByteArray) (w : World) :
    Calls Tryz.prog 72 #[.string (bs l), .string T] w fun e w' => e = .returned (.tuple #[.string (bs []), .int .i64 30]) ∧ Below w.heap.size w w' := by
  have HC := Lib.hid (fun (W : World) v => calculate_no l hl T v W)
  generalize bs l = S at *
  generalize bs [] = U at *
  clear hl
  go_enter Tryz.func72, Tryz.ntmps72
  go_wp2_with (go_at_call 93; (with_reducible refine (HC.out _ _).mono ?_); rintro e w1 ⟨rfl, B1⟩)
  go_ret2
  exact ⟨rfl, B1⟩

set_option maxRecDepth 100000 in
set_option maxHeartbeats 1000000 in
theorem Mul_any (x y : Int) (hx : x.natAbs < big) (hy : y.natAbs < big) (hz : (x * y).natAbs < big * big) (w : World) (ht : TabP w) :
    Calls Tryz.prog 70 #[.string (bs (Lib.itoa x)), .string (bs (Lib.itoa y))] w fun e w' => e = .returned (.tuple #[.string (bs (txt (x * y))), .int .i64 (err (x * y))]) ∧ Below w.heap.size w w' := by
  have HC := Lib.hid (fun (W : World) (hb : Below w.heap.size w W) => calc_mul x y hx hy hz W (ht.later hb))
  generalize bs (Lib.itoa x) = S at *
  generalize bs (Lib.itoa y) = T at *
  generalize bs (txt (x * y)) = U at *
  generalize err (x * y) = er at *
  clear hx hy hz ht
  go_enter Tryz.func70, Tryz.ntmps70
  go_wp2_with (go_at_call 93; (with_reducible refine (HC.out _ (Below.refl _ _)).mono ?_); rintro e w1 ⟨rfl, B1⟩)
  go_ret2
  exact ⟨rfl, B1⟩

set_option maxRecDepth 100000 in
set_option maxHeartbeats 1000000 in
theorem Mul_no (l : List UInt8) (hl : ¬ IsI l) (T : ByteArray) (w : World) :
    Calls Tryz.prog 70 #[.string (bs l), .string T] w fun e w' => e = .returned (.tuple #[.string (bs []), .int .i64 30]) ∧ Below w.heap.size w w' := by
  have HC := Lib.hid (fun (W : World) v => calculate_no l hl T v W)
  generalize bs l = S at *
  generalize bs [] = U at *
  clear hl
  go_enter Tryz.func70, Tryz.ntmps70
  go_wp2_with (go_at_call 93; (with_reducible refine (HC.out _ _).mono ?_); rintro e w1 ⟨rfl, B1⟩)
  go_ret2
  exact ⟨rfl, B1⟩

set_option maxRecDepth 100000 in
set_option maxHeartbeats 1000000 in
theorem Gcd_any (x y : Int) (hx : x.natAbs < big) (hy : y.natAbs < big) (hz : (Int.gcd x y) < big * big) (w : World) (ht : TabP w) :
    Calls Tryz.prog 63 #[.string (bs (Lib.itoa x)), .string (bs (Lib.itoa y))] w fun e w' => e = .returned (.tuple #[.string (bs (txt ((Int.gcd x y : Nat) : Int))), .int .i64 (err ((Int.gcd x y : Nat) : Int))]) ∧ Below w.heap.size w w' := by
  have HC := Lib.hid (fun (W : World) (hb : Below w.heap.size w W) => calc_gcd x y hx hy hz W (ht.later hb))
  generalize bs (Lib.itoa x) = S at *
  generalize bs (Lib.itoa y) = T at *
  generalize bs (txt ((Int.gcd x y : Nat) : Int)) = U at *
  generalize err ((Int.gcd x y : Nat) : Int) = er at *
  clear hx hy hz ht
  go_enter Tryz.func63, Tryz.ntmps63
  go_wp2_with (go_at_call 93; (with_reducible refine (HC.out _ (Below.refl _ _)).mono ?_); rintro e w1 ⟨rfl, B1⟩)
  go_ret2
  exact ⟨rfl, B1⟩

set_option maxRecDepth 100000 in
set_option maxHeartbeats 1000000 in
theorem Gcd_no (l : List UInt8) (hl : ¬ IsI l) (T : ByteArray) (w : World) :
    Calls Tryz.prog 63 #[.string (bs l), .string T] w fun e w' => e = .returned (.tuple #[.string (bs []), .int .i64 30]) ∧ Below w.heap.size w w' := by
  have HC := Lib.hid (fun (W : World) v => calculate_no l hl T v W)
  generalize bs l = S at *
  generalize bs [] = U at *
  clear hl
  go_enter Tryz.func63, Tryz.ntmps63
  go_wp2_with (go_at_call 93; (with_reducible refine (HC.out _ _).mono ?_); rintro e w1 ⟨rfl, B1⟩)
  go_ret2
  exact ⟨rfl, B1⟩

set_option maxRecDepth 100000 in
set_option maxHeartbeats 1000000 in
theorem Compare_any (x y : Int) (hx : x.natAbs < big) (hy : y.natAbs < big) (w : World) :
    Calls Tryz.prog 51 #[.string (bs (Lib.itoa x)), .string (bs (Lib.itoa y))] w fun e w' => e = .returned (.int .i64 (cmpZ x y)) ∧ Below w.heap.size w w' := by
  have HV1 := Lib.hid (Valid_yes x hx)
  have HV2 := Lib.hid (Valid_yes y hy)
  have HN1 := Lib.hid (numberOf_any x hx)
  have HN2 := Lib.hid (numberOf_any y hy)
  have HK := Lib.hid (ncompare_any x y)
  unfold numV at HN1 HN2 HK
  obtain ⟨bx, hbx⟩ : ∃ bx, decide (x < 0) = bx := ⟨_, rfl⟩
  obtain ⟨bz, hbz⟩ : ∃ bz, decide (y < 0) = bz := ⟨_, rfl⟩
  simp only [hbx, hbz] at HN1 HN2 HK
  generalize bs (Lib.itoa x) = S at *
  generalize bs (Lib.itoa y) = T at *
  generalize cmpZ x y = U at *
  clear hx hy hbx hbz
  go_enter Tryz.func51, Tryz.ntmps51
  go_wp2_with (first
    | (go_at_call 78; (with_reducible refine (HV1.out _).mono ?_); rintro e w1 ⟨rfl, rfl⟩)
    | (go_at_call 78; (with_reducible refine (HV2.out _).mono ?_); rintro e w1 ⟨rfl, rfl⟩)
    | (go_at_call 79; (with_reducible refine (HN2.out _).mono ?_); rintro e w3 ⟨a2, n2, c2, rfl, z2, l2, B2⟩; have z12 := z1.later B2; have B12 := below_on B1 B2 B1.size)
    | (go_at_call 79; (with_reducible refine (HN1.out _).mono ?_); rintro e w2 ⟨a1, n1, c1, rfl, z1, l1, B1⟩)
    | (go_at_call 83; (with_reducible refine (HK.out _ _ _ _ _ _ _ z12 z2 (by omega) (by omega)).mono ?_); rintro e w4 ⟨rfl, B3⟩; have B23 := below_on B12 B3 B12.size))
  go_ret
  exact ⟨rfl, B23⟩

set_option maxRecDepth 100000 in
set_option maxHeartbeats 1000000 in
theorem FromInt_any (n : Int) (h0 : -9223372036854775808 ≤ n) (h1 : n ≤ 9223372036854775807) (w : World) (ht : TabP w) :
    Calls Tryz.prog 64 #[.int .i64 n] w fun e w' => e = .returned (.string (bs (Lib.itoa n))) ∧ Below w.heap.size w w' := by
  have hI : ∀ W, Below w.heap.size w W → Calls Tryz.prog 95 #[.int .i64 n] W fun e w' => e = .returned (.string (bs (Lib.itoa n))) ∧ Below W.heap.size W w' := fun W hb => by
    refine (Tryz.strconv_Itoa n h0 h1 W (ht.later hb)).mono ?_
    rintro e w' ⟨rfl, k, os, rfl⟩
    exact ⟨rfl, below_grow W k os⟩
  have HI := Lib.hid hI
  generalize bs (Lib.itoa n) = S at *
  clear hI ht
  go_enter Tryz.func64, Tryz.ntmps64
  go_wp2_with (go_at_call 95; (with_reducible refine (HI.out _ (Below.refl _ _)).mono ?_); rintro e w1 ⟨rfl, B1⟩)
  go_ret
  exact ⟨rfl, B1⟩

end Go.Proofs.YtjkklgpbblkhaaaGreatDoor

/-
  Layer 3: strings to numbers of a machine.
-/
namespace Go.Proofs.YtjkklgpbblkhaaaGreatDoor
open Go.RowKit Bs Ig

theorem parse_full (l : List UInt8) (a : Nat) (h : ∀ c ∈ l, isDig c) (ha : a < 18446744073709551616) : Lib.parseUint10 a l = if numA a l < 18446744073709551616 then .ok (numA a l) else .range := by
  induction l generalizing a with
  | nil =>
    show Lib.NumEnd.ok a = if a < 18446744073709551616 then .ok a else .range
    rw [if_pos ha]
  | cons c r ih =>
    have hc := h c (List.mem_cons_self ..)
    have hle : a * 10 + (c.toNat - 48) ≤ numA (a * 10 + (c.toNat - 48)) r := by
      rw [numA_eq]
      have : 1 ≤ 10 ^ r.length := Nat.pow_pos (by omega)
      have := Nat.mul_le_mul_left (a * 10 + (c.toNat - 48)) this
      omega
    show Lib.parseUint10 a (c :: r) = if numA (a * 10 + (c.toNat - 48)) r < 18446744073709551616 then .ok (numA (a * 10 + (c.toNat - 48)) r) else .range
    unfold Lib.parseUint10
    rw [if_pos (show 48 ≤ c.toNat ∧ c.toNat ≤ 57 from hc)]
    by_cases h1 : 1844674407370955162 ≤ a
    · rw [if_pos h1, if_neg (by omega)]
    · rw [if_neg h1]
      by_cases h2 : 18446744073709551616 ≤ a * 10 + (c.toNat - 48)
      · rw [if_pos h2, if_neg (by omega)]
      · rw [if_neg h2]
        exact ih _ (fun y hy => h y (List.mem_cons_of_mem _ hy)) (by omega)
theorem parse_dec (n : Nat) : Lib.parseMag (Lib.decDigits n) = if n < 18446744073709551616 then .ok n else .range := by
  unfold Lib.parseMag
  rw [if_neg (dec_ne n), parse_full _ 0 (dec_dig n) (by omega), show numA 0 (Lib.decDigits n) = n from num_dec n]
/-- a number that an int holds -/
def isInt (z : Int) : Prop := -9223372036854775808 ≤ z ∧ z ≤ 9223372036854775807
instance (z : Int) : Decidable (isInt z) := inferInstanceAs (Decidable (_ ∧ _))
theorem atoi_itoa (z : Int) : Lib.atoiAll (Lib.itoa z) = if isInt z then .ok z else .range := by
  rcases int_cases z with ⟨n, rfl⟩ | ⟨n, hn, rfl⟩
  · have hp := parse_dec n
    rw [itoa_nat]
    cases hd : Lib.decDigits n with
    | nil => exact absurd hd (dec_ne n)
    | cons c r =>
      rw [hd] at hp
      have hc := dec_dig n c (by rw [hd]; exact List.mem_cons_self ..)
      have hc1 := hc.1
      unfold Lib.atoiAll
      simp only
      rw [if_neg (by omega), hp]
      have hI : isInt (n : Int) ↔ -9223372036854775808 ≤ (n : Int) ∧ (n : Int) ≤ 9223372036854775807 := Iff.rfl
      by_cases h1 : n < 18446744073709551616
      · rw [if_pos h1]
        simp only
        by_cases h2 : 9223372036854775808 ≤ n
        · rw [if_pos ⟨by omega, h2⟩, if_neg (mt hI.1 (by omega))]
        · rw [if_neg (by omega), if_neg (by omega), if_neg (by omega), if_pos (hI.2 (by omega))]
      · rw [if_neg h1]
        simp only
        rw [if_neg (mt hI.1 (by omega))]
  · have hp := parse_dec n
    rw [itoa_neg _ hn]
    unfold Lib.atoiAll
    simp only
    rw [if_pos (by decide), hp]
    have hI : isInt (-(n : Int)) ↔ -9223372036854775808 ≤ -(n : Int) ∧ -(n : Int) ≤ 9223372036854775807 := Iff.rfl
    by_cases h1 : n < 18446744073709551616
    · rw [if_pos h1]
      simp only
      rw [if_neg (fun h => h.1 (by decide))]
      by_cases h2 : 9223372036854775808 < n
      · rw [if_pos ⟨by decide, h2⟩, if_neg (mt hI.1 (by omega))]
      · rw [if_neg (fun h => h2 h.2), if_pos (by decide), if_pos (hI.2 (by omega))]
    · rw [if_neg h1]
      simp only
      rw [if_neg (mt hI.1 (by omega))]
/-- the cell of an error -/
def ErrP (W : World) : Prop := ∃ ev, W.cell? ⟨1, 0, none⟩ = some ev ∧ (ev = .nilIface ∨ ∃ te pe, ev = .iface te pe)
theorem ErrP.later {W W' : World} (h : ErrP W) (hb : Below W.heap.size W W') : ErrP W' := by
  obtain ⟨ev, h1, h2⟩ := h
  exact ⟨ev, (hb.cell (p := ⟨1, 0, none⟩) (block_lt_of_cell h1)).trans h1, h2⟩
theorem itoa_len {z : Int} (hz : z.natAbs < big) : (Lib.itoa z).length ≤ 201 := by
  have h := (dec_length_le z.natAbs 200 (by omega)).2 hz
  rcases int_cases z with ⟨n, rfl⟩ | ⟨n, hn, rfl⟩
  · rw [itoa_nat]
    rw [Int.natAbs_natCast] at h
    omega
  · rw [itoa_neg _ hn, List.length_cons]
    rw [Int.natAbs_neg, Int.natAbs_natCast] at h
    omega

end Go.Proofs.YtjkklgpbblkhaaaGreatDoor
