/-
  PackBounded: for every string and rows of integers the law returns true.
-/
import Derived.Test.YtnploljhikljfaaPrw
import Derived.Test.YtnploljhikljfaaPmb
namespace Go.Proofs.Ytnploljhikljfaa
open Go.RowKit Bs Pk

/-- a list of strings in a block -/
structure Ls (W : World) (g : Nat) (l : List ByteArray) : Prop where
  row : W.heap[g]? = some (.cells (l.map Value.string).toArray 9 (0, 0))
theorem Ls.lt {W : World} {g : Nat} {l : List ByteArray} (h : Ls W g l) : g < W.heap.size := (Array.getElem?_eq_some_iff.1 h.row).1
theorem Ls.below {W W' : World} {g B : Nat} {l : List ByteArray} (h : Ls W g l) (hb : Below B W W') (hg : g < B) : Ls W' g l := ⟨(hb.block _ hg).trans h.row⟩
theorem Ls.later {W W' : World} {g : Nat} {l : List ByteArray} (h : Ls W g l) (hb : Below W.heap.size W W') : Ls W' g l := h.below hb h.lt
theorem Ls.get {W : World} {g : Nat} {l : List ByteArray} (h : Ls W g l) (i : Nat) (hi : i < l.length) : W.cell? ⟨g, i, none⟩ = some (.string l[i]) := by
  rw [cell_of_row _ _ i _ _ _ h.row]; simp [hi]

set_option maxRecDepth 100000 in
set_option maxHeartbeats 4000000 in
theorem PackBounded_any (s : ByteArray) (a : Option Addr) (n c : Nat) (w : World) (hR : IsRows3 w a n) :
    Calls Try.prog 6 #[.string s, .slice a n c] w fun e w' => e = .returned (.bool true) ∧ Below w.heap.size w w' := by
  obtain ⟨t0, ht0, PC⟩ := pcut_any s
  have HS := Lib.hid psane_any
  replace PC := Lib.hid PC
  have HR := Lib.hid hR
  have HM := Lib.hid (fun W (h : IsRows3 W a n) => Made_any a n c W h)
  have HRW : Hid (∀ W, Below w.heap.size w W → IsRows3 W a n) := Lib.hid (fun W hb => by
    refine ⟨hR.1, hR.2.imp id ?_⟩
    rintro ⟨b, off, rfl, h⟩
    refine ⟨b, off, rfl, fun i j hi hj => ?_⟩
    obtain ⟨z, hz, hzb⟩ := h i j hi hj
    exact ⟨z, (hb.cell (p := ⟨b, off + i * 3 + j, none⟩) (block_lt_of_cell hz)).trans hz, hzb⟩)
  have HB := Lib.hid (Below.refl w.heap.size w)
  have HT0 := Lib.hid ht0
  clear hR ht0
  go_enter Try.func6, Try.ntmps6
  go_wp2_with (first
    | (go_at_call 10; (with_reducible refine (HS.out _).mono ?_); rintro e w1 ⟨rfl, hB⟩; replace HB := Lib.hid (below_on HB.out hB HB.out.size); clear hB)
    | (go_at_call 11; (with_reducible refine (PC.out _).mono ?_); rintro e ww ⟨rfl, hww⟩; rw [hww]; clear hww ww)
    | (go_at_call 12; (with_reducible refine (HM.out _ (HRW.out _ HB.out)).mono ?_); rintro e w2 ⟨t1, ht1, rfl, hB⟩; replace HB := Lib.hid (below_on HB.out hB HB.out.size); clear hB))
  have hws := HB.out.size
  have HL0 : Hid (Ls (w2.alloc (Obj.cells #[Value.string (bs t0), Value.string (bs t1), Value.string ⟨#[]⟩] 9)) w2.heap.size [bs t0, bs t1, bs []]) := Lib.hid ⟨heap_alloc_new _ _⟩
  have HB0 : Hid (Below w.heap.size w (w2.alloc (Obj.cells #[Value.string (bs t0), Value.string (bs t1), Value.string ⟨#[]⟩] 9))) := Lib.hid (HB.out.alloc hws _)
  obtain ⟨gl, hgl⟩ : ∃ gl, w2.heap.size = gl := ⟨_, rfl⟩
  obtain ⟨w3, hw3⟩ : ∃ w3, w2.alloc (Obj.cells #[Value.string (bs t0), Value.string (bs t1), Value.string ⟨#[]⟩] 9) = w3 := ⟨_, rfl⟩
  rw [hw3, hgl] at HL0
  rw [hw3] at HB0
  rw [hw3, hgl]
  clear hw3 hgl hws HB HM HRW HR HS PC
  go_loopw [17] (fun i wr => ∃ k : Nat, k ≤ 3 ∧ i = .int .i64 k ∧ Ls wr gl [bs t0, bs t1, bs []] ∧ Below w.heap.size w wr) (fun i _ => 3 - (intOf i).toNat)
  case atStart => exact ⟨0, by omega, rfl, HL0.out, HB0.out⟩
  case round =>
    clear HL0 HB0
    obtain ⟨k, hk, rfl, hL, hB⟩ := hrel
    rcases Nat.lt_or_ge k 3 with g1 | g1
    · obtain ⟨u, hu, hcu⟩ : ∃ u : List UInt8, u.length ≤ 600 ∧ wr.cell? ⟨gl, k, none⟩ = some (.string (bs u)) := by
        have hc2 : k = 0 ∨ k = 1 ∨ k = 2 := by omega
        rcases hc2 with rfl | rfl | rfl
        · exact ⟨t0, HT0.out, hL.get 0 (by simp)⟩
        · exact ⟨t1, ht1, hL.get 1 (by simp)⟩
        · exact ⟨[], by simp, hL.get 2 (by simp)⟩
      have d1 : decide ((k : Int) < 3) = true := decide_eq_true (by omega)
      have i1 : (0 : Int) ≤ (k : Int) := by omega
      have i2 : (k : Int) < 3 := by omega
      by_cases hu0' : u = []
      · subst hu0'
        have EN := Lib.hid (fun W => (show Calls Try.prog 15 #[.string ⟨#[]⟩] W fun e w' => e = .returned (.tuple #[.string ⟨#[]⟩, .int .i64 0]) ∧ Below W.heap.size W w' from e_of [] [] (by simp) (by show ub (enc []) = []; rw [(enc_bound []).2 rfl]; rfl) W))
        have HL := Lib.hid hL
        have HB := Lib.hid hB
        have hw7 : IntKind.i64.wrap ((k : Int) + 1) = ((k + 1 : Nat) : Int) := by rw [IntKind.wrap_i64]; omega
        replace hcu : wr.cell? ⟨gl, k, none⟩ = some (.string ⟨#[]⟩) := hcu
        clear hL hB
        go_wp2_with (go_at_call 15; (with_reducible refine (EN.out _).mono ?_); rintro e w4 ⟨rfl, hB4⟩)
        go_roundw
        case rel => exact ⟨k + 1, by omega, by go_num, HL.out.later hB4, below_on HB.out hB4 HB.out.size⟩
        case measure => simp [intOf]; omega
      · have EN := Lib.hid (fun W => Encode_ok u (by omega) W)
        have hbd := (enc_bound (nb u)).1
        have hze := (enc_bound (nb u)).2
        rw [nb_length] at hbd
        have hsC : (bs (ub (enc (nb u)))).size = (enc (nb u)).length := by rw [bs_size]; simp [ub]
        have hsU : (bs u).size = u.length := bs_size u
        have HL := Lib.hid hL
        have HB := Lib.hid hB
        obtain ⟨m, hm⟩ : ∃ m, u.length = m := ⟨_, rfl⟩
        obtain ⟨mc, hmc⟩ : ∃ mc, (enc (nb u)).length = mc := ⟨_, rfl⟩
        rw [hm, hmc] at hbd
        rw [hmc] at hsC
        rw [hm] at hsU hu
        have hq : (m : Int).tdiv 128 = ((m / 128 : Nat) : Int) := (Int.ofNat_tdiv m 128).symm
        obtain ⟨q, hq2⟩ : ∃ q, m / 128 = q := ⟨_, rfl⟩
        rw [hq2] at hq hbd
        have hw4 : IntKind.i64.wrap (q : Int) = (q : Int) := by rw [IntKind.wrap_i64]; omega
        have hw5 : IntKind.i64.wrap ((m : Int) + (q : Int)) = ((m + q : Nat) : Int) := by rw [IntKind.wrap_i64]; omega
        obtain ⟨mq, hmq⟩ : ∃ mq, m + q = mq := ⟨_, rfl⟩
        rw [hmq] at hw5 hbd
        have hw6 : IntKind.i64.wrap ((mq : Int) + 1) = ((mq + 1 : Nat) : Int) := by rw [IntKind.wrap_i64]; omega
        obtain ⟨mq1, hmq1⟩ : ∃ mq1, mq + 1 = mq1 := ⟨_, rfl⟩
        rw [hmq1] at hw6 hbd
        have d2 : decide ((mq1 : Int) < (mc : Int)) = false := decide_eq_false (by omega)
        have d2' : decide (mq1 < mc) = false := decide_eq_false (by omega)
        have hw7 : IntKind.i64.wrap ((k : Int) + 1) = ((k + 1 : Nat) : Int) := by rw [IntKind.wrap_i64]; omega
        have hne2 : ¬ (bs u).toList = [] := by rw [bs_toList]; exact hu0'
        have hne : (bs u).toList.isEmpty = false := by rw [bs_toList]; cases u with
          | nil => exact absurd rfl hu0'
          | cons x y => rfl
        obtain ⟨U, hU⟩ : ∃ U, bs u = U := ⟨_, rfl⟩
        obtain ⟨C, hC⟩ : ∃ C, bs (ub (enc (nb u))) = C := ⟨_, rfl⟩
        rw [hU] at EN hsU hcu hne hne2
        rw [hC] at EN hsC
        clear hm hmc hq2 hmq hmq1 hL hB hze hbd hU hC
        go_wp2_with (go_at_call 15; (with_reducible refine (EN.out _).mono ?_); rintro e w4 ⟨rfl, hB4⟩)
        go_roundw
        case rel => exact ⟨k + 1, by omega, by go_num, HL.out.later hB4, below_on HB.out hB4 HB.out.size⟩
        case measure => simp [intOf]; omega
    · obtain rfl : k = 3 := by omega
      have HB := Lib.hid hB
      clear hL hB
      go_wp2_with fail
      go_ret
      exact ⟨rfl, HB.out⟩

end Go.Proofs.Ytnploljhikljfaa
