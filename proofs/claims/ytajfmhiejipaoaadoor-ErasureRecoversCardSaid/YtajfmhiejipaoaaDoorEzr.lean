/-
  ErasureRecovers: for every string, integers and list of integers, and in every memory in which the table of SHA-256 holds its numbers, the law returns true.
-/
import Derived.Test.YtajfmhiejipaoaaDoorEso
import Derived.Test.YtajfmhiejipaoaaDoorEdm
import Derived.Test.YtajfmhiejipaoaaDoorEro
import Derived.Test.YtajfmhiejipaoaaDoorFrame
namespace Go.Proofs.YtajfmhiejipaoaaDoor
open Go.RowKit Bs Ef

theorem wf64 {z : Int} (h : (Lit.int .i64 z).wf = true) : -9223372036854775808 ≤ z ∧ z ≤ 9223372036854775807 := by
  simp [Lit.wf] at h
  have e1 : IntKind.i64.min = -9223372036854775808 := by kernel_rfl
  first
    | (have e2 : IntKind.i64.max = 9223372036854775807 := by kernel_rfl
       omega)
    | omega
theorem IsO.of {W : World} {a : Option Addr} {m : Nat} {zs : List Int} (h : Fr.IsInts .i64 W a m zs) : IsO W a m := by
  obtain ⟨hl, -, hw, h0⟩ := h
  refine ⟨h0.imp id (fun ⟨b, off, e, hc⟩ => ⟨b, off, e, fun i hi => ?_⟩)⟩
  have hm : zs.getD i 0 ∈ zs := by
    rw [List.getD_eq_getElem?_getD, List.getElem?_eq_getElem (by omega)]; exact List.getElem_mem (by omega)
  exact ⟨_, (wf64 (hw _ hm)).1, (wf64 (hw _ hm)).2, hc i hi⟩

theorem ckI_len {C : List (Int × ByteArray)} {b : Nat} (h : ∀ c ∈ C, c.2.size ≤ b) (i : Nat) : (ckI C i).2.size ≤ b := by
  rcases Nat.lt_or_ge i C.length with hi | hi
  · rw [ckI_eq C i hi]; exact h _ (List.getElem_mem hi)
  · unfold ckI; rw [List.getD_eq_getElem?_getD, List.getElem?_eq_none hi]; exact Nat.zero_le _
theorem PickOf.le {s : List UInt8} {need count : Nat} {C : List (Int × ByteArray)} (h : PickOf s need count C) (h1 : 1 ≤ need) (h2 : need ≤ 16) (hs : s.length ≤ 200) (i : Nat) : (ckI C i).2.size ≤ 1000000 :=
  ckI_len (fun c hc => by
    obtain ⟨k, _, rfl⟩ := h.mem c hc
    show (gs _).size ≤ _
    rw [gs_size, row_len]
    have := (mOf_spec s need h1 (by omega) h2).2.2
    omega) i

set_option maxRecDepth 100000 in
set_option maxHeartbeats 1000000 in
theorem ErasureRecovers_any (s : ByteArray) (a0 b0 n0 : Int) (ad : Option Addr) (mo mc : Nat) (zs : List Int) (ha0 : -9223372036854775808 ≤ a0) (ha1 : a0 ≤ 9223372036854775807) (hb0 : -9223372036854775808 ≤ b0) (hb1 : b0 ≤ 9223372036854775807) (hn0 : -9223372036854775808 ≤ n0) (hn1 : n0 ≤ 9223372036854775807) (w : World) (hT : KAt w) (hI : Fr.IsInts .i64 w ad mo zs) :
    Calls Tryd.prog 5 #[.string s, .int .i64 a0, .int .i64 b0, .int .i64 n0, .slice ad mo mc] w fun e w' => e = .returned (.bool true) ∧ Below w.heap.size w w' := by
  obtain ⟨m0, t, ⟨m0a, m0b⟩, x0, l0, e0, -⟩ := cut_string s 200
  have r0 := fun w ts ty => min_run (P := Tryd.prog) s.size 200 m0 e0 200 rfl w ts ty
  obtain ⟨need, count, n1, n8, nc, c16, PR⟩ := params_any a0 b0 ha0 ha1 hb0 hb1
  have ht : t.length ≤ 200 := by omega
  have hmm : mo ≤ 9223372036854775807 := by have := hI.2.1; unfold maxLen at this; omega
  obtain ⟨p, hp, PK1⟩ := epick_any n0 hn0 hn1 (count - need + 1) ((count : Int) - (need : Int) + 1) (by omega) (by omega)
  obtain ⟨q, hq, PK2⟩ := epick_any n0 hn0 hn1 need (need : Int) rfl (by omega)
  have hEnc := fun (W : World) => (show Calls Tryd.prog 20 #[.string (Bs.bs t), .int .i64 (need : Int), .int .i64 (count : Int)] W fun e w' => ∃ gv, W.heap.size ≤ gv ∧ e = .returned (.tuple #[.slice (some ⟨gv, 0, none⟩) count count, .int .i64 0]) ∧ CkRow w' gv (encL t need count) ∧ Below W.heap.size W w' from Encode_ok t need count n1 nc c16 (by omega) W)
  have hel := encL_len t need count
  obtain ⟨S0, hS0⟩ : ∃ S, Bs.bs t = S := ⟨_, rfl⟩
  obtain ⟨k, hk⟩ : ∃ k, need + p = k := ⟨_, rfl⟩
  have hSo := fun (y : Nat) (hy : y ≤ count) (W : World) (g : Nat) (hR : CkRow W g (encL t need count)) (hO : IsO W ad mo) => (show Calls Tryd.prog 25 #[.slice (some ⟨g, 0, none⟩) count count, .int .i64 (y : Int), .slice ad mo mc] W fun e w' => ∃ L r g c, L.Perm (encL t need count) ∧ y ≤ c ∧ e = .returned (.slice (some ⟨g, 0, none⟩) y c) ∧ CkCap w' g L r ∧ Below W.heap.size W w' from by
    have h := Some_any (encL t need count) g count count (y : Int) ad mo mc W hel (by omega) (by omega) (Nat.le_refl _) hR.at hO hmm (by omega) (by omega)
    refine h.mono ?_
    rintro e w' ⟨L, r, g2, k2, c2, h1, h2, h3, -, h5, h6, h7⟩
    obtain rfl : k2 = y := by omega
    exact ⟨L, r, g2, c2, h1, h3, h5, h6, h7⟩)
  have hS1 := hSo k (by omega)
  have hS2 := hSo q (by omega)
  have hD1 := fun (W : World) (L : List (Int × ByteArray)) (r : List Value) (g c : Nat) (hL : L.Perm (encL t need count)) (hC : CkCap W g L r) (hc : k ≤ c) => (show Calls Tryd.prog 27 #[.slice (some ⟨g, 0, none⟩) k c, .int .i64 (need : Int), .int .i64 (count : Int)] W fun e w' => e = .returned (.tuple #[.string (Bs.bs t), .int .i64 0]) ∧ Below W.heap.size W w' from by
    have hl := hL.length_eq.trans hel
    have hlk : (L.take k).length = k := by rw [List.length_take]; omega
    have P := PickOf.of hL k
    have h := Decode_any (L.take k) (some ⟨g, 0, none⟩) k c need count W ⟨hlk, hc, .inr ⟨g, 0, rfl, hC.at.take k⟩⟩ n1 nc c16 (by omega) (P.le n1 (by omega) ht)
    rw [P.dec n1 (by omega) c16 ht (by omega) (by omega)] at h
    exact h)
  have hD2 := fun (W : World) (L : List (Int × ByteArray)) (r : List Value) (g c : Nat) (hL : L.Perm (encL t need count)) (hC : CkCap W g L r) (hc : q ≤ c) => (show Calls Tryd.prog 27 #[.slice (some ⟨g, 0, none⟩) q c, .int .i64 (need : Int), .int .i64 (count : Int)] W fun e w' => e = .returned (.tuple #[.string ⟨#[]⟩, .int .i64 60]) ∧ Below W.heap.size W w' from by
    have hl := hL.length_eq.trans hel
    have hlk : (L.take q).length = q := by rw [List.length_take]; omega
    have P := PickOf.of hL q
    have h := Decode_any (L.take q) (some ⟨g, 0, none⟩) q c need count W ⟨hlk, hc, .inr ⟨g, 0, rfl, hC.at.take q⟩⟩ n1 nc c16 (by omega) (P.le n1 (by omega) ht)
    rw [dec_few _ need count (by omega)] at h
    exact h)
  have hCo := fun (W : World) (g : Nat) (hR : CkRow W g (encL t need count)) => (show Calls Tryd.prog 29 #[.slice (some ⟨g, 0, none⟩) count count, .int .i64 (need : Int), .int .i64 (count : Int)] W fun e w' => e = .returned (.bool true) ∧ Below W.heap.size W w' from by
    have P : PickOf t need count (encL t need count) := by
      have h := PickOf.of (List.Perm.refl (encL t need count)) count
      rwa [List.take_of_length_le (by omega)] at h
    have h := Consistent_any (encL t need count) (some ⟨g, 0, none⟩) count count need count W (hR.s hel) n1 nc c16 (by omega) (P.le n1 (by omega) ht)
    rw [P.dec n1 (by omega) c16 ht (by omega) (by omega), decide_eq_true (show ordP (encL t need count) count ∧ ((t, (0 : Int)) : List UInt8 × Int).2 = 0 from ⟨⟨hel, fun i hi => by rw [ckI_eq _ i hi, encL_get]⟩, rfl⟩)] at h
    exact h)
  obtain ⟨E, hE⟩ : ∃ E, encL t need count = E := ⟨_, rfl⟩
  rw [hE] at hEnc hS1 hS2 hD1 hD2 hCo hel
  rw [hS0] at hEnc hD1 x0
  have hw1 : IntKind.i64.wrap ((count : Int) - (need : Int)) = (count : Int) - (need : Int) := by rw [IntKind.wrap_i64]; omega
  have hw2 : IntKind.i64.wrap ((count : Int) - (need : Int) + 1) = (count : Int) - (need : Int) + 1 := by rw [IntKind.wrap_i64]; omega
  have hw3 : IntKind.i64.wrap ((need : Int) + (p : Int)) = (k : Int) := by rw [IntKind.wrap_i64]; omega
  have hw4 : (need : Int) + (p : Int) = (k : Int) := by omega
  have hw5 : IntKind.i64.wrap (k : Int) = (k : Int) := by rw [IntKind.wrap_i64]; omega
  have HO := Lib.hid (IsO.of hI)
  have HE := Lib.hid hEnc
  have HS1 := Lib.hid hS1
  have HS2 := Lib.hid hS2
  have HD1 := Lib.hid hD1
  have HD2 := Lib.hid hD2
  have HCO := Lib.hid hCo
  have HP1 := Lib.hid PK1
  have HP2 := Lib.hid PK2
  have HS := Lib.hid esane_any
  replace PR := Lib.hid PR
  have HB := Lib.hid (Below.refl w.heap.size w)
  clear hEnc hSo hS1 hS2 hD1 hD2 hCo PK1 PK2 hE hS0 hI hel hk hp hq l0 e0 ha0 ha1 hb0 hb1 hn0 hn1
  go_enter Tryd.func5, Tryd.ntmps5
  go_wp2_with (first
    | (go_at_call 11; (with_reducible refine (HS.out _ (hT.below HB.out)).mono ?_); rintro e w0 ⟨rfl, hB⟩; replace HB := Lib.hid (below_on HB.out hB HB.out.size); clear hB)
    | (go_at_call 19; (with_reducible refine (PR.out _).mono ?_); rintro e ww ⟨rfl, hww⟩; rw [hww]; clear hww ww)
    | (go_at_call 20; (with_reducible refine (HE.out _).mono ?_); rintro e w1 ⟨ge, hge, rfl, hR, hB⟩; replace HB := Lib.hid (below_on HB.out hB HB.out.size); have HR := Lib.hid hR; clear hB hR)
    | (go_at_call 26; (with_reducible refine (HP1.out _).mono ?_); rintro e ww ⟨rfl, hww⟩; rw [hww]; clear hww ww)
    | (go_at_call 26; (with_reducible refine (HP2.out _).mono ?_); rintro e ww ⟨rfl, hww⟩; rw [hww]; clear hww ww)
    | (go_at_call 25; (with_reducible refine (HS1.out _ _ HR.out (HO.out.later HB.out)).mono ?_); rintro e w2 ⟨L, r, g2, c2, hL, hc2, rfl, hcap, hB⟩; replace HB := Lib.hid (below_on HB.out hB HB.out.size); replace HR := Lib.hid (HR.out.later hB); have HK := Lib.hid (And.intro hL (And.intro hcap hc2)); clear hB hL hcap)
    | (go_at_call 25; (with_reducible refine (HS2.out _ _ HR.out (HO.out.later HB.out)).mono ?_); rintro e w4 ⟨L3, r3, g3, c3, hL, hc3, rfl, hcap, hB⟩; replace HB := Lib.hid (below_on HB.out hB HB.out.size); replace HR := Lib.hid (HR.out.later hB); have HK2 := Lib.hid (And.intro hL (And.intro hcap hc3)); clear hB hL hcap)
    | (go_at_call 27; (with_reducible refine (HD1.out _ _ _ _ _ HK.out.1 HK.out.2.1 HK.out.2.2).mono ?_); rintro e w3 ⟨rfl, hB⟩; replace HB := Lib.hid (below_on HB.out hB HB.out.size); replace HR := Lib.hid (HR.out.later hB); clear hB)
    | (go_at_call 27; (with_reducible refine (HD2.out _ _ _ _ _ HK2.out.1 HK2.out.2.1 HK2.out.2.2).mono ?_); rintro e w5 ⟨rfl, hB⟩; replace HB := Lib.hid (below_on HB.out hB HB.out.size); replace HR := Lib.hid (HR.out.later hB); clear hB)
    | (go_at_call 29; (with_reducible refine (HCO.out _ _ HR.out).mono ?_); rintro e w6 ⟨rfl, hB⟩; replace HB := Lib.hid (below_on HB.out hB HB.out.size); clear hB))
  go_ret
  exact ⟨rfl, HB.out⟩

end Go.Proofs.YtajfmhiejipaoaaDoor
