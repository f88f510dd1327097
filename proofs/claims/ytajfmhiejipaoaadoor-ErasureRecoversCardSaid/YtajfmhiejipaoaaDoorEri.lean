/-
  Layer 6: frames, and the chunks of a string.
-/
import Derived.Test.YtajfmhiejipaoaaDoorErh
import Derived.Test.YtajfmhiejipaoaaDoorWaStr
import Derived.Test.YtajfmhiejipaoaaDoorShelf
namespace Go.Proofs.YtajfmhiejipaoaaDoor
open Go.RowKit Bs Ef

/-- how many bytes the last column lacks -/
def missN (size need : Nat) : Nat := (need - size % need) % need
/-- the frame of a string -/
def frm (s : List UInt8) (need : Nat) : List UInt8 := encI s.length ++ s ++ List.replicate (missN (encI s.length ++ s).length need) 0
/-- bytes as elements -/
abbrev tg (l : List UInt8) : List G := l.map (fun b => (⟨b.toNat, b.toNat_lt⟩ : G))
theorem gs_tg (l : List UInt8) : gs (tg l) = bs l := by
  unfold gs
  congr 1
  show ((l.map (fun b => (⟨b.toNat, b.toNat_lt⟩ : G))).map Fin.val).map UInt8.ofNat = l
  rw [List.map_map, List.map_map]
  have : ((UInt8.ofNat ∘ Fin.val) ∘ fun b : UInt8 => (⟨b.toNat, b.toNat_lt⟩ : G)) = id := by funext b; simp
  rw [this, List.map_id]
theorem missN_mod (size need : Nat) (h : 1 ≤ need) : (size + missN size need) % need = 0 := by
  unfold missN
  have h1 := Nat.mod_lt size (show need > 0 by omega)
  by_cases h2 : size % need = 0
  · rw [h2, Nat.sub_zero, Nat.mod_self, Nat.add_zero, h2]
  · rw [Nat.mod_eq_of_lt (show need - size % need < need by omega)]
    have h3 := Nat.div_add_mod size need
    have : size + (need - size % need) = need * (size / need + 1) := by rw [Nat.mul_add, Nat.mul_one]; omega
    rw [this, Nat.mul_mod_right]
theorem missN_lt (size need : Nat) (h : 1 ≤ need) : missN size need < need := Nat.mod_lt _ (by omega)
theorem frm_len (s : List UInt8) (need : Nat) (h : 1 ≤ need) : ∃ m, (frm s need).length = m * need ∧ 1 ≤ (frm s need).length ∧ (frm s need).length ≤ s.length + 9 + need := by
  have h1 := missN_mod (encI s.length ++ s).length need h
  have h2 := missN_lt (encI s.length ++ s).length need h
  have h3 := encI_length s.length
  have h4 : (frm s need).length = (encI s.length ++ s).length + missN (encI s.length ++ s).length need := by
    unfold frm; rw [List.length_append, List.length_replicate]
  rw [h4]
  refine ⟨((encI s.length ++ s).length + missN (encI s.length ++ s).length need) / need, ?_, ?_, ?_⟩
  · rw [Nat.div_mul_cancel (Nat.dvd_of_mod_eq_zero h1)]
  · rw [List.length_append]; omega
  · rw [List.length_append] at h2 ⊢; omega

set_option maxRecDepth 100000 in
set_option maxHeartbeats 1000000 in
theorem missing_any (size need : Nat) (h1 : 1 ≤ need) (h2 : need ≤ 1000) (h3 : size ≤ 1000000000) (w : World) :
    Calls Tryd.prog 67 #[.int .i64 (size : Int), .int .i64 (need : Int)] w fun e w' => e = .returned (.int .i64 (missN size need : Nat)) ∧ w' = w := by
  unfold missN
  obtain ⟨a, ha⟩ : ∃ a, size % need = a := ⟨_, rfl⟩
  have ha2 : a < need := by rw [← ha]; exact Nat.mod_lt _ (by omega)
  obtain ⟨b, hb⟩ : ∃ b, need - a = b := ⟨_, rfl⟩
  obtain ⟨c, hc⟩ : ∃ c, b % need = c := ⟨_, rfl⟩
  rw [ha, hb, hc]
  have e1 : (size : Int).tmod (need : Int) = (a : Int) := by rw [← ha]; exact (Int.ofNat_tmod _ _).symm
  have e2 : (b : Int).tmod (need : Int) = (c : Int) := by rw [← hc]; exact (Int.ofNat_tmod _ _).symm
  have e3 : IntKind.i64.wrap ((need : Int) - (a : Int)) = (b : Int) := by rw [IntKind.wrap_i64]; omega
  have e4 : (need : Int) - (a : Int) = (b : Int) := by omega
  have d0 : ((need : Int) == 0) = false := beq_false_of_ne (by omega)
  have d1 : decide ((need : Int) = 0) = false := decide_eq_false (by omega)
  clear ha hb hc
  go_enter Tryd.func67, Tryd.ntmps67
  go_wp2_with fail
  go_ret
  exact ⟨rfl, rfl⟩

theorem repeat0 (c : Nat) : (⟨(Lib.repeatL [0] c).toArray⟩ : ByteArray) = bs (List.replicate c 0) := by
  unfold bs
  congr 2
  induction c with
  | zero => rfl
  | succ c ih => rw [Lib.repeatL, ih, List.replicate_succ]; rfl

set_option maxRecDepth 100000 in
set_option maxHeartbeats 1000000 in
theorem framed_any (s : List UInt8) (need : Nat) (h1 : 1 ≤ need) (h2 : need ≤ 16) (h3 : s.length ≤ 4096) (w : World) :
    Calls Tryd.prog 41 #[.string (bs s), .int .i64 (need : Int)] w fun e w' => e = .returned (.string (bs (frm s need))) ∧ Below w.heap.size w w' := by
  have hP := fun (W : World) => PutString_any s W (by omega)
  rw [show putS s = (encI s.length ++ s, 0) from if_pos (by omega)] at hP
  have h4 := encI_length s.length
  have hlen : (encI s.length ++ s).length ≤ 4105 := by rw [List.length_append]; omega
  have hml := missN_lt (encI s.length ++ s).length need h1
  have hfr : bs (encI s.length ++ s) ++ bs (List.replicate (missN (encI s.length ++ s).length need) 0) = bs (frm s need) := by rw [bs_append]; rfl
  obtain ⟨C, hC⟩ : ∃ C, encI s.length ++ s = C := ⟨_, rfl⟩
  rw [hC] at hP hlen hml hfr
  have hM := fun (W : World) => missing_any C.length need h1 (by omega) (by omega) W
  obtain ⟨k, hk⟩ : ∃ k, missN C.length need = k := ⟨_, rfl⟩
  rw [hk] at hM hml hfr
  have hR := fun (W : World) => Tryd.strings_Repeat ⟨#[0]⟩ k W (by omega) (by rw [show (⟨#[0]⟩ : ByteArray).size = 1 from rfl]; omega)
  simp only [show ((⟨#[0]⟩ : ByteArray).data.toList) = [0] from rfl, repeat0] at hR
  have hz1 : (bs C).size = C.length := bs_size C
  have hz2 : (bs (List.replicate k 0)).size = k := by rw [bs_size, List.length_replicate]
  obtain ⟨A, hA⟩ : ∃ A, bs C = A := ⟨_, rfl⟩
  obtain ⟨B, hB⟩ : ∃ B, bs (List.replicate k 0) = B := ⟨_, rfl⟩
  unfold Ret2 at hP
  simp only at hP
  rw [hA] at hP hz1 hfr
  rw [hB] at hR hz2 hfr
  have HP := Lib.hid hP
  have HM := Lib.hid hM
  have HR := Lib.hid hR
  have HF := Lib.hid hfr
  obtain ⟨cl, hcl⟩ : ∃ c, C.length = c := ⟨_, rfl⟩
  rw [hcl] at HM hz1 hlen
  clear hP hM hR hfr hA hB hk hC hcl
  go_enter Tryd.func41, Tryd.ntmps41
  go_wp2_with (first
    | (go_at_call 31; (with_reducible refine (HP.out _).mono ?_); rintro e w1 ⟨rfl, hB1⟩)
    | (go_at_call 67; (with_reducible refine (HM.out _).mono ?_); rintro e w2 ⟨rfl, hw2⟩; rw [hw2]; clear hw2 w2)
    | (go_at_call 66; (with_reducible refine (HR.out _).mono ?_); rintro e w3 ⟨rfl, hB3⟩))
  go_ret
  exact ⟨by show Ending.returned (.string (A ++ B)) = _; rw [HF.out], below_on hB1 hB3 hB1.size⟩

/-- the frame as elements, how many columns it has, and the chunks of a string -/
abbrev frG (s : List UInt8) (need : Nat) : List G := tg (frm s need)
def mOf (s : List UInt8) (need : Nat) : Nat := (frm s need).length / need
def encL (s : List UInt8) (need count : Nat) : List (Int × ByteArray) := chunksOf (colsOf (frG s need) need (mOf s need)) (mOf s need) count
theorem mOf_spec (s : List UInt8) (need : Nat) (h : 1 ≤ need) (hs : s.length ≤ 4096) (h2 : need ≤ 16) : (frG s need).length = mOf s need * need ∧ 0 < mOf s need ∧ mOf s need ≤ 5000 := by
  obtain ⟨m, h3, h4, h5⟩ := frm_len s need h
  have h6 : mOf s need = m := by unfold mOf; rw [h3, Nat.mul_div_cancel _ (by omega)]
  rw [h6, List.length_map]
  have h7 : m ≤ m * need := Nat.le_mul_of_pos_right _ (by omega)
  refine ⟨h3, ?_, by omega⟩
  rcases Nat.eq_zero_or_pos m with h | h
  · rw [h, Nat.zero_mul] at h3; omega
  · exact h
theorem cols_data (f : List G) (need m : Nat) : ∀ k ∈ colsOf f need m, k.2.length = m := by
  intro k hk
  obtain ⟨i, -, rfl⟩ := List.mem_map.1 hk
  simp

set_option maxRecDepth 100000 in
set_option maxHeartbeats 1000000 in
theorem areValid_any (need count : Int) (w : World) :
    Calls Tryd.prog 38 #[.int .i64 need, .int .i64 count] w fun e w' => e = .returned (.bool (decide (1 ≤ need ∧ need ≤ count ∧ count ≤ 16))) ∧ w' = w := by
  by_cases a : 1 ≤ need
  · have a1 : decide (1 ≤ need) = true := decide_eq_true a
    by_cases b : need ≤ count
    · have b1 : decide (need ≤ count) = true := decide_eq_true b
      by_cases c : count ≤ 16
      · have c1 : decide (count ≤ 16) = true := decide_eq_true c
        rw [decide_eq_true ⟨a, b, c⟩]
        go_enter Tryd.func38, Tryd.ntmps38
        go_wp2_with fail
        go_ret
        exact ⟨rfl, rfl⟩
      · have c1 : decide (count ≤ 16) = false := decide_eq_false c
        rw [decide_eq_false (fun h => c h.2.2)]
        go_enter Tryd.func38, Tryd.ntmps38
        go_wp2_with fail
        go_ret
        exact ⟨rfl, rfl⟩
    · have b1 : decide (need ≤ count) = false := decide_eq_false b
      rw [decide_eq_false (fun h => b h.2.1)]
      go_enter Tryd.func38, Tryd.ntmps38
      go_wp2_with fail
      go_ret
      exact ⟨rfl, rfl⟩
  · have a1 : decide (1 ≤ need) = false := decide_eq_false a
    rw [decide_eq_false (fun h => a h.1)]
    go_enter Tryd.func38, Tryd.ntmps38
    go_wp2_with fail
    go_ret
    exact ⟨rfl, rfl⟩

set_option maxRecDepth 100000 in
set_option maxHeartbeats 1000000 in
theorem Encode_ok (s : List UInt8) (need count : Nat) (h1 : 1 ≤ need) (h2 : need ≤ count) (h3 : count ≤ 16) (hs : s.length ≤ 4096) (w : World) :
    Calls Tryd.prog 20 #[.string (bs s), .int .i64 (need : Int), .int .i64 (count : Int)] w fun e w' =>
      ∃ gv, w.heap.size ≤ gv ∧ e = .returned (.tuple #[.slice (some ⟨gv, 0, none⟩) count count, .int .i64 0]) ∧ CkRow w' gv (encL s need count) ∧ Below w.heap.size w w' := by
  have hV := fun (W : World) => areValid_any need count W
  rw [decide_eq_true (show 1 ≤ (need : Int) ∧ (need : Int) ≤ (count : Int) ∧ (count : Int) ≤ 16 by omega)] at hV
  have hFr := fun (W : World) => framed_any s need h1 (by omega) hs W
  obtain ⟨m1, m2, m3⟩ := mOf_spec s need h1 hs (by omega)
  rw [← gs_tg (frm s need)] at hFr
  unfold encL
  obtain ⟨f, hf⟩ : ∃ f, frG s need = f := ⟨_, rfl⟩
  obtain ⟨m, hm⟩ : ∃ m, mOf s need = m := ⟨_, rfl⟩
  rw [hf, hm]
  rw [hf, hm] at m1
  rw [hm] at m2 m3
  replace hFr : ∀ W : World, Calls Tryd.prog 41 #[.string (bs s), .int .i64 (need : Int)] W fun e w' => e = .returned (.string (gs f)) ∧ Below W.heap.size W w' := fun W => by have h := hFr W; rw [show tg (frm s need) = f from hf] at h; exact h
  have hC := fun (W : World) => columns_any f need m W h1 (by omega) m1 m2 (by omega)
  have hX := fun (W : World) (g gk : Nat) (hF : FldAt W g) (hK : CkRow W gk (ckOf (colsOf f need m))) => extendedE_any (colsOf f need m) m g gk 0 need need count W hF (by simp) (by omega) (by omega) hK.at (cols_data f need m) (by omega) (Nat.le_refl _) (by omega)
  have hsz : (bs s).size = s.length := bs_size s
  have HV := Lib.hid hV
  have HFr := Lib.hid hFr
  have HC := Lib.hid hC
  have HX := Lib.hid hX
  obtain ⟨S, hS⟩ : ∃ S, bs s = S := ⟨_, rfl⟩
  rw [hS] at HFr hsz ⊢
  have c1 : decide (4096 < (S.size : Int)) = false := decide_eq_false (by omega)
  have c2 : decide (4096 < S.size) = false := decide_eq_false (by omega)
  clear hV hFr hC hX hS hf hm m1
  go_enter Tryd.func20, Tryd.ntmps20
  go_wp2_with (first
    | (go_at_call 38; (with_reducible refine (HV.out _).mono ?_); rintro e ww ⟨rfl, hww⟩; rw [hww]; clear hww ww)
    | (go_at_call 36; (with_reducible refine (newField_any _).mono ?_); rintro e w1 ⟨g, hg0, hg1, rfl, hF, hB1⟩)
    | (go_at_call 41; (with_reducible refine (HFr.out _).mono ?_); rintro e w2 ⟨rfl, hB2⟩; have hF2 := hF.later hB2)
    | (go_at_call 40; (with_reducible refine (HC.out _).mono ?_); rintro e w3 ⟨gk, hgk, rfl, hK, hB3⟩; have hF3 := hF2.later hB3)
    | (go_at_call 39; (with_reducible refine (HX.out _ _ _ hF3 hK).mono ?_); rintro e w4 ⟨gv, hgv, rfl, hR, hB4⟩))
  go_ret2
  have hb2 := below_on hB1 hB2 hB1.size
  have hb3 := below_on hb2 hB3 hb2.size
  have := hb3.size
  exact ⟨gv, by omega, rfl, hR, below_on hb3 hB4 hb3.size⟩

set_option maxRecDepth 100000 in
set_option maxHeartbeats 1000000 in
theorem Encode_no (s : List UInt8) (need count : Int) (h : ¬ (1 ≤ need ∧ need ≤ count ∧ count ≤ 16) ∨ 4096 < s.length) (w : World) :
    Calls Tryd.prog 20 #[.string (bs s), .int .i64 need, .int .i64 count] w fun e w' => e = .returned (.tuple #[.slice none 0 0, .int .i64 60]) ∧ Below w.heap.size w w' := by
  have hsz : (bs s).size = s.length := bs_size s
  obtain ⟨S, hS⟩ : ∃ S, bs s = S := ⟨_, rfl⟩
  rw [hS] at hsz ⊢
  by_cases hv : 1 ≤ need ∧ need ≤ count ∧ count ≤ 16
  · have hV := fun (W : World) => areValid_any need count W
    rw [decide_eq_true hv] at hV
    have HV := Lib.hid hV
    have hl := h.resolve_left (fun k => k hv)
    have c1 : decide (4096 < (S.size : Int)) = true := decide_eq_true (by omega)
    have c2 : decide (4096 < S.size) = true := decide_eq_true (by omega)
    clear hV hS h hv
    go_enter Tryd.func20, Tryd.ntmps20
    go_wp2_with (go_at_call 38; (with_reducible refine (HV.out _).mono ?_); rintro e ww ⟨rfl, hww⟩; rw [hww]; clear hww ww)
    go_ret2
    exact ⟨rfl, Below.refl _ _⟩
  · have hV := fun (W : World) => areValid_any need count W
    rw [decide_eq_false hv] at hV
    have HV := Lib.hid hV
    clear hV hS h hv
    go_enter Tryd.func20, Tryd.ntmps20
    go_wp2_with (go_at_call 38; (with_reducible refine (HV.out _).mono ?_); rintro e ww ⟨rfl, hww⟩; rw [hww]; clear hww ww)
    go_ret2
    exact ⟨rfl, Below.refl _ _⟩

end Go.Proofs.YtajfmhiejipaoaaDoor
