/-
  wire.PutInt out of its bounds, PutString, String.
-/
import Derived.Test.YtajfmhiejipaoaaDoorWaPut
namespace Go.Proofs.YtajfmhiejipaoaaDoor
open Go.RowKit

/-- a list of bytes as a string -/
def bs (l : List UInt8) : ByteArray := ⟨l.toArray⟩
theorem bs_bytes (s : ByteArray) : bs s.data.toList = s := by cases s; rfl
theorem bs_size (l : List UInt8) : (bs l).size = l.length := by simp [bs, ByteArray.size]
theorem bs_append (l m : List UInt8) : bs l ++ bs m = bs (l ++ m) := by
  apply ByteArray.ext; simp [bs]

theorem PutInt_bad (n : Int) (w : World) (h0 : -9223372036854775808 ≤ n) (h3 : n ≤ 9223372036854775807) (h : ¬ (-4611686018427387903 ≤ n ∧ n ≤ 4611686018427387903)) :
    Calls Tryd.prog 54 #[.int .i64 n] w fun e w' => e = .returned (.tuple #[.string (bs []), .int .i64 10]) ∧ w = w' := by
  by_cases hn : n < -4611686018427387903
  · go_enter Tryd.func54, Tryd.ntmps54
    go_wp2
    go_ret2
    exact ⟨rfl, rfl⟩
  · have h2 : 4611686018427387903 < n := by omega
    go_enter Tryd.func54, Tryd.ntmps54
    go_wp2
    go_ret2
    exact ⟨rfl, rfl⟩

/-- what PutInt returns -/
def putB (n : Int) : List UInt8 × Int := if -4611686018427387903 ≤ n ∧ n ≤ 4611686018427387903 then (encI n, 0) else ([], 10)
def Ret2 (v : List UInt8 × Int) : Ending := .returned (.tuple #[.string (bs v.1), .int .i64 v.2])
theorem PutInt_any (n : Int) (w : World) (h0 : -9223372036854775808 ≤ n) (h3 : n ≤ 9223372036854775807) :
    Calls Tryd.prog 54 #[.int .i64 n] w fun e w' => e = Ret2 (putB n) ∧ Below w.heap.size w w' := by
  by_cases h : -4611686018427387903 ≤ n ∧ n ≤ 4611686018427387903
  · rw [show putB n = (encI n, 0) from if_pos h]; exact PutInt_ok n w h.1 h.2
  · rw [show putB n = ([], 10) from if_neg h]
    refine (PutInt_bad n w h0 h3 h).mono ?_
    rintro e w' ⟨he, rfl⟩
    exact ⟨he, Below.refl _ _⟩

theorem encI_length (n : Int) : 1 ≤ (encI n).length ∧ (encI n).length ≤ 9 := lebU_length _

/-- what PutString returns -/
def putS (s : List UInt8) : List UInt8 × Int := if s.length ≤ 65536 then (encI s.length ++ s, 0) else ([], 10)

set_option maxHeartbeats 400000 in
theorem PutString_any (s : List UInt8) (w : World) (hs : s.length ≤ 9223372036854775807) :
    Calls Tryd.prog 31 #[.string (bs s)] w fun e w' => e = Ret2 (putS s) ∧ Below w.heap.size w w' := by
  have hz : (bs s).size = s.length := bs_size s
  have Hz := Lib.hid hz
  by_cases h : s.length ≤ 65536
  · rw [show putS s = (encI s.length ++ s, 0) from if_pos h]
    have l2 := (encI_length s.length).2
    go_enter Tryd.func31, Tryd.ntmps31
    go_wp2_with (go_at_call 54; refine (PutInt_ok _ _ (by omega) (by omega)).mono ?_; rintro e w' ⟨rfl, hB⟩)
    go_ret2
    refine ⟨?_, hB⟩
    show Ending.returned (.tuple #[.string (bs (encI s.length) ++ bs s), .int .i64 0]) = _
    rw [bs_append]; rfl
  · rw [show putS s = ([], 10) from if_neg h]
    go_enter Tryd.func31, Tryd.ntmps31
    go_wp2
    go_ret2
    exact ⟨rfl, Below.refl _ _⟩

/-- the bytes as numbers -/
def nb (l : List UInt8) : List Nat := l.map UInt8.toNat
theorem bN_bs (l : List UInt8) : bN (bs l) = nb l := rfl
theorem nb_length (l : List UInt8) : (nb l).length = l.length := by simp [nb]
theorem bs_extract (l : List UInt8) (a b : Nat) : (bs l).extract a b = bs ((l.drop a).take (b - a)) := by
  apply ByteArray.ext
  simp only [ByteArray.data_extract, bs]
  apply Array.ext'
  simp [List.extract_eq_take_drop]

/-- the bounds of what Int returns -/
theorem intB_bd (l : List UInt8) (at_ : Int) (h : (intB (nb l) at_).2.2 = 0) :
    0 ≤ at_ ∧ at_ < (intB (nb l) at_).2.1 ∧ (intB (nb l) at_).2.1 ≤ l.length ∧ -4611686018427387903 ≤ (intB (nb l) at_).1 ∧ (intB (nb l) at_).1 ≤ 4611686018427387903 := by
  unfold intB at h ⊢
  split at h
  · simp at h
  · rename_i h1
    rw [if_neg h1]
    split at h
    · simp at h
    · rename_i h2
      rw [if_neg h2]
      have hb := numB_bd ((nb l).drop at_.toNat) (fun b hb => by
        have := List.mem_of_mem_drop hb; simp only [nb, List.mem_map] at this; obtain ⟨x, _, rfl⟩ := this; exact x.toNat_lt)
      rw [nb_length] at h1
      simp only [List.length_drop, nb_length] at hb
      have hu := un_bd (z := ((numB ((nb l).drop at_.toNat)).1 : Int)) (by omega) (by omega)
      simp only
      omega
theorem intB_err (l : List UInt8) (at_ : Int) (h : (intB (nb l) at_).2.2 ≠ 0) : (intB (nb l) at_).1 = 0 ∧ (intB (nb l) at_).2.1 = 0 ∧ ((intB (nb l) at_).2.2 = 2 ∨ (intB (nb l) at_).2.2 = 10) := by
  unfold intB at h ⊢
  split
  · simp
  · rename_i h1
    rw [if_neg h1] at h
    split
    · simp
    · rename_i h2
      rw [if_neg h2] at h
      simp at h

/-- what String returns -/
def strB (l : List UInt8) (at_ : Int) : List UInt8 × Int × Int :=
  if (intB (nb l) at_).2.2 ≠ 0 then ([], 0, (intB (nb l) at_).2.2)
  else if (intB (nb l) at_).1 < 0 ∨ 65536 < (intB (nb l) at_).1 ∨ (l.length : Int) - (intB (nb l) at_).2.1 < (intB (nb l) at_).1 then ([], 0, 10)
  else ((l.drop (intB (nb l) at_).2.1.toNat).take (intB (nb l) at_).1.toNat, (intB (nb l) at_).2.1 + (intB (nb l) at_).1, 0)
def RetS (v : List UInt8 × Int × Int) : Ending := .returned (.tuple #[.string (bs v.1), .int .i64 v.2.1, .int .i64 v.2.2])

theorem Int_is (l : List UInt8) (at_ n next e : Int) (h : intB (nb l) at_ = (n, next, e)) (w : World) (hs : l.length ≤ maxLen) (h1 : -9223372036854775808 ≤ at_) (h2 : at_ ≤ 9223372036854775807) :
    Calls Tryd.prog 71 #[.string (bs l), .int .i64 at_] w fun x w' => x = .returned (.tuple #[.int .i64 n, .int .i64 next, .int .i64 e]) ∧ w = w' := by
  have := Int_any (bs l) at_ w (by rw [bs_size]; exact hs) h1 h2
  rw [bN_bs, h] at this
  exact this

set_option maxRecDepth 100000 in
set_option maxHeartbeats 400000 in
theorem String_any (l : List UInt8) (at_ : Int) (w : World) (hs : l.length ≤ maxLen) (h1 : -9223372036854775808 ≤ at_) (h2 : at_ ≤ 9223372036854775807) :
    Calls Tryd.prog 51 #[.string (bs l), .int .i64 at_] w fun e w' => e = RetS (strB l at_) ∧ w = w' := by
  have hm := hs
  unfold maxLen at hm
  have hz : (bs l).size = l.length := bs_size l
  obtain ⟨n, next, e, hi⟩ : ∃ n next e, intB (nb l) at_ = (n, next, e) := ⟨_, _, _, rfl⟩
  have hbd := intB_bd l at_
  have her := intB_err l at_
  have hst : strB l at_ = if e ≠ 0 then ([], 0, e) else if n < 0 ∨ 65536 < n ∨ (l.length : Int) - next < n then ([], 0, 10) else ((l.drop next.toNat).take n.toNat, next + n, 0) := by
    unfold strB; rw [hi]
  rw [hi] at hbd her
  simp only at hbd her
  have Hi := Lib.hid hi
  clear hi
  by_cases he : e = 0
  · subst he
    obtain ⟨b1, b2, b3, b4, b5⟩ := hbd rfl
    clear hbd her
    rw [if_neg (by omega)] at hst
    obtain ⟨nx, rfl⟩ := Int.eq_ofNat_of_zero_le (show 0 ≤ next by omega)
    by_cases c1 : n < 0
    · rw [if_pos (.inl c1)] at hst
      rw [hst]; clear hst
      go_enter Tryd.func51, Tryd.ntmps51
      go_wp2_with (go_at_call 71; refine (Int_is _ _ _ _ _ Hi.out _ hs (by omega) (by omega)).mono ?_; rintro e w' ⟨rfl, rfl⟩)
      go_ret3
      exact ⟨rfl, rfl⟩
    · by_cases c2 : 65536 < n
      · rw [if_pos (.inr (.inl c2))] at hst
        rw [hst]; clear hst
        go_enter Tryd.func51, Tryd.ntmps51
        go_wp2_with (go_at_call 71; refine (Int_is _ _ _ _ _ Hi.out _ hs (by omega) (by omega)).mono ?_; rintro e w' ⟨rfl, rfl⟩)
        go_ret3
        exact ⟨rfl, rfl⟩
      · by_cases c3 : (l.length : Int) - nx < n
        · rw [if_pos (.inr (.inr c3))] at hst
          rw [hst]; clear hst
          go_enter Tryd.func51, Tryd.ntmps51
          go_wp2_with (go_at_call 71; refine (Int_is _ _ _ _ _ Hi.out _ hs (by omega) (by omega)).mono ?_; rintro e w' ⟨rfl, rfl⟩)
          go_ret3
          exact ⟨rfl, rfl⟩
        · rw [if_neg (by omega)] at hst
          rw [hst]; clear hst
          obtain ⟨k, rfl⟩ := Int.eq_ofNat_of_zero_le (show 0 ≤ n by omega)
          go_enter Tryd.func51, Tryd.ntmps51
          go_wp2_with (go_at_call 71; refine (Int_is _ _ _ _ _ Hi.out _ hs (by omega) (by omega)).mono ?_; rintro e w' ⟨rfl, rfl⟩)
          go_ret3
          refine ⟨?_, rfl⟩
          show Ending.returned (.tuple #[.string ((bs l).extract nx (nx + k)), .int .i64 ((nx : Int) + k), .int .i64 0]) = Ending.returned (.tuple #[.string (bs ((l.drop nx).take k)), .int .i64 ((nx : Int) + k), .int .i64 0])
          rw [bs_extract, show nx + k - nx = k from by omega]
  · obtain ⟨r1, r2, r3⟩ := her he
    clear hbd her
    rw [if_pos he] at hst
    rw [hst]; clear hst
    have he' : (e != 0) = true := by rw [bne_iff_ne]; exact he
    clear he
    go_enter Tryd.func51, Tryd.ntmps51
    go_wp2_with (go_at_call 71; refine (Int_is _ _ _ _ _ Hi.out _ hs (by omega) (by omega)).mono ?_; rintro e w' ⟨rfl, rfl⟩)
    go_ret3
    exact ⟨rfl, rfl⟩

end Go.Proofs.YtajfmhiejipaoaaDoor
