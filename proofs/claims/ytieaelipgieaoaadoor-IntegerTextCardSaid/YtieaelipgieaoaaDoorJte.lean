/-
  IntegerText: for every int and every string, and in every memory in which the table of the decimal powers holds its numbers and ErrRange an error, the law returns true.
-/
import Derived.Test.YtieaelipgieaoaaDoorIhk
namespace Go.Proofs.YtieaelipgieaoaaDoor
open Go.RowKit Bs Ig

theorem int_big {n : Int} (h : isInt n) : n.natAbs < big := Nat.lt_trans (show n.natAbs < 10000000000000000000 by have := h.1; have := h.2; omega) (by decide +kernel)

set_option maxRecDepth 100000 in
set_option maxHeartbeats 4000000 in
theorem IntegerText_any (n : Int) (hn : isInt n) (s : ByteArray) (w : World) (ht : TabP w) (he : ErrP w) :
    Calls Tryd.prog 4 #[.int .i64 n, .string s] w fun e w' => e = .returned (.bool true) ∧ Below w.heap.size w w' := by
  have hm : ∀ (W : World) (ts : Array TypeId) (t : TypeId), (Builtin.min_ ts t #[.int .i64 (s.size : Int), .int .i64 30]).run Tryd.prog W = .ok (.int .i64 ((min s.size 30 : Nat) : Int)) W := by
    intro W ts t
    rw [run_min_int2]
    congr 2
    split <;> omega
  have hsh := str_h s (min s.size 30) ((min s.size 30 : Nat) : Int) rfl (by omega)
  obtain ⟨l, hl⟩ : ∃ l, s.data.toList.take (min s.size 30) = l := ⟨_, rfl⟩
  have hbl : s.extract 0 (min s.size 30) = bs l := by
    have := bs_extract s.data.toList 0 (min s.size 30)
    rw [bs_bytes] at this
    rw [this, List.drop_zero, Nat.sub_zero, hl]
  rw [hbl] at hsh
  have HF := Lib.hid (fun (W : World) (h : TabP W) => FromInt_any n hn.1 hn.2 W h)
  have HT := Lib.hid (ToInt_ok n (int_big hn) hn)
  have HV := Lib.hid (Valid_yes n (int_big hn))
  have HE := Lib.hid he
  have HP := Lib.hid ht
  generalize min s.size 30 = m at *
  clear hbl hl hn ht he
  obtain ⟨T, hT⟩ : ∃ T, bs (Lib.itoa n) = T := ⟨_, rfl⟩
  rw [hT] at HF HT HV
  rcases Classical.em (∃ z, isInt z ∧ l = Lib.itoa z) with ⟨z, hz, rfl⟩ | hno
  · have H2 := Lib.hid (ToInt_ok z (int_big hz) hz)
    have HV2 := Lib.hid (Valid_yes z (int_big hz))
    have HF2 := Lib.hid (fun (W : World) (h : TabP W) => FromInt_any z hz.1 hz.2 W h)
    generalize bs (Lib.itoa z) = S at *
    clear hT hz
    go_enter Tryd.func4, Tryd.ntmps4
    go_wp2_with (first
      | (go_at_call 11; (with_reducible refine (sane_any _ HP.out).mono ?_); rintro e w1 ⟨rfl, B1⟩; have T1 := HP.out.later B1)
      | (go_at_call 12; (with_reducible refine (HF.out _ T1).mono ?_); rintro e w2 ⟨rfl, B2⟩; have C2 := below_on B1 B2 B1.size)
      | (go_at_call 13; (with_reducible refine (HT.out _).mono ?_); rintro e w3 ⟨rfl, B3⟩; have C3 := below_on C2 B3 C2.size)
      | (go_at_call 13; (with_reducible refine (H2.out _).mono ?_); rintro e w4 ⟨rfl, B4⟩; have C4 := below_on C3 B4 C3.size; have T4 := HP.out.later C4)
      | (go_at_call 19; (with_reducible refine (HV.out _).mono ?_); rintro e w5 ⟨rfl, rfl⟩)
      | (go_at_call 19; (with_reducible refine (HV2.out _).mono ?_); rintro e w5 ⟨rfl, rfl⟩)
      | (go_at_call 12; (with_reducible refine (HF2.out _ T4).mono ?_); rintro e w6 ⟨rfl, B6⟩; have C6 := below_on C4 B6 C4.size))
    go_ret
    exact ⟨rfl, C6⟩
  · have H2 := Lib.hid (show ∀ W, ErrP W → Calls Tryd.prog 13 #[.string (bs l)] W (fun e w' => e = .returned (.tuple #[.int .i64 0, .int .i64 30]) ∧ Below W.heap.size W w') from fun W he => by
      rcases Classical.em (IsI l) with ⟨z, hz, rfl⟩ | h
      · exact ToInt_far z hz (fun hi => hno ⟨z, hi, rfl⟩) W he
      · exact ToInt_no l h W)
    generalize bs l = S at *
    clear hT hno
    go_enter Tryd.func4, Tryd.ntmps4
    go_wp2_with (first
      | (go_at_call 11; (with_reducible refine (sane_any _ HP.out).mono ?_); rintro e w1 ⟨rfl, B1⟩; have T1 := HP.out.later B1)
      | (go_at_call 12; (with_reducible refine (HF.out _ T1).mono ?_); rintro e w2 ⟨rfl, B2⟩; have C2 := below_on B1 B2 B1.size)
      | (go_at_call 13; (with_reducible refine (HT.out _).mono ?_); rintro e w3 ⟨rfl, B3⟩; have C3 := below_on C2 B3 C2.size; have E3 := HE.out.later C3)
      | (go_at_call 13; (with_reducible refine (H2.out _ E3).mono ?_); rintro e w4 ⟨rfl, B4⟩; have C4 := below_on C3 B4 C3.size)
      | (go_at_call 19; (with_reducible refine (HV.out _).mono ?_); rintro e w5 ⟨rfl, rfl⟩))
    go_ret
    exact ⟨rfl, C4⟩

end Go.Proofs.YtieaelipgieaoaaDoor
