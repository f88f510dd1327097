/-
  IntegerRing: for every three strings, and in every memory in which the table of the decimal powers holds its numbers, the law returns true.
-/
import Derived.Test.YtieaelipgieaoaaDoorJbb
namespace Go.Proofs.YtieaelipgieaoaaDoor
open Go.RowKit Bs Ig

set_option maxRecDepth 100000 in
set_option maxHeartbeats 8000000 in
theorem IntegerRing_any (a b c : ByteArray) (ha : a.size ≤ 9223372036854775807) (hb : b.size ≤ 9223372036854775807) (hc : c.size ≤ 9223372036854775807) (w : World) (ht : TabP w) :
    Calls Tryd.prog 5 #[.string a, .string b, .string c] w fun e w' => e = .returned (.bool true) ∧ Below w.heap.size w w' := by
  obtain ⟨T, HO⟩ := opm
  have HN := Lib.hid (Now.start ht)
  have Ma := Lib.hid (HO.made a ha 60 60 rfl (by omega))
  have Mb := Lib.hid (HO.made b hb 60 60 rfl (by omega))
  have Mc := Lib.hid (HO.made c hc 60 60 rfl (by omega))
  have H := Lib.hid HO
  clear HO ha hb hc ht
  go_enter Tryd.func5, Tryd.ntmps5
  go_wp2_with (first
      | (go_at_call 11; (with_reducible refine (sane_any _ HN.out.tab).mono ?_); rintro e ww ⟨rfl, hB⟩; have HN := Lib.hid (HN.out.step hB); clear hB)
      | (go_at_call 20; (with_reducible refine (Ma.out _).mono ?_); rintro e ww ⟨x, hx, rfl, hB⟩; have HN := Lib.hid (HN.out.step hB); clear hB)
      | (go_at_call 20; (with_reducible refine (Mb.out _).mono ?_); rintro e ww ⟨y, hy, rfl, hB⟩; have HN := Lib.hid (HN.out.step hB); clear hB)
      | (go_at_call 20; (with_reducible refine (Mc.out _).mono ?_); rintro e ww ⟨z, hz, rfl, hB⟩; have HN := Lib.hid (HN.out.step hB); clear hB))
  have HO := H.out.ops
  have A1 := Lib.hid (HO.add x y _ (lt_big hx (by omega)) (lt_big hy (by omega)) rfl (lt_big (add_lt hx hy) (by omega)))
  have A2 := Lib.hid (HO.add y x _ (lt_big hy (by omega)) (lt_big hx (by omega)) (Int.add_comm y x) (lt_big (add_lt hx hy) (by omega)))
  have A3 := Lib.hid (HO.add (x + y) z _ (lt_big (add_lt hx hy) (by omega)) (lt_big hz (by omega)) rfl (lt_big (add_lt (add_lt hx hy) (lt_more hz (by omega))) (by omega)))
  have A4 := Lib.hid (HO.add y z _ (lt_big hy (by omega)) (lt_big hz (by omega)) rfl (lt_big (add_lt hy hz) (by omega)))
  have A5 := Lib.hid (HO.add x (y + z) _ (lt_big hx (by omega)) (lt_big (add_lt hy hz) (by omega)) (Int.add_assoc x y z).symm (lt_big (add_lt (add_lt hx hy) (lt_more hz (by omega))) (by omega)))
  have M1 := Lib.hid (HO.mul x y _ (lt_big hx (by omega)) (lt_big hy (by omega)) rfl (lt_big (mul_lt hx hy) (by omega)))
  have M2 := Lib.hid (HO.mul y x _ (lt_big hy (by omega)) (lt_big hx (by omega)) (Int.mul_comm y x) (lt_big (mul_lt hx hy) (by omega)))
  have M3 := Lib.hid (HO.mul (x * y) z _ (lt_big (mul_lt hx hy) (by omega)) (lt_big hz (by omega)) rfl (lt_big (mul_lt (mul_lt hx hy) hz) (by omega)))
  have M4 := Lib.hid (HO.mul y z _ (lt_big hy (by omega)) (lt_big hz (by omega)) rfl (lt_big (mul_lt hy hz) (by omega)))
  have M5 := Lib.hid (HO.mul x (y * z) _ (lt_big hx (by omega)) (lt_big (mul_lt hy hz) (by omega)) (Int.mul_assoc x y z).symm (lt_big (mul_lt (mul_lt hx hy) hz) (by omega)))
  have M6 := Lib.hid (HO.mul (x + y) z _ (lt_big (add_lt hx hy) (by omega)) (lt_big hz (by omega)) rfl (lt_big (mul_lt (add_lt hx hy) hz) (by omega)))
  have M7 := Lib.hid (HO.mul x z _ (lt_big hx (by omega)) (lt_big hz (by omega)) rfl (lt_big (mul_lt hx hz) (by omega)))
  have A6 := Lib.hid (HO.add (x * z) (y * z) _ (lt_big (mul_lt hx hz) (by omega)) (lt_big (mul_lt hy hz) (by omega)) (Int.add_mul x y z).symm (lt_big (mul_lt (add_lt hx hy) hz) (by omega)))
  have S1 := Lib.hid (HO.sub x y _ (lt_big hx (by omega)) (lt_big hy (by omega)) rfl (lt_big (sub_lt hx hy) (by omega)))
  have A7 := Lib.hid (HO.add (x - y) y x (lt_big (sub_lt hx hy) (by omega)) (lt_big hy (by omega)) (by omega) (lt_big hx (by omega)))
  have m8 := HO.mul x 1 x (lt_big hx (by omega)) one_big (Int.mul_one x) (lt_big hx (by omega))
  rw [HO.one] at m8
  have M8 := Lib.hid m8
  have m9 := HO.mul x 0 0 (lt_big hx (by omega)) zero_big (Int.mul_zero x) zero_big
  obtain ⟨U, hU⟩ : ∃ U, T 0 = U := ⟨_, rfl⟩
  have hU0 : (U.toList == [48]) = true := by rw [← hU, HO.eq0]; rfl
  have m9' : ∀ W, TabP W → Calls Tryd.prog 16 #[.string (T x), .string ⟨#[48]⟩] W fun e w' => e = .returned (.tuple #[.string U, .int .i64 0]) ∧ Below W.heap.size W w' := by
    intro W hW
    have h := m9 W hW
    rw [hU] at h
    rw [← HO.zero, hU]
    exact h
  have M9 := Lib.hid m9'
  generalize T x = X at *
  generalize T y = Y at *
  generalize T z = Z at *
  generalize T (x + y) = XY at *
  generalize T (x + y + z) = XYZ at *
  generalize T (y + z) = YZ at *
  generalize T (x * y) = P at *
  generalize T (x * y * z) = PZ at *
  generalize T (y * z) = R at *
  generalize T ((x + y) * z) = L at *
  generalize T (x * z) = XZ at *
  generalize T (x - y) = D at *
  clear hx hy hz HO m8 m9 m9' hU H
  go_wp2_with (first
      | (go_at_call 14; (with_reducible refine (A1.out _ HN.out.tab).mono ?_); rintro e ww ⟨rfl, hB⟩; have HN := Lib.hid (HN.out.step hB); clear hB)
      | (go_at_call 14; (with_reducible refine (A2.out _ HN.out.tab).mono ?_); rintro e ww ⟨rfl, hB⟩; have HN := Lib.hid (HN.out.step hB); clear hB)
      | (go_at_call 14; (with_reducible refine (A3.out _ HN.out.tab).mono ?_); rintro e ww ⟨rfl, hB⟩; have HN := Lib.hid (HN.out.step hB); clear hB)
      | (go_at_call 14; (with_reducible refine (A4.out _ HN.out.tab).mono ?_); rintro e ww ⟨rfl, hB⟩; have HN := Lib.hid (HN.out.step hB); clear hB)
      | (go_at_call 14; (with_reducible refine (A5.out _ HN.out.tab).mono ?_); rintro e ww ⟨rfl, hB⟩; have HN := Lib.hid (HN.out.step hB); clear hB)
      | (go_at_call 14; (with_reducible refine (A6.out _ HN.out.tab).mono ?_); rintro e ww ⟨rfl, hB⟩; have HN := Lib.hid (HN.out.step hB); clear hB)
      | (go_at_call 14; (with_reducible refine (A7.out _ HN.out.tab).mono ?_); rintro e ww ⟨rfl, hB⟩; have HN := Lib.hid (HN.out.step hB); clear hB)
      | (go_at_call 16; (with_reducible refine (M1.out _ HN.out.tab).mono ?_); rintro e ww ⟨rfl, hB⟩; have HN := Lib.hid (HN.out.step hB); clear hB)
      | (go_at_call 16; (with_reducible refine (M2.out _ HN.out.tab).mono ?_); rintro e ww ⟨rfl, hB⟩; have HN := Lib.hid (HN.out.step hB); clear hB)
      | (go_at_call 16; (with_reducible refine (M3.out _ HN.out.tab).mono ?_); rintro e ww ⟨rfl, hB⟩; have HN := Lib.hid (HN.out.step hB); clear hB)
      | (go_at_call 16; (with_reducible refine (M4.out _ HN.out.tab).mono ?_); rintro e ww ⟨rfl, hB⟩; have HN := Lib.hid (HN.out.step hB); clear hB)
      | (go_at_call 16; (with_reducible refine (M5.out _ HN.out.tab).mono ?_); rintro e ww ⟨rfl, hB⟩; have HN := Lib.hid (HN.out.step hB); clear hB)
      | (go_at_call 16; (with_reducible refine (M6.out _ HN.out.tab).mono ?_); rintro e ww ⟨rfl, hB⟩; have HN := Lib.hid (HN.out.step hB); clear hB)
      | (go_at_call 16; (with_reducible refine (M7.out _ HN.out.tab).mono ?_); rintro e ww ⟨rfl, hB⟩; have HN := Lib.hid (HN.out.step hB); clear hB)
      | (go_at_call 16; (with_reducible refine (M8.out _ HN.out.tab).mono ?_); rintro e ww ⟨rfl, hB⟩; have HN := Lib.hid (HN.out.step hB); clear hB)
      | (go_at_call 16; (with_reducible refine (M9.out _ HN.out.tab).mono ?_); rintro e ww ⟨rfl, hB⟩; have HN := Lib.hid (HN.out.step hB); clear hB)
      | (go_at_call 15; (with_reducible refine (S1.out _ HN.out.tab).mono ?_); rintro e ww ⟨rfl, hB⟩; have HN := Lib.hid (HN.out.step hB); clear hB))
  go_ret
  exact ⟨rfl, HN.out.below⟩

end Go.Proofs.YtieaelipgieaoaaDoor
