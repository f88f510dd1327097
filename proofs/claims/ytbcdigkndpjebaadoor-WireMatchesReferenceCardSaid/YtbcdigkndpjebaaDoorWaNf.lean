/-
  The laws' own choice of an integer: NumberFrom.
-/
import Derived.Test.YtbcdigkndpjebaaDoorWaSum
namespace Go.Proofs.YtbcdigkndpjebaaDoor
open Go.RowKit

def nfT : List Int := [64, 128, 8192, 16384, 1073741824, 36028797018963968, 576460752303423488, 2]
def nf0 (c : Int) : Int := pk (pk c 4611686018427387904 / 8) (nfT.getD (pk c 8).toNat 2)
def nf (c : Int) : Int := if 8 ≤ pk c 16 then - nf0 c else nf0 c
theorem nfT_bd (j : Nat) : 1 ≤ nfT.getD j 2 ∧ nfT.getD j 2 ≤ 576460752303423488 := by
  rcases Nat.lt_or_ge j 8 with h | h
  · have : ∀ j : Fin 8, 1 ≤ nfT.getD j.val 2 ∧ nfT.getD j.val 2 ≤ 576460752303423488 := by decide
    exact this ⟨j, h⟩
  · rw [List.getD_eq_getElem?_getD, List.getElem?_eq_none (by simp [nfT]; omega)]; simp
theorem nf_bd (c : Int) : -576460752303423488 ≤ nf c ∧ nf c ≤ 576460752303423488 := by
  have h1 := nfT_bd (pk c 8).toNat
  have h2 := pk_bd (pk c 4611686018427387904 / 8) h1.1
  unfold nf
  have h3 : nf0 c = pk (pk c 4611686018427387904 / 8) (nfT.getD (pk c 8).toNat 2) := rfl
  split <;> omega

set_option maxRecDepth 100000 in
set_option maxHeartbeats 400000 in
theorem NumberFrom_any (c : Int) (w : World) (h1 : -9223372036854775808 ≤ c) (h2 : c ≤ 9223372036854775807) :
    Calls Tryd.prog 11 #[.int .i64 c] w fun e w' => e = .returned (.int .i64 (nf c)) ∧ Below w.heap.size w w' := by
  obtain ⟨j, hj⟩ : ∃ j : Nat, pk c 8 = j := ⟨(pk c 8).toNat, by have := pk_bd c (n := 8) (by omega); omega⟩
  have hj8 : j < 8 := by have := pk_bd c (n := 8) (by omega); omega
  have hnf : nf0 c = pk (pk c 4611686018427387904 / 8) (nfT.getD j 2) := by unfold nf0; rw [hj]; rfl
  obtain ⟨t, ht⟩ : ∃ t, nfT.getD j 2 = t := ⟨_, rfl⟩
  obtain ⟨p1, p2⟩ := pk_bd c (n := 4611686018427387904) (by omega)
  obtain ⟨q1, q2⟩ := pk_bd c (n := 16) (by omega)
  have tb := nfT_bd j
  rw [ht] at hnf tb
  obtain ⟨t1, t2⟩ := tb
  have tt := pk_bd (pk c 4611686018427387904 / 8) t1
  rw [← hnf] at tt
  obtain ⟨r1, r2⟩ := tt
  have hret : nf c = if 8 ≤ pk c 16 then - nf0 c else nf0 c := rfl
  have Hret := Lib.hid hret
  have Hnf := Lib.hid hnf
  have Hj := Lib.hid hj
  have Ht := Lib.hid ht
  clear hj hnf hret ht
  go_enter Tryd.func11, Tryd.ntmps11
  go_wp2_with fail
  refine (pick_any _ _ _ (by omega) (by omega) (by omega) (by omega)).mono ?_; rintro e w' ⟨rfl, rfl⟩
  go_wp2_with fail
  refine (pick_any _ _ _ (by omega) (by omega) (by omega) (by omega)).mono ?_; rintro e w' ⟨rfl, rfl⟩
  rw [Hj.out]
  generalize hW : w.alloc (.cells #[.int .i64 64, .int .i64 128, .int .i64 8192, .int .i64 16384, .int .i64 1073741824, .int .i64 36028797018963968, .int .i64 576460752303423488, .int .i64 2] 3) = W
  have hB : Below w.heap.size w W := by subst hW; exact (Below.refl _ w).alloc (Nat.le_refl _) _
  have hc : W.cell? ⟨w.heap.size, j, none⟩ = some (.int .i64 t) := by
    rw [← hW, cell_of_row _ w.heap.size j _ _ _ (heap_alloc_new _ _), ← Ht.out]
    have : ∀ j : Fin 8, #[Value.int .i64 64, .int .i64 128, .int .i64 8192, .int .i64 16384, .int .i64 1073741824, .int .i64 36028797018963968, .int .i64 576460752303423488, .int .i64 2][j.val]? = some (.int .i64 (nfT.getD j.val 2)) := by
      intro j
      match j with
      | 0 => rfl
      | 1 => rfl
      | 2 => rfl
      | 3 => rfl
      | 4 => rfl
      | 5 => rfl
      | 6 => rfl
      | 7 => rfl
    exact this ⟨j, hj8⟩
  clear hW
  go_wp2_with fail
  refine (pick_any _ _ _ (by omega) (by omega) (by omega) (by omega)).mono ?_; rintro e w' ⟨rfl, rfl⟩
  rw [← Hnf.out]
  go_wp2_with fail
  refine (pick_any _ _ _ (by omega) (by omega) (by omega) (by omega)).mono ?_; rintro e w' ⟨rfl, rfl⟩
  rcases Int.lt_or_le (pk c 16) 8 with h8 | h8
  · have e : nf c = nf0 c := by rw [Hret.out, if_neg (by omega)]
    have E := Lib.hid e
    clear e
    go_wp2_with fail
    go_ret
    exact ⟨by rw [E.out]; rfl, hB⟩
  · have e : nf c = - nf0 c := by rw [Hret.out, if_pos (by omega)]
    have E := Lib.hid e
    clear e
    go_wp2_with fail
    go_ret
    exact ⟨by rw [E.out]; rfl, hB⟩

end Go.Proofs.YtbcdigkndpjebaaDoor
