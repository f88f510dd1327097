/-
  The law's hex, and its left.
-/
import Derived.Test.YtagcpjokajcdiaaDoorDve
import Derived.WalkSpells
import Derived.WalkLawsBesides
namespace Go.Proofs.YtagcpjokajcdiaaDoor
open Go.RowKit Bs

def hexD : List UInt8 := [48, 49, 50, 51, 52, 53, 54, 55, 56, 57, 97, 98, 99, 100, 101, 102]
def hexB (x : Nat) : List UInt8 := [hexD.getD (x / 16) 0, hexD.getD (x % 16) 0]
def hexL (l : List UInt8) : List UInt8 := l.flatMap fun b => hexB b.toNat
theorem hexL_snoc (l : List UInt8) (k : Nat) (h : k < l.length) (x : Nat) (hx : l[k].toNat = x) : hexL (l.take k) ++ hexB x = hexL (l.take (k + 1)) := by
  subst hx
  unfold hexL
  rw [List.take_succ_eq_append_getElem h, List.flatMap_append]; simp
theorem hexL_length (l : List UInt8) : (hexL l).length = 2 * l.length := by
  induction l with
  | nil => rfl
  | cons b l ih => simp only [hexL, List.flatMap_cons, List.length_append, List.length_cons] at ih ⊢; rw [ih]; simp [hexB]; omega
theorem hexD_cut (d : Nat) (h : d < 16) : (bs hexD).extract d (d + 1) = bs [hexD.getD d 0] := by
  rw [bs_extract, show d + 1 - d = 1 by omega]
  congr 1
  rcases (show d = 0 ∨ d = 1 ∨ d = 2 ∨ d = 3 ∨ d = 4 ∨ d = 5 ∨ d = 6 ∨ d = 7 ∨ d = 8 ∨ d = 9 ∨ d = 10 ∨ d = 11 ∨ d = 12 ∨ d = 13 ∨ d = 14 ∨ d = 15 by omega) with h | h | h | h | h | h | h | h | h | h | h | h | h | h | h | h <;> subst h <;> rfl

theorem hexSlice (d : Nat) (h : d < 16) (W : World) : (Instr.sliceAt 9 (.string ⟨#[48, 49, 50, 51, 52, 53, 54, 55, 56, 57, 97, 98, 99, 100, 101, 102]⟩) (some (.int .u8 (d : Int))) (some (.int .u8 ((d : Int) + 1))) none).run Tryd.prog W = .ok (.string (bs [hexD.getD d 0])) W := by
  rw [run_sliceAt_string _ _ _ _ _ _ Tryd.underlying9, run_slice_string_if _ _ _ _ _ _ _ Tryd.underlying9, if_pos (by refine ⟨by omega, ?_⟩; show (d : Int) + 1 ≤ 16; omega), if_pos (by omega)]
  rw [← hexD_cut d h, show ((d : Int) + 1).toNat = d + 1 by omega, Int.toNat_natCast]
  rfl
set_option maxRecDepth 100000 in
set_option maxHeartbeats 1000000 in
theorem hex_s (s : ByteArray) (l : List UInt8) (hsl : s.data.toList = l) (w : World) (hl : l.length ≤ 1000000) :
    Calls Tryd.prog 13 #[.string s] w fun e w' => e = .returned (.string (bs (hexL l))) ∧ Below w.heap.size w w' := by
  have hz : s.size = l.length := by rw [← hsl]; rfl
  have Hsl := Lib.hid hsl
  clear hsl
  go_enter Tryd.func13, Tryd.ntmps13
  go_wp2_with fail
  go_loopw [3, 4] (fun v i wr => ∃ j : Nat, j ≤ l.length ∧ i = .int .i64 j ∧ v = .string (bs (hexL (l.take j))) ∧ Below w.heap.size w wr) (fun _ i _ => l.length - (intOf i).toNat)
  case atStart => exact ⟨0, by omega, rfl, rfl, Below.refl _ _⟩
  case round =>
    obtain ⟨j, hj, rfl, rfl, hw⟩ := hrel
    rcases Nat.lt_or_ge j l.length with hjl | hjl
    · obtain ⟨x, hx⟩ : ∃ x, s[j].toNat = x := ⟨_, rfl⟩
      have hx256 : x < 256 := by rw [← hx]; exact s[j].toNat_lt
      have i1 : (0 : Int) ≤ (j : Int) := by omega
      have i2 : (j : Int) < (l.length : Int) := by omega
      obtain ⟨d, hd⟩ : ∃ d, x / 16 = d := ⟨_, rfl⟩
      obtain ⟨r, hr⟩ : ∃ r, x % 16 = r := ⟨_, rfl⟩
      have hd16 : d < 16 := by omega
      have hr16 : r < 16 := by omega
      have hw1 : IntKind.u8.wrap ((x : Int) / 16) = (d : Int) := by rw [IntKind.wrap_u8]; omega
      have hw2 : IntKind.u8.wrap ((d : Int) + 1) = (d : Int) + 1 := by rw [IntKind.wrap_u8]; omega
      have hw3 : (x : Int).tmod 16 = (r : Int) := by rw [Int.tmod_eq_emod_of_nonneg (by omega)]; omega
      have hw4 : IntKind.u8.wrap (r : Int) = (r : Int) := by rw [IntKind.wrap_u8]; omega
      have hw5 : IntKind.u8.wrap ((r : Int) + 1) = (r : Int) + 1 := by rw [IntKind.wrap_u8]; omega
      have t1 : ((d : Int) + 1).toNat = d + 1 := by omega
      have t2 : ((r : Int) + 1).toNat = r + 1 := by omega
      have j1 : (d : Int) + 1 ≤ 16 := by omega
      have j2 : (r : Int) + 1 ≤ 16 := by omega
      have j3 : (0 : Int) ≤ (d : Int) + 1 := by omega
      have j4 : (0 : Int) ≤ (r : Int) + 1 := by omega
      have hx1 := fun W => hexSlice d hd16 W
      have hx2 := fun W => hexSlice r hr16 W
      obtain ⟨c1, hc1⟩ : ∃ c1, hexD.getD d 0 = c1 := ⟨_, rfl⟩
      obtain ⟨c2, hc2⟩ : ∃ c2, hexD.getD r 0 = c2 := ⟨_, rfl⟩
      rw [hc1] at hx1
      rw [hc2] at hx2
      obtain ⟨X, hX⟩ : ∃ X, hexL (l.take j) = X := ⟨_, rfl⟩
      have hXl : X.length ≤ 2000000 := by rw [← hX, hexL_length, List.length_take]; omega
      rw [hX]
      have hap : ∀ l m, bs l ++ bs m = bs (l ++ m) := bs_append
      have hsz : ∀ l, (bs l).size = l.length := bs_size
      have hsn := Lib.hid (show X ++ ([c1] ++ [c2]) = hexL (l.take (j + 1)) by
        rw [← hX, ← hc1, ← hc2, ← hexL_snoc l j hjl x (by have := Hsl.out; subst this; exact hx)]
        simp [hexB, hd, hr])
      clear hc1 hc2 hX
      clear hd hr
      go_wp2_with fail

      go_quiet (fail)

      clear hw1 hw2 hw3 hw4 hw5 t1 t2 hx1 hx2

      go_wp2_with fail
      go_roundw
      case rel => exact ⟨j + 1, by omega, by go_num, by rw [← hsn.out]; simp, below_drewN hw nq⟩
      case measure => simp [intOf]; omega
    · obtain rfl : l.length = j := by omega
      rw [List.take_of_length_le (Nat.le_refl _)]
      go_wp2_with fail
      go_ret
      exact ⟨rfl, hw⟩

end Go.Proofs.YtagcpjokajcdiaaDoor
