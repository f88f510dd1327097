/-
  Layer 2: the law's own helpers 'few', 'binary', 'left'.
-/
import Derived.Test.YtagcpjokajcdiaaDoorLsa
import Derived.Test.YtagcpjokajcdiaaDoorFrame
import Derived.Test.YtagcpjokajcdiaaDoorRlt
namespace Go.Proofs.YtagcpjokajcdiaaDoor
open Go.RowKit Bs

/-- at most N strings, each cut to 60 bytes -/
def fewL (ss : List ByteArray) (N : Nat) : Strs := (ss.take N).map fun s => s.data.toList.take (min s.size 60)
theorem fewL_length (ss : List ByteArray) (N : Nat) : (fewL ss N).length = min N ss.length := by simp [fewL]
theorem fewL_short {ss : List ByteArray} {N : Nat} : ∀ x ∈ fewL ss N, x.length ≤ 60 := by
  intro x hx
  simp only [fewL, List.mem_map] at hx
  obtain ⟨s, _, rfl⟩ := hx
  rw [List.length_take]; omega
theorem fewL_snoc (ss : List ByteArray) (N j : Nat) (h1 : j < ss.length) (h2 : j < N) : (fewL ss N).take (j + 1) = (fewL ss N).take j ++ [(ss.getD j ByteArray.empty).data.toList.take (min (ss.getD j ByteArray.empty).size 60)] := by
  have hl : j < (fewL ss N).length := by rw [fewL_length]; omega
  rw [List.take_succ_eq_append_getElem hl]
  congr 2
  simp [fewL, List.getD_eq_getElem?_getD, h1]

set_option maxRecDepth 100000 in
set_option maxHeartbeats 1000000 in
theorem few_any (a : Option Addr) (n c N : Nat) (ss : List ByteArray) (w : World) (hS : Fr.IsStrs w a n ss) (hN : N ≤ 1000) :
    Calls Tryd.prog 5 #[.slice a n c, .int .i64 (N : Int)] w (GivesL (fewL ss N) w) := by
  obtain ⟨s1, s2, s3, s4⟩ := hS
  unfold maxLen at s2
  have HL := Lib.hid (fewL_length ss N)
  have HS := Lib.hid (fewL_snoc ss N)
  obtain ⟨L, hL⟩ : ∃ L, fewL ss N = L := ⟨_, rfl⟩
  rw [hL] at HL HS ⊢
  clear hL
  go_enter Tryd.func5, Tryd.ntmps5
  go_wp2_with fail
  go_loopw [5, 6] (fun v i wr => ∃ j : Nat, j ≤ n ∧ j ≤ N ∧ i = .int .i64 j ∧ OwnS wr w.heap.size v (L.take j) ∧ Below w.heap.size w wr) (fun _ i _ => 2000 - (intOf i).toNat)
  case atStart => exact ⟨0, by omega, by omega, rfl, by rw [List.take_zero]; exact OwnS.nil _ _, Below.refl _ _⟩
  case round =>
    obtain ⟨j, hj, hjN, rfl, hown, hw⟩ := hrel
    have hs := hw.size
    have HO := Lib.hid hown
    clear hown
    by_cases hc : j < n ∧ j < N
    · obtain ⟨hjn, hjN2⟩ := hc
      obtain ⟨b1, o1, rfl, c1⟩ := s4.resolve_left (by omega)
      have lg : b1 < w.heap.size := block_lt_of_cell (c1 j hjn)
      have k1 := (hw.cell (p := ⟨b1, o1 + j, none⟩) lg).trans (c1 j hjn)
      have HX := Lib.hid (HS.out j (by omega) hjN2)
      have sb := s3 (ss.getD j ByteArray.empty) (by rw [List.getD_eq_getElem?_getD, List.getElem?_eq_getElem (by omega)]; exact List.getElem_mem _)
      obtain ⟨s, hs⟩ : ∃ s, ss.getD j ByteArray.empty = s := ⟨_, rfl⟩
      rw [hs] at k1 sb HX
      clear hs c1 s4
      unfold maxLen at sb
      obtain ⟨m, t, ⟨ma, mb⟩, x0, l0, e0, et⟩ := cut_string s 60
      have r0 := fun w ts ty => min_run (P := Tryd.prog) s.size 60 m e0 60 rfl w ts ty
      rw [← e0, ← et] at HX
      have Hlen : (L.take j).length ≤ 2000000 := by rw [List.length_take]; omega
      clear et e0 l0
      have i1 : (j : Int) < (n : Int) := by omega
      have i2 : (j : Int) < (N : Int) := by omega
      go_wp2_with fail
      go_region_held3 (fun w' => w'.cell? ⟨b1, o1 + j, none⟩ = some (.string s))
        (first
          | go_keep
          | (refine (hB.cell (p := ⟨b1, _, none⟩) (by omega)).trans ?_; assumption))
        ((refine step_pushS (by rfl) _ _ (by rfl) w.heap.size _ (L.take j) (by rfl) ((HO.out.alloc _).drew) ⟨wr.heap.size, 0, none⟩ 1 t (by rfl) (by first | exact fresh_cell wr _ _ | (rw [← x0]; exact fresh_cell wr _ _)) Hlen (by simp; omega) ?_; intro v1 w1 hown1 hB))
      rw [← HX.out] at hown1
      have Hown := Lib.hid hown1
      clear hown1 HX
      go_wp2_with fail
      go_roundw
      case rel => exact ⟨j + 1, by omega, by omega, by go_num, Hown.out, (hw.alloc (by omega) _).trans (off_drew hB)⟩
      case measure => simp [intOf]; omega
    · have hfull : L.take j = L := List.take_of_length_le (by rw [HL.out]; omega)
      rw [hfull] at HO
      by_cases h1 : j < n
      · have h2 : j = N := by omega
        subst h2
        go_wp2_with fail
        go_ret
        exact ⟨_, rfl, HO.out, hw⟩
      · have h2 : j = n := by omega
        subst h2
        go_wp2_with fail
        go_ret
        exact ⟨_, rfl, HO.out, hw⟩

/-- how many binary digits a number has -/
def bin : Nat → Nat → Nat
  | 0, _ => 0
  | f + 1, n => if n = 0 then 0 else 1 + bin f (n / 2)
theorem bin_succ (f n : Nat) : bin (f + 1) n = if n = 0 then 0 else 1 + bin f (n / 2) := rfl
theorem bin_zero (f : Nat) : bin f 0 = 0 := by cases f <;> rfl
end Go.Proofs.YtagcpjokajcdiaaDoor
