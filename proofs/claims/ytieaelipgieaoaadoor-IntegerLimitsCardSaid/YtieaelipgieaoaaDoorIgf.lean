/-
  Layer 3: columns folded, and the number that they add up to.
-/
import Derived.Test.YtieaelipgieaoaaDoorIgc
namespace Go.Proofs.YtieaelipgieaoaaDoor
open Go.RowKit Bs Ig

theorem Out.later {W W' : World} {B go : Nat} {L : List Nat} (h : Out W B go L) (hb : Below W.heap.size W W') : Out W' B go L := by
  obtain ⟨⟨v, hrow, hown⟩, hge⟩ := h
  exact ⟨⟨v, (hb.block go ((Array.getElem?_eq_some_iff.1 hrow).1)).trans hrow, hown.later hb⟩, hge⟩
set_option maxRecDepth 100000 in
set_option maxHeartbeats 1000000 in
theorem fold_any (B go : Nat) (a : Option Addr) (n c : Nat) (Z : List Int) (w : World) (hZ : IsZ w a n c Z) (hbd : ∀ x ∈ Z, -1000000000000000 ≤ x ∧ x ≤ 1000000000000000) (ho : Out w B go []) (hB : B ≤ w.heap.size) (hn : n ≤ 1000000)
    (hg : ∀ g off, a = some ⟨g, off, none⟩ → 0 < n → g < B) :
    Calls Tryd.prog 78 #[.slice a n c, .int .i64 0, .func (.func 79) #[] #[.pointer (some ⟨go, 0, none⟩)]] w fun e w' => e = .returned (.int .i64 (cry 10000 Z 0)) ∧ Out w' B go (outs 10000 Z 0) ∧ Below B w w' := by
  have hcap := hZ.cap
  have hll := hZ.len
  go_enter Tryd.func78, Tryd.ntmps78
  go_wp2_with fail
  go_loopw [1, 11] (fun s i wr => ∃ k : Nat, k ≤ n ∧ i = .int .i64 k ∧ s = .int .i64 (cry 10000 (Z.take k) 0) ∧ Out wr B go (outs 10000 (Z.take k) 0) ∧ Below B w wr) (fun _ i _ => n - (intOf i).toNat)
  case atStart => exact ⟨0, by omega, rfl, rfl, ho, Below.refl _ _⟩
  case round =>
    obtain ⟨k, hk, rfl, rfl, hout, hw⟩ := hrel
    rcases Nat.lt_or_ge k n with hkn | hkn
    · obtain ⟨g, off, rfl, hI⟩ := hZ.at (by omega)
      have hgB := hg g off rfl (by omega)
      have hcell : wr.cell? ⟨g, off + k, none⟩ = some (.int .i64 (Z.getD k 0)) := (hw.cell (p := ⟨g, off + k, none⟩) hgB).trans (hI k (by omega))
      have hcb := cry_bound 10000 1000000000000000 (Z.take k) 0 (by omega) (fun x hx => hbd x (List.mem_of_mem_take hx)) (by omega)
      have hxb : -1000000000000000 ≤ Z.getD k 0 ∧ Z.getD k 0 ≤ 1000000000000000 := by
        rw [List.getD_eq_getElem?_getD, List.getElem?_eq_getElem (by omega)]; exact hbd _ (List.getElem_mem (by omega))
      have htk : Z.take (k + 1) = Z.take k ++ [Z.getD k 0] := by
        rw [List.take_add_one, List.getElem?_eq_getElem (by omega), List.getD_eq_getElem?_getD, List.getElem?_eq_getElem (by omega)]; rfl
      have hcr := cry_snoc 10000 (Z.take k) (Z.getD k 0) 0
      have hou := outs_snoc 10000 (Z.take k) (Z.getD k 0) 0
      have hol := outs_length 10000 (Z.take k) 0
      rw [← htk] at hcr hou
      have hc1 := carried1_any B go (cry 10000 (Z.take k) 0) (Z.getD k 0) (outs 10000 (Z.take k) 0) wr hout (Nat.le_trans hB hw.size) hcb hxb (by rw [hol, List.length_take]; omega)
      generalize Z.getD k 0 = x at *
      generalize cry 10000 (Z.take k) 0 = cr at *
      generalize outs 10000 (Z.take k) 0 = ou at *
      rw [show ((10000 : Nat) : Int) = 10000 from rfl] at hcr hou
      rw [← hcr, ← hou] at hc1
      have HC := Lib.hid hc1
      clear hZ hbd ho hI hgB hcb hxb htk hcr hou hol hg hout hc1
      go_wp2_with (go_at_call 79; refine HC.out.mono ?_; rintro e w' ⟨rfl, ho', hb'⟩)
      go_roundw
      case rel => exact ⟨k + 1, by omega, by go_num, rfl, ho', hw.trans hb'⟩
      case measure => simp [intOf]; omega
    · obtain rfl : n = k := by omega
      rw [List.take_of_length_le (by omega)] at hout ⊢
      clear hZ hbd ho hg
      go_wp2_with fail
      go_ret
      exact ⟨rfl, hout, hw⟩

end Go.Proofs.YtieaelipgieaoaaDoor
