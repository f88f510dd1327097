/-
  Layer 3: the integers that strings determine.
-/
import Derived.Test.YtieaelipgieaoaaDoorJba
import Derived.BigQuiet
namespace Go.Proofs.YtieaelipgieaoaaDoor
open Go.RowKit Bs Ig

/-- digits, the least first, as bytes, the greatest first -/
def dl (l : List Nat) : List Nat := (l.map fun d => 48 + d).reverse
theorem dl_lt (l : List Nat) (h : ∀ x ∈ l, x < 10) : ∀ b ∈ dl l, 48 ≤ b ∧ b ≤ 57 := by
  intro b hb
  obtain ⟨d, hd, rfl⟩ := List.mem_map.1 (List.mem_reverse.1 hb)
  have := h d hd
  omega
theorem ub_length (l : List Nat) : (ub l).length = l.length := by simp [ub]
/-- what such bytes spell -/
theorem dl_num (neg : Bool) (l : List Nat) (h : ∀ x ∈ l, x < 10) (h0 : 0 < l.length) (hlast : l.getD (l.length - 1) 0 ≠ 0) :
    ∃ z : Int, z.natAbs < 10 ^ l.length ∧ ub ((if neg = true then [45] else []) ++ dl l) = Lib.itoa z := by
  have hb := dl_lt l h
  have hd : ∀ c ∈ ub (dl l), isDig c := by
    intro c hc
    obtain ⟨b, hb1, rfl⟩ := List.mem_map.1 hc
    have := hb b hb1
    unfold isDig
    rw [show (UInt8.ofNat b).toNat = b by rw [UInt8.toNat_ofNat']; exact Nat.mod_eq_of_lt (by omega)]
    exact this
  obtain ⟨r, x, hx⟩ : ∃ r x, l = r ++ [x] := by
    rcases List.eq_nil_or_concat l with e | ⟨r, x, e⟩
    · rw [e] at h0; cases h0
    · exact ⟨r, x, by rw [e, List.concat_eq_append]⟩
  have hx0 : x ≠ 0 := by
    rw [hx] at hlast
    simpa using hlast
  have hx9 : x < 10 := h x (by rw [hx]; simp)
  have hdl : ub (dl l) = UInt8.ofNat (48 + x) :: ub (dl r) := by
    rw [hx]; simp [dl, ub]
  have hnum := dec_num (ub (dl l)) hd _ _ hdl (by rw [UInt8.toNat_ofNat', Nat.mod_eq_of_lt (by omega)]; omega)
  have hlt := num_lt _ hd
  rw [ub_length, show (dl l).length = l.length by simp [dl]] at hlt
  cases neg with
  | false => exact ⟨(num (ub (dl l)) : Nat), by rw [Int.natAbs_natCast]; exact hlt, by rw [itoa_nat, hnum]; rfl⟩
  | true =>
    have hpos : 0 < num (ub (dl l)) := by
      rw [hdl, num_cons, UInt8.toNat_ofNat', Nat.mod_eq_of_lt (by omega)]
      have h1 : 0 < 10 ^ (ub (dl r)).length := Nat.pow_pos (by omega)
      have := Nat.mul_le_mul_right (10 ^ (ub (dl r)).length) (show 1 ≤ 48 + x - 48 by omega)
      omega
    exact ⟨-((num (ub (dl l)) : Nat) : Int), by rw [Int.natAbs_neg, Int.natAbs_natCast]; exact hlt, by rw [itoa_neg _ hpos, hnum]; rfl⟩

set_option maxRecDepth 100000 in
set_option maxHeartbeats 1000000 in
theorem trim_any (a : Option Addr) (n c : Nat) (l : List Nat) (w : World) (hl : IsZ w a n c (zs l)) (h : ∀ x ∈ l, x < 10) (hn : n ≤ 1000000) :
    Calls Tryd.prog 38 #[.slice a n c] w fun e w' => ∃ m, e = .returned (.slice a m c) ∧ m ≤ n ∧ IsZ w' a m c (zs (l.take m)) ∧ (m = 0 ∨ l.getD (m - 1) 0 ≠ 0) ∧ Below w.heap.size w w' := by
  have hll : l.length = n := by rw [← zs_length]; exact hl.len
  have hc := hl.cap
  have hm := hl.max
  go_enter Tryd.func38, Tryd.ntmps38
  go_wp2_with fail
  go_loopw [0] (fun v wr => ∃ m : Nat, m ≤ n ∧ v = .slice a m c ∧ Below w.heap.size w wr) (fun v _ => lenOf v)
  case atStart => exact ⟨n, Nat.le_refl _, rfl, Below.refl _ _⟩
  case round =>
    obtain ⟨m, hmn, rfl, hw⟩ := hrel
    have hfin := ((hl.later hw).take hmn)
    rw [zs_take] at hfin
    rcases Nat.eq_zero_or_pos m with h0 | h0
    · subst h0
      have Hf := Lib.hid hfin
      clear hl h hfin
      go_wp2_with fail
      go_ret
      exact ⟨0, rfl, Nat.zero_le _, Hf.out, .inl rfl, hw⟩
    · obtain ⟨g, off, rfl, hI⟩ := (hl.later hw).at (by omega)
      have hcell := hI (m - 1) (by rw [zs_length]; omega)
      rw [zs_getD] at hcell
      obtain ⟨x, hx⟩ : ∃ x, l.getD (m - 1) 0 = x := ⟨_, rfl⟩
      have HX := Lib.hid hx
      rw [hx] at hcell
      rcases Nat.eq_zero_or_pos x with hx0 | hx0
      · subst hx0
        have hsl := slc_h wr 48 Tryd.underlying48 (some ⟨g, off, none⟩) m c (m - 1) ((m : Int) - 1) (by omega) (by omega) (by kernel_rfl)
        clear hl h hI hx hfin
        go_wp2_with fail
        go_roundw
        case rel => exact ⟨m - 1, by omega, by go_num, hw⟩
        case measure => simp [lenOf]; omega
      · have hx1 : decide ((x : Int) = 0) = false := by simp; omega
        have Hf := Lib.hid hfin
        clear hl h hI hx hfin
        go_wp2_with fail
        go_ret
        exact ⟨m, rfl, hmn, Hf.out, .inr (by rw [HX.out]; omega), hw⟩

end Go.Proofs.YtieaelipgieaoaaDoor
