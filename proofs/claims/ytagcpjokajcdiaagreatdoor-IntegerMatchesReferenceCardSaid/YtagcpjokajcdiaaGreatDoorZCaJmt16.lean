/-
  Put together by program out of these texts, in this order: Rfb, Jmf.
-/
import Derived.Test.YtagcpjokajcdiaaGreatDoorZCaJmt14
import Derived.Test.YtagcpjokajcdiaaGreatDoorZCaJmt11

/-
  Layer 3, the reference: FromInt.
-/
namespace Go.Proofs.YtagcpjokajcdiaaGreatDoor
open Go.RowKit Bs Ig

/-- the digit and the rest of a number with a sign -/
theorem sg_partsB (s : Bool) (u : Nat) : (sg s u).tdiv 10 = sg s (u / 10) ∧ (sg s u).tmod 10 = sg s (u % 10) := by
  cases s with
  | false => exact ⟨(Int.ofNat_tdiv u 10).symm, (Int.ofNat_tmod u 10).symm⟩
  | true =>
    show (-(u : Int)).tdiv 10 = -((u / 10 : Nat) : Int) ∧ (-(u : Int)).tmod 10 = -((u % 10 : Nat) : Int)
    rw [Int.neg_tdiv, Int.neg_tmod]
    exact ⟨by rw [Int.ofNat_tdiv]; rfl, by rw [Int.ofNat_tmod]; rfl⟩

set_option maxRecDepth 100000 in
set_option maxHeartbeats 8000000 in
theorem rFromInt_bs (n : Int) (h0 : -9223372036854775808 ≤ n) (h1 : n ≤ 9223372036854775807) (w : World) :
    Calls Tryz.prog 6 #[.int .i64 n] w fun e w' => e = .returned (.string (bs (Lib.itoa n))) ∧ Below w.heap.size w w' := by
  obtain ⟨N, hN⟩ : ∃ N, n.natAbs = N := ⟨_, rfl⟩
  obtain ⟨s, hs⟩ : ∃ s, decide (n < 0) = s := ⟨_, rfl⟩
  have hsg : sg s N = n := by
    rw [← hs, ← hN]; unfold sg
    rcases Int.lt_or_le n 0 with h | h
    · rw [decide_eq_true h, if_pos rfl]; omega
    · rw [decide_eq_false (by omega), if_neg (by decide)]; omega
  have hNb : N < 10 ^ 19 := by omega
  have hNbig : N < big := Nat.lt_of_lt_of_le hNb (Nat.pow_le_pow_right (by omega) (by omega))
  have hlen : (D N).length ≤ 19 := dgs_length_le 8 19 N hNb
  have HTx := Lib.hid (fun (W : World) a m c (h : IsZ W a m c (zs (D N))) => (show Calls Tryz.prog 26 #[.bool s, .slice a m c] W (fun e w' => e = .returned (.tuple #[.string (bs (Lib.itoa n)), .bool true]) ∧ Below W.heap.size W w') from by
    have h2 := text_T s N a m c W h (by have := D_m h hNbig; omega)
    rw [hsg, decide_eq_true hNbig] at h2
    exact h2))
  have hn : n = sg s N := hsg.symm
  generalize bs (Lib.itoa n) = R at *
  obtain ⟨i0, hi, hz0, hz1, hz2⟩ := info_parts infoInt
  clear hN hsg hNbig h0 h1
  have HN := Lib.hid hn
  go_enter Tryz.func6, Tryz.ntmps6
  go_wp2_with fail
  go_loopw [3, 4] (fun v p wr => ∃ (u : Nat) (pre : List Nat), p = .int .i64 (sg s u) ∧ pre ++ D u = D N ∧ u < 10 ^ 19 ∧ Bs.Own wr w.heap.size 3 .i64 v pre ∧ Below w.heap.size w wr) (fun _ p _ => (intOf p).natAbs)
  case atStart => exact ⟨N, [], by rw [HN.out], rfl, hNb, Bs.Own.nil _ _ _ _, Below.refl _ _⟩
  case round =>
    obtain ⟨u, pre, rfl, hpre, hu, hown, hw⟩ := hrel
    obtain ⟨p1, p2⟩ := sg_partsB s u
    rcases Nat.eq_zero_or_pos u with h | h
    · subst h
      rw [D_zero, List.append_nil] at hpre
      subst hpre
      have z : sg s 0 = 0 := by cases s <;> rfl
      rw [z]
      obtain ⟨a, m, c, rfl⟩ := own_slice hown
      have Hz := Lib.hid hown.isZ
      have Hw := Lib.hid hw
      clear p1 p2 hown hw hn
      go_wp2_with (go_at_call 26; (with_reducible refine (HTx.out _ _ _ _ Hz.out).mono ?_); rintro e w5 ⟨rfl, B5⟩)
      go_ret
      exact ⟨rfl, below_on Hw.out B5 Hw.out.size⟩
    · have hm0 : u % 10 < 10 := Nat.mod_lt _ (by omega)
      rw [D_pos h] at hpre
      obtain ⟨r, hr⟩ : ∃ r, u % 10 = r := ⟨_, rfl⟩
      obtain ⟨u2, hu2⟩ : ∃ u2, u / 10 = u2 := ⟨_, rfl⟩
      rw [hr] at hpre p2 hm0
      rw [hu2] at hpre p1
      have hu2l : u2 < u := by omega
      have hpl : pre.length ≤ 2000000 := by
        have h2 := congrArg List.length hpre
        rw [List.length_append, List.length_cons] at h2
        omega
      have hne : sg s u ≠ 0 := fun e => by have := sg_abs s u; rw [e] at this; simp at this; omega
      have hlt : intOf (.int .i64 (sg s u)) = sg s u := rfl
      have hab := sg_abs s u
      have hab2 := sg_abs s u2
      obtain ⟨M, hM⟩ : ∃ M, sg s u = M := ⟨_, rfl⟩
      obtain ⟨M2, hM2⟩ : ∃ M2, sg s u2 = M2 := ⟨_, rfl⟩
      rw [hM] at p1 p2 hne hab ⊢
      rw [hM2] at p1 hab2
      have e1 : (M != 0) = true := by simpa using hne
      have e2 : decide (M = 0) = false := decide_eq_false hne
      obtain ⟨z, hz⟩ : ∃ z, sg s r = z := ⟨_, rfl⟩
      rw [hz] at p2
      have hzb : -10 < z ∧ z < 10 := by have := sg_abs s r; omega
      have hM2b : -1000000000000000000 < M2 ∧ M2 < 1000000000000000000 := by omega
      have hMb : -10000000000000000000 < M ∧ M < 10000000000000000000 := by omega
      have HM2 := Lib.hid hM2
      have HP := Lib.hid hpre
      have Hab := Lib.hid (And.intro hab (And.intro hab2 hu2l))
      have Hpl := Lib.hid hpl
      have hsz := hw.size
      have hfin : z = (r : Int) ∨ z < 0 ∧ -z = (r : Int) := by
        rw [← hz]; unfold sg
        split
        · rcases Nat.eq_zero_or_pos r with h | h
          · exact .inl (by omega)
          · exact .inr (by omega)
        · exact .inl rfl
      clear hpre hpl hM hM2 hz hr hu2 hab hab2 h hn
      rcases hfin with rfl | ⟨hz0', hz1'⟩
      · have e3 : decide ((r : Int) < 0) = false := decide_eq_false (by omega)
        go_wp2_with (at_builtin; refine wpList_push rfl _ _ 38 rfl w.heap.size 3 i0 (.int .i64 0) 8 Tryz.underlying38 hi hz0 hz1 hz2 rfl (by omega) .i64 _ pre rfl (hown.alloc _) ⟨wr.heap.size, 0, none⟩ 1 r rfl ?c1 ?c2 ?c3 ?_)
        case c1 => simp [Addr.add]
        case c2 => exact Hpl.out
        case c3 => simp; omega
        intro v' w1 hown' hb
        have Hown := Lib.hid hown'
        have Hw := Lib.hid ((hw.alloc hsz _).trans hb)
        clear hown hown' hb hw
        go_wp2_with fail
        go_roundw
        case rel => exact ⟨u2, pre ++ [r], by rw [HM2.out], by rw [List.append_assoc]; exact HP.out, by omega, Hown.out, Hw.out⟩
        case measure => have := Hab.out; simp [intOf]; omega
      · have e3 : decide (z < 0) = true := decide_eq_true hz0'
        go_wp2_with (at_builtin; refine wpList_push rfl _ _ 38 rfl w.heap.size 3 i0 (.int .i64 0) 8 Tryz.underlying38 hi hz0 hz1 hz2 rfl (by omega) .i64 _ pre rfl (hown.alloc _) ⟨wr.heap.size, 0, none⟩ 1 r rfl ?c1 ?c2 ?c3 ?_)
        case c1 => simp [Addr.add]
        case c2 => exact Hpl.out
        case c3 => simp; omega
        intro v' w1 hown' hb
        have Hown := Lib.hid hown'
        have Hw := Lib.hid ((hw.alloc hsz _).trans hb)
        clear hown hown' hb hw
        go_wp2_with fail
        go_roundw
        case rel => exact ⟨u2, pre ++ [r], by rw [HM2.out], by rw [List.append_assoc]; exact HP.out, by omega, Hown.out, Hw.out⟩
        case measure => have := Hab.out; simp [intOf]; omega

end Go.Proofs.YtagcpjokajcdiaaGreatDoor

/-
  Layer 3: the integers that strings determine, read off the strings.
-/
namespace Go.Proofs.YtagcpjokajcdiaaGreatDoor
open Go.RowKit Bs Ig

def ds (s : ByteArray) : List Nat := s.data.toList.map fun b => b.toNat % 10
theorem ds_length (s : ByteArray) : (ds s).length = s.size := by unfold ds; rw [List.length_map]; rfl
theorem ds_lt (s : ByteArray) : ∀ x ∈ ds s, x < 10 := by
  intro x hx
  obtain ⟨b, _, rfl⟩ := List.mem_map.1 hx
  exact Nat.mod_lt _ (by omega)
theorem ds_step (s : ByteArray) (j : Nat) (hj : j < s.size) : (ds s).take j ++ [(s[j]'hj).toNat % 10] = (ds s).take (j + 1) := by
  rw [List.take_succ_eq_append_getElem (by rw [ds_length]; exact hj)]
  simp [ds]; rfl
set_option maxRecDepth 100000 in
set_option maxHeartbeats 1000000 in
theorem trim00 (a : Option Addr) (c : Nat) (w : World) :
    Calls Tryz.prog 27 #[.slice a 0 c] w fun e w' => e = .returned (.slice a 0 c) ∧ w' = w := by
  go_enter Tryz.func27, Tryz.ntmps27
  go_wp2_with fail
  go_loopw [0] (fun v wr => v = .slice a 0 c ∧ wr = w) (fun _ _ => 0)
  case atStart => exact ⟨rfl, rfl⟩
  case round =>
    obtain ⟨rfl, rfl⟩ := hrel
    go_wp2_with fail
    go_ret
    exact ⟨rfl, rfl⟩
set_option maxRecDepth 100000 in
set_option maxHeartbeats 1000000 in
theorem text00 (a : Option Addr) (c : Nat) (w : World) :
    Calls Tryz.prog 26 #[.bool false, .slice a 0 c] w fun e w' => e = .returned (.tuple #[.string ⟨#[48]⟩, .bool true]) ∧ w' = w := by
  go_enter Tryz.func26, Tryz.ntmps26
  go_wp2_with fail
  go_ret2
  exact ⟨rfl, rfl⟩
theorem text_z (neg : Bool) (a : Option Addr) (n m c most : Nat) (L : List Nat) (W : World) (hL : L.length = n) (hmn : m ≤ n) (hz : IsZ W a m c (zs (L.take m))) (h : ∀ x ∈ L, x < 10) (hlast : m = 0 ∨ L.getD (m - 1) 0 ≠ 0) (hn : n ≤ most) (hmo : most ≤ 200) :
    Calls Tryz.prog 26 #[.bool neg, .slice a m c] W fun e w' => ∃ z : Int, z.natAbs < 10 ^ most ∧ e = .returned (.tuple #[.string (bs (Lib.itoa z)), .bool true]) ∧ Below W.heap.size W w' := by
  rcases Nat.eq_zero_or_pos m with h0 | h0
  · subst h0
    refine (text0_any neg a c W).mono ?_
    rintro e w' ⟨rfl, hb⟩
    exact ⟨0, Nat.pow_pos (by omega), by rw [lit_0]; rfl, hb⟩
  · have hlast := hlast.resolve_left (by omega)
    have hlt : (L.take m).length = m := by rw [List.length_take]; omega
    obtain ⟨z, hz1, hz2⟩ := dl_num neg (L.take m) (fun x hx => h x (List.mem_of_mem_take hx)) (by omega) (by
      rw [hlt, List.getD_eq_getElem?_getD, List.getElem?_take_of_lt (by omega), ← List.getD_eq_getElem?_getD]; exact hlast)
    refine (text_any neg a m c (L.take m) W hz (fun x hx => h x (List.mem_of_mem_take hx)) h0 (by omega)).mono ?_
    rintro e w' ⟨rfl, hb⟩
    exact ⟨z, Nat.lt_of_lt_of_le hz1 (Nat.pow_le_pow_right (by omega) (by omega)), by rw [hz2], hb⟩

set_option maxRecDepth 100000 in
set_option maxHeartbeats 4000000 in
theorem Made_any (s : ByteArray) (hs : s.size ≤ 9223372036854775807) (most : Nat) (M : Int) (hM : M = most) (hmo : most ≤ 200) (w : World) :
    Calls Tryz.prog 5 #[.string s, .int .i64 M] w fun e w' => ∃ z : Int, z.natAbs < 10 ^ most ∧ e = .returned (.string (bs (Lib.itoa z))) ∧ Below w.heap.size w w' := by
  subst hM
  obtain ⟨i0, hi, hz0, hz1, hz2⟩ := info_parts infoInt
  go_enter Tryz.func5, Tryz.ntmps5
  go_wp2_with fail
  go_loopw [5, 6] (fun v i wr => ∃ j : Nat, j ≤ s.size ∧ j ≤ most ∧ i = .int .i64 (j : Int) ∧ Bs.Own wr w.heap.size 3 .i64 v ((ds s).take j) ∧ Below w.heap.size w wr) (fun _ i _ => most - (intOf i).toNat)
  case atStart => exact ⟨0, Nat.zero_le _, Nat.zero_le _, rfl, Bs.Own.nil _ _ _ _, Below.refl _ _⟩
  case round =>
    obtain ⟨j, hj1, hj2, rfl, hown, hw⟩ := hrel
    have hsz := hw.size
    have hlen : ((ds s).take j).length = j := by rw [List.length_take, ds_length]; omega
    rcases Decidable.em (j < s.size ∧ j < most) with ⟨h1, h2⟩ | hex
    · have hst := ds_step s j h1
      obtain ⟨k, hk⟩ : ∃ k, (s[j]'h1).toNat = k := ⟨_, rfl⟩
      have hk2 : k < 256 := by rw [← hk]; exact UInt8.toNat_lt _
      rw [hk] at hst
      have htm : (k : Int).tmod 10 = ((k % 10 : Nat) : Int) := (Int.ofNat_tmod k 10).symm
      have e1 : decide ((j : Int) < (s.size : Int)) = true := decide_eq_true (by omega)
      have e2 : decide ((j : Int) < (most : Int)) = true := decide_eq_true (by omega)
      have Hst := Lib.hid hst
      have Hlen := Lib.hid hlen
      clear hst hlen
      go_wp2_with (at_builtin; refine wpList_push rfl _ _ 38 rfl w.heap.size 3 i0 (.int .i64 0) 8 Tryz.underlying38 hi hz0 hz1 hz2 rfl (by omega) .i64 _ ((ds s).take j) rfl (hown.alloc _) ⟨wr.heap.size, 0, none⟩ 1 (k % 10) rfl ?c1 ?c2 ?c3 ?_)
      case c1 => simp [Addr.add]
      case c2 => rw [Hlen.out]; omega
      case c3 => simp; omega
      intro v' w1 hown' hb
      rw [Hst.out] at hown'
      have Hown := Lib.hid hown'
      have Hw := Lib.hid ((hw.alloc hsz _).trans hb)
      clear hown hown' hb hw
      go_wp2_with fail
      go_roundw
      case rel => exact ⟨j + 1, by omega, by omega, by go_num, Hown.out, Hw.out⟩
      case measure => simp [intOf]; omega
    · obtain ⟨a, n, c, rfl⟩ := own_slice hown
      obtain rfl : n = j := by have := hown.len; rw [hlen] at this; exact this
      have hzz := hown.isZ
      have hLt : ∀ x ∈ (ds s).take n, x < 10 := fun x hx => ds_lt s x (List.mem_of_mem_take hx)
      obtain ⟨L, hL⟩ : ∃ L, (ds s).take n = L := ⟨_, rfl⟩
      rw [hL] at hzz hLt hlen
      have HT := Lib.hid (fun (W : World) (hb : Below wr.heap.size wr W) => trim_any a n c L W (hzz.later hb) hLt (by omega))
      have HX := Lib.hid (fun (neg : Bool) (m : Nat) (W : World) (hmn : m ≤ n) (hz : IsZ W a m c (zs (L.take m))) (hlast : m = 0 ∨ L.getD (m - 1) 0 ≠ 0) => text_z neg a n m c most L W hlen hmn hz hLt hlast hj2 hmo)
      have Hw := Lib.hid hw
      have hend : decide (n < s.size) = false ∨ (decide (n < s.size) = true ∧ decide (n < most) = false) := by
        rcases Nat.lt_or_ge n s.size with h | h
        · exact .inr ⟨decide_eq_true h, decide_eq_false (by omega)⟩
        · exact .inl (decide_eq_false (by omega))
      rcases Nat.eq_zero_or_pos s.size with hs0 | hs0
      · obtain rfl : n = 0 := by omega
        have g1 : decide (0 < s.size) = false := decide_eq_false (by omega)
        have f1 : decide (((0 : Nat) : Int) < (s.size : Int)) = false := decide_eq_false (by omega)
        have f3 : decide (0 < (s.size : Int)) = false := decide_eq_false (by omega)
        clear hown hw hzz hLt hL hex hlen hj1 hend HT HX
        go_wp2_with fail
        go_quiet (first | (refine (trim00 a c _).mono ?_; rintro e w5 ⟨rfl, rfl⟩; exact ⟨rfl, _, rfl⟩) | (refine (text00 a c _).mono ?_; rintro e w5 ⟨rfl, rfl⟩; exact ⟨rfl, _, rfl⟩))
        go_wp2_with fail
        go_ret
        exact ⟨0, Nat.pow_pos (by omega), by rw [lit_0]; rfl, below_drewN Hw.out _⟩
      · have hgd : ∃ (h : 0 < s.size) (k : Nat), (s[0]'h).toNat = k ∧ (decide (128 ≤ k) = true ∨ decide (128 ≤ k) = false) := by
          refine ⟨hs0, _, rfl, ?_⟩
          cases decide (128 ≤ (s[0]'hs0).toNat) <;> simp
        have g1 : decide (0 < s.size) = true := decide_eq_true hs0
        have f3 : decide (0 < (s.size : Int)) = true := decide_eq_true (by omega)
        clear hown hw hzz hLt hL hex hlen hj1
        rcases hend with e1 | ⟨e1, e2⟩ <;> rcases hgd with ⟨g2, k, g3, g4 | g4⟩
        all_goals
          try have f1 : decide ((n : Int) < (s.size : Int)) = false := (by rw [← e1]; simp only [Int.ofNat_lt])
          try have f1 : decide ((n : Int) < (s.size : Int)) = true := (by rw [← e1]; simp only [Int.ofNat_lt])
          try have f2 : decide ((n : Int) < (most : Int)) = false := (by rw [← e2]; simp only [Int.ofNat_lt])
          try have f4 : decide (128 ≤ (k : Int)) = true := (by rw [← g4, show (128 : Int) = ((128 : Nat) : Int) from rfl]; simp only [Int.ofNat_le])
          try have f4 : decide (128 ≤ (k : Int)) = false := (by rw [← g4, show (128 : Int) = ((128 : Nat) : Int) from rfl]; simp only [Int.ofNat_le])
          go_wp2_with fail
          go_region_held3 (fun _ => True) (first | trivial | go_keep)
            (first
              | (go_at_call 27; (with_reducible refine (HT.out _ (Below.refl _ _).drew).mono ?_); rintro e w5 ⟨m, rfl, hmn, z5, hlast, B5⟩)
              | (go_at_call 26; (with_reducible refine (HX.out _ _ _ hmn z5 hlast).mono ?_); rintro e w6 ⟨z, hzb, rfl, B6⟩))
          all_goals go_wp2_with fail
          all_goals go_ret
          all_goals exact ⟨z, hzb, rfl, below_on (below_on Hw.out (below_undrew B5) Hw.out.size) B6 (below_on Hw.out (below_undrew B5) Hw.out.size).size⟩

end Go.Proofs.YtagcpjokajcdiaaGreatDoor
