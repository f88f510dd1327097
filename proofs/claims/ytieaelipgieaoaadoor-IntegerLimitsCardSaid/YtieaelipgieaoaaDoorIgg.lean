/-
  Layer 3: the groups of a string of digits.
-/
import Derived.Test.YtieaelipgieaoaaDoorIgy
import Derived.Lib.AtoiErrMem
namespace Go.Proofs.YtieaelipgieaoaaDoor
open Go.RowKit Bs Ig

theorem atoi_any (l : List UInt8) (hd : ∀ c ∈ l, isDig c) (h0 : l ≠ []) (hl : l.length ≤ 4) (w : World) :
    Calls Tryd.prog 26 #[.string (bs l)] w fun e w' => e = .returned (.tuple #[.int .i64 (num l : Nat), .nilIface]) ∧ Below w.heap.size w w' := by
  have hn := num_lt l hd
  have h4 : 10 ^ l.length ≤ 10 ^ 4 := Nat.pow_le_pow_right (by omega) hl
  have h := Tryd.strconv_Atoi_ok (bs l) (by rw [bs_size]; omega) (num l : Nat) (atoi_small l hd h0 (by omega)) w
  refine h.mono ?_
  rintro e w' ⟨rfl, hw⟩
  refine ⟨rfl, ?_⟩
  rcases hw with rfl | ⟨t, rfl⟩
  · exact Below.refl _ _
  · exact Lib.bytesWorld_below _ _ _
theorem own_slice {W : World} {base : Nat} {t : TypeId} {k : IntKind} {v : Value} {l : List Nat} (h : Bs.Own W base t k v l) : ∃ a n c, v = .slice a n c := h.row.2.elim (fun h => ⟨_, _, _, h.1⟩) (fun ⟨g, cap, cur, hv, _⟩ => ⟨_, _, _, hv⟩)
theorem str_l (S : ByteArray) (k : Nat) (K : Int) (hK : K = k) (hk : k ≤ S.size) (W : World) : (Instr.sliceAt 9 (.string S) (some (.int .i64 K)) none none).run Tryd.prog W = .ok (.string (S.extract k S.size)) W := by
  subst hK
  rw [run_sliceAt_string _ _ _ _ _ _ Tryd.underlying9, Go.run_slice_string_l (h0 := by omega) (h1 := by omega) (ht := Tryd.underlying9)]
  rfl
theorem str_h (S : ByteArray) (k : Nat) (K : Int) (hK : K = k) (hk : k ≤ S.size) (W : World) : (Instr.sliceAt 9 (.string S) none (some (.int .i64 K)) none).run Tryd.prog W = .ok (.string (S.extract 0 k)) W := by
  subst hK
  rw [run_sliceAt_string _ _ _ _ _ _ Tryd.underlying9, Go.run_slice_string_h (h0 := by omega) (h2 := by omega) (ht := Tryd.underlying9)]
  rfl
theorem num_chunk (l : List UInt8) (s k : Nat) (hs : s ≤ k) (hk : k ≤ l.length) : num (l.take k) = num (l.take s) * 10 ^ (k - s) + num ((l.take k).drop s) := by
  have h := num_append ((l.take k).take s) ((l.take k).drop s)
  rw [List.take_append_drop] at h
  rw [h, List.take_take, Nat.min_eq_left hs, List.length_drop, List.length_take, Nat.min_eq_left hk]

set_option maxRecDepth 100000 in
set_option maxHeartbeats 2000000 in
theorem groupsOf_any (l : List UInt8) (hd : ∀ c ∈ l, isDig c) (hlen : l.length ≤ 1000) (w : World) :
    Calls Tryd.prog 50 #[.string (bs l)] w fun e w' => ∃ a n c, e = .returned (.slice a n c) ∧ IsZ w' a n c (zs (G (num l))) ∧ Below w.heap.size w w' := by
  obtain ⟨i0, hi, hz0, hz1, hz2⟩ := info_parts infoInt
  have hstart : bs l = bs (l.take l.length) := by rw [List.take_length]
  rw [hstart]
  obtain ⟨S0, hS0⟩ : ∃ S0, bs (l.take l.length) = S0 := ⟨_, rfl⟩
  rw [hS0]
  have HS0 := Lib.hid hS0
  clear hS0 hstart
  go_enter Tryd.func50, Tryd.ntmps50
  go_wp2_with fail
  go_loopw [0, 3] (fun u v wr => ∃ (k : Nat) (C : List Nat), k ≤ l.length ∧ u = .string (bs (l.take k)) ∧ Bs.Own wr w.heap.size 3 .i64 v C ∧ (∀ x ∈ C, x < 10000) ∧ C.length + k ≤ l.length ∧ V C + 10000 ^ C.length * num (l.take k) = num l ∧ Below w.heap.size w wr) (fun u _ _ => match u with | .string s => s.size | _ => 0)
  case atStart =>
    refine ⟨l.length, [], Nat.le_refl _, by rw [← HS0.out], ⟨rfl, .inr ⟨w.heap.size, 0, _, rfl, Nat.le_refl _, heap_alloc_new _ _, Nat.le_refl _, Nat.zero_le _, rfl, rfl⟩⟩, (fun x hx => by cases hx), by simp, by rw [List.take_length]; simp [V, val], (Below.refl _ w).alloc (Nat.le_refl _) _⟩
  case round =>
    obtain ⟨k, C, hk, rfl, hown, hC, hCl, hv, hw⟩ := hrel
    rcases Nat.eq_zero_or_pos k with h0 | h0
    · subst h0
      rw [List.take_zero] at hv ⊢
      have hv2 : V C = num l := by rw [← hv, show num ([] : List UInt8) = 0 from rfl, Nat.mul_zero, Nat.add_zero]
      obtain ⟨a3, n3, c3, he⟩ := own_slice hown
      subst he
      have hn3 : n3 = C.length := hown.len
      have ht := trimmed_any a3 n3 c3 C wr hown.isZ hC (by omega)
      rw [hv2] at ht
      have Ht := Lib.hid ht
      have hsz : (bs ([] : List UInt8)).size = 0 := rfl
      clear hown hC hv hv2 ht hCl hn3
      go_wp2_with (go_at_call 66; refine Ht.out.mono ?_; rintro e w4 ⟨m, rfl, hZ4, hb7⟩)
      go_ret
      exact ⟨_, _, _, rfl, hZ4, below_on hw hb7 hw.size⟩
    · obtain ⟨s, hs⟩ : ∃ s, k - 4 = s := ⟨_, rfl⟩
      have hs1 : s < k ∧ k ≤ s + 4 ∧ (s = 0 ∨ k = s + 4) := by omega
      have hmax : ∀ (w : World) (ts : Array TypeId) (t : TypeId), (Builtin.max_ ts t #[.int .i64 0, .int .i64 ((k : Int) - 4)]).run Tryd.prog w = .ok (.int .i64 (s : Int)) w := by
        intro w ts t
        rw [run_max_int2]
        congr 2
        split <;> omega
      obtain ⟨ch, hch⟩ : ∃ ch, (l.take k).drop s = ch := ⟨_, rfl⟩
      have hcl : ch.length = k - s := by rw [← hch, List.length_drop, List.length_take]; omega
      have hcd : ∀ c ∈ ch, isDig c := fun c hc => hd c (List.mem_of_mem_take (List.mem_of_mem_drop (by rw [hch]; exact hc)))
      have hcn := num_lt ch hcd
      have hcn4 : num ch < 10000 := Nat.lt_of_lt_of_le hcn (Nat.pow_le_pow_right (n := 10) (by omega) (show ch.length ≤ 4 by omega))
      have hnc := num_chunk l s k (by omega) hk
      rw [hch] at hnc
      have hat := atoi_any ch hcd (by intro e; rw [e] at hcl; simp at hcl; omega) (by omega)
      obtain ⟨S, hS⟩ : ∃ S, bs (l.take k) = S := ⟨_, rfl⟩
      have hSs : S.size = k := by rw [← hS, bs_size, List.length_take]; omega
      have hsl := str_l S s (s : Int) rfl (by omega)
      have hsh := str_h S s (s : Int) rfl (by omega)
      rw [show S.extract s S.size = bs ch by rw [hSs, ← hS, bs_extract, ← hch, List.take_of_length_le (by rw [List.length_drop, List.length_take]; omega)]] at hsl
      rw [show S.extract 0 s = bs (l.take s) by rw [← hS, bs_extract, List.drop_zero, List.take_take, Nat.sub_zero, Nat.min_eq_left (by omega)]] at hsh
      rw [hS]
      obtain ⟨q, hq⟩ : ∃ q, num ch = q := ⟨_, rfl⟩
      rw [hq] at hat hcn4 hnc
      have HV := Lib.hid (show V (C ++ [q]) + 10000 ^ (C ++ [q]).length * num (l.take s) = num l by
        rw [← hv, hnc, show V (C ++ [q]) = val 10000 (C ++ [q]) from rfl, val_append, List.length_append]
        show V C + 10000 ^ C.length * (q + 10000 * 0) + 10000 ^ (C.length + 1) * num (l.take s) = _
        rcases hs1.2.2 with h | h
        · rw [h, List.take_zero, show num ([] : List UInt8) = 0 from rfl, Nat.mul_zero, Nat.zero_mul, Nat.zero_add, Nat.mul_zero, Nat.add_zero, Nat.add_zero]
        · rw [h, show s + 4 - s = 4 by omega, Nat.mul_zero, Nat.add_zero, Nat.pow_succ, Nat.mul_add, show (10 : Nat) ^ 4 = 10000 from rfl, Nat.mul_comm (num (l.take s)) 10000, Nat.mul_assoc]; omega)
      have HA := Lib.hid hat
      have Hown := Lib.hid hown
      have HC := Lib.hid (And.intro hC hCl)
      have HS := Lib.hid hS
      clear hs hch hcl hcd hcn hnc hat hS hq hown hC hCl hv
      go_wp2_with (first | (go_at_call 26; refine (HA.out _).mono ?_; rintro e w4 ⟨rfl, hb4⟩; have hown4 := Hown.out.later hb4; have hw4 := below_on hw hb4 hw.size; have hs4 := hw4.size) | (at_builtin; refine wpList_push rfl _ _ 48 rfl w.heap.size 3 i0 (.int .i64 0) 8 Tryd.underlying48 hi hz0 hz1 hz2 rfl (by omega) .i64 _ C rfl (hown4.alloc _) ⟨w4.heap.size, 0, none⟩ 1 q rfl ?c1 ?c2 ?c3 ?_))
      case c1 => simp [Addr.add]
      case c2 => have := HC.out.2; omega
      case c3 => simp; omega
      intro v' w5 hown5 hb5
      have hw5 := (hw4.alloc hs4 (.cells #[.int .i64 (q : Int)] 3)).trans hb5
      have Hown5 := Lib.hid hown5
      clear hown4 hown5 hb4 hb5 hw4 hs4
      go_wp2_with fail
      go_roundw
      case rel =>
        refine ⟨s, C ++ [q], by omega, rfl, Hown5.out, fun x hx => ?_, by have := HC.out.2; rw [List.length_append]; simp; omega, HV.out, hw5⟩
        rcases List.mem_append.1 hx with hx | hx
        · exact HC.out.1 x hx
        · rw [List.mem_singleton.1 hx]; exact hcn4
      case measure =>
        show (bs (l.take s)).size < S.size
        rw [bs_size, List.length_take, hSs]; omega

end Go.Proofs.YtieaelipgieaoaaDoor
