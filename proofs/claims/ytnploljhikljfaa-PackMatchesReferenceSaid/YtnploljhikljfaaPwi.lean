/-
  Layer 7: the laws' helpers: pick, cut; their sane holds.
-/
import Derived.Test.YtnploljhikljfaaPwh
import Derived.WalkSpells
import Derived.WalkLawsBesides
namespace Go.Proofs.Ytnploljhikljfaa
open Go.RowKit Bs Pk

/-! fixed examples, with fuel -/
namespace Pk
def divF (s : List Nat) : Nat → Nat → Nat → List Pc
  | 0, _, _ => []
  | f + 1, start, place => if place < s.length then
    if 4 ≤ (best s place).1 then (if start < place then [.run start (place - start)] else []) ++ .copy (best s place).1 (best s place).2 :: divF s f (place + (best s place).1) (place + (best s place).1)
    else if place + 1 - start = 128 then .run start 128 :: divF s f (place + 1) (place + 1)
    else divF s f start (place + 1)
  else if start < place then [.run start (place - start)] else []
theorem divF_eq (s : List Nat) : ∀ f start place, s.length - place < f → divF s f start place = div s start place
  | 0, _, _, h => by omega
  | f + 1, start, place, h => by
    unfold divF
    by_cases h1 : place < s.length
    · rw [if_pos h1]
      by_cases h4 : 4 ≤ (best s place).1
      · rw [if_pos h4, div_copy s _ _ h1 h4, divF_eq s f _ _ (by omega)]
      · rw [if_neg h4]
        by_cases h8 : place + 1 - start = 128
        · rw [if_pos h8, div_full s _ _ h1 h4 h8, divF_eq s f _ _ (by omega)]
        · rw [if_neg h8, div_next s _ _ h1 h4 h8, divF_eq s f _ _ (by omega)]
    · rw [if_neg h1, div_end s _ _ h1]
theorem enc_fuel (s : List Nat) : enc s = spells s (divF s (s.length + 1) 0 0) := by rw [divF_eq s _ 0 0 (by omega)]; rfl
def parseF (c : List Nat) : Nat → Nat → List Pc
  | 0, _ => []
  | f + 1, i => if i + 1 < c.length then
    if c.getD i 0 < 128 then
      if i + 2 + c.getD i 0 ≤ c.length then .run (i + 1) (c.getD i 0 + 1) :: parseF c f (i + 2 + c.getD i 0) else []
    else .copy (c.getD i 0 - 124) (c.getD (i + 1) 0) :: parseF c f (i + 2)
  else []
theorem parseF_eq (c : List Nat) : ∀ f i, c.length - i < f → parseF c f i = parse c i
  | 0, _, h => by omega
  | f + 1, i, h => by
    unfold parseF
    by_cases h1 : i + 1 < c.length
    · rw [if_pos h1]
      by_cases h2 : c.getD i 0 < 128
      · rw [if_pos h2]
        by_cases h3 : i + 2 + c.getD i 0 ≤ c.length
        · rw [if_pos h3, parse_run c i _ h1 rfl h2 h3, parseF_eq c f _ (by omega)]
        · rw [if_neg h3, parse_bad c i _ h1 rfl h2 h3]
      · rw [if_neg h2, parse_copy c i _ _ h1 rfl rfl h2, parseF_eq c f _ (by omega)]
    · rw [if_neg h1, parse_end c i h1]
theorem whole_fuel (c : List Nat) : whole c = ex c (parseF c (c.length + 1) 0) [] := by rw [parseF_eq c _ 0 (by omega)]; rfl
end Pk

theorem x_abc : ub (enc (nb [97, 98, 99])) = [2, 97, 98, 99] := by rw [enc_fuel]; decide +kernel
theorem x_a8 : ub (enc (nb [97, 97, 97, 97, 97, 97, 97, 97])) = [0, 97, 131, 1] := by rw [enc_fuel]; decide +kernel
theorem x_abc3 : ub (enc (nb [97, 98, 99, 97, 98, 99, 97, 98, 99])) = [2, 97, 98, 99, 130, 3] := by rw [enc_fuel]; decide +kernel
theorem x_abcd : ub (enc (nb [97, 98, 99, 100, 97, 98, 99])) = [6, 97, 98, 99, 100, 97, 98, 99] := by rw [enc_fuel]; decide +kernel
theorem w_abc3 : whole (nb [2, 97, 98, 99, 130, 3]) = [97, 98, 99, 97, 98, 99, 97, 98, 99] := by rw [whole_fuel]; decide +kernel
theorem g_abc3 : good (nb [2, 97, 98, 99, 130, 3]) := by
  unfold good; rw [w_abc3]
  exact ⟨by decide, by rw [enc_fuel]; decide +kernel⟩
theorem g_none : good (nb []) := by
  unfold good
  have h : whole (nb []) = [] := by rw [whole_fuel]; rfl
  rw [h]
  exact ⟨by decide, (enc_bound []).2 rfl⟩
theorem w_none : whole (nb []) = [] := by rw [whole_fuel]; rfl
theorem b_1 : ¬ good (nb [1, 97]) := by
  unfold good
  have h : whole (nb [1, 97]) = [] := by rw [whole_fuel]; decide +kernel
  rw [h, (enc_bound []).2 rfl]
  exact fun h => absurd h.2 (by decide)
theorem b_2 : ¬ good (nb [0, 97, 0, 98]) := by
  unfold good
  have h : whole (nb [0, 97, 0, 98]) = [97, 98] := by rw [whole_fuel]; decide +kernel
  rw [h, enc_fuel]
  exact fun h => absurd h.2 (by decide +kernel)
theorem b_3 : ¬ good (nb [131, 1]) := by
  unfold good
  have h : whole (nb [131, 1]) = [] := by rw [whole_fuel]; decide +kernel
  rw [h, (enc_bound []).2 rfl]
  exact fun h => absurd h.2 (by decide)

theorem e_of (t r : List UInt8) (ht : t.length ≤ 4096) (h : ub (enc (nb t)) = r) (w : World) :
    Calls Try.prog 15 #[.string (bs t)] w fun e w' => e = .returned (.tuple #[.string (bs r), .int .i64 0]) ∧ Below w.heap.size w w' := by subst h; exact Encode_ok t ht w
theorem d_of (t r : List UInt8) (hg : good (nb t)) (h : ub (whole (nb t)) = r) (w : World) :
    Calls Try.prog 16 #[.string (bs t)] w fun e w' => e = .returned (.tuple #[.string (bs r), .int .i64 0]) ∧ Below w.heap.size w w' := by subst h; exact Decode_ok t hg w

theorem mkB (w : World) (n : Nat) (h : n ≤ 1000000) : (Instr.makeSlice 29 (.int .i64 (n : Int)) (.int .i64 (n : Int))).run Try.prog w = .ok (.slice (some ⟨w.heap.size, 0, none⟩) n n) (w.alloc (.cells (iv .u8 (List.replicate n 0)).toArray 5)) := by
  obtain ⟨i0, hi, hz0, hz1, hz2⟩ := infoB_parts
  have h := run_makeSlice (P := Try.prog) w 29 5 i0 (.int .u8 0) Try.underlying29 hi hz0 .i64 .i64 n n (by omega) (by omega) (by rw [hz1]; omega) (by rw [hz2]; omega) (by omega)
  rw [h, hz1]
  have e : madeCells (Value.int .u8 0).cells (Int.toNat n * 1) = (iv .u8 (List.replicate n 0)).toArray := by
    rw [Nat.mul_one, Int.toNat_natCast]
    apply Array.ext
    · rw [size_madeCells]; simp [iv]
    · intro i h1 h2
      simp [madeCells, iv, Value.cells, Nat.mod_one]
  rw [e]
  simp
/-- an array of bytes as a string -/
theorem arr_str {W : World} {g n c : Nat} {t : TypeId} {l : List Nat} (h : Arr W g t .u8 l) (hn : l.length = n) (hl : ∀ b ∈ l, b < 256) :
    (convert 29 9 (.slice (some ⟨g, 0, none⟩) n c)).run Try.prog W = .ok (.string (bs (ub l))) W := by
  have e : l.map (fun (b : Nat) => (b : Int)) = (ub l).map (fun b => (b.toNat : Int)) := by
    unfold ub
    rw [List.map_map]
    apply List.map_congr_left
    intro b hb
    have := hl b hb
    simp; omega
  rw [run_convert_bytes_arg W 29 5 Try.underlying29 Try.underlying5 g 0 n c (l.map (fun (b : Nat) => (b : Int))) (by simpa using hn) (fun i hi => by
    rw [Nat.zero_add, h.get i (by omega)]
    congr 2
    rw [List.getD_eq_getElem?_getD, List.getD_eq_getElem?_getD, List.getElem?_map, List.getElem?_eq_getElem (show i < l.length by omega)]; rfl) 9 Try.underlying9, e, strOfNums_bytes]
  rfl

set_option maxRecDepth 100000 in
set_option maxHeartbeats 4000000 in
theorem psane_any (w : World) :
    Calls Try.prog 10 #[] w fun e w' => e = .returned (.bool true) ∧ Below w.heap.size w w' := by
  have E1 := Lib.hid (fun W => (show Calls Try.prog 15 #[.string ⟨#[97, 98, 99]⟩] W fun e w' => e = .returned (.tuple #[.string ⟨#[2, 97, 98, 99]⟩, .int .i64 0]) ∧ Below W.heap.size W w' from e_of [97, 98, 99] _ (by decide) x_abc W))
  have E2 := Lib.hid (fun W => (show Calls Try.prog 15 #[.string ⟨#[97, 97, 97, 97, 97, 97, 97, 97]⟩] W fun e w' => e = .returned (.tuple #[.string ⟨#[0, 97, 131, 1]⟩, .int .i64 0]) ∧ Below W.heap.size W w' from e_of [97, 97, 97, 97, 97, 97, 97, 97] _ (by decide) x_a8 W))
  have E3 := Lib.hid (fun W => (show Calls Try.prog 15 #[.string ⟨#[97, 98, 99, 97, 98, 99, 97, 98, 99]⟩] W fun e w' => e = .returned (.tuple #[.string ⟨#[2, 97, 98, 99, 130, 3]⟩, .int .i64 0]) ∧ Below W.heap.size W w' from e_of [97, 98, 99, 97, 98, 99, 97, 98, 99] _ (by decide) x_abc3 W))
  have E4 := Lib.hid (fun W => (show Calls Try.prog 15 #[.string ⟨#[97, 98, 99, 100, 97, 98, 99]⟩] W fun e w' => e = .returned (.tuple #[.string ⟨#[6, 97, 98, 99, 100, 97, 98, 99]⟩, .int .i64 0]) ∧ Below W.heap.size W w' from e_of [97, 98, 99, 100, 97, 98, 99] _ (by decide) x_abcd W))
  have D1 := Lib.hid (fun W => (show Calls Try.prog 16 #[.string ⟨#[2, 97, 98, 99, 130, 3]⟩] W fun e w' => e = .returned (.tuple #[.string ⟨#[97, 98, 99, 97, 98, 99, 97, 98, 99]⟩, .int .i64 0]) ∧ Below W.heap.size W w' from d_of [2, 97, 98, 99, 130, 3] [97, 98, 99, 97, 98, 99, 97, 98, 99] g_abc3 (by rw [w_abc3]; rfl) W))
  have D2 := Lib.hid (fun W => (show Calls Try.prog 16 #[.string ⟨#[1, 97]⟩] W fun e w' => e = .returned (.tuple #[.string ⟨#[]⟩, .int .i64 70]) ∧ Below W.heap.size W w' from Decode_no [1, 97] (by decide) b_1 W))
  have D3 := Lib.hid (fun W => (show Calls Try.prog 16 #[.string ⟨#[0, 97, 0, 98]⟩] W fun e w' => e = .returned (.tuple #[.string ⟨#[]⟩, .int .i64 70]) ∧ Below W.heap.size W w' from Decode_no [0, 97, 0, 98] (by decide) b_2 W))
  have D4 := Lib.hid (fun W => (show Calls Try.prog 16 #[.string ⟨#[131, 1]⟩] W fun e w' => e = .returned (.tuple #[.string ⟨#[]⟩, .int .i64 70]) ∧ Below W.heap.size W w' from Decode_no [131, 1] (by decide) b_3 W))
  have D5 := Lib.hid (fun W => (show Calls Try.prog 16 #[.string ⟨#[]⟩] W fun e w' => e = .returned (.tuple #[.string ⟨#[]⟩, .int .i64 0]) ∧ Below W.heap.size W w' from d_of [] [] g_none (by rw [w_none]; rfl) W))
  obtain ⟨Z, hZ⟩ : ∃ Z, bs (ub (List.replicate 4097 0)) = Z := ⟨_, rfl⟩
  have hZs : Z.size = 4097 := by rw [← hZ, bs_size]; simp [ub]
  have E5 := Lib.hid (fun W => (show Calls Try.prog 15 #[.string Z] W fun e w' => e = .returned (.tuple #[.string ⟨#[]⟩, .int .i64 70]) ∧ w' = W from Encode_no Z (by omega) W))
  obtain ⟨zW, hzW⟩ : ∃ f : World → World, ∀ W, W.alloc (.cells (iv .u8 (List.replicate 4097 0)).toArray 5) = f W := ⟨_, fun _ => rfl⟩
  have hmk : ∀ W : World, (Instr.makeSlice 29 (.int .i64 4097) (.int .i64 4097)).run Try.prog W = .ok (.slice (some ⟨W.heap.size, 0, none⟩) 4097 4097) (zW W) := fun W => by
    rw [← hzW]; exact mkB W 4097 (by omega)
  have hcv : ∀ W : World, (convert 29 9 (.slice (some ⟨W.heap.size, 0, none⟩) 4097 4097)).run Try.prog (zW W) = .ok (.string Z) (zW W) := fun W => by
    have h := arr_str (l := List.replicate 4097 0) (c := 4097) (n := 4097) (Arr.new W 5 .u8 (List.replicate 4097 0)) (by simp) (fun b hb => by have := List.eq_of_mem_replicate hb; omega)
    rw [hzW] at h
    rw [← hZ]; exact h
  have hzb := Lib.hid (fun W : World => (show Below W.heap.size W (zW W) from by rw [← hzW]; exact (Below.refl _ _).alloc (Nat.le_refl _) _))
  have HB := Lib.hid (Below.refl w.heap.size w)
  clear hZ hZs hzW
  go_enter Try.func10, Try.ntmps10
  go_wp2_with (first
    | (go_at_call 15; (with_reducible refine (E1.out _).mono ?_); rintro e w1 ⟨rfl, hB⟩; replace HB := Lib.hid (below_on HB.out hB HB.out.size); clear hB)
    | (go_at_call 15; (with_reducible refine (E2.out _).mono ?_); rintro e w1 ⟨rfl, hB⟩; replace HB := Lib.hid (below_on HB.out hB HB.out.size); clear hB)
    | (go_at_call 15; (with_reducible refine (E3.out _).mono ?_); rintro e w1 ⟨rfl, hB⟩; replace HB := Lib.hid (below_on HB.out hB HB.out.size); clear hB)
    | (go_at_call 15; (with_reducible refine (E4.out _).mono ?_); rintro e w1 ⟨rfl, hB⟩; replace HB := Lib.hid (below_on HB.out hB HB.out.size); clear hB)
    | (go_at_call 16; (with_reducible refine (D1.out _).mono ?_); rintro e w1 ⟨rfl, hB⟩; replace HB := Lib.hid (below_on HB.out hB HB.out.size); clear hB)
    | (go_at_call 16; (with_reducible refine (D2.out _).mono ?_); rintro e w1 ⟨rfl, hB⟩; replace HB := Lib.hid (below_on HB.out hB HB.out.size); clear hB)
    | (go_at_call 16; (with_reducible refine (D3.out _).mono ?_); rintro e w1 ⟨rfl, hB⟩; replace HB := Lib.hid (below_on HB.out hB HB.out.size); clear hB)
    | (go_at_call 16; (with_reducible refine (D4.out _).mono ?_); rintro e w1 ⟨rfl, hB⟩; replace HB := Lib.hid (below_on HB.out hB HB.out.size); clear hB)
    | (go_at_call 16; (with_reducible refine (D5.out _).mono ?_); rintro e w1 ⟨rfl, hB⟩; replace HB := Lib.hid (below_on HB.out hB HB.out.size); clear hB)
    | (go_at_call 15; (with_reducible refine (E5.out _).mono ?_); rintro e ww ⟨rfl, hww⟩; rw [hww]; clear hww ww))
  go_ret
  exact ⟨rfl, below_on HB.out (hzb.out _) HB.out.size⟩

set_option maxRecDepth 100000 in
set_option maxHeartbeats 4000000 in
theorem ppick_any (c : Int) (h0 : -9223372036854775808 ≤ c) (h1 : c ≤ 9223372036854775807) (m : Nat) (M : Int) (hM : M = (m : Int)) (hm : 0 < m) :
    ∃ k : Nat, k < m ∧ ∀ w, Calls Try.prog 14 #[.int .i64 c, .int .i64 M] w fun e w' => e = .returned (.int .i64 (k : Int)) ∧ w' = w := by
  subst hM
  have hm0 : ((m : Int) == 0) = false := beq_false_of_ne (by omega)
  have hm1 : decide ((m : Int) = 0) = false := decide_eq_false (by omega)
  rcases Int.lt_or_le c 0 with h | h
  · obtain ⟨d, he⟩ : ∃ d : Nat, -(c + 1) = (d : Int) := ⟨(-(c + 1)).toNat, by omega⟩
    have hd : decide (c < 0) = true := decide_eq_true h
    have ht : (d : Int).tmod (m : Int) = ((d % m : Nat) : Int) := (Int.ofNat_tmod d m).symm
    have hlt := Nat.mod_lt d hm
    obtain ⟨k, hk⟩ : ∃ k, d % m = k := ⟨_, rfl⟩
    rw [hk] at ht hlt
    clear hk
    refine ⟨k, hlt, fun w => ?_⟩
    go_enter Try.func14, Try.ntmps14
    go_wp2_with fail
    go_ret
    exact ⟨rfl, rfl⟩
  · obtain ⟨d, rfl⟩ : ∃ d : Nat, c = (d : Int) := ⟨c.toNat, by omega⟩
    have ht : (d : Int).tmod (m : Int) = ((d % m : Nat) : Int) := (Int.ofNat_tmod d m).symm
    have hlt := Nat.mod_lt d hm
    obtain ⟨k, hk⟩ : ∃ k, d % m = k := ⟨_, rfl⟩
    rw [hk] at ht hlt
    clear hk h
    refine ⟨k, hlt, fun w => ?_⟩
    go_enter Try.func14, Try.ntmps14
    go_wp2_with fail
    go_ret
    exact ⟨rfl, rfl⟩
/-- the law's cut: some string of at most 600 bytes -/
theorem pcut_any (s : ByteArray) : ∃ t : List UInt8, t.length ≤ 600 ∧ ∀ w, Calls Try.prog 11 #[.string s] w fun e w' => e = .returned (.string (bs t)) ∧ w' = w := by
  obtain ⟨m0, t, ⟨m0a, m0b⟩, x0, l0, e0, -⟩ := cut_string s 600
  have r0 := fun w ts ty => min_run (P := Try.prog) s.size 600 m0 e0 600 rfl w ts ty
  refine ⟨t, by omega, fun w => ?_⟩
  clear e0
  go_enter Try.func11, Try.ntmps11
  go_wp2_with fail
  go_ret
  exact ⟨rfl, rfl⟩

end Go.Proofs.Ytnploljhikljfaa
