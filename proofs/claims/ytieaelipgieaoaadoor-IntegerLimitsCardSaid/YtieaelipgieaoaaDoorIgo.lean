/-
  Layer 3, memory: slices of integers; a number without its last groups that are 0.
-/
import Derived.WalkKit
import Derived.Test.YtieaelipgieaoaaDoorBase
import Derived.Test.YtieaelipgieaoaaDoorIgm
import Derived.Test.YtieaelipgieaoaaDoorIga
namespace Go.Proofs.YtieaelipgieaoaaDoor
open Go.RowKit Bs Ig

theorem wp_world {P : Program} {c : Code} {Q : Exit → Act → World → Prop} {a : Act} {W : World} (h : ∀ W', W' = W → Code.wp P c Q a W') : Code.wp P c Q a W := h W rfl
/-- numbers as integers -/
def zs (l : List Nat) : List Int := l.map (fun (x : Nat) => (x : Int))
theorem zs_length (l : List Nat) : (zs l).length = l.length := by simp [zs]
theorem zs_getD (l : List Nat) (i : Nat) : (zs l).getD i 0 = ((l.getD i 0 : Nat) : Int) := by
  unfold zs
  rw [List.getD_eq_getElem?_getD, List.getD_eq_getElem?_getD, List.getElem?_map]
  cases l[i]? <;> rfl
theorem zs_take (l : List Nat) (n : Nat) : (zs l).take n = zs (l.take n) := by unfold zs; rw [List.map_take]
theorem zs_drop (l : List Nat) (n : Nat) : (zs l).drop n = zs (l.drop n) := by unfold zs; rw [List.map_drop]
theorem zs_append (l m : List Nat) : zs (l ++ m) = zs l ++ zs m := by unfold zs; rw [List.map_append]
/-- the integers l lie in block g from 'off' on -/
def IntsAt (W : World) (g off : Nat) (l : List Int) : Prop := ∀ i, i < l.length → W.cell? ⟨g, off + i, none⟩ = some (.int .i64 (l.getD i 0))
theorem IntsAt.lt {W : World} {g off : Nat} {l : List Int} (h : IntsAt W g off l) (hl : 0 < l.length) : g < W.heap.size := block_lt_of_cell (h 0 hl)
theorem IntsAt.later {W W' : World} {g off : Nat} {l : List Int} (h : IntsAt W g off l) (hb : Below W.heap.size W W') : IntsAt W' g off l := fun i hi =>
  (hb.cell (p := ⟨g, off + i, none⟩) (block_lt_of_cell (h i hi))).trans (h i hi)
theorem IntsAt.take {W : World} {g off : Nat} {l : List Int} (h : IntsAt W g off l) (k : Nat) : IntsAt W g off (l.take k) := fun i hi => by
  rw [List.length_take] at hi
  rw [h i (by omega)]
  simp [List.getD_eq_getElem?_getD, show i < k by omega]
theorem IntsAt.drop {W : World} {g off : Nat} {l : List Int} (h : IntsAt W g off l) (k : Nat) : IntsAt W g (off + k) (l.drop k) := fun i hi => by
  rw [List.length_drop] at hi
  rw [Nat.add_assoc, h (k + i) (by omega)]
  simp [List.getD_eq_getElem?_getD, List.getElem?_drop]
/-- the slice (a, n, c) holds the integers l -/
structure IsZ (W : World) (a : Option Addr) (n c : Nat) (l : List Int) : Prop where
  len : l.length = n
  cap : n ≤ c
  max : c ≤ maxLen
  row : n = 0 ∨ ∃ g off, a = some ⟨g, off, none⟩ ∧ IntsAt W g off l
theorem IsZ.at {W : World} {a : Option Addr} {n c : Nat} {l : List Int} (h : IsZ W a n c l) (hn : 0 < n) : ∃ g off, a = some ⟨g, off, none⟩ ∧ IntsAt W g off l := h.row.resolve_left (by omega)
theorem IsZ.later {W W' : World} {a : Option Addr} {n c : Nat} {l : List Int} (h : IsZ W a n c l) (hb : Below W.heap.size W W') : IsZ W' a n c l :=
  ⟨h.len, h.cap, h.max, h.row.imp id (fun ⟨g, off, e, hp⟩ => ⟨g, off, e, hp.later hb⟩)⟩
theorem IsZ.nil (W : World) (a : Option Addr) (c : Nat) (hc : c ≤ maxLen) : IsZ W a 0 c [] := ⟨rfl, Nat.zero_le _, hc, .inl rfl⟩
theorem IntsAt.isZ {W : World} {g off n c : Nat} {l : List Int} (h : IntsAt W g off l) (hn : l.length = n) (hc : n ≤ c) (hm : c ≤ maxLen) : IsZ W (some ⟨g, off, none⟩) n c l := ⟨hn, hc, hm, .inr ⟨g, off, rfl, h⟩⟩
theorem IsZ.take {W : World} {a : Option Addr} {n c m : Nat} {l : List Int} (h : IsZ W a n c l) (hm : m ≤ n) : IsZ W a m c (l.take m) :=
  ⟨by rw [List.length_take, h.len]; omega, Nat.le_trans hm h.cap, h.max, h.row.elim (fun h0 => .inl (by omega)) (fun ⟨g, off, e, hp⟩ => .inr ⟨g, off, e, hp.take m⟩)⟩
/-- the groups of a number -/
abbrev G (n : Nat) : List Nat := dgs 9998 n
abbrev V (l : List Nat) : Nat := val 10000 l
theorem G_lt (n : Nat) : ∀ x ∈ G n, x < 10000 := dgs_lt 9998 n
theorem V_G (n : Nat) : V (G n) = n := val_dgs 9998 n

theorem add_zero' (a : Addr) : a.add 0 = a := by unfold Addr.add; split <;> simp_all
theorem if_map0 (a : Option Addr) (p : Prop) [Decidable p] : (if p then a else a.map (·.add 0)) = a := by
  cases a with
  | none => exact ite_self _
  | some a => simp only [Option.map_some, add_zero', ite_self]
/-- a slice's beginning -/
theorem slc_h (W : World) (t : TypeId) (ht : Tryd.prog.underlying t = some (.slice (Tryd.prog.elem t))) (a : Option Addr) (n c k : Nat) (K : Int) (hK : K = k) (hk : k ≤ c) (hs : (sizeOf (Tryd.prog.elem t)).run Tryd.prog W = .ok 1 W) :
    (Instr.sliceAt t (.slice a n c) none (some (.int .i64 K)) none).run Tryd.prog W = .ok (.slice a k c) W := by
  subst hK
  rw [Go.run_sliceAt_slice _ t _ _ _ _ ht, Go.run_slice_h _ t a n c ht .i64 _ (by omega) (by omega), hs]
  simp only [Result.andThen, sliced, Int.toNat_natCast, Nat.sub_zero, Nat.zero_mul, if_map0]
/-- a slice's end -/
theorem slc_l (W : World) (t : TypeId) (ht : Tryd.prog.underlying t = some (.slice (Tryd.prog.elem t))) (a : Option Addr) (n c k : Nat) (K : Int) (hK : K = k) (hk : k ≤ n) (hs : (sizeOf (Tryd.prog.elem t)).run Tryd.prog W = .ok 1 W) :
    (Instr.sliceAt t (.slice a n c) (some (.int .i64 K)) none none).run Tryd.prog W = .ok (.slice (if c = k then a else a.map (·.add k)) (n - k) (c - k)) W := by
  subst hK
  rw [Go.run_sliceAt_slice _ t _ _ _ _ ht, Go.run_slice_l _ t a n c ht .i64 _ (by omega) (by omega), hs]
  simp only [Result.andThen, sliced, Int.toNat_natCast, Nat.mul_one]

set_option maxRecDepth 100000 in
set_option maxHeartbeats 1000000 in
/-- trimmed -/
theorem trimmed_any (a : Option Addr) (n c : Nat) (l : List Nat) (w : World) (hl : IsZ w a n c (zs l)) (h : ∀ x ∈ l, x < 10000) (hn : n ≤ 1000000) :
    Calls Tryd.prog 66 #[.slice a n c] w fun e w' => ∃ m, e = .returned (.slice a m c) ∧ IsZ w' a m c (zs (G (V l))) ∧ Below w.heap.size w w' := by
  have hll : l.length = n := by rw [← zs_length]; exact hl.len
  have hc := hl.cap
  have hm := hl.max
  go_enter Tryd.func66, Tryd.ntmps66
  go_wp2_with fail
  go_loopw [0] (fun v wr => ∃ m : Nat, m ≤ n ∧ v = .slice a m c ∧ V (l.take m) = V l ∧ Below w.heap.size w wr) (fun v _ => lenOf v)
  case atStart => exact ⟨n, Nat.le_refl _, rfl, by rw [← hll, List.take_length], Below.refl _ _⟩
  case round =>
    obtain ⟨m, hmn, rfl, hv, hw⟩ := hrel
    rcases Nat.eq_zero_or_pos m with h0 | h0
    · subst h0
      have hfin : IsZ wr a 0 c (zs (G (V l))) := by
        rw [← hv]; show IsZ wr a 0 c (zs (G 0)); rw [show G 0 = [] from dgs_zero 9998]; exact IsZ.nil _ _ _ hm
      clear hl hv h
      go_wp2_with fail
      go_ret
      exact ⟨_, rfl, hfin.later (Below.refl _ _), hw⟩
    · obtain ⟨g, off, rfl, hI⟩ := (hl.later hw).at (by omega)
      have hcell := hI (m - 1) (by rw [zs_length]; omega)
      rw [zs_getD] at hcell
      obtain ⟨x, hx⟩ : ∃ x, l.getD (m - 1) 0 = x := ⟨_, rfl⟩
      rw [hx] at hcell
      rcases Nat.eq_zero_or_pos x with hx0 | hx0
      · subst hx0
        have hv2 : V (l.take (m - 1)) = V l := by
          rw [← hv]
          have := val_take 10000 l (m - 1) (by omega) hx
          rwa [Nat.sub_add_cancel h0] at this
        have hsl := slc_h wr 48 Tryd.underlying48 (some ⟨g, off, none⟩) m c (m - 1) ((m : Int) - 1) (by omega) (by omega) (by kernel_rfl)
        clear hl hv h hI hx
        go_wp2_with fail
        go_roundw
        case rel => exact ⟨m - 1, by omega, by go_num, hv2, hw⟩
        case measure => simp [lenOf]; omega
      · have hd : l.take m = G (V l) := dgs_take 9998 l m (by omega) h hv (.inr (by rw [hx]; omega))
        have hfin := ((hl.later hw).take hmn)
        rw [zs_take, hd] at hfin
        have hx1 : decide ((x : Int) = 0) = false := by simp; omega
        clear hl hv h hI hx hd
        go_wp2_with fail
        go_ret
        exact ⟨_, rfl, hfin.later (Below.refl _ _), hw⟩

end Go.Proofs.YtieaelipgieaoaaDoor
