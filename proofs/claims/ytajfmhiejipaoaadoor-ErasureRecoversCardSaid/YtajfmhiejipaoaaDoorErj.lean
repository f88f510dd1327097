/-
  Layer 6: the frame whose columns some chunks are.
-/
import Derived.Test.YtajfmhiejipaoaaDoorEri
namespace Go.Proofs.YtajfmhiejipaoaaDoor
open Go.RowKit Bs Ef

/-- the elements column by column -/
abbrev flatTo (ds : List (List G)) (j : Nat) : List G := (List.range j).flatMap (fun j => ds.map (fun d => d.getD j z0))
theorem flatTo_len (ds : List (List G)) (j : Nat) : (flatTo ds j).length = j * ds.length := by
  induction j with
  | zero => simp [flatTo]
  | succ j ih =>
    unfold flatTo at *
    rw [List.range_succ, List.flatMap_append, List.length_append, ih]
    simp
    rw [Nat.succ_mul]
theorem flatTo_succ (ds : List (List G)) (j : Nat) : flatTo ds (j + 1) = flatTo ds j ++ ds.map (fun d => d.getD j z0) := by
  unfold flatTo
  rw [List.range_succ, List.flatMap_append]
  simp
theorem gl_app (l m : List G) : gl (l ++ m) = gl l ++ gl m := List.map_append ..

theorem conv_nil (W : World) : (convert 48 9 (.slice none 0 0)).run Tryd.prog W = .ok (.string ⟨#[]⟩) W := by kernel_rfl
theorem own_strA {W : World} {base : Nat} {v : Value} {l : List G} (h : Bs.Own W base 5 .u8 v (gl l)) :
    (convert 48 9 v).run Tryd.prog W = .ok (.string (gs l)) W := by
  obtain ⟨a, n, c, rfl⟩ : ∃ a n c, v = .slice a n c := h.row.2.elim (fun h => ⟨_, _, _, h.1⟩) (fun ⟨g, cap, cur, hv, _⟩ => ⟨_, _, _, hv⟩)
  have hn : n = l.length := by have := h.len; rw [List.length_map] at this; exact this
  rcases h.row.2 with ⟨e, h0⟩ | ⟨g, cap, cur, e, -⟩
  · cases e
    cases l with
    | nil => exact conv_nil W
    | cons x l => simp at hn
  · cases e
    exact own_strE h (by simp)

set_option maxRecDepth 100000 in
set_option maxHeartbeats 4000000 in
theorem interleaved_any (D : List (Int × ByteArray)) (ds : List (List G)) (m n gk off c : Nat) (w : World) (hK : CkAt w gk off D) (hn : D.length = n) (hn0 : 0 < n) (hn2 : n ≤ 20) (hc : n ≤ c) (hm : m ≤ 5000)
    (hD : D.map (·.2) = ds.map gs) (hds : ∀ d ∈ ds, d.length = m) :
    Calls Tryd.prog 52 #[.slice (some ⟨gk, off, none⟩) n c] w fun e w' => e = .returned (.string (gs (flatTo ds m))) ∧ Below w.heap.size w w' := by
  obtain ⟨i0, hi, hz0, hz1, hz2⟩ := info_parts infoB
  have hdl : ds.length = n := by have := congrArg List.length hD; rw [List.length_map, List.length_map] at this; omega
  have hat : ∀ k (h : k < D.length) (h2 : k < ds.length), (D[k]).2 = gs (ds[k]) := fun k h h2 => by
    have h3 := congrArg (fun l => l[k]?) hD
    simp only [List.getElem?_map, List.getElem?_eq_getElem h, List.getElem?_eq_getElem h2, Option.map_some, Option.some.injEq] at h3
    exact h3
  obtain ⟨L, hL⟩ : ∃ L, n * m = L := ⟨_, rfl⟩
  have hLb : L ≤ 100000 := by rw [← hL]; exact Nat.mul_le_mul hn2 hm
  have hwl : IntKind.i64.wrap ((n : Int) * (m : Int)) = (L : Int) := by
    rw [IntKind.wrap_i64, show (n : Int) * (m : Int) = (L : Int) from by rw [← hL, Int.natCast_mul]]
    omega
  obtain ⟨w1, hmk1, hown1, hb1, -⟩ := mkOwnB w L (by omega)
  obtain ⟨q1, q2⟩ := hK.cell 0 (by omega)
  rw [hat 0 (by omega) (by omega)] at q2
  have hs0 : (gs (ds[0]'(by omega))).size = m := by rw [gs_size]; exact hds _ (List.getElem_mem _)
  obtain ⟨S0, hS0⟩ : ∃ S, gs (ds[0]'(by omega)) = S := ⟨_, rfl⟩
  rw [hS0] at q2 hs0
  rw [show off + 0 * 2 + 1 = off + 1 from by omega] at q2
  have q3 : w1.cell? ⟨gk, off + 1, none⟩ = some (.string S0) := (hb1.cell (p := ⟨gk, off + 1, none⟩) hK.lt).trans q2
  have HK := Lib.hid hK
  have HO := Lib.hid hown1
  have HB := Lib.hid hb1
  have HAT := Lib.hid hat
  have HDS := Lib.hid (And.intro hds (And.intro hdl hL))
  clear hK hown1 hb1 hat hds hD hS0 q1 hL
  go_enter Tryd.func52, Tryd.ntmps52
  go_wp2_with fail
  go_loopw [3, 21] (fun v p wr => ∃ j : Nat, j ≤ m ∧ p = .int .i64 j ∧ Bs.Own wr w.heap.size 5 .u8 v (gl (flatTo ds j)) ∧ Below w.heap.size w wr) (fun _ p _ => m - (intOf p).toNat)
  case atStart => exact ⟨0, Nat.zero_le _, rfl, HO.out, HB.out⟩
  case round =>
    obtain ⟨j, hj, rfl, hown, hw⟩ := hrel
    obtain ⟨wR, rfl⟩ : ∃ V, V = wr := ⟨_, rfl⟩
    rcases Nat.lt_or_ge j m with hjm | hjm
    · have HO1 := Lib.hid hown
      have HW1 := Lib.hid hw
      clear hown hw
      go_wp2_with fail
      go_loopw [3, 26] (fun v p wr => ∃ k : Nat, k ≤ n ∧ p = .int .i64 k ∧ Bs.Own wr w.heap.size 5 .u8 v (gl (flatTo ds j ++ (ds.take k).map (fun d => d.getD j z0))) ∧ Below w.heap.size w wr) (fun _ p _ => n - (intOf p).toNat)
      case atStart => exact ⟨0, Nat.zero_le _, rfl, by rw [List.take_zero, List.map_nil, List.append_nil]; exact HO1.out, HW1.out⟩
      case round =>
        obtain ⟨k, hk, rfl, hown, hw⟩ := hrel
        have hs := hw.size
        rcases Nat.lt_or_ge k n with hkn | hkn
        · obtain ⟨hdsm, hdl, hL⟩ := HDS.out
          obtain ⟨p1, p2⟩ := (HK.out.later hw).cell k (by omega)
          rw [HAT.out k (by omega) (by omega)] at p2
          obtain ⟨zi, p1'⟩ : ∃ z : Int, wr.cell? ⟨gk, off + k * 2, none⟩ = some (.int .i64 z) := ⟨_, p1⟩
          have hdm := hdsm (ds[k]'(by omega)) (List.getElem_mem _)
          have hst : gl (flatTo ds j ++ (ds.take k).map (fun d => d.getD j z0)) ++ [((ds[k]'(by omega)).getD j z0).val] = gl (flatTo ds j ++ (ds.take (k + 1)).map (fun d => d.getD j z0)) := by
            rw [List.take_succ_eq_append_getElem (by omega), List.map_append, gl_app, gl_app, gl_app, List.append_assoc]; rfl
          have hle : (gl (flatTo ds j ++ (ds.take k).map (fun d => d.getD j z0))).length ≤ 2000000 := by
            rw [List.length_map, List.length_append, flatTo_len, List.length_map, List.length_take]
            have : j * ds.length ≤ m * n := Nat.mul_le_mul hj (by omega)
            rw [Nat.mul_comm] at hL
            omega
          obtain ⟨LT, hLT⟩ : ∃ l, gl (flatTo ds j ++ (ds.take k).map (fun d => d.getD j z0)) = l := ⟨_, rfl⟩
          rw [hLT] at hst hle hown
          have g3 : ∀ h2 : j < (gs (ds[k]'(by omega))).size, ((gs (ds[k]'(by omega)))[j]'h2).toNat = ((ds[k]'(by omega)).getD j z0).val := fun h2 => by
            rw [gs_at _ _ (by omega), List.getD_eq_getElem?_getD, List.getElem?_eq_getElem (by omega)]; rfl
          have g1 := gs_size (ds[k]'(by omega))
          rw [hdm] at g1
          obtain ⟨x, hx⟩ : ∃ x : G, (ds[k]'(by omega)).getD j z0 = x := ⟨_, rfl⟩
          obtain ⟨S, hS⟩ : ∃ S, gs (ds[k]'(by omega)) = S := ⟨_, rfl⟩
          rw [hS] at g1 p2
          have g2 : j < S.size := by omega
          have g4 : (S[j]'g2).toNat = x.val := by subst hS; rw [g3, hx]
          rw [hx] at hst
          have Hst := Lib.hid hst
          have Hlen := Lib.hid hle
          have HR := Lib.hid (show ∀ v', Bs.Own wr w.heap.size 5 .u8 v' LT → Bs.Own (wr.alloc (.cells #[.int .i64 zi, .string S] 40)) w.heap.size 5 .u8 v' LT from fun v' h => h.alloc _)
          clear hst hle hLT hdsm hdl hL p1 hdm g3 hx hS
          go_wp2_with (at_builtin; refine wpList_push rfl _ _ 48 rfl w.heap.size 5 i0 (.int .u8 0) 1 Tryd.underlying48 hi hz0 hz1 hz2 rfl (by omega) .u8 _ LT rfl ((HR.out _ hown).alloc _) ⟨wr.heap.size + 1, 0, none⟩ 1 (x.val) rfl ?c1 ?c2 ?c3 ?_)
          case c1 => have := fresh_cell (wr.alloc (.cells #[.int .i64 zi, .string S] 40)) (.int .u8 (x.val : Nat)) 5; rw [World.size_alloc] at this; exact this
          case c2 => exact Hlen.out
          case c3 => simp; omega
          intro v' w2 hown' hb
          rw [Hst.out] at hown'
          have Hown := Lib.hid hown'
          have Hw := Lib.hid (((hw.alloc hs _).alloc (by simp; omega) _).trans hb)
          clear hown hown' hb hw
          go_wp2_with fail
          go_roundw
          case rel => exact ⟨k + 1, hkn, by go_num, Hown.out, Hw.out⟩
          case measure => simp [intOf]; omega
        · obtain rfl : k = n := by omega
          rw [List.take_of_length_le (by have := HDS.out.2.1; omega), ← flatTo_succ] at hown
          have HO2 := Lib.hid hown
          have HW2 := Lib.hid hw
          clear hown hw
          go_wp2_with fail
          go_roundw
          case rel => exact ⟨j + 1, hjm, by go_num, HO2.out, HW2.out⟩
          case measure => simp [intOf]; omega
    · obtain rfl : j = m := by omega
      have hcv : ∀ (v : Value), Bs.Own wR w.heap.size 5 .u8 v (gl (flatTo ds j)) → (convert 48 9 v).run Tryd.prog wR = .ok (.string (gs (flatTo ds j))) wR := fun v hv => own_strA hv
      have hcv2 := hcv _ hown
      have HW2 := Lib.hid hw
      clear hw hown hcv
      go_wp2_with fail
      go_ret
      exact ⟨rfl, HW2.out⟩

end Go.Proofs.YtajfmhiejipaoaaDoor
