/-
  Layer 6: the fixed examples of the laws, as values.
-/
import Derived.Test.YtajfmhiejipaoaaDoorErm
namespace Go.Proofs.YtajfmhiejipaoaaDoor
open Go.RowKit Bs Ef

/-- the chunks of the example -/
def exC : List (Int × ByteArray) := [(0, ⟨#[4]⟩), (1, ⟨#[97]⟩), (2, ⟨#[98]⟩), (3, ⟨#[7]⟩)]
def exD : List (Int × ByteArray) := [(3, ⟨#[7]⟩), (1, ⟨#[97]⟩), (2, ⟨#[98]⟩)]
def exB : List (Int × ByteArray) := [(0, ⟨#[4]⟩), (1, ⟨#[97]⟩), (2, ⟨#[98]⟩), (3, ⟨#[120]⟩)]
theorem ex_enc : encL [97, 98] 3 4 = exC := by kernel_rfl
theorem ex_str : strB (ub (gl (frB exD 3))) 0 = ([97, 98], 3, 0) := by kernel_rfl
theorem ex_strC : strB (ub (gl (frB exC 3))) 0 = ([97, 98], 3, 0) := by kernel_rfl
theorem ex_strB : strB (ub (gl (frB exB 3))) 0 = ([97, 98], 3, 0) := by kernel_rfl
theorem ex_fitD : fitP exD 3 4 := by decide +kernel
theorem ex_fitC : fitP exC 3 4 := by decide +kernel
theorem ex_fitB : fitP exB 3 4 := by decide +kernel

theorem ex_matchD : matchP exD exC := by
  intro i hi
  rcases (show i = 0 ∨ i = 1 ∨ i = 2 by have : exD.length = 3 := rfl; omega) with rfl | rfl | rfl <;> rfl
theorem ex_matchC : matchP exC exC := by
  intro i hi
  rcases (show i = 0 ∨ i = 1 ∨ i = 2 ∨ i = 3 by have : exC.length = 4 := rfl; omega) with rfl | rfl | rfl | rfl <;> rfl
theorem ex_matchB : ¬ matchP exB exC := fun h => by
  have h2 := h 3 (by decide)
  have h3 : (3, (⟨#[7]⟩ : ByteArray)) = ((3 : Int), ⟨#[120]⟩) := Option.some.inj h2
  have h4 : (⟨#[7]⟩ : ByteArray).toList = (⟨#[120]⟩ : ByteArray).toList := congrArg ByteArray.toList (Prod.mk.inj h3).2
  rw [toList_eq, toList_eq] at h4
  exact absurd h4 (by decide)
theorem ex_decD : decS exD 3 4 = ([97, 98], 0) := by
  unfold decS
  rw [if_pos ex_fitD, ex_str]
  simp only
  rw [if_neg (fun h => h rfl), if_neg (by decide), ex_enc, if_pos ex_matchD]
theorem ex_decC : decS exC 3 4 = ([97, 98], 0) := by
  unfold decS
  rw [if_pos ex_fitC, ex_strC]
  simp only
  rw [if_neg (fun h => h rfl), if_neg (by decide), ex_enc, if_pos ex_matchC]
theorem ex_decB : decS exB 3 4 = ([], 60) := by
  unfold decS
  rw [if_pos ex_fitB, ex_strB]
  simp only
  rw [if_neg (fun h => h rfl), if_neg (by decide), ex_enc, if_neg ex_matchB]
def exT : List (Int × ByteArray) := [(3, ⟨#[7]⟩), (1, ⟨#[97]⟩)]
theorem ex_decT : decS exT 3 4 = ([], 60) := by
  unfold decS
  rw [if_neg (fun h => absurd h.1 (by decide))]
theorem ckI_small (C : List (Int × ByteArray)) (k : Nat) (h : ∀ c ∈ C, c.2.size ≤ k) (i : Nat) : (ckI C i).2.size ≤ k := by
  rcases Nat.lt_or_ge i C.length with hi | hi
  · rw [ckI_eq C i hi]; exact h _ (List.getElem_mem hi)
  · unfold ckI; rw [List.getD_eq_getElem?_getD, List.getElem?_eq_none hi]; exact Nat.zero_le _
theorem ex_s (C : List (Int × ByteArray)) (h : C = exC ∨ C = exD ∨ C = exB ∨ C = exT) (i : Nat) : (ckI C i).2.size ≤ 1 := by
  refine ckI_small C 1 (fun c hc => ?_) i
  rcases h with rfl | rfl | rfl | rfl
  all_goals
    simp only [exC, exD, exB, exT, List.mem_cons, List.not_mem_nil, or_false] at hc
    first | (rcases hc with rfl | rfl | rfl | rfl <;> exact Nat.le_refl _) | (rcases hc with rfl | rfl | rfl <;> exact Nat.le_refl _) | (rcases hc with rfl | rfl <;> exact Nat.le_refl _)

/-! the calls of the examples -/
theorem e_inv2 (W : World) : Calls Tryd.prog 13 #[.int .i64 2] W fun e w' => e = .returned (.tuple #[.int .i64 142, .int .i64 0]) ∧ Below W.heap.size W w' := by
  have h := Inverse_any 2 W
  rw [if_pos (by omega), show gq 1 (el 2) = 142 from by decide +kernel] at h
  exact h
theorem e_inv0 (W : World) : Calls Tryd.prog 13 #[.int .i64 0] W fun e w' => e = .returned (.tuple #[.int .i64 0, .int .i64 60]) ∧ Below W.heap.size W w' := by
  have h := Inverse_any 0 W
  rw [if_neg (by omega)] at h
  exact h
theorem e_enc (W : World) : Calls Tryd.prog 20 #[.string ⟨#[97, 98]⟩, .int .i64 3, .int .i64 4] W fun e w' => ∃ gv, W.heap.size ≤ gv ∧ e = .returned (.tuple #[.slice (some ⟨gv, 0, none⟩) 4 4, .int .i64 0]) ∧ CkRow w' gv exC ∧ Below W.heap.size W w' := by
  have h := Encode_ok [97, 98] 3 4 (by omega) (by omega) (by omega) (by decide) W
  rw [ex_enc] at h
  exact h
theorem e_encx (W : World) : Calls Tryd.prog 20 #[.string ⟨#[97, 98]⟩, .int .i64 4, .int .i64 3] W fun e w' => e = .returned (.tuple #[.slice none 0 0, .int .i64 60]) ∧ Below W.heap.size W w' :=
  Encode_no [97, 98] 4 3 (.inl (by omega)) W
theorem e_decD (W : World) (g : Nat) (h : CkRow W g exD) : Calls Tryd.prog 27 #[.slice (some ⟨g, 0, none⟩) 3 3, .int .i64 3, .int .i64 4] W fun e w' => e = .returned (.tuple #[.string ⟨#[97, 98]⟩, .int .i64 0]) ∧ Below W.heap.size W w' := by
  have k := Decode_any exD (some ⟨g, 0, none⟩) 3 3 3 4 W (h.s rfl) (by omega) (by omega) (by omega) (by omega) (fun i => Nat.le_trans (ex_s exD (by simp) i) (by omega))
  rw [ex_decD] at k
  exact k
theorem e_decT (W : World) (g : Nat) (h : CkRow W g exT) : Calls Tryd.prog 27 #[.slice (some ⟨g, 0, none⟩) 2 2, .int .i64 3, .int .i64 4] W fun e w' => e = .returned (.tuple #[.string ⟨#[]⟩, .int .i64 60]) ∧ Below W.heap.size W w' := by
  have k := Decode_any exT (some ⟨g, 0, none⟩) 2 2 3 4 W (h.s rfl) (by omega) (by omega) (by omega) (by omega) (fun i => Nat.le_trans (ex_s exT (by simp) i) (by omega))
  rw [ex_decT] at k
  exact k
theorem e_decB (W : World) (g : Nat) (h : CkRow W g exB) : Calls Tryd.prog 27 #[.slice (some ⟨g, 0, none⟩) 4 4, .int .i64 3, .int .i64 4] W fun e w' => e = .returned (.tuple #[.string ⟨#[]⟩, .int .i64 60]) ∧ Below W.heap.size W w' := by
  have k := Decode_any exB (some ⟨g, 0, none⟩) 4 4 3 4 W (h.s rfl) (by omega) (by omega) (by omega) (by omega) (fun i => Nat.le_trans (ex_s exB (by simp) i) (by omega))
  rw [ex_decB] at k
  exact k
theorem e_conC (W : World) (g : Nat) (h : CkRow W g exC) : Calls Tryd.prog 29 #[.slice (some ⟨g, 0, none⟩) 4 4, .int .i64 3, .int .i64 4] W fun e w' => e = .returned (.bool true) ∧ Below W.heap.size W w' := by
  have k := Consistent_any exC (some ⟨g, 0, none⟩) 4 4 3 4 W (h.s rfl) (by omega) (by omega) (by omega) (by omega) (fun i => Nat.le_trans (ex_s exC (by simp) i) (by omega))
  rw [ex_decC, decide_eq_true (show ordP exC 4 ∧ (([97, 98], 0) : List UInt8 × Int).2 = 0 from ⟨by decide +kernel, rfl⟩)] at k
  exact k
theorem e_conB (W : World) (g : Nat) (h : CkRow W g exB) : Calls Tryd.prog 29 #[.slice (some ⟨g, 0, none⟩) 4 4, .int .i64 3, .int .i64 4] W fun e w' => e = .returned (.bool false) ∧ Below W.heap.size W w' := by
  have k := Consistent_any exB (some ⟨g, 0, none⟩) 4 4 3 4 W (h.s rfl) (by omega) (by omega) (by omega) (by omega) (fun i => Nat.le_trans (ex_s exB (by simp) i) (by omega))
  rw [ex_decB, decide_eq_false (show ¬ (ordP exB 4 ∧ (([], 60) : List UInt8 × Int).2 = 0) from fun h => absurd h.2 (by decide))] at k
  exact k
def exS : Strs := [[4], [97], [98], [7]]
theorem e_root (W : World) (g : Nat) (h : CkRow W g exC) (hT : KAt W) : Calls Tryd.prog 23 #[.slice (some ⟨g, 0, none⟩) 4 4] W fun e w' => e = .returned (.string (Bs.bs (Tr.root dig exS))) ∧ Below W.heap.size W w' :=
  Root_ck exC g 0 4 4 W rfl (by omega) (by omega) h.at (by omega) (fun i => Nat.le_trans (ex_s exC (by simp) i) (by omega)) hT
theorem e_droot (W : World) (g : Nat) (h : SRow W g [⟨#[4]⟩, ⟨#[97]⟩, ⟨#[98]⟩, ⟨#[7]⟩]) (hT : KAt W) : Calls Tryd.prog 35 #[.slice (some ⟨g, 0, none⟩) 4 4] W fun e w' => e = .returned (.string (Bs.bs (Tr.root dig exS))) ∧ Below W.heap.size W w' :=
  Root_at 4 exS g 0 4 4 W (by omega) rfl (by omega) (by omega) (by unfold maxLen; omega) (by omega) (fun s hs => by
    simp only [exS, List.mem_cons, List.not_mem_nil, or_false] at hs
    rcases hs with rfl | rfl | rfl | rfl <;> simp) (fun i hi => by
    rcases (show i = 0 ∨ i = 1 ∨ i = 2 ∨ i = 3 by have : exS.length = 4 := rfl; omega) with rfl | rfl | rfl | rfl
    · exact h.get 0 (by simp)
    · exact h.get 1 (by simp)
    · exact h.get 2 (by simp)
    · exact h.get 3 (by simp)) hT
theorem e_add (W : World) : Calls Tryd.prog 15 #[.int .i64 83, .int .i64 202] W fun e w' => e = .returned (.int .i64 153) ∧ w' = W := by
  have h := Add_any 83 202 W
  rw [show el 83 ^^^ el 202 = 153 from by decide +kernel] at h
  exact h
theorem e_mul1 (W : World) : Calls Tryd.prog 17 #[.int .i64 2, .int .i64 128] W fun e w' => e = .returned (.int .i64 29) ∧ Below W.heap.size W w' := by
  have h := Mul_any 2 128 W
  rw [show gm (el 2) (el 128) = 29 from by decide +kernel] at h
  exact h
theorem e_mul2 (W : World) : Calls Tryd.prog 17 #[.int .i64 3, .int .i64 7] W fun e w' => e = .returned (.int .i64 9) ∧ Below W.heap.size W w' := by
  have h := Mul_any 3 7 W
  rw [show gm (el 3) (el 7) = 9 from by decide +kernel] at h
  exact h
theorem exC_cells {W : World} {g : Nat} (h : CkRow W g exC) : W.cell? ⟨g, 0, none⟩ = some (.int .i64 0) ∧ W.cell? ⟨g, 1, none⟩ = some (.string ⟨#[4]⟩) ∧ W.cell? ⟨g, 2, none⟩ = some (.int .i64 1) ∧ W.cell? ⟨g, 3, none⟩ = some (.string ⟨#[97]⟩) ∧ W.cell? ⟨g, 4, none⟩ = some (.int .i64 2) ∧ W.cell? ⟨g, 5, none⟩ = some (.string ⟨#[98]⟩) ∧ W.cell? ⟨g, 6, none⟩ = some (.int .i64 3) ∧ W.cell? ⟨g, 7, none⟩ = some (.string ⟨#[7]⟩) :=
  ⟨(h.cell 0 (by decide)).1, (h.cell 0 (by decide)).2, (h.cell 1 (by decide)).1, (h.cell 1 (by decide)).2, (h.cell 2 (by decide)).1, (h.cell 2 (by decide)).2, (h.cell 3 (by decide)).1, (h.cell 3 (by decide)).2⟩

end Go.Proofs.YtajfmhiejipaoaaDoor
