/-
  Package digest: Sum, Leaf, Node and Chain.
-/
import Derived.Test.YtajfmhiejipaoaaDoorDsm
namespace Go.Proofs.YtajfmhiejipaoaaDoor
open Go.RowKit Bs

theorem sum_at (W : World) (n : Nat) (cp : Nat) (parts : List (List UInt8)) (hp : parts.length = n) (w : World) (hW : W = w.alloc (.cells (parts.map fun s => Value.string (bs s)).toArray 9)) (hK : KAt w) (hn : parts.flatten.length ≤ 2000000) (hlen : parts.length ≤ 10) :
    Calls Tryd.prog 77 #[.slice (some ⟨w.heap.size, 0, none⟩) n cp] W fun e w' => e = .returned (.string (bs (dig parts.flatten))) ∧ Below w.heap.size w w' := by
  subst hp
  have hb : Below w.heap.size w W := by rw [hW]; exact (Below.refl _ w).alloc (Nat.le_refl _) _
  refine (sum_any w.heap.size 0 cp parts W (hK.below hb) hn ?_ (by rw [hW]; simp) hlen).mono ?_
  · intro i hi
    rw [hW, cell_of_row _ _ _ _ _ _ (heap_alloc_new _ _), Nat.zero_add]
    simp [List.getD_eq_getElem?_getD, hi]
  · rintro e w' ⟨he, h⟩
    exact ⟨he, hb.trans (h.mono (by rw [hW]; simp))⟩

set_option maxHeartbeats 400000 in
theorem Sum_any (l : List UInt8) (w : World) (hK : KAt w) (hl : l.length ≤ 900000) :
    Calls Tryd.prog 57 #[.string (bs l)] w fun e w' => e = .returned (.string (bs (dig l))) ∧ Below w.heap.size w w' := by
  have h := sum_at (w.alloc (.cells #[.string (bs l)] 9)) 1 1 [l] rfl w rfl hK (by simp; omega) (by simp)
  rw [show [l].flatten = l by simp] at h
  go_enter Tryd.func57, Tryd.ntmps57
  go_wp2_with fail
  refine h.mono ?_
  rintro e w1 ⟨rfl, hb⟩
  go_wp2_with fail
  go_ret
  exact ⟨rfl, hb⟩
set_option maxHeartbeats 400000 in
theorem Leaf_any (l : List UInt8) (w : World) (hK : KAt w) (hl : l.length ≤ 900000) :
    Calls Tryd.prog 58 #[.string (bs l)] w fun e w' => e = .returned (.string (bs (dig (0 :: l)))) ∧ Below w.heap.size w w' := by
  have h := sum_at (w.alloc (.cells #[.string (bs [0]), .string (bs l)] 9)) 2 2 [[0], l] rfl w rfl hK (by simp; omega) (by simp)
  rw [show [[0], l].flatten = 0 :: l by simp] at h
  go_enter Tryd.func58, Tryd.ntmps58
  go_wp2_with fail
  refine h.mono ?_
  rintro e w1 ⟨rfl, hb⟩
  go_wp2_with fail
  go_ret
  exact ⟨rfl, hb⟩
set_option maxHeartbeats 400000 in
theorem Node_any (l m : List UInt8) (w : World) (hK : KAt w) (hl : l.length ≤ 400000) (hm : m.length ≤ 400000) :
    Calls Tryd.prog 60 #[.string (bs l), .string (bs m)] w fun e w' => e = .returned (.string (bs (dig (1 :: (l ++ m))))) ∧ Below w.heap.size w w' := by
  have h := sum_at (w.alloc (.cells #[.string (bs [1]), .string (bs l), .string (bs m)] 9)) 3 3 [[1], l, m] rfl w rfl hK (by simp; omega) (by simp)
  rw [show [[1], l, m].flatten = 1 :: (l ++ m) by simp] at h
  go_enter Tryd.func60, Tryd.ntmps60
  go_wp2_with fail
  refine h.mono ?_
  rintro e w1 ⟨rfl, hb⟩
  go_wp2_with fail
  go_ret
  exact ⟨rfl, hb⟩
end Go.Proofs.YtajfmhiejipaoaaDoor
