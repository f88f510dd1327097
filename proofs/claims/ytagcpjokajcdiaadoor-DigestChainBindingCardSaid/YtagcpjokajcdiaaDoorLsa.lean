/-
  The fixed examples that each law of layer 2 asks first: 'sane' returns true.
-/
import Derived.Test.YtagcpjokajcdiaaDoorLsm
namespace Go.Proofs.YtagcpjokajcdiaaDoor
open Go.RowKit Bs

/-- what came back as a new slice, as a slice of strings -/
theorem GivesP.is {l : Strs} {n : Nat} {err : Int} {w w' : World} {e : Ending} (h : GivesP l err w e w') (hn : l.length = n) :
    ∃ a c, e = .returned (.tuple #[.slice a n c, .int .i64 err]) ∧ IsL w' a n c l ∧ Below w.heap.size w w' := by
  obtain ⟨v, rfl, ho, hb⟩ := h
  obtain ⟨a, c, rfl, hi, _⟩ := ho.is
  subst hn
  exact ⟨a, c, rfl, hi, hb⟩

set_option maxRecDepth 100000 in
set_option maxHeartbeats 1000000 in
theorem sane_any (w : World) (h : KAt w) :
    Calls Tryd.prog 4 #[] w fun e w' => e = .returned (.bool true) ∧ Below w.heap.size w w' := by
  obtain ⟨W, hW⟩ : ∃ W, w.alloc (.cells #[.string ⟨#[97]⟩, .string ⟨#[98]⟩, .string ⟨#[99]⟩] 9) = W := ⟨_, rfl⟩
  have hb0 : Below w.heap.size w W := by rw [← hW]; exact (Below.refl _ w).alloc (Nat.le_refl _) _
  have hK : KAt W := h.below hb0
  have hp : PartsAt W w.heap.size 0 L3 := by
    intro i hi
    rw [← hW, cell_of_row _ _ _ _ _ _ (heap_alloc_new _ _), Nat.zero_add]
    match i, hi with
    | 0, _ => rfl
    | 1, _ => rfl
    | 2, _ => rfl
  have hlen : ∀ k, ∀ s ∈ L3.take k, s.length ≤ 100000 := fun k s hs => by
    have := List.mem_of_mem_take hs
    simp [L3] at this
    rcases this with rfl | rfl | rfl <;> simp
  have h3 : ∀ s ∈ L3, s.length ≤ 100000 := fun s hs => hlen 3 s hs
  have iP : ∀ X, Below W.heap.size W X → Calls Tryd.prog 10 #[.slice (some ⟨w.heap.size, 0, none⟩) 3 3, .int .i64 2] X (GivesP (Tr.prf dig L3 2).reverse 0 X) := fun X hb =>
    Proof_in L3 w.heap.size 0 3 3 2 X rfl (by omega) (by omega) (by unfold maxLen; omega) (by omega) h3 (hp.later hb) (hK.below hb)
  have iE : ∀ X, Below W.heap.size W X → Calls Tryd.prog 11 #[.slice (some ⟨w.heap.size, 0, none⟩) 3 3, .int .i64 1] X (GivesP (ext L3 1) 0 X) := fun X hb =>
    Extension_in L3 (some ⟨w.heap.size, 0, none⟩) 3 3 1 X ((hp.later hb).isL rfl (by omega) (by unfold maxLen; omega)) (by omega) (by omega) h3 (hK.below hb)
  have iQ : ∀ X, Calls Tryd.prog 10 #[.slice (some ⟨w.heap.size, 0, none⟩) 3 3, .int .i64 3] X (GivesP [] 2 X) := fun X =>
    Proof_out (some ⟨w.heap.size, 0, none⟩) 3 3 3 X (by unfold maxLen; omega) (by omega) (by omega) (by omega)
  have iR : ∀ k X, 1 ≤ k → k ≤ 3 → Below W.heap.size W X → Calls Tryd.prog 12 #[.slice (some ⟨w.heap.size, 0, none⟩) k 3] X fun e w' => e = .returned (.string (bs (Tr.root dig (L3.take k)))) ∧ Below X.heap.size X w' := fun k X k1 k3 hb =>
    Root_at k (L3.take k) w.heap.size 0 k 3 X (Nat.le_refl _) (by rw [List.length_take]; show min k 3 = k; omega) k1 k3 (by unfold maxLen; omega) (by omega) (hlen k) ((hp.later hb).take k) (hK.below hb)
  have iR1 := fun X hb => iR 1 X (by omega) (by omega) hb
  have iR2 := fun X hb => iR 2 X (by omega) (by omega) hb
  have iR3 := fun X hb => iR 3 X (by omega) (by omega) hb
  rw [show L3.take 1 = [[97]] from rfl] at iR1
  rw [show L3.take 2 = [[97], [98]] from rfl] at iR2
  rw [show L3.take 3 = L3 from rfl] at iR3
  have iS : ∀ X, Below W.heap.size W X → Calls Tryd.prog 8 #[.string ⟨#[]⟩] X fun e w' => e = .returned (.string (bs (dig []))) ∧ Below X.heap.size X w' := fun X hb => Sum_any [] X (hK.below hb) (by simp)
  have iS3 : ∀ X, Below W.heap.size W X → Calls Tryd.prog 8 #[.string ⟨#[97, 98, 99]⟩] X fun e w' => e = .returned (.string (bs (dig [97, 98, 99]))) ∧ Below X.heap.size X w' := fun X hb => Sum_any [97, 98, 99] X (hK.below hb) (by simp)
  have iH : ∀ X l (hl : l.length = 32), Calls Tryd.prog 13 #[.string (bs l)] X fun e w' => e = .returned (.string (bs (hexL l))) ∧ Below X.heap.size X w' := fun X l hl => hex_s (bs l) l rfl X (by omega)
  have iH0 := fun X => iH X (dig []) (dig_len _)
  have iH3 := fun X => iH X (dig [97, 98, 99]) (dig_len _)
  rw [hex_empty] at iH0
  rw [hex_abc] at iH3
  have hP := prf3
  have hX := ext3
  have c1 := verB3c
  have c2 := verB3d
  have c3 := extB3a
  have c4 := extB3b
  have hd : ∀ x ∈ (Tr.prf dig L3 2).reverse, x.length ≤ maxLen := by decide +kernel
  have hd2 : ∀ x ∈ ext L3 1, x.length ≤ maxLen := by decide +kernel
  have l1 := dig_len []
  have l2 := dig_len [97, 98, 99]
  have l3 := root_len L3
  have l4 := root_len [[97]]
  have l5 := root_len [[97], [98]]
  rw [← List.length_reverse] at hP
  obtain ⟨P, hPe⟩ : ∃ P, (Tr.prf dig L3 2).reverse = P := ⟨_, rfl⟩
  obtain ⟨X3, hXe⟩ : ∃ X3, ext L3 1 = X3 := ⟨_, rfl⟩
  obtain ⟨R, hR⟩ : ∃ R, Tr.root dig L3 = R := ⟨_, rfl⟩
  obtain ⟨R1, hR1⟩ : ∃ R, Tr.root dig [[97]] = R := ⟨_, rfl⟩
  obtain ⟨R2, hR2⟩ : ∃ R, Tr.root dig [[97], [98]] = R := ⟨_, rfl⟩
  obtain ⟨d1, hd1⟩ : ∃ R, dig [] = R := ⟨_, rfl⟩
  obtain ⟨d3, hd3⟩ : ∃ R, dig [97, 98, 99] = R := ⟨_, rfl⟩
  rw [hPe] at iP hP c1 c2 hd
  rw [hXe] at iE hX c3 c4 hd2
  rw [hR] at iR3 c1 c2 c3 c4 l3
  rw [hR1] at iR1 c3 l4
  rw [hR2] at iR2 c4 l5
  rw [hd1] at iS iH0 l1
  rw [hd3] at iS3 iH3 l2
  have iV : ∀ a c (s : List UInt8) Y, s.length = 1 → IsL Y a 1 c P → KAt Y → Calls Tryd.prog 14 #[.string (bs R), .int .i64 3, .int .i64 2, .string (bs s), .slice a 1 c] Y fun e w' => e = .returned (.bool (verB R 3 2 s P)) ∧ Below Y.heap.size Y w' := fun a c s Y hs hL hk =>
    Verify_any R 3 2 s P a 1 c Y hL hd (by omega) (by omega) (by omega) (by omega) (by omega) hk
  have iV1 := fun a c Y => iV a c [99] Y rfl
  have iV2 := fun a c Y => iV a c [100] Y rfl
  rw [c1] at iV1
  rw [c2] at iV2
  have iW : ∀ a c (o : List UInt8) Y, o.length = 32 → IsL Y a 2 c X3 → KAt Y → Calls Tryd.prog 15 #[.string (bs o), .int .i64 1, .string (bs R), .int .i64 3, .slice a 2 c] Y fun e w' => e = .returned (.bool (extB o 1 R 3 X3)) ∧ Below Y.heap.size Y w' := fun a c o Y ho hL hk =>
    VerifyExt_any o R 1 3 X3 a 2 c Y hL hd2 (by unfold maxLen; omega) (by unfold maxLen; omega) (by omega) (by omega) (by omega) (by omega) hk
  have iW1 := fun a c Y => iW a c R1 Y l4
  have iW2 := fun a c Y => iW a c R2 Y l5
  rw [c3] at iW1
  rw [c4] at iW2
  have IP := Lib.hid iP
  have IE := Lib.hid iE
  have IR1 := Lib.hid iR1
  have IR2 := Lib.hid iR2
  have IR3 := Lib.hid iR3
  have IV1 := Lib.hid iV1
  have IV2 := Lib.hid iV2
  have IW1 := Lib.hid iW1
  have IW2 := Lib.hid iW2
  have IS := Lib.hid iS
  have IS3 := Lib.hid iS3
  have IH0 := Lib.hid iH0
  have IH3 := Lib.hid iH3
  have HP := Lib.hid hP
  have HX := Lib.hid hX
  clear iP iE iR1 iR2 iR3 iV1 iV2 iW1 iW2 iS iS3 iH0 iH3 iH iR iV iW hP hX hPe hXe hR hR1 hR2 hd1 hd3 hd hd2 c1 c2 c3 c4 l1 l2 l3 l4 l5 hlen h3 hp
  have hq : ∀ l, ((bs l).toList == l) = true := fun l => by rw [bs_toList]; exact beq_self_eq_true l
  have HKK := Lib.hid hK
  have HB0 := Lib.hid hb0
  clear hK hb0
  go_enter Tryd.func4, Tryd.ntmps4
  go_wp2_with fail
  refine (IP.out _ (Below.refl _ _)).mono ?_
  rintro e w1 hg
  obtain ⟨a1, k1, rfl, p1, b1⟩ := hg.is HP.out
  clear hg
  have HP1 := Lib.hid p1
  clear p1
  go_wp2_with fail
  refine (IE.out _ b1).mono ?_
  rintro e w2 hg
  obtain ⟨a2, k2, rfl, p2, b2⟩ := hg.is HX.out
  clear hg
  have HP2 := Lib.hid p2
  have B2 := Lib.hid (below_on b1 b2 b1.size)
  have HP1' := Lib.hid (HP1.out.later b2)
  clear p2 b1 b2 HP1
  go_wp2_with fail
  refine (iQ _).mono ?_
  rintro e w3 hg
  obtain ⟨a3, k3, rfl, -, b3⟩ := hg.is (n := 0) rfl
  clear hg
  go_wp2_with fail
  have B3 := Lib.hid (below_on B2.out b3 B2.out.size)
  have P1 := Lib.hid (HP1'.out.later b3)
  have P2 := Lib.hid (HP2.out.later b3)
  clear b3 B2 HP1' HP2
  refine (IR3.out _ B3.out).mono ?_
  rintro e w4 ⟨rfl, b4⟩
  have B4 := Lib.hid (below_on B3.out b4 B3.out.size)
  have P1' := Lib.hid (P1.out.later b4)
  have P2' := Lib.hid (P2.out.later b4)
  clear b4 B3 P1 P2
  go_wp2_with fail
  refine (IS.out _ B4.out).mono ?_
  rintro e w5 ⟨rfl, b5⟩
  go_wp2_with fail
  refine (IH0.out _).mono ?_
  rintro e w6 ⟨rfl, b6⟩
  have B6 := Lib.hid (below_on B4.out (below_on b5 b6 b5.size) B4.out.size)
  have P1 := Lib.hid (P1'.out.later (below_on b5 b6 b5.size))
  have P2 := Lib.hid (P2'.out.later (below_on b5 b6 b5.size))
  clear b5 b6 B4 P1' P2'
  go_wp2_with fail
  refine (IS3.out _ B6.out).mono ?_
  rintro e w7 ⟨rfl, b5⟩
  go_wp2_with fail
  refine (IH3.out _).mono ?_
  rintro e w8 ⟨rfl, b6⟩
  have B8 := Lib.hid (below_on B6.out (below_on b5 b6 b5.size) B6.out.size)
  have P1' := Lib.hid (P1.out.later (below_on b5 b6 b5.size))
  have P2' := Lib.hid (P2.out.later (below_on b5 b6 b5.size))
  clear b5 b6 B6 P1 P2
  go_wp2_with fail
  refine (IV1.out _ _ _ P1'.out (HKK.out.below B8.out)).mono ?_
  rintro e w9 ⟨rfl, b5⟩
  go_wp2_with fail
  have B9 := Lib.hid (below_on B8.out b5 B8.out.size)
  have P1 := Lib.hid (P1'.out.later b5)
  have P2 := Lib.hid (P2'.out.later b5)
  clear b5 B8 P1' P2'
  refine (IV2.out _ _ _ P1.out (HKK.out.below B9.out)).mono ?_
  rintro e w10 ⟨rfl, b5⟩
  have B10 := Lib.hid (below_on B9.out b5 B9.out.size)
  have P2' := Lib.hid (P2.out.later b5)
  clear b5 B9 P2 P1
  go_wp2_with fail
  refine (IR1.out _ B10.out).mono ?_
  rintro e w11 ⟨rfl, b5⟩
  have B11 := Lib.hid (below_on B10.out b5 B10.out.size)
  have P2 := Lib.hid (P2'.out.later b5)
  clear b5 B10 P2'
  go_wp2_with fail
  refine (IW1.out _ _ _ P2.out (HKK.out.below B11.out)).mono ?_
  rintro e w12 ⟨rfl, b5⟩
  have B12 := Lib.hid (below_on B11.out b5 B11.out.size)
  have P2' := Lib.hid (P2.out.later b5)
  clear b5 B11 P2
  go_wp2_with fail
  refine (IR2.out _ B12.out).mono ?_
  rintro e w13 ⟨rfl, b5⟩
  have B13 := Lib.hid (below_on B12.out b5 B12.out.size)
  have P2 := Lib.hid (P2'.out.later b5)
  clear b5 B12 P2'
  go_wp2_with fail
  refine (IW2.out _ _ _ P2.out (HKK.out.below B13.out)).mono ?_
  rintro e w14 ⟨rfl, b5⟩
  go_wp2_with fail
  go_ret
  exact ⟨rfl, below_on HB0.out (below_on B13.out b5 B13.out.size) HB0.out.size⟩

end Go.Proofs.YtagcpjokajcdiaaDoor
