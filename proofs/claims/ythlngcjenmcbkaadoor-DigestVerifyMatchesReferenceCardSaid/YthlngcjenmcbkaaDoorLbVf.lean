/-
  The law DigestVerifyMatchesReference: the walk.
-/
import Derived.Test.YthlngcjenmcbkaaDoorLac
import Derived.Test.YthlngcjenmcbkaaDoorRve
namespace Go.Proofs.YthlngcjenmcbkaaDoor
open Go.RowKit Bs

set_option maxRecDepth 100000 in
set_option maxHeartbeats 4000000 in
theorem VerifyMatches_any (old root s : ByteArray) (n i : Int) (a0 : Option Addr) (n0 c0 : Nat) (ss : List ByteArray) (w : World) (hS : Fr.IsStrs w a0 n0 ss) (zo : old.size ≤ maxLen) (zr : root.size ≤ maxLen) (m1 : -9223372036854775808 ≤ n) (m2 : n ≤ 9223372036854775807) (m3 : -9223372036854775808 ≤ i) (m4 : i ≤ 9223372036854775807) (h : KAt w) :
    Calls Tryd.prog 5 #[.string old, .string root, .int .i64 n, .int .i64 i, .string s, .slice a0 n0 c0] w fun e w' => e = .returned (.bool true) ∧ Below w.heap.size w w' := by
  obtain ⟨O, rfl⟩ : ∃ r, old = bs r := ⟨old.data.toList, (bs_bytes old).symm⟩
  obtain ⟨R, rfl⟩ : ∃ r, root = bs r := ⟨root.data.toList, (bs_bytes root).symm⟩
  rw [bs_size] at zo zr
  obtain ⟨ms, S, ⟨msa, msb⟩, x0, l0, e0, -⟩ := cut_string s 60
  have r0 := fun w ts ty => min_run (P := Tryd.prog) s.size 60 ms e0 60 rfl w ts ty
  have hSl : S.length ≤ 60 := by omega
  clear e0 l0
  have hFl : (fewL ss 70).length ≤ 70 := by rw [fewL_length]; omega
  have hFs : ∀ x ∈ fewL ss 70, x.length ≤ 60 := fewL_short
  have iF : ∀ W, Below w.heap.size w W → Calls Tryd.prog 21 #[.slice a0 n0 c0, .int .i64 70] W (GivesL (fewL ss 70) W) := fun W hb => few_any a0 n0 c0 70 ss W (IsStrs_below hS hb) (by omega)
  obtain ⟨P, hP⟩ : ∃ L, fewL ss 70 = L := ⟨_, rfl⟩
  rw [hP] at hFl hFs iF
  have IF := Lib.hid iF
  clear iF hP hS
  have hpm : ∀ x ∈ P, x.length ≤ maxLen := fun x hx => by have := hFs x hx; unfold maxLen; omega
  obtain ⟨V, hV⟩ : ∃ V, verB R n i S P = V := ⟨_, rfl⟩
  obtain ⟨E, hE⟩ : ∃ V, extB O i R n P = V := ⟨_, rfl⟩
  have iV : ∀ W a np c, KAt W → IsL W a np c P → Calls Tryd.prog 29 #[.string (bs R), .int .i64 n, .int .i64 i, .string (bs S), .slice a np c] W fun e w' => e = .returned (.bool V) ∧ Below W.heap.size W w' := fun W a np c hK hL => by
    rw [← hV]; exact Verify_any R n i S P a np c W hL hpm (by omega) m1 m2 m3 m4 hK
  have jV : ∀ W a np c, IsL W a np c P → Calls Tryd.prog 30 #[.string (bs R), .int .i64 n, .int .i64 i, .string (bs S), .slice a np c] W fun e w' => e = .returned (.bool V) ∧ Below W.heap.size W w' := fun W a np c hL => by
    rw [← hV]; exact refVerify_any R n i S P a np c W hL hpm (by omega) m1 m2 m3 m4
  have iE : ∀ W a np c, KAt W → IsL W a np c P → Calls Tryd.prog 31 #[.string (bs O), .int .i64 i, .string (bs R), .int .i64 n, .slice a np c] W fun e w' => e = .returned (.bool E) ∧ Below W.heap.size W w' := fun W a np c hK hL => by
    rw [← hE]; exact VerifyExt_any O R i n P a np c W hL hpm zo zr m1 m2 m3 m4 hK
  have jE : ∀ W a np c, IsL W a np c P → Calls Tryd.prog 32 #[.string (bs O), .int .i64 i, .string (bs R), .int .i64 n, .slice a np c] W fun e w' => e = .returned (.bool E) ∧ Below W.heap.size W w' := fun W a np c hL => by
    rw [← hE]; exact refVerifyExt_any O R i n P a np c W hL hpm zo zr m1 m2 m3 m4
  have IV := Lib.hid iV
  have JV := Lib.hid jV
  have IE := Lib.hid iE
  have JE := Lib.hid jE
  clear iV jV iE jE hV hE hpm hFs
  go_enter Tryd.func5, Tryd.ntmps5
  go_wp2_with fail
  refine (sane_any _ h).mono ?_
  rintro e w1 ⟨rfl, B1⟩
  go_wp2_with fail
  refine (IF.out _ B1).mono ?_
  rintro e w2 ⟨v, rfl, ho, b2⟩
  have B2 := below_on B1 b2 B1.size; clear b2 B1
  obtain ⟨a, c, rfl, hi0, -⟩ := ho.is
  obtain ⟨np, hnp⟩ : ∃ x, P.length = x := ⟨_, rfl⟩
  rw [hnp] at hi0 hFl ⊢
  have HI : Hid (∀ W, Below w2.heap.size w2 W → IsL W a np c P ∧ KAt W) := Lib.hid fun W hb => ⟨hi0.later hb, h.below (below_on B2 hb B2.size)⟩
  clear hi0 ho hnp
  go_wp2_with fail
  refine (IV.out _ _ _ _ (HI.out _ (Below.refl _ _)).2 (HI.out _ (Below.refl _ _)).1).mono ?_
  rintro e w3 ⟨rfl, b3⟩
  go_wp2_with fail
  refine (JV.out _ _ _ _ (HI.out _ b3).1).mono ?_
  rintro e w4 ⟨rfl, b4⟩
  have B4 := below_on b3 b4 b3.size
  clear b3 b4
  cases V <;> cases E
  all_goals
    go_wp2_with fail
    refine (IE.out _ _ _ _ (HI.out _ B4).2 (HI.out _ B4).1).mono ?_
    rintro e w5 ⟨rfl, b5⟩
    have B5 := below_on B4 b5 B4.size
    clear b5
    go_wp2_with fail
    refine (JE.out _ _ _ _ (HI.out _ B5).1).mono ?_
    rintro e w6 ⟨rfl, b6⟩
    have B6 := below_on B5 b6 B5.size
    go_wp2_with fail
    go_ret
    exact ⟨rfl, below_on B2 B6 B2.size⟩

end Go.Proofs.YthlngcjenmcbkaaDoor
