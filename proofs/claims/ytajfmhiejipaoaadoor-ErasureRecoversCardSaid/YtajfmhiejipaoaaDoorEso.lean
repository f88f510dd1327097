/-
  The reference's Some: the first chunks of a permutation.
-/
import Derived.Test.YtajfmhiejipaoaaDoorErm
import Derived.Laws.OwnMore
namespace Go.Proofs.YtajfmhiejipaoaaDoor
open Go.RowKit Bs Ef

/-- a block that begins with chunks -/
def CkCap (W : World) (g : Nat) (l : List (Int × ByteArray)) (r : List Value) : Prop := W.heap[g]? = some (.cells (ckc l ++ r).toArray 40 (0, 0))
section
variable {W W' : World} {g : Nat} {l : List (Int × ByteArray)} {r : List Value}
theorem CkCap.lt (h : CkCap W g l r) : g < W.heap.size := (Array.getElem?_eq_some_iff.1 h).1
theorem CkCap.cell (h : CkCap W g l r) (i : Nat) (hi : i < l.length) : W.cell? ⟨g, i * 2, none⟩ = some (.int .i64 (l[i]).1) ∧ W.cell? ⟨g, i * 2 + 1, none⟩ = some (.string (l[i]).2) := by
  have hl := ckc_len l
  constructor
  · rw [cell_of_row W g _ _ _ _ h, List.getElem?_toArray, List.getElem?_append_left (by omega)]; exact (ckc_at l i hi).1
  · rw [cell_of_row W g _ _ _ _ h, List.getElem?_toArray, List.getElem?_append_left (by omega)]; exact (ckc_at l i hi).2
theorem CkCap.at (h : CkCap W g l r) : CkAt W g 0 l := ⟨fun i hi => by rw [Nat.zero_add]; exact h.cell i hi, h.lt⟩
theorem CkCap.free (h : CkCap W g l r) (i : Nat) : W.frozen? ⟨g, i, none⟩ = false := frozen_of_row _ _ i _ _ h
theorem CkCap.later (h : CkCap W g l r) (hb : Below W.heap.size W W') : CkCap W' g l r := (hb.block g h.lt).trans h
theorem CkCap.set (h : CkCap W g l r) (i : Nat) (hi : i < l.length) (a : Int) (s : ByteArray) : CkCap ((W.setCell ⟨g, i * 2, none⟩ (.int .i64 a)).setCell ⟨g, i * 2 + 1, none⟩ (.string s)) g (l.set i (a, s)) r := by
  have h1 := heap_setCell_same W g (i * 2) _ _ (.int .i64 a) h
  have h2 := heap_setCell_same _ g (i * 2 + 1) _ _ (.string s) h1
  have hl := ckc_len l
  unfold CkCap
  rw [h2, ckc_set l i hi]
  simp only [List.setIfInBounds_toArray]
  rw [List.set_append_left _ _ (by omega), List.set_append_left _ _ (by rw [List.length_set]; omega)]
theorem CkCap.swap (h : CkCap W g l r) (i k : Nat) (hi : i < l.length) (hk : k < l.length) :
    CkCap ((((W.setCell ⟨g, i * 2, none⟩ (.int .i64 (l[k]).1)).setCell ⟨g, i * 2 + 1, none⟩ (.string (l[k]).2)).setCell ⟨g, k * 2, none⟩ (.int .i64 (l[i]).1)).setCell ⟨g, k * 2 + 1, none⟩ (.string (l[i]).2)) g ((l.set i l[k]).set k l[i]) r :=
  (h.set i hi _ _).set k (by rw [List.length_set]; exact hk) _ _
end
theorem frozen_setCell (W : World) (p : Addr) (v : Value) (b : Addr) : (W.setCell p v).frozen? b = W.frozen? b := by
  unfold World.frozen? World.setCell
  simp only [Array.getElem?_modify]
  by_cases h : p.block = b.block
  · rw [if_pos h]
    cases hb : W.heap[b.block]? with
    | none => simp
    | some o => cases o <;> simp
  · rw [if_neg h]
def OwnC (W : World) (base : Nat) (v : Value) (l : List (Int × ByteArray)) : Prop := W.ownsRow base 40 2 v l.length (ckc l)
theorem OwnC.none0 (W : World) (base : Nat) (hb : base ≤ W.heap.size) : OwnC (W.alloc (.cells #[] 40)) base (.slice (some ⟨W.heap.size, 0, none⟩) 0 0) [] :=
  World.ownsRow_lit W #[] 0 hb (by unfold maxLen; omega) rfl
theorem ckc_append (l m : List (Int × ByteArray)) : ckc (l ++ m) = ckc l ++ ckc m := by
  induction l with
  | nil => rfl
  | cons c l ih => rw [List.cons_append, ckc, ckc, ih]; rfl
theorem ckc_one (l : List (Int × ByteArray)) : ∀ u ∈ ckc l, u.oneCell' = true := by
  induction l with
  | nil => intro u hu; cases hu
  | cons c l ih =>
    intro u hu
    rw [ckc] at hu
    rcases List.mem_cons.1 hu with rfl | hu
    · rfl
    · rcases List.mem_cons.1 hu with rfl | hu
      · rfl
      · exact ih u hu
theorem OwnC.cap {W : World} {base : Nat} {v : Value} {l : List (Int × ByteArray)} (h : OwnC W base v l) (hl : 0 < l.length) :
    ∃ g c r, v = .slice (some ⟨g, 0, none⟩) l.length c ∧ base ≤ g ∧ l.length ≤ c ∧ c ≤ maxLen ∧ CkCap W g l r := by
  rcases h.2 with ⟨_, h0⟩ | ⟨g, cap, cur, rfl, hb, hrow, h1, h2, h3, htake⟩
  · omega
  · refine ⟨g, cap, cur.toList.drop (l.length * 2), rfl, hb, h1, h2, ?_⟩
    unfold CkCap
    rw [hrow, ← htake, List.take_append_drop]
theorem wpList_pushAllC {w : World} {ops : Array Oper} {rest : List Oper} {o : Oper} {a : Act} {Q : Exit → Act → World → Prop} (hgd : o.guard = none) (s x : Operand)
    (ho : o.op = .call { callee := .builtin .append, args := #[s, x], argTypes := #[22, 22] })
    (base : Nat) (v : Value) (l : List (Int × ByteArray)) (hs : a.eval s = v) (hown : OwnC w base v l) (g off c : Nat) (l2 : List (Int × ByteArray)) (hx : a.eval x = .slice (some ⟨g, off, none⟩) l2.length c) (hu : CkAt w g off l2)
    (hlen : l.length + l2.length ≤ 200000) (hbase : base ≤ w.heap.size)
    (hblk : ∀ j, v.ownBlock = some j → base ≤ j)
    (h : ∀ v' w', OwnC w' base v' (l ++ l2) → Below base w w' → wpList Tryd.prog ops Q rest (a.put o.dst v') w') : wpList Tryd.prog ops Q (o :: rest) a w := by
  obtain ⟨i0, hi, hz0, hz1, hz2⟩ := info_parts infoC
  refine wpList_append_own w hgd s x 22 ho base 40 i0 (.agg #[.int .i64 0, .string ⟨#[]⟩]) 2 24 Tryd.underlying22 hi hz0 hz1 hz2 (by simp [Value.cells]) (by omega) v l.length (ckc l) hs hown ⟨g, off, none⟩ l2.length c (ckc l2) hx (ckc_len l2) ?_ (ckc_one l2) (by unfold maxLen; omega) (by omega) hbase ?_
  · intro j u hj
    have hlt : j < (ckc l2).length := (List.getElem?_eq_some_iff.1 hj).1
    rw [ckc_len] at hlt
    have h2 := ckc_at l2 (j / 2) (by omega)
    have h3 := hu.cell (j / 2) (by omega)
    rw [show (⟨g, off, none⟩ : Addr).add j = ⟨g, off + j, none⟩ by unfold Addr.add; split <;> simp_all]
    rcases Nat.mod_two_eq_zero_or_one j with hm | hm
    · have e : j / 2 * 2 = j := by omega
      rw [e] at h2 h3
      rw [h3.1, ← h2.1, hj]
    · have e : j / 2 * 2 + 1 = j := by omega
      rw [e] at h2
      rw [Nat.add_assoc, e] at h3
      rw [h3.2, ← h2.2, hj]
  · intro v' w' hown' hgrow _
    refine h v' w' ?_ ((Below.refl base w).grown hgrow hbase hblk)
    unfold OwnC
    rw [ckc_append, List.length_append]
    exact hown'

/-! pick, Some -/
set_option maxRecDepth 100000 in
set_option maxHeartbeats 4000000 in
theorem rpick6_any (c : Int) (h0 : -9223372036854775808 ≤ c) (h1 : c ≤ 9223372036854775807) (m : Nat) (M : Int) (hM : M = (m : Int)) (hm : 0 < m) :
    ∃ k : Nat, k < m ∧ ∀ w, Calls Tryd.prog 49 #[.int .i64 c, .int .i64 M] w fun e w' => e = .returned (.int .i64 (k : Int)) ∧ w' = w := by
  subst hM
  have hm0 : ((m : Int) == 0) = false := beq_false_of_ne (by omega)
  have hm1 : decide ((m : Int) = 0) = false := decide_eq_false (by omega)
  rcases Int.lt_or_le c 0 with h | h
  · obtain ⟨d, he⟩ : ∃ d : Nat, -(c + 1) = (d : Int) := ⟨(-(c + 1)).toNat, by omega⟩
    have hd : decide (c < 0) = true := decide_eq_true h
    have ht : (d : Int).tmod (m : Int) = ((d % m : Nat) : Int) := (Int.ofNat_tmod d m).symm
    have hlt := Nat.mod_lt d hm
    obtain ⟨k, hk⟩ : ∃ k, d % m = k := ⟨_, rfl⟩
    rw [hk] at ht hlt
    clear hk
    refine ⟨k, hlt, fun w => ?_⟩
    go_enter Tryd.func49, Tryd.ntmps49
    go_wp2_with fail
    go_ret
    exact ⟨rfl, rfl⟩
  · obtain ⟨d, rfl⟩ : ∃ d : Nat, c = (d : Int) := ⟨c.toNat, by omega⟩
    have ht : (d : Int).tmod (m : Int) = ((d % m : Nat) : Int) := (Int.ofNat_tmod d m).symm
    have hlt := Nat.mod_lt d hm
    obtain ⟨k, hk⟩ : ∃ k, d % m = k := ⟨_, rfl⟩
    rw [hk] at ht hlt
    clear hk h
    refine ⟨k, hlt, fun w => ?_⟩
    go_enter Tryd.func49, Tryd.ntmps49
    go_wp2_with fail
    go_ret
    exact ⟨rfl, rfl⟩

/-- the slice holds integers -/
structure IsO (W : World) (a : Option Addr) (m : Nat) : Prop where
  mem : m = 0 ∨ ∃ g o, a = some ⟨g, o, none⟩ ∧ ∀ i, i < m → ∃ z : Int, -9223372036854775808 ≤ z ∧ z ≤ 9223372036854775807 ∧ W.cell? ⟨g, o + i, none⟩ = some (.int .i64 z)
theorem IsO.later {W W' : World} {a : Option Addr} {m : Nat} (h : IsO W a m) (hb : Below W.heap.size W W') : IsO W' a m :=
  ⟨h.mem.imp id (fun ⟨g, o, e, k⟩ => ⟨g, o, e, fun i hi => by
    obtain ⟨z, z1, z2, z3⟩ := k i hi
    exact ⟨z, z1, z2, (hb.cell (p := ⟨g, o + i, none⟩) (block_lt_of_cell z3)).trans z3⟩⟩)⟩

set_option maxRecDepth 100000 in
set_option maxHeartbeats 8000000 in
theorem Some_any (C : List (Int × ByteArray)) (gc cc n : Nat) (x : Int) (ad : Option Addr) (m mc : Nat) (w : World) (hn : C.length = n) (hn1 : 1 ≤ n) (hn2 : n ≤ 1000) (hcc : n ≤ cc) (hC : CkAt w gc 0 C) (hO : IsO w ad m) (hm : m ≤ 9223372036854775807) (hx0 : -9223372036854775808 ≤ x) (hx1 : x ≤ 9223372036854775807) :
    Calls Tryd.prog 25 #[.slice (some ⟨gc, 0, none⟩) n cc, .int .i64 x, .slice ad m mc] w fun e w' =>
      ∃ L r g k c, L.Perm C ∧ k = min x.toNat n ∧ k ≤ c ∧ w.heap.size ≤ g ∧ e = .returned (.slice (some ⟨g, 0, none⟩) k c) ∧ CkCap w' g L r ∧ Below w.heap.size w w' := by
  have HC := Lib.hid hC
  have HN := Lib.hid hn
  have HO := Lib.hid hO
  clear hC hn hO
  obtain ⟨X, hX⟩ : ∃ X, x.toNat = X := ⟨_, rfl⟩
  have rm : ∀ (W : World) (ts : Array TypeId) (ty : TypeId), (Builtin.max_ ts ty #[.int .i64 x, .int .i64 0]).run Tryd.prog W = .ok (.int .i64 (X : Int)) W := fun W ts ty => by
    rw [run_max_int2]; congr 2; split <;> omega
  obtain ⟨kk, hkk⟩ : ∃ k, min X n = k := ⟨_, rfl⟩
  have rn := fun W ts ty => min_run (P := Tryd.prog) X n kk hkk.symm n rfl W ts ty
  rw [hX]
  rw [hkk]
  clear hX
  go_enter Tryd.func25, Tryd.ntmps25
  go_wp2_with (at_builtin; refine wpList_pushAllC rfl _ _ rfl w.heap.size _ [] rfl (OwnC.none0 w w.heap.size (Nat.le_refl _)) gc 0 cc C (by have h := HN.out; subst h; rfl) (HC.out.later ((Below.refl _ _).alloc (Nat.le_refl _) _)) (by have h := HN.out; simp; omega) (by rw [World.size_alloc]; omega) (fun j hj => by cases hj; exact Nat.le_refl _) ?_)
  intro v1 w1 oC bC
  have hB := ((Below.refl w.heap.size w).alloc (Nat.le_refl _) (.cells #[] 40)).trans bC
  obtain ⟨g, c, r, rfl, hg, hlc, hlm, hcap⟩ := oC.cap (by have h := HN.out; omega)
  rw [HN.out] at hlc ⊢
  have HR := Lib.hid hcap
  have HB := Lib.hid hB
  clear oC bC hB hcap
  have hkc : kk ≤ c := by omega
  have hk1 : (kk : Int) ≤ (c : Int) := by omega
  have hk2 : (0 : Int) ≤ (kk : Int) := by omega
  go_wp2_with fail
  go_loopw [8] (fun q wr => ∃ i : Nat, i ≤ n ∧ q = .int .i64 i ∧ (∃ L, L.Perm C ∧ CkCap wr g L r) ∧ Below w.heap.size w wr) (fun q _ => n - (intOf q).toNat)
  case atStart => exact ⟨0, Nat.zero_le _, rfl, ⟨C, List.Perm.refl _, HR.out⟩, HB.out⟩
  case round =>
    clear HR HB
    obtain ⟨i, hi, rfl, ⟨L, hL, hcap⟩, hw⟩ := hrel
    have HR := Lib.hid hcap
    have HB := Lib.hid hw
    have HL := Lib.hid hL
    have HLn := Lib.hid (show L.length = n from hL.length_eq.trans HN.out)
    clear hcap hw hL
    rcases Nat.lt_or_ge i n with hin | hin
    · have i1 : (i : Int) < (n : Int) := by omega
      have i2 : decide (i < n) = true := decide_eq_true hin
      rcases Nat.lt_or_ge i m with him | him
      · have i3 : decide (i < m) = true := decide_eq_true him
        have i4 : (i : Int) < (m : Int) := by omega
        obtain ⟨go, oo, rfl, hz⟩ := (HO.out.later HB.out).mem.resolve_left (by omega)
        obtain ⟨z, z1, z2, hcell⟩ := hz i him
        obtain ⟨p, hp, PK⟩ := rpick6_any z z1 z2 (n - i) ((n : Int) - (i : Int)) (by omega) (by omega)
        have hw1 : IntKind.i64.wrap ((n : Int) - (i : Int)) = (n : Int) - (i : Int) := by rw [IntKind.wrap_i64]; omega
        obtain ⟨k, hk⟩ : ∃ k, i + p = k := ⟨_, rfl⟩
        have hw2 : IntKind.i64.wrap ((i : Int) + (p : Int)) = (k : Int) := by rw [IntKind.wrap_i64]; omega
        have hw3 : (i : Int) + (p : Int) = (k : Int) := by omega
        have hw4 : IntKind.i64.wrap (k : Int) = (k : Int) := by rw [IntKind.wrap_i64]; omega
        have hkn : k < n := by omega
        have k1 : (k : Int) < (n : Int) := by omega
        have k2 : (0 : Int) ≤ (k : Int) := by omega
        have hiL : i < L.length := by rw [HLn.out]; exact hin
        have hkL : k < L.length := by rw [HLn.out]; exact hkn
        obtain ⟨a1, a2⟩ := HR.out.cell i hiL
        obtain ⟨b1, b2⟩ := HR.out.cell k hkL
        have fr := HR.out.free
        have hfs := frozen_setCell
        have HS1 := HR.out.set i hiL (L[k]).1 (L[k]).2
        have hL1 : (L.set i ((L[k]).1, (L[k]).2)).length = n := by rw [List.length_set, HLn.out]
        have hS2 := HS1.cell k (by omega)
        have hS3 : (L.set i ((L[k]).1, (L[k]).2))[k]'(by omega) = L[k] := by
          rw [List.getElem_set]; split <;> rfl
        rw [hS3] at hS2
        obtain ⟨d1, d2⟩ := hS2
        have HSW := Lib.hid (HR.out.swap i k hiL hkL)
        have HPM := Lib.hid ((List.set_set_perm hiL hkL).trans HL.out)
        have PKH := Lib.hid PK
        obtain ⟨L2, hL2⟩ : ∃ L2, (L.set i L[k]).set k L[i] = L2 := ⟨_, rfl⟩
        rw [hL2] at HSW HPM
        obtain ⟨A0, hA0⟩ : ∃ x, (L[i]).1 = x := ⟨_, rfl⟩
        obtain ⟨S0, hS0⟩ : ∃ x, (L[i]).2 = x := ⟨_, rfl⟩
        obtain ⟨A1, hA1⟩ : ∃ x, (L[k]).1 = x := ⟨_, rfl⟩
        obtain ⟨S1, hS1⟩ : ∃ x, (L[k]).2 = x := ⟨_, rfl⟩
        rw [hA0] at a1 HSW
        rw [hS0] at a2 HSW
        rw [hA1] at b1 HSW d1 d2
        rw [hS1] at b2 HSW d1 d2
        clear hS3 hL1 HS1 hk hp hz PK z1 z2 hL2 hA0 hS0 hA1 hS1 hiL hkL
        go_upto_region 6 with (go_at_call 49; (with_reducible refine (PKH.out _).mono ?_); rintro e ww ⟨rfl, hww⟩; rw [hww]; clear hww ww)
        go_region_with (fail)
        all_goals
          go_wp2_with fail
        all_goals exact ⟨⟨i + 1, hin, by go_num, ⟨_, HPM.out, HSW.out⟩, ((((HB.out.setCell (p := ⟨g, i * 2, none⟩) hg _).setCell (p := ⟨g, i * 2 + 1, none⟩) hg _).setCell (p := ⟨g, k * 2, none⟩) hg _).setCell (p := ⟨g, k * 2 + 1, none⟩) hg _).drew⟩, by simp [intOf]; omega⟩
      · have i3 : decide (i < m) = false := decide_eq_false (by omega)
        have i4 : ¬ (i : Int) < (m : Int) := by omega
        go_wp2_with fail
        go_ret
        first
          | exact ⟨L, r, g, kk, c, HL.out, rfl, hkc, hg, rfl, HR.out, HB.out⟩
          | exact ⟨L, HL.out, r, g, c, hkc, hg, rfl, HR.out, HB.out⟩
    · obtain rfl : i = n := by omega
      have i2 : decide (i < i) = false := decide_eq_false (by omega)
      go_wp2_with fail
      go_ret
      first
          | exact ⟨L, r, g, kk, c, HL.out, rfl, hkc, hg, rfl, HR.out, HB.out⟩
          | exact ⟨L, HL.out, r, g, c, hkc, hg, rfl, HR.out, HB.out⟩

end Go.Proofs.YtajfmhiejipaoaaDoor
