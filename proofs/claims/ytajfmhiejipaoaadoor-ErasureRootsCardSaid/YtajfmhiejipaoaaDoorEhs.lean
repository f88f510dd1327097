/-
  The reference's Collided (two different strings of two lists have the same digest) and Hashed (the strings that are hashed for a root). Two different lists with one root have a hit.
-/
import Derived.Test.YtajfmhiejipaoaaDoorOwa
import Derived.Test.YtajfmhiejipaoaaDoorRsm
import Derived.BigQuiet
import Derived.Test.YtajfmhiejipaoaaDoorRrt
namespace Go.Proofs.YtajfmhiejipaoaaDoor
open Go.RowKit Bs

theorem bsEqT {v u : List UInt8} (h : v = u) : ((bs v).toList == (bs u).toList) = true := by subst h; simp
theorem bsEqF {v u : List UInt8} (h : v ≠ u) : ((bs v).toList == (bs u).toList) = false := by
  rw [bs_toList, bs_toList, beq_eq_false_iff_ne]; exact h
def hitL (x : List UInt8) (y : List UInt8) : Bool := decide (x ≠ y) && decide (dig x = dig y)
def colL (A B : Strs) : Bool := A.any fun x => B.any (hitL x)
theorem any_take_succ (l : Strs) (p : List UInt8 → Bool) (k : Nat) (h : k < l.length) : (l.take (k + 1)).any p = ((l.take k).any p || p (l.getD k [])) := by
  rw [List.take_succ_eq_append_getElem h, List.any_append, getD_eq l k h]; simp
theorem any_hit (l : Strs) (p : List UInt8 → Bool) (k : Nat) (h : k < l.length) (hp : p (l.getD k []) = true) : l.any p = true :=
  List.any_eq_true.2 ⟨_, getD_mem l k h, hp⟩
theorem dig_take (B : Strs) (j : Nat) (h : j < B.length) : (B.take (j + 1)).map dig = (B.take j).map dig ++ [dig (B.getD j [])] := by
  rw [List.take_succ_eq_append_getElem h, List.map_append, getD_eq B j h]; simp
theorem map_getD (B : Strs) (j : Nat) (h : j < B.length) : (B.map dig).getD j [] = dig (B.getD j []) := by
  rw [getD_eq _ j (by simpa using h), getD_eq B j h, List.getElem_map]

set_option maxRecDepth 100000 in
set_option maxHeartbeats 4000000 in
theorem Collided_any (A B : Strs) (a b : Option Addr) (na ca nb cb : Nat) (w : World) (hA : IsL w a na ca A) (hB : IsL w b nb cb B) (hna : na ≤ 100000) (hnb : nb ≤ 100000) (hsA : ∀ x ∈ A, x.length ≤ 1000000) (hsB : ∀ x ∈ B, x.length ≤ 1000000) :
    Calls Tryd.prog 32 #[.slice a na ca, .slice b nb cb] w fun e w' => e = .returned (.bool (colL A B)) ∧ Below w.heap.size w w' := by
  have HSum := Lib.hid (fun (l : List UInt8) (W : World) (h : l.length ≤ 1000000) => (show Calls Tryd.prog 55 #[.string (bs l)] W fun e w' => e = .returned (.string (bs (dig l))) ∧ Below W.heap.size W w' from refSum_any2 l W h))
  have LA := Lib.hid hA.len
  have LB := Lib.hid hB.len
  have HA := Lib.hid hA
  have HB := Lib.hid hB
  have SA := Lib.hid hsA
  have SB := Lib.hid hsB
  clear hA hB hsA hsB
  go_enter Tryd.func32, Tryd.ntmps32
  go_wp2_with fail
  go_loopw [5, 6] (fun v i wr => ∃ j : Nat, j ≤ nb ∧ i = .int .i64 j ∧ OwnS wr w.heap.size v ((B.take j).map dig) ∧ Below w.heap.size w wr) (fun _ i _ => nb - (intOf i).toNat)
  case atStart => exact ⟨0, by omega, rfl, OwnS.nil _ _, Below.refl _ _⟩
  case round =>
    obtain ⟨j, hj, rfl, hown, hw⟩ := hrel
    have hwsz := hw.size
    rcases Nat.lt_or_ge j nb with hjn | hjn
    · obtain ⟨g, off, rfl, hp⟩ := HB.out.at (by omega)
      have hln : j < B.length := by rw [LB.out]; exact hjn
      have hcell := hp.later hw j hln
      have hxs := SB.out _ (getD_mem B j hln)
      have e1 := dig_take B j hln
      have i1 : (j : Int) < (nb : Int) := by omega
      obtain ⟨x, hx⟩ : ∃ x, B.getD j [] = x := ⟨_, rfl⟩
      rw [hx] at hcell hxs e1
      have hPl : ((B.take j).map dig).length ≤ 2000000 := by rw [List.length_map, List.length_take]; omega
      obtain ⟨P, hP⟩ : ∃ P, (B.take j).map dig = P := ⟨_, rfl⟩
      rw [hP] at hown e1 hPl
      have E1 := Lib.hid e1
      have HO := Lib.hid hown
      have HC := Lib.hid (HSum.out x wr hxs)
      obtain ⟨D, hD⟩ : ∃ D, dig x = D := ⟨_, rfl⟩
      rw [hD] at HC E1
      clear hp hx e1 hown hP hD hxs
      go_wp2_with (first
        | (go_at_call 55; (with_reducible refine HC.out.mono ?_); rintro e wB ⟨rfl, bB0⟩; have HO2 := Lib.hid (HO.out.later bB0); have bB := below_on hw bB0 hw.size; have sB := bB.size; clear bB0 HO)
        | (at_builtin; refine wpList_pushS rfl _ _ rfl w.heap.size _ P rfl (HO2.out.alloc _) ⟨wB.heap.size, 0, none⟩ 1 D rfl (fresh_cell wB _ _) hPl (Nat.le_trans sB (by rw [World.size_alloc]; omega)) ?_; intro v1 wC oC bC; have bD := (bB.alloc sB (.cells #[.string (bs D)] 9)).trans bC; have HO := Lib.hid oC; clear oC HO2))
      go_roundw
      case rel => exact ⟨j + 1, hjn, by go_num, by rw [E1.out]; exact HO.out, bD⟩
      case measure => simp [intOf]; omega
    · obtain rfl : nb = j := by omega
      rw [List.take_of_length_le (by rw [LB.out]; exact Nat.le_refl _)] at hown
      obtain ⟨sa, sc, rfl, hS, -⟩ := hown.is
      have hBl : (B.map dig).length = nb := by rw [List.length_map]; exact LB.out
      rw [hBl] at hS ⊢
      have HS := Lib.hid hS
      have HW := Lib.hid hw
      obtain ⟨w2, hw2⟩ : ∃ W, wr = W := ⟨_, rfl⟩
      rw [hw2] at HS HW ⊢
      clear hS hw hown hwsz hBl hw2 wr
      go_wp2_with fail
      go_loopw [7] (fun q wr => ∃ i : Nat, i ≤ na ∧ q = .int .i64 i ∧ Hid ((A.take i).any (fun x => B.any (hitL x)) = false) ∧ Below w2.heap.size w2 wr) (fun q _ => na - (intOf q).toNat)
      case atStart => exact ⟨0, Nat.zero_le _, rfl, Lib.hid rfl, Below.refl _ _⟩
      case round =>
        obtain ⟨i, hi, rfl, hno, hv⟩ := hrel
        rcases Nat.lt_or_ge i na with hin | hin
        · obtain ⟨g1, o1, rfl, p1⟩ := HA.out.at (by omega)
          have hla : i < A.length := by rw [LA.out]; exact hin
          have hcell := p1.later (below_on HW.out hv HW.out.size) i hla
          have hxs := SA.out _ (getD_mem A i hla)
          have n1 := any_take_succ A (fun x => B.any (hitL x)) i hla
          have n2 := any_hit A (fun x => B.any (hitL x)) i hla
          obtain ⟨x, hx⟩ : ∃ x, A.getD i [] = x := ⟨_, rfl⟩
          rw [hx] at hcell hxs n1 n2
          rw [hno.out, Bool.false_or] at n1
          have N1 := Lib.hid n1
          have N2 := Lib.hid n2
          have HX := Lib.hid hx
          have P1 := Lib.hid p1
          have i1 : (i : Int) < (na : Int) := by omega
          have HC := Lib.hid (HSum.out x wr hxs)
          obtain ⟨D, hD⟩ : ∃ D, dig x = D := ⟨_, rfl⟩
          rw [hD] at HC
          have HD := Lib.hid hD
          clear p1 hx n1 n2 hno hxs hD
          go_upto_region 10 with (go_at_call 55; (with_reducible refine HC.out.mono ?_); rintro e w3 ⟨rfl, bB0⟩; have HV := Lib.hid (below_on hv bB0 hv.size); clear bB0)
          clear hcell HC
          go_wp2_with fail
          go_loopw [9] (fun q wx => ∃ k : Nat, k ≤ nb ∧ q = .int .i64 k ∧ Hid ((B.take k).any (hitL x) = false) ∧ Below w2.heap.size w2 wx) (fun q _ => nb - (intOf q).toNat)
          case atStart => exact ⟨0, Nat.zero_le _, rfl, Lib.hid rfl, HV.out⟩
          case round =>
            clear hv
            obtain ⟨k, hk, rfl, hnk, hz⟩ := hrel
            rcases Nat.lt_or_ge k nb with hkn | hkn
            · obtain ⟨g2, o2, rfl, p2⟩ := HB.out.at (by omega)
              obtain ⟨g3, o3, rfl, p3⟩ := HS.out.at (by omega)
              have hlb : k < B.length := by rw [LB.out]; exact hkn
              have hzw := below_on HW.out hz HW.out.size
              have c1 := P1.out.later hzw i hla
              have c2 := p2.later hzw k hlb
              have c3 := p3.later hz k (by rw [List.length_map]; exact hlb)
              rw [HX.out] at c1
              rw [map_getD B k hlb] at c3
              have n1 := any_take_succ B (hitL x) k hlb
              have n2 := any_hit B (hitL x) k hlb
              obtain ⟨y, hy⟩ : ∃ y, B.getD k [] = y := ⟨_, rfl⟩
              rw [hy] at c2 c3 n1 n2
              rw [hnk.out, Bool.false_or] at n1
              have M1 := Lib.hid n1
              have M2 := Lib.hid n2
              have k1 : (k : Int) < (nb : Int) := by omega
              clear p2 p3 hy n1 n2 hnk hzw
              obtain ⟨G, hG⟩ : ∃ G, dig y = G := ⟨_, rfl⟩
              rw [hG] at c3
              have HG := Lib.hid hG
              clear hG
              by_cases hxy : x = y
              · have hq := bsEqT hxy
                have hh := Lib.hid (show hitL x y = false by unfold hitL; rw [show decide (x ≠ y) = false from decide_eq_false (fun h => h hxy)]; rfl)
                clear hxy
                go_wp2_with fail
                go_quiet (fail)
                go_wp2_with fail
                go_roundw
                case rel => exact ⟨k + 1, hkn, by go_num, Lib.hid (M1.out.trans hh.out), below_drewN hz _⟩
                case measure => simp [intOf]; omega
              · have hq := bsEqF hxy
                by_cases hdg : D = G
                · have hq2 := bsEqT hdg
                  have hh := Lib.hid (show hitL x y = true by unfold hitL; rw [HD.out, HG.out, show decide (x ≠ y) = true from decide_eq_true hxy, decide_eq_true hdg]; rfl)
                  clear hxy hdg
                  go_wp2_with fail
                  go_quiet (fail)
                  go_wp2_with fail
                  go_ret
                  exact ⟨by rw [show colL A B = true from N2.out (M2.out hh.out)]; rfl, below_on HW.out (below_drewN hz _) HW.out.size⟩
                · have hq2 := bsEqF hdg
                  have hh := Lib.hid (show hitL x y = false by unfold hitL; rw [HD.out, HG.out, decide_eq_false hdg, Bool.and_false])
                  clear hxy hdg
                  go_wp2_with fail
                  go_quiet (fail)
                  go_wp2_with fail
                  go_roundw
                  case rel => exact ⟨k + 1, hkn, by go_num, Lib.hid (M1.out.trans hh.out), below_drewN hz _⟩
                  case measure => simp [intOf]; omega
            · obtain rfl : k = nb := by omega
              have hnn := Lib.hid (show B.any (hitL x) = false by have h := hnk.out; rwa [List.take_of_length_le (by rw [LB.out]; exact Nat.le_refl _)] at h)
              go_wp2_with fail
              go_roundw
              case rel => exact ⟨i + 1, hin, by go_num, Lib.hid (N1.out.trans hnn.out), hz⟩
              case measure => simp [intOf]; omega
        · obtain rfl : i = na := by omega
          have hnn := Lib.hid (show colL A B = false by have h := hno.out; rwa [List.take_of_length_le (by rw [LA.out]; exact Nat.le_refl _)] at h)
          go_wp2_with fail
          go_ret
          exact ⟨by rw [hnn.out]; rfl, below_on HW.out hv HW.out.size⟩

end Go.Proofs.YtajfmhiejipaoaaDoor

namespace Go.Proofs.YtajfmhiejipaoaaDoor
open Go.RowKit Bs

def hshF : Nat → Strs → Strs
  | 0, _ => []
  | f + 1, l => if l.length < 2 then [0 :: l.getD 0 []] else hshF f (l.take (Tr.lft l.length)) ++ hshF f (l.drop (Tr.lft l.length)) ++ [1 :: (Tr.root dig (l.take (Tr.lft l.length)) ++ Tr.root dig (l.drop (Tr.lft l.length)))]
theorem hshF_one (f : Nat) (s : List UInt8) : hshF (f + 1) [s] = [0 :: s] := rfl
theorem hshF_more (f : Nat) (l : Strs) (h : 2 ≤ l.length) : hshF (f + 1) l = hshF f (l.take (Tr.lft l.length)) ++ hshF f (l.drop (Tr.lft l.length)) ++ [1 :: (Tr.root dig (l.take (Tr.lft l.length)) ++ Tr.root dig (l.drop (Tr.lft l.length)))] := if_neg (by omega)
theorem hsh_len (f : Nat) : ∀ l : Strs, 1 ≤ l.length → l.length ≤ f → (hshF f l).length + 1 = 2 * l.length := by
  induction f with
  | zero => intro l h1 h2; omega
  | succ f ih =>
    intro l h1 h2
    rcases Nat.lt_or_ge l.length 2 with h | h
    · unfold hshF; rw [if_pos h]; simp; omega
    · have hs := Tr.lft_spec h
      have e1 := ih (l.take (Tr.lft l.length)) (by rw [List.length_take]; omega) (by rw [List.length_take]; omega)
      have e2 := ih (l.drop (Tr.lft l.length)) (by rw [List.length_drop]; omega) (by rw [List.length_drop]; omega)
      rw [hshF_more f l h]
      rw [List.length_take] at e1
      rw [List.length_drop] at e2
      simp only [List.length_append, List.length_cons, List.length_nil]
      omega
theorem hsh_le (f : Nat) : ∀ l : Strs, 1 ≤ l.length → (∀ s ∈ l, s.length ≤ 100000) → ∀ s ∈ hshF f l, s.length ≤ 100001 := by
  induction f with
  | zero => intro l _ _ s hs; cases hs
  | succ f ih =>
    intro l h1 h s hs
    rcases Nat.lt_or_ge l.length 2 with h2 | h2
    · unfold hshF at hs
      rw [if_pos h2] at hs
      obtain rfl := List.mem_singleton.1 hs
      have := h _ (getD_mem l 0 (by omega))
      rw [List.length_cons]; omega
    · have hsp := Tr.lft_spec h2
      rw [hshF_more f l h2] at hs
      rcases List.mem_append.1 hs with hs | hs
      · rcases List.mem_append.1 hs with hs | hs
        · exact ih _ (by rw [List.length_take]; omega) (fun x hx => h x (List.mem_of_mem_take hx)) s hs
        · exact ih _ (by rw [List.length_drop]; omega) (fun x hx => h x (List.mem_of_mem_drop hx)) s hs
      · obtain rfl := List.mem_singleton.1 hs
        rw [List.length_cons, List.length_append, root_len, root_len]; omega
theorem colL_mem {A B : Strs} {x y : List UInt8} (hx : x ∈ A) (hy : y ∈ B) (h : hitL x y = true) : colL A B = true :=
  List.any_eq_true.2 ⟨x, hx, List.any_eq_true.2 ⟨y, hy, h⟩⟩
theorem colL_ex {A B : Strs} (h : colL A B = true) : ∃ x ∈ A, ∃ y ∈ B, hitL x y = true := by
  obtain ⟨x, hx, h2⟩ := List.any_eq_true.1 h
  obtain ⟨y, hy, h3⟩ := List.any_eq_true.1 h2
  exact ⟨x, hx, y, hy, h3⟩
theorem hit_of {x y : List UInt8} (h : x ≠ y) (hd : dig x = dig y) : hitL x y = true := by
  unfold hitL; rw [decide_eq_true h, decide_eq_true hd]; rfl
theorem hsh_hit (f : Nat) : ∀ A B : Strs, A.length = B.length → 1 ≤ A.length → A.length ≤ f → A ≠ B → Tr.root dig A = Tr.root dig B → colL (hshF f A) (hshF f B) = true := by
  induction f with
  | zero => intro A B _ h1 h2; omega
  | succ f ih =>
    intro A B hl h1 hf hne hr
    rcases Nat.lt_or_ge A.length 2 with h2 | h2
    · obtain ⟨s, rfl⟩ : ∃ s, A = [s] := by match A, h1, h2 with | [s], _, _ => exact ⟨s, rfl⟩
      obtain ⟨t, rfl⟩ : ∃ t, B = [t] := by match B, hl with | [t], _ => exact ⟨t, rfl⟩
      rw [hshF_one, hshF_one]
      refine colL_mem (List.mem_singleton.2 rfl) (List.mem_singleton.2 rfl) (hit_of (fun h => hne ?_) hr)
      rw [(List.cons.inj h).2]
    · have hs := Tr.lft_spec h2
      have ra := Tr.root_more dig A h2
      have rb := Tr.root_more dig B (by omega)
      rw [hshF_more f A h2, hshF_more f B (by omega)]
      rw [← hl] at rb ⊢
      obtain ⟨k, hk⟩ : ∃ k, Tr.lft A.length = k := ⟨_, rfl⟩
      rw [hk] at ra rb hs ⊢
      rw [ra, rb] at hr
      by_cases he : (1 :: (Tr.root dig (A.take k) ++ Tr.root dig (A.drop k))) = ((1 : UInt8) :: (Tr.root dig (B.take k) ++ Tr.root dig (B.drop k)))
      · obtain ⟨q1, q2⟩ := List.append_inj (List.cons.inj he).2 (by rw [root_len, root_len])
        by_cases ht : A.take k = B.take k
        · have hd : A.drop k ≠ B.drop k := fun hd => hne (by rw [← List.take_append_drop k A, ht, hd, List.take_append_drop])
          obtain ⟨x, hx, y, hy, hh⟩ := colL_ex (ih (A.drop k) (B.drop k) (by rw [List.length_drop, List.length_drop]; omega) (by rw [List.length_drop]; omega) (by rw [List.length_drop]; omega) hd q2)
          exact colL_mem (List.mem_append_left _ (List.mem_append_right _ hx)) (List.mem_append_left _ (List.mem_append_right _ hy)) hh
        · obtain ⟨x, hx, y, hy, hh⟩ := colL_ex (ih (A.take k) (B.take k) (by rw [List.length_take, List.length_take]; omega) (by rw [List.length_take]; omega) (by rw [List.length_take]; omega) ht q1)
          exact colL_mem (List.mem_append_left _ (List.mem_append_left _ hx)) (List.mem_append_left _ (List.mem_append_left _ hy)) hh
      · exact colL_mem (List.mem_append_right _ (List.mem_singleton.2 rfl)) (List.mem_append_right _ (List.mem_singleton.2 rfl)) (hit_of he hr)

def GivesH (L : Strs) (w : World) : Ending → World → Prop := fun e w' => ∃ v, e = .returned v ∧ OwnS w' w.heap.size v L ∧ Below w.heap.size w w'
theorem OwnS.one (W : World) (base : Nat) (A : List UInt8) (hb : base ≤ W.heap.size) : OwnS (W.alloc (.cells #[.string (bs A)] 9)) base (.slice (some ⟨W.heap.size, 0, none⟩) 1 1) [A] :=
  ⟨World.ownsRow_lit W #[.string (bs A)] 1 hb (by unfold maxLen; omega) rfl⟩
theorem le_allocH {n : Nat} {W : World} (h : n ≤ W.heap.size) (o : Obj) : n ≤ (W.alloc o).heap.size := by rw [World.size_alloc]; omega

set_option maxRecDepth 100000 in
set_option maxHeartbeats 4000000 in
theorem Hashed_at (N : Nat) : ∀ (l : Strs) (g off n c : Nat) (w : World), n ≤ N → l.length = n → 1 ≤ n → n ≤ c → c ≤ maxLen → n ≤ 100000 → (∀ s ∈ l, s.length ≤ 100000) → PartsAt w g off l →
    Calls Tryd.prog 33 #[.slice (some ⟨g, off, none⟩) n c] w (GivesH (hshF N l) w) := by
  induction N with
  | zero => intro l g off n c w h1 h2 h3; omega
  | succ N ih =>
    intro l g off n c w hN hl h1 hc hm hbig hs hp
    unfold maxLen at hm
    rcases Nat.lt_or_ge n 2 with h2 | h2
    · obtain rfl : n = 1 := by omega
      obtain ⟨s, rfl⟩ : ∃ s, l = [s] := by match l, hl with | [s], _ => exact ⟨s, rfl⟩
      have hcell := hp 0 (by simp)
      rw [show (([s] : Strs).getD 0 []) = s from rfl, Nat.add_zero] at hcell
      rw [hshF_one]
      have hsl := hs s (by simp)
      have q1 : (⟨#[0]⟩ : ByteArray) ++ bs s = bs (0 :: s) := bs_append [0] s
      have z1 := bs_size s
      clear hN ih hp hs
      go_enter Tryd.func33, Tryd.ntmps33
      go_wp2_with fail
      go_ret
      exact ⟨_, rfl, OwnS.one w w.heap.size (0 :: s) (Nat.le_refl _), (Below.refl _ _).alloc (Nat.le_refl _) _⟩
    · have hk := Tr.lft_spec h2
      have hpm := hshF_more N l (by omega)
      rw [hl] at hpm
      have hll := hsh_len N (l.take (Tr.lft n)) (by rw [List.length_take]; omega) (by rw [List.length_take]; omega)
      have hlr := hsh_len N (l.drop (Tr.lft n)) (by rw [List.length_drop]; omega) (by rw [List.length_drop]; omega)
      rw [List.length_take] at hll
      rw [List.length_drop] at hlr
      obtain ⟨k, hkk⟩ : ∃ k, Tr.lft n = k := ⟨_, rfl⟩
      have hfp := refLeft_any n w h2 (by omega)
      rw [hkk] at hk hpm hfp hll hlr
      obtain ⟨A, hA⟩ : ∃ A, Tr.root dig (l.take k) = A := ⟨_, rfl⟩
      obtain ⟨B, hB⟩ : ∃ B, Tr.root dig (l.drop k) = B := ⟨_, rfl⟩
      obtain ⟨P, hP⟩ : ∃ P, hshF N (l.take k) = P := ⟨_, rfl⟩
      obtain ⟨Q, hQ⟩ : ∃ Q, hshF N (l.drop k) = Q := ⟨_, rfl⟩
      have lA : A.length = 32 := by rw [← hA]; exact root_len _
      have lB : B.length = 32 := by rw [← hB]; exact root_len _
      have iA : ∀ W, Below w.heap.size w W → Calls Tryd.prog 48 #[.slice (some ⟨g, off, none⟩) k c] W fun e w' => e = .returned (.string (bs A)) ∧ Below W.heap.size W w' := fun W hb => by
        rw [← hA]
        exact refRoot_at n (l.take k) g off k c W (by omega) (by rw [List.length_take]; omega) (by omega) (by omega) (by unfold maxLen; omega) (by omega) (fun s h => hs s (List.mem_of_mem_take h)) ((hp.later hb).take k)
      have iB : ∀ W, Below w.heap.size w W → Calls Tryd.prog 48 #[.slice (some ⟨g, off + k, none⟩) (n - k) (c - k)] W fun e w' => e = .returned (.string (bs B)) ∧ Below W.heap.size W w' := fun W hb => by
        rw [← hB]
        exact refRoot_at n (l.drop k) g (off + k) (n - k) (c - k) W (by omega) (by rw [List.length_drop]; omega) (by omega) (by omega) (by unfold maxLen; omega) (by omega) (fun s h => hs s (List.mem_of_mem_drop h)) ((hp.later hb).drop k)
      have iP : ∀ W, Below w.heap.size w W → Calls Tryd.prog 33 #[.slice (some ⟨g, off, none⟩) k c] W (GivesH P W) := fun W hb => by
        rw [← hP]
        exact ih (l.take k) g off k c W (by omega) (by rw [List.length_take]; omega) (by omega) (by omega) (by unfold maxLen; omega) (by omega) (fun s h => hs s (List.mem_of_mem_take h)) ((hp.later hb).take k)
      have iQ : ∀ W, Below w.heap.size w W → Calls Tryd.prog 33 #[.slice (some ⟨g, off + k, none⟩) (n - k) (c - k)] W (GivesH Q W) := fun W hb => by
        rw [← hQ]
        exact ih (l.drop k) g (off + k) (n - k) (c - k) W (by omega) (by rw [List.length_drop]; omega) (by omega) (by omega) (by unfold maxLen; omega) (by omega) (fun s h => hs s (List.mem_of_mem_drop h)) ((hp.later hb).drop k)
      rw [hP, hQ, hA, hB] at hpm
      rw [hP] at hll
      rw [hQ] at hlr
      have lPQ : P.length + Q.length ≤ 2000000 := by omega
      have lPQ2 : (P ++ Q).length ≤ 2000000 := by rw [List.length_append]; omega
      rw [hpm]
      have IA := Lib.hid iA
      have IB := Lib.hid iB
      have IP := Lib.hid iP
      have IQ := Lib.hid iQ
      have q1 : (⟨#[1]⟩ : ByteArray) ++ bs A = bs (1 :: A) := bs_append [1] A
      have q2 : bs (1 :: A) ++ bs B = bs (1 :: (A ++ B)) := bs_append (1 :: A) B
      have z1 : (bs A).size = 32 := by rw [bs_size, lA]
      have z2 : (bs B).size = 32 := by rw [bs_size, lB]
      have z3 : (bs (1 :: A)).size = 33 := by rw [bs_size, List.length_cons, lA]
      have LL := Lib.hid (And.intro lPQ lPQ2)
      have ck : k ≠ c := by omega
      have i1 : (0 : Int) ≤ (k : Int) := by omega
      have i2 : (k : Int) ≤ (n : Int) := by omega
      have i3 : (k : Int) ≤ (c : Int) := by omega
      have i4 : (n : Int) ≤ (c : Int) := by omega
      clear hN ih hpm hA hB hP hQ iA iB iP iQ hp hs hkk hl hll hlr lA lB lPQ lPQ2
      go_enter Tryd.func33, Tryd.ntmps33
      go_wp2_with fail
      refine hfp.mono ?_
      rintro e w1 ⟨rfl, rfl⟩
      go_wp2_with fail
      go_cut [4] (fun V wx => OwnS wx w.heap.size V (P ++ Q) ∧ Below w.heap.size w wx)
      case first =>
        go_region_held3 (fun _ => True) (trivial)
          (first
            | (go_at_call 33; (with_reducible refine (IP.out _ (Below.refl _ _).drew).mono ?_); rintro e wA ⟨v, rfl, oA0, bA0⟩; have bA := below_undrew bA0; have oA : OwnS wA w.heap.size v P := oA0)
            | (go_at_call 33; (with_reducible refine (IQ.out _ bA).mono ?_); rintro e wB ⟨v2, rfl, oB2, bB0⟩; have bB := below_on bA bB0 bA.size; have oB := oA.later bB0; have sB := bB.size)
            | (refine step_pushAllS (by rfl) _ _ (by rfl) w.heap.size v P (by rfl) oB _ v2 Q (by rfl) oB2 LL.out.1 sB ?_; intro v1 wC oC bC))
        all_goals
          go_wp2_with fail
          go_meet
          exact ⟨oC, bB.trans bC⟩
      case rest =>
        obtain ⟨hO, hb⟩ := hcut
        have HO := Lib.hid hO
        clear hO
        go_wp2_with fail
        go_region_held3 (fun _ => True) (trivial)
          (first
            | (go_at_call 48; (with_reducible refine (IA.out _ hb.drew).mono ?_); rintro e wA ⟨rfl, bA0⟩; have bA := below_on hb.drew bA0 hb.drew.size; have oA := HO.out.drew.later bA0)
            | (go_at_call 48; (with_reducible refine (IB.out _ bA).mono ?_); rintro e wB ⟨rfl, bB0⟩; have bB := below_on bA bB0 bA.size; have oB := oA.later bB0; have sB := bB.size)
            | (refine step_pushS (by rfl) _ _ (by rfl) w.heap.size _ (P ++ Q) (by rfl) (oB.alloc _) ⟨wB.heap.size, 0, none⟩ 1 (1 :: (A ++ B)) (by rfl) (fresh_cell wB _ _) LL.out.2 (le_allocH sB _) ?_; intro v1 wC oC bC))
        all_goals
          have bD := (bB.alloc sB (.cells #[.string (bs (1 :: (A ++ B)))] 9)).trans bC
          have HO2 := Lib.hid oC
          clear oA oB oC
          go_wp2_with fail
          go_ret
          exact ⟨_, rfl, HO2.out, bD⟩

end Go.Proofs.YtajfmhiejipaoaaDoor
