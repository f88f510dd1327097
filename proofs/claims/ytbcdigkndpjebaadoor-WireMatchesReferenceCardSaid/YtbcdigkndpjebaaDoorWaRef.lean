/-
  The reference implementation of layer 1, which the law WireMatchesReference compares with: what its functions return.
-/
import Derived.Test.YtbcdigkndpjebaaDoorLaBurst
namespace Go.Proofs.YtbcdigkndpjebaaDoor
open Go.RowKit

set_option maxHeartbeats 400000 in
theorem zigzag_any (n : Int) (w : World) (h1 : -4611686018427387903 ≤ n) (h2 : n ≤ 4611686018427387903) :
    Calls Tryd.prog 25 #[.int .i64 n] w fun e w' => e = .returned (.int .u64 (fo n)) ∧ w = w' := by
  by_cases h : n < 0
  · have e : fo n = -n * 2 - 1 := by unfold fo; rw [if_pos h]; omega
    rw [e]; clear e
    have hn : 0 ≤ -n := by omega
    go_enter Tryd.func25, Tryd.ntmps25
    go_wp2
    go_ret
    exact ⟨rfl, rfl⟩
  · have e : fo n = n * 2 := by unfold fo; rw [if_neg h]; omega
    rw [e]; clear e
    go_enter Tryd.func25, Tryd.ntmps25
    go_wp2
    go_ret
    exact ⟨rfl, rfl⟩

def u8v (l : List UInt8) : List Value := l.map (fun b => Value.int .u8 (b.toNat : Int))
theorem own_cell {W : World} {base g cap n : Nat} {l : List UInt8} (hn : l.length = n) (h : W.ownsRow base 5 1 (.slice (some ⟨g, 0, none⟩) n cap) n (u8v l)) (i : Nat) (hi : i < n) :
    W.cell? ⟨g, i, none⟩ = some (.int .u8 ((l.map (fun b => (b.toNat : Int))).getD i 0)) := by
  rcases h.2 with ⟨h0, _⟩ | ⟨g', cap', cur, hv, _, hrow, _, _, _, htake⟩
  · cases h0
  · cases hv
    rw [cell_of_row W g i _ _ _ hrow, ← Array.getElem?_toList]
    have e1 : cur.toList[i]? = (cur.toList.take (n * 1))[i]? := by rw [List.getElem?_take, if_pos (by omega)]
    rw [e1, htake]
    simp [u8v, hn, hi]
theorem own_string {W : World} {base g cap n : Nat} {l : List UInt8} (hn : l.length = n) (h : W.ownsRow base 5 1 (.slice (some ⟨g, 0, none⟩) n cap) n (u8v l)) :
    (convert 38 9 (.slice (some ⟨g, 0, none⟩) n cap)).run Tryd.prog W = .ok (.string (bs l)) W := by
  rw [run_convert_bytes_arg W 38 5 Tryd.underlying38 Tryd.underlying5 g 0 n cap (l.map (fun b => (b.toNat : Int))) (by simpa using hn) (fun i hi => by
    rw [Nat.zero_add]; exact own_cell hn h i hi) 9 Tryd.underlying9, strOfNums_bytes]
  rfl

theorem own_base {W : World} {base n : Nat} {v : Value} {xs : List Value} (h : W.ownsRow base 5 1 v n xs) (k : Nat) (hk : v.ownBlock = some k) : base ≤ k := by
  rcases h.2 with ⟨rfl, _⟩ | ⟨g, cap, cur, rfl, hb, _⟩
  · cases hk
  · cases hk; exact hb
theorem own_shape {W : World} {base n : Nat} {v : Value} {xs : List Value} (h : W.ownsRow base 5 1 v (n + 1) xs) : ∃ g cap, v = .slice (some ⟨g, 0, none⟩) (n + 1) cap := by
  rcases h.2 with ⟨_, h0⟩ | ⟨g, cap, _, rfl, _⟩
  · omega
  · exact ⟨g, cap, rfl⟩
theorem u8v_snoc (l : List UInt8) (y : UInt8) (x : Int) (h : (y.toNat : Int) = x) : u8v l ++ [.int .u8 x] = u8v (l ++ [y]) := by
  subst h; simp [u8v]

set_option maxRecDepth 100000 in
set_option maxHeartbeats 1000000 in
theorem refPutInt_ok (n : Int) (w : World) (h1 : -4611686018427387903 ≤ n) (h2 : n ≤ 4611686018427387903) :
    Calls Tryd.prog 13 #[.int .i64 n] w fun e w' => e = .returned (.tuple #[.string (bs (encI n)), .int .i64 0]) ∧ Below w.heap.size w w' := by
  obtain ⟨z, hz⟩ : ∃ z : Nat, fo n = z := ⟨(fo n).toNat, by have := fo_bd h1 h2; omega⟩
  have hzb : z < 9223372036854775808 := by have := fo_bd h1 h2; omega
  have hen : encI n = lebU z := by unfold encI; rw [hz]; rfl
  have Hen := Lib.hid hen
  have Hz := Lib.hid hz
  clear hen hz
  obtain ⟨i0, hi, hz0, hz1, hz2⟩ := info_parts Tryd.infoU8
  go_enter Tryd.func13, Tryd.ntmps13
  go_wp2_with fail
  refine (zigzag_any n _ h1 h2).mono ?_
  rintro e w' ⟨rfl, rfl⟩
  rw [Hz.out]
  go_wp2_with fail
  go_loopw [4, 5] (fun a v wr => ∃ (pre : List UInt8) (r : Nat), a = .int .u64 r ∧ LeftAt z pre r ∧ wr.ownsRow w.heap.size 5 1 v pre.length (u8v pre) ∧ Below w.heap.size w wr) (fun a _ _ => (intOf a).toNat)
  case atStart => exact ⟨[], z, rfl, ⟨left_start z hzb⟩, World.ownsRow_nil _ _ _ _, Below.refl _ _⟩
  case round =>
    obtain ⟨pre, r, rfl, hL, hown, hw⟩ := hrel
    have hbd := left_bd hL.out
    have hlen := left_len hL.out
    have hs := hw.size
    rcases Nat.lt_or_ge r 128 with hr | hr
    · go_wp2_with (at_builtin; refine wpList_append_own _ rfl _ _ 38 rfl w.heap.size 5 i0 (.int .u8 0) 1 1 Tryd.underlying38 hi hz0 hz1 hz2 rfl (by decide) _ _ _ rfl (hown.alloc _) ⟨wr.heap.size, 0, none⟩ 1 1 [.int .u8 (r : Int)] rfl rfl ?c1 ?c2 ?c3 ?c4 ?c5 ?_)
      case c1 =>
        intro j u hj
        match j, hj with
        | 0, hj => simp at hj; subst hj; simp [Addr.add]
      case c2 => intro u hu; simp at hu; subst hu; rfl
      case c3 => unfold maxLen; omega
      case c4 => omega
      case c5 => simp; omega
      intro v' w1 hown' hgrow _
      rw [u8v_snoc pre (UInt8.ofNat r) (r : Int) (by simp; omega)] at hown'
      have hb1 : Below w.heap.size w w1 := (hw.alloc hs _).grown hgrow (by simp; omega) (own_base hown)
      obtain ⟨g, cap, rfl⟩ := own_shape hown'
      have hst := own_string (l := pre ++ [UInt8.ofNat r]) (by simp) hown'
      have hfin := left_last hL.out hr
      rw [← hfin] at hst
      clear hfin hown' hgrow hown
      go_wp2_with fail
      go_ret2
      exact ⟨by rw [Hen.out]; rfl, hb1⟩
    · go_wp2_with (at_builtin; refine wpList_append_own _ rfl _ _ 38 rfl w.heap.size 5 i0 (.int .u8 0) 1 1 Tryd.underlying38 hi hz0 hz1 hz2 rfl (by decide) _ _ _ rfl (hown.alloc _) ⟨wr.heap.size, 0, none⟩ 1 1 [.int .u8 ((r : Int) % 128 + 128)] rfl rfl ?c1 ?c2 ?c3 ?c4 ?c5 ?_)
      case c1 =>
        intro j u hj
        match j, hj with
        | 0, hj => simp at hj; subst hj; simp [Addr.add]
      case c2 => intro u hu; simp at hu; subst hu; rfl
      case c3 => unfold maxLen; omega
      case c4 => omega
      case c5 => simp; omega
      intro v' w1 hown' hgrow _
      rw [u8v_snoc pre (UInt8.ofNat (r % 128 + 128)) ((r : Int) % 128 + 128) (by simp; omega)] at hown'
      have hb1 : Below w.heap.size w w1 := (hw.alloc hs _).grown hgrow (by simp; omega) (own_base hown)
      have Hown := Lib.hid hown'
      clear hown' hgrow hown
      go_wp2_with fail
      go_roundw
      case rel => exact ⟨pre ++ [UInt8.ofNat (r % 128 + 128)], r / 128, by go_num, ⟨left_next hL.out hr⟩, by have := Hown.out; simpa using this, hb1⟩
      case measure => simp [intOf]; omega

end Go.Proofs.YtbcdigkndpjebaaDoor
