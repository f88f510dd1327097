/-
  The reference implementation of layer 2: Sum is SHA-256; Leaf, Node and Chain.
-/
import Derived.Test.YtajfmhiejipaoaaDoorRbl
namespace Go.Proofs.YtajfmhiejipaoaaDoor
open Go.RowKit Bs

theorem pad_length (l : List Nat) : (Sha.pad l).length % 64 = 0 ∧ (Sha.pad l).length ≤ l.length + 73 := by
  unfold Sha.pad Sha.zeros Sha.be8
  simp only [List.length_append, List.length_cons, List.length_nil, List.length_replicate, List.length_map, List.length_range]
  omega
theorem pad_lt (l : List Nat) (h : ∀ x ∈ l, x < 256) : ∀ x ∈ Sha.pad l, x < 256 := by
  intro x hx
  unfold Sha.pad Sha.be8 at hx
  simp only [List.mem_append, List.mem_map, List.mem_replicate, List.mem_singleton, List.mem_range] at hx
  rcases hx with ((hx | rfl) | ⟨_, rfl⟩) | ⟨i, _, rfl⟩
  · exact h x hx
  · omega
  · omega
  · exact Nat.mod_lt _ (by omega)
theorem H0_lt : ∀ x ∈ Sha.H0, x < 4294967296 := by decide
theorem add8_lt (h v : List Nat) : ∀ x ∈ Sha.add8 h v, x < 4294967296 := by
  intro x hx
  unfold Sha.add8 at hx
  simp only [List.mem_map] at hx
  obtain ⟨i, _, rfl⟩ := hx
  exact Nat.mod_lt _ (by decide)
theorem blocks_lt (b : List Nat) (k : Nat) : ∀ x ∈ Sha.blocks Sha.H0 b k, x < 4294967296 := by
  cases k with
  | zero => exact H0_lt
  | succ k => exact add8_lt _ _
theorem blocks_length (b : List Nat) (k : Nat) : (Sha.blocks Sha.H0 b k).length = 8 := by
  cases k with
  | zero => rfl
  | succ k => simp [Sha.blocks, Sha.block, Sha.add8]

theorem strOfNums_bytes (l : List UInt8) : strOfNums (l.map (fun b => (b.toNat : Int))) = ⟨l.toArray⟩ := by
  show ByteArray.mk ((l.map (fun b => (b.toNat : Int))).map fun n => UInt8.ofNat n.toNat).toArray = _
  rw [List.map_map, show ((fun n : Int => UInt8.ofNat n.toNat) ∘ fun b : UInt8 => (b.toNat : Int)) = id from by funext b; simp, List.map_id]
/-- a slice of bytes as a string -/
theorem own_str {W : World} {base g cap n : Nat} {l : List Nat} (h : Own W base 5 .u8 (.slice (some ⟨g, 0, none⟩) n cap) l) (hn : l.length = n) (hl : ∀ b ∈ l, b < 256) :
    (convert 48 9 (.slice (some ⟨g, 0, none⟩) n cap)).run Tryd.prog W = .ok (.string (bs (ub l))) W := by
  have e : l.map (fun (b : Nat) => (b : Int)) = (ub l).map (fun b => (b.toNat : Int)) := by
    unfold ub
    rw [List.map_map]
    apply List.map_congr_left
    intro b hb
    have := hl b hb
    simp; omega
  rw [run_convert_bytes_arg W 48 5 Tryd.underlying48 Tryd.underlying5 g 0 n cap (l.map (fun (b : Nat) => (b : Int))) (by simpa using hn) (fun i hi => by
    rw [Nat.zero_add, h.get i (by omega)]
    congr 2
    rw [List.getD_eq_getElem?_getD, List.getD_eq_getElem?_getD, List.getElem?_map, List.getElem?_eq_getElem (show i < l.length by omega)]; rfl) 9 Tryd.underlying9, e, strOfNums_bytes]
  rfl
theorem u8_wrap (a : Nat) : IntKind.u8.wrap (a : Int) = ((a % 256 : Nat) : Int) := by rw [IntKind.wrap_u8]; omega
theorem u8_div (a b : Nat) : IntKind.u8.wrap ((a : Int) / (b : Int)) = ((a / b % 256 : Nat) : Int) := by rw [← Int.natCast_ediv, u8_wrap]
theorem own_cap {W : World} {base g cap n : Nat} {t : TypeId} {k : IntKind} {l : List Nat} (h : Own W base t k (.slice (some ⟨g, 0, none⟩) n cap) l) : n ≤ cap ∧ cap ≤ maxLen := by
  rcases h.row.2 with ⟨h0, _⟩ | ⟨g', cap', cur, hv, _, _, h1, h2, _⟩
  · cases h0
  · cases hv; exact ⟨h1, h2⟩
theorem out_lt (h : List Nat) (k : Nat) : ∀ x ∈ (List.range k).flatMap (fun i => Sha.bytes4 (Sha.at_ h i)), x < 256 := by
  intro x hx
  simp only [List.mem_flatMap] at hx
  obtain ⟨i, _, hx⟩ := hx
  simp only [Sha.bytes4, List.mem_cons, List.not_mem_nil, or_false] at hx
  rcases hx with rfl | rfl | rfl | rfl <;> exact Nat.mod_lt _ (by omega)
theorem out_length (h : List Nat) (k : Nat) : ((List.range k).flatMap (fun i => Sha.bytes4 (Sha.at_ h i))).length = 4 * k := by
  induction k with
  | zero => rfl
  | succ k ih => rw [List.range_succ, List.flatMap_append, List.length_append, ih]; simp [Sha.bytes4]; omega

set_option maxRecDepth 100000 in
set_option maxHeartbeats 1000000 in
theorem refSum_any2 (l : List UInt8) (w : World) (hl : l.length ≤ 1000000) :
    Calls Tryd.prog 55 #[.string (bs l)] w fun e w' => e = .returned (.string (bs (ub (Sha.sha (nb l))))) ∧ Below w.heap.size w w' := by
  obtain ⟨i0, hi, hz0, hz1, hz2⟩ := info_parts Tryd.infoU8
  go_enter Tryd.func55, Tryd.ntmps55
  go_wp2_with fail
  have hH : Nums (w.alloc (.cells #[.int .u32 1779033703, .int .u32 3144134277, .int .u32 1013904242, .int .u32 2773480762, .int .u32 1359893119, .int .u32 2600822924, .int .u32 528734635, .int .u32 1541459225] 95)) w.heap.size 0 8 .u32 Sha.H0 := Nums.fresh Sha.H0 8 rfl
  have hb1 : Below w.heap.size w (w.alloc (.cells #[.int .u32 1779033703, .int .u32 3144134277, .int .u32 1013904242, .int .u32 2773480762, .int .u32 1359893119, .int .u32 2600822924, .int .u32 528734635, .int .u32 1541459225] 95)) := (Below.refl _ _).alloc (Nat.le_refl _) _
  generalize w.alloc (.cells #[.int .u32 1779033703, .int .u32 3144134277, .int .u32 1013904242, .int .u32 2773480762, .int .u32 1359893119, .int .u32 2600822924, .int .u32 528734635, .int .u32 1541459225] 95) = W1 at *
  have hs1 := hb1.size
  refine (extended_any l _ hl).mono ?_
  rintro e w2 ⟨vb, rfl, hown, hb2⟩
  obtain ⟨B, hB⟩ : ∃ B, Sha.pad (nb l) = B := ⟨_, rfl⟩
  have hBl := pad_length (nb l)
  have hB8 := pad_lt (nb l) (nb_lt l)
  rw [hB] at hown hBl hB8
  rw [nb_length] at hBl
  obtain ⟨N, hN⟩ : ∃ N, B.length / 64 = N := ⟨_, rfl⟩
  have hN1 : B.length = 64 * N := by omega
  have hN0 : 1 ≤ N := by
    have : 0 < B.length := by rw [← hB]; simp [Sha.pad]; omega
    omega
  obtain ⟨gb, cb, rfl⟩ := hown.shape hN1 (by omega)
  have hgb := hown.lt gb rfl
  have hget := hown.get
  have hH2 := hH.later hb2
  have hw2 := below_on hb1 hb2 hs1
  have hcap := own_cap hown
  have hgs : w2.heap.size = w2.heap.size := rfl
  have HB := Lib.hid hB
  have HNN := Lib.hid hN
  clear hown hH hb1 hb2 hs1 hB hN hgs
  go_wp2_with fail
  go_loopw [3, 5] (fun v i wr => ∃ k gh ch : Nat, k ≤ N ∧ i = .int .i64 (64 * (k : Int)) ∧ v = .slice (some ⟨gh, 0, none⟩) 8 ch ∧ Nums wr gh 0 8 .u32 (Sha.blocks Sha.H0 B k) ∧ Below w2.heap.size w2 wr) (fun _ i _ => 64 * N - (intOf i).toNat)
  case atStart => exact ⟨0, _, 8, by omega, rfl, rfl, hH2, Below.refl _ _⟩
  case round =>
    obtain ⟨k, gh, ch, hk, rfl, rfl, hv, hw⟩ := hrel
    rcases Nat.lt_or_ge k N with hkN | hkN
    · have hNb : Nums wr gb (64 * k) 64 .u8 ((B.drop (64 * k)).take 64) := by
        refine ⟨fun i hi => ?_, fun _ => Nat.lt_of_lt_of_le hgb hw.size⟩
        rw [(hw.cell (p := ⟨gb, 64 * k + i, none⟩) hgb), hget (64 * k + i) (by omega)]
        congr 2
        rw [List.getD_eq_getElem?_getD, List.getD_eq_getElem?_getD, List.getElem?_take, if_pos hi, List.getElem?_drop]
      have hb8 : ∀ x ∈ (B.drop (64 * k)).take 64, x < 256 := fun x hx => hB8 x (List.mem_of_mem_drop (List.mem_of_mem_take hx))
      have hbl : ((B.drop (64 * k)).take 64).length = 64 := by rw [List.length_take, List.length_drop]; omega
      have hs := hw.size
      go_wp2_with fail
      rw [show 64 * k + 64 - 64 * k = 64 by omega]
      refine (block_any gh ch gb (64 * k) _ (Sha.blocks Sha.H0 B k) ((B.drop (64 * k)).take 64) _ hv hNb hb8 (blocks_lt B k) (blocks_length B k) hbl).mono ?_
      rintro e w3 ⟨v, rfl, hown, hb3⟩
      have hlen : (Sha.block (Sha.blocks Sha.H0 B k) ((B.drop (64 * k)).take 64)).length = 8 := blocks_length B (k + 1)
      obtain ⟨g2, c2, rfl⟩ := hown.shape hlen (by omega)
      have hN2 : Nums w3 g2 0 8 .u32 (Sha.blocks Sha.H0 B (k + 1)) := ⟨fun i hi => by rw [Nat.zero_add]; exact hown.get i (by omega), fun _ => hown.lt g2 rfl⟩
      have HN := Lib.hid hN2
      clear hN2 hlen hown hNb hb8 hbl hv
      go_wp2_with fail
      go_roundw
      case rel => exact ⟨k + 1, g2, c2, by omega, by go_num, rfl, HN.out, below_on hw hb3 hs⟩
      case measure => simp [intOf]; omega
    · obtain rfl : N = k := by omega
      clear hget hB8 hgb
      obtain ⟨V, hV⟩ : ∃ V, Sha.blocks Sha.H0 B N = V := ⟨_, rfl⟩
      have hV32 : ∀ x ∈ V, x < 4294967296 := by rw [← hV]; exact blocks_lt B N
      rw [hV] at hv
      have hw4 := below_on hw2 hw (hw2.size)
      have hs4 := hw4.size
      clear hw hw2
      go_wp2_with fail
      have hg1 : gh < wr.heap.size := hv.lt (by omega)
      obtain ⟨w5, hw5e⟩ : ∃ w5, w5 = wr := ⟨_, rfl⟩
      rw [← hw5e] at hv hw4 hs4 hg1 ⊢
      clear hw5e
      go_loopw [6, 7] (fun v i wr => ∃ j : Nat, j ≤ 8 ∧ i = .int .i64 j ∧ Own wr w5.heap.size 5 .u8 v ((List.range j).flatMap (fun i => Sha.bytes4 (Sha.at_ V i))) ∧ Below w5.heap.size w5 wr) (fun _ i _ => 8 - (intOf i).toNat)
      case atStart => exact ⟨0, by omega, rfl, Own.nil _ _ _ _, Below.refl _ _⟩
      case round =>
        obtain ⟨j, hj, rfl, hown, hw⟩ := hrel
        have hs := hw.size
        have hlen := out_length V j
        rcases Nat.lt_or_ge j 8 with hj8 | hj8
        · obtain ⟨a, y0, b0, c0⟩ : ∃ x : Nat, x = Sha.at_ V j ∧ x < 4294967296 ∧ wr.cell? ⟨gh, j, none⟩ = some (.int .u32 x) := ⟨_, rfl, at_lt _ _ hV32, by have := (hv.later hw).cell j hj8; rwa [Nat.zero_add] at this⟩
          obtain ⟨L, hL⟩ : ∃ L, (List.range j).flatMap (fun i => Sha.bytes4 (Sha.at_ V i)) = L := ⟨_, rfl⟩
          have HX := Lib.hid (show L ++ [a / 16777216 % 256, a / 65536 % 256, a / 256 % 256, a % 256] = (List.range (j + 1)).flatMap (fun i => Sha.bytes4 (Sha.at_ V i)) by
            rw [List.range_succ, List.flatMap_append, hL, y0]; simp [Sha.bytes4])
          rw [hL] at hown hlen
          have Hlen : L.length + 4 ≤ 2000000 := by omega
          have i1 : (j : Int) < 8 := by omega
          clear y0 hL hlen
          go_wp2_with fail
          go_region_held3 (fun w' => w'.cell? ⟨gh, j, none⟩ = some (.int .u32 a))
            (first
              | go_keep
              | (refine (hB.cell (p := ⟨gh, _, none⟩) hg1).trans ?_; assumption))
            ((refine step_pushN (by rfl) _ _ 48 (by rfl) w5.heap.size 5 i0 (.int .u8 0) 1 Tryd.underlying48 hi hz0 hz1 hz2 rfl (by omega) .u8 _ L (by rfl) ((hown.alloc _).drew) wr.heap.size 0 4 4 [a / 16777216 % 256, a / 65536 % 256, a / 256 % 256, a % 256] (by rfl) (Nums.four wr _ .u8 _ _ _ _ _ _ _ _ (u8_div a 16777216) (u8_div a 65536) (u8_div a 256) (u8_wrap a)) rfl Hlen (by simp; omega) ?_; intro v1 w1 hown1 hB))
          rw [HX.out] at hown1
          have Hown := Lib.hid hown1
          clear hown1 hown HX
          go_wp2_with fail
          go_roundw
          case rel => exact ⟨j + 1, by omega, by go_num, Hown.out, (hw.alloc hs _).trans (off_drew hB)⟩
          case measure => simp [intOf]; omega
        · obtain rfl : 8 = j := by omega
          obtain ⟨g3, c3, rfl⟩ := hown.shape hlen (by omega)
          have hcv := own_str hown hlen (out_lt V 8)
          have hfin : (List.range 8).flatMap (fun i => Sha.bytes4 (Sha.at_ V i)) = Sha.sha (nb l) := by
            unfold Sha.sha
            rw [HB.out, HNN.out, hV]; rfl
          rw [hfin] at hcv
          clear hown hfin
          go_wp2_with fail
          go_ret
          exact ⟨rfl, below_on hw4 hw hs4⟩

theorem sha_length (l : List Nat) : (Sha.sha l).length = 32 := out_length _ 8
theorem sha_lt (l : List Nat) : ∀ x ∈ Sha.sha l, x < 256 := out_lt _ 8

end Go.Proofs.YtajfmhiejipaoaaDoor
