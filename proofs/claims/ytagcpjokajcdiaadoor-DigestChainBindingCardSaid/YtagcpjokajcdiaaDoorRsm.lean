/-
  The reference implementation of layer 2: Sum is SHA-256; Leaf, Node and Chain.
-/
import Derived.Test.YtagcpjokajcdiaaDoorRbl
namespace Go.Proofs.YtagcpjokajcdiaaDoor
open Go.RowKit Bs

theorem pad_length (l : List Nat) : (Sha.pad l).length % 64 = 0 ∧ (Sha.pad l).length ≤ l.length + 73 := by
  unfold Sha.pad Sha.zeros Sha.be8
  simp only [List.length_append, List.length_cons, List.length_nil, List.length_replicate, List.length_map, List.length_range]
  omega
theorem pad_lt (l : List Nat) (h : ∀ x ∈ l, x < 256) : ∀ x ∈ Sha.pad l, x < 256 := by
  intro x hx
  unfold Sha.pad Sha.be8 at hx
  simp only [List.mem_append, List.mem_map, List.mem_replicate, List.mem_singleton, List.mem_range] at hx
  rcases hx with ((hx | rfl) | ⟨_, rfl⟩) | ⟨i, _, rfl⟩
  · exact h x hx
  · omega
  · omega
  · exact Nat.mod_lt _ (by omega)
theorem H0_lt : ∀ x ∈ Sha.H0, x < 4294967296 := by decide
theorem add8_lt (h v : List Nat) : ∀ x ∈ Sha.add8 h v, x < 4294967296 := by
  intro x hx
  unfold Sha.add8 at hx
  simp only [List.mem_map] at hx
  obtain ⟨i, _, rfl⟩ := hx
  exact Nat.mod_lt _ (by decide)
theorem blocks_lt (b : List Nat) (k : Nat) : ∀ x ∈ Sha.blocks Sha.H0 b k, x < 4294967296 := by
  cases k with
  | zero => exact H0_lt
  | succ k => exact add8_lt _ _
theorem blocks_length (b : List Nat) (k : Nat) : (Sha.blocks Sha.H0 b k).length = 8 := by
  cases k with
  | zero => rfl
  | succ k => simp [Sha.blocks, Sha.block, Sha.add8]

theorem strOfNums_bytes (l : List UInt8) : strOfNums (l.map (fun b => (b.toNat : Int))) = ⟨l.toArray⟩ := by
  show ByteArray.mk ((l.map (fun b => (b.toNat : Int))).map fun n => UInt8.ofNat n.toNat).toArray = _
  rw [List.map_map, show ((fun n : Int => UInt8.ofNat n.toNat) ∘ fun b : UInt8 => (b.toNat : Int)) = id from by funext b; simp, List.map_id]
/-- a slice of bytes as a string -/
theorem own_str {W : World} {base g cap n : Nat} {l : List Nat} (h : Own W base 5 .u8 (.slice (some ⟨g, 0, none⟩) n cap) l) (hn : l.length = n) (hl : ∀ b ∈ l, b < 256) :
    (convert 29 9 (.slice (some ⟨g, 0, none⟩) n cap)).run Tryd.prog W = .ok (.string (bs (ub l))) W := by
  have e : l.map (fun (b : Nat) => (b : Int)) = (ub l).map (fun b => (b.toNat : Int)) := by
    unfold ub
    rw [List.map_map]
    apply List.map_congr_left
    intro b hb
    have := hl b hb
    simp; omega
  rw [run_convert_bytes_arg W 29 5 Tryd.underlying29 Tryd.underlying5 g 0 n cap (l.map (fun (b : Nat) => (b : Int))) (by simpa using hn) (fun i hi => by
    rw [Nat.zero_add, h.get i (by omega)]
    congr 2
    rw [List.getD_eq_getElem?_getD, List.getD_eq_getElem?_getD, List.getElem?_map, List.getElem?_eq_getElem (show i < l.length by omega)]; rfl) 9 Tryd.underlying9, e, strOfNums_bytes]
  rfl
theorem u8_wrap (a : Nat) : IntKind.u8.wrap (a : Int) = ((a % 256 : Nat) : Int) := by rw [IntKind.wrap_u8]; omega
theorem u8_div (a b : Nat) : IntKind.u8.wrap ((a : Int) / (b : Int)) = ((a / b % 256 : Nat) : Int) := by rw [← Int.natCast_ediv, u8_wrap]
theorem own_cap {W : World} {base g cap n : Nat} {t : TypeId} {k : IntKind} {l : List Nat} (h : Own W base t k (.slice (some ⟨g, 0, none⟩) n cap) l) : n ≤ cap ∧ cap ≤ maxLen := by
  rcases h.row.2 with ⟨h0, _⟩ | ⟨g', cap', cur, hv, _, _, h1, h2, _⟩
  · cases h0
  · cases hv; exact ⟨h1, h2⟩
theorem out_lt (h : List Nat) (k : Nat) : ∀ x ∈ (List.range k).flatMap (fun i => Sha.bytes4 (Sha.at_ h i)), x < 256 := by
  intro x hx
  simp only [List.mem_flatMap] at hx
  obtain ⟨i, _, hx⟩ := hx
  simp only [Sha.bytes4, List.mem_cons, List.not_mem_nil, or_false] at hx
  rcases hx with rfl | rfl | rfl | rfl <;> exact Nat.mod_lt _ (by omega)
theorem out_length (h : List Nat) (k : Nat) : ((List.range k).flatMap (fun i => Sha.bytes4 (Sha.at_ h i))).length = 4 * k := by
  induction k with
  | zero => rfl
  | succ k ih => rw [List.range_succ, List.flatMap_append, List.length_append, ih]; simp [Sha.bytes4]; omega

theorem sha_length (l : List Nat) : (Sha.sha l).length = 32 := out_length _ 8
theorem sha_lt (l : List Nat) : ∀ x ∈ Sha.sha l, x < 256 := out_lt _ 8

end Go.Proofs.YtagcpjokajcdiaaDoor
