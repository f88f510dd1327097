/-
  Layer 2: what Proof and Extension give is accepted, and is short. Root of any list.
-/
import Derived.Test.YtagcpjokajcdiaaDoorDve
import Derived.Test.YtagcpjokajcdiaaDoorLfw
namespace Go.Proofs.YtagcpjokajcdiaaDoor
open Go.RowKit Bs

theorem IsL.take {W : World} {a : Option Addr} {n c : Nat} {l : Strs} (h : IsL W a n c l) (k : Nat) (hk : k ≤ n) : IsL W a k c (l.take k) := by
  rcases Nat.eq_zero_or_pos k with h0 | h0
  · subst h0; rw [List.take_zero]; exact IsL.nil W a c h.max
  · obtain ⟨g, off, rfl, hp⟩ := h.at (by omega)
    exact (hp.take k).isL (by rw [List.length_take, h.len]; omega) (Nat.le_trans hk h.cap) h.max
theorem Root_is (l : Strs) (a : Option Addr) (n c : Nat) (w : World) (hL : IsL w a n c l) (hbig : n ≤ 1000000) (hs : ∀ s ∈ l, s.length ≤ 100000) (hK : KAt w) :
    Calls Tryd.prog 12 #[.slice a n c] w fun e w' => e = .returned (.string (bs (Tr.root dig l))) ∧ Below w.heap.size w w' := by
  rcases Nat.eq_zero_or_pos n with h0 | h0
  · subst h0
    obtain rfl : l = [] := List.length_eq_zero_iff.1 hL.len
    exact Root_nil a c w hK
  · obtain ⟨g, off, rfl, hp⟩ := hL.at h0
    exact Root_at n l g off n c w (Nat.le_refl _) hL.len h0 hL.cap hL.max hbig hs hp hK
theorem off_on {n : Nat} {w wr : World} (h : Below n w wr) : Below n w wr.drew := h.drew
theorem IsStrs_below {w w' : World} {a : Option Addr} {n : Nat} {ss : List ByteArray} (h : Fr.IsStrs w a n ss) (hb : Below w.heap.size w w') : Fr.IsStrs w' a n ss := by
  obtain ⟨h1, h2, h3, h4⟩ := h
  refine ⟨h1, h2, h3, ?_⟩
  rcases h4 with h4 | ⟨b, off, rfl, hc⟩
  · exact .inl h4
  · exact .inr ⟨b, off, rfl, fun i hi => (hb.cell (p := ⟨b, off + i, none⟩) (block_lt_of_cell (hc i hi))).trans (hc i hi)⟩

theorem prfF_digs (f : Nat) : ∀ (l : Strs) (i : Nat), ∀ x ∈ Tr.prfF dig f l i, x.length = 32 := by
  induction f with
  | zero => intro l i x hx; simp [Tr.prfF] at hx
  | succ f ih =>
    intro l i x hx
    unfold Tr.prfF at hx
    by_cases h1 : l.length ≤ 1
    · rw [if_pos h1] at hx; simp at hx
    · rw [if_neg h1] at hx
      by_cases h2 : i < Tr.lft l.length
      · rw [if_pos h2] at hx
        rcases List.mem_cons.1 hx with rfl | hx
        · exact root_len _
        · exact ih _ _ _ hx
      · rw [if_neg h2] at hx
        rcases List.mem_cons.1 hx with rfl | hx
        · exact root_len _
        · exact ih _ _ _ hx
theorem prf_digs (l : Strs) (i : Nat) : ∀ x ∈ (Tr.prf dig l i).reverse, x.length = 32 := fun x hx => prfF_digs _ l i x (List.mem_reverse.1 hx)
theorem partF_digs (f : Nat) : ∀ (l : Strs) (m : Nat) (b : Bool), ∀ x ∈ Tr.partF dig f l m b, x.length = 32 := by
  induction f with
  | zero => intro l m b x hx; simp [Tr.partF] at hx
  | succ f ih =>
    intro l m b x hx
    unfold Tr.partF at hx
    by_cases h1 : m = l.length
    · rw [if_pos h1] at hx
      cases b with
      | true => simp at hx
      | false => simp at hx; subst hx; exact root_len _
    · rw [if_neg h1] at hx
      by_cases h2 : m ≤ Tr.lft l.length
      · rw [if_pos h2] at hx
        rcases List.mem_cons.1 hx with rfl | hx
        · exact root_len _
        · exact ih _ _ _ _ hx
      · rw [if_neg h2] at hx
        rcases List.mem_cons.1 hx with rfl | hx
        · exact root_len _
        · exact ih _ _ _ _ hx
theorem ext_digs (l : Strs) (m : Nat) : ∀ x ∈ ext l m, x.length = 32 := by
  intro x hx
  unfold ext at hx
  by_cases h : m = 0
  · rw [if_pos h] at hx; simp at hx
  · rw [if_neg h] at hx; exact partF_digs _ _ _ _ x (List.mem_reverse.1 hx)

theorem bin_pow (f : Nat) : ∀ n, n < 2 ^ f → n < 2 ^ bin f n := by
  induction f with
  | zero => intro n h; simpa [bin] using h
  | succ f ih =>
    intro n h
    rw [bin_succ]
    by_cases h0 : n = 0
    · rw [if_pos h0]; subst h0; simp
    · rw [if_neg h0]
      have := ih (n / 2) (by rw [Nat.pow_succ] at h; omega)
      rw [Nat.add_comm, Nat.pow_succ]; omega
theorem bin_le (f : Nat) : ∀ n, bin f n ≤ f := by
  induction f with
  | zero => intro n; exact Nat.le_refl _
  | succ f ih =>
    intro n
    rw [bin_succ]
    have := ih (n / 2)
    split <;> omega
theorem lt62 {n : Nat} (h : n ≤ 1000000) : n < 2 ^ 62 := Nat.lt_of_le_of_lt h (by decide)

theorem verB_prf (l : Strs) (n k : Nat) (hl : l.length = n) (hk : k < n) : verB (Tr.root dig l) (n : Int) (k : Int) (l.getD k []) (Tr.prf dig l k).reverse = true := by
  rw [verB_val ⟨by omega, by omega⟩ (digB_of (prf_digs l k)), List.reverse_reverse, Int.toNat_natCast, Int.toNat_natCast, ← hl,
    Tr.prf_accepted dig l k (l.getD k []) (by rw [getD_eq l k (by omega), List.getElem?_eq_getElem (by omega)])]
  simp
theorem verB_len (l : Strs) (n k : Nat) (s : List UInt8) (p : Strs) (hl : l.length = n) (hk : k < n) (hp : p.length ≠ (Tr.prf dig l k).length) : verB (Tr.root dig l) (n : Int) (k : Int) s p = false := by
  rw [Bool.eq_false_iff]
  intro h
  unfold verB at h
  simp only [Bool.and_eq_true, decide_eq_true_eq, Int.toNat_natCast] at h
  obtain ⟨_, _, hv⟩ := h
  have ha := Tr.prf_accepted dig l k (l.getD k []) (by rw [getD_eq l k (by omega), List.getElem?_eq_getElem (by omega)])
  rw [hl] at ha
  have := Tr.val_len dig _ _ n k _ _ hk (by rw [hv]; rfl) (by rw [ha]; rfl)
  rw [List.length_reverse] at this
  exact hp this
theorem prf_short (l : Strs) (n k : Nat) (hl : l.length = n) (hn : n ≤ 1000000) : (Tr.prf dig l k).reverse.length ≤ bin 62 n := by
  rw [List.length_reverse]
  exact Tr.prfF_length dig _ _ l k (by rw [hl]; exact Nat.le_of_lt (bin_pow 62 n (lt62 hn)))
theorem extB_ext (l : Strs) (n m : Nat) (hl : l.length = n) (hm : m ≤ n) : extB (Tr.root dig (l.take m)) (m : Int) (Tr.root dig l) (n : Int) (ext l m) = true := by
  rw [extB_val ⟨by omega, by omega⟩ (digB_of (by intro s hs; simp at hs; rcases hs with rfl | rfl <;> exact root_len _)) (digB_of (ext_digs l m))]
  by_cases h0 : m = 0
  · subst h0
    rw [if_pos (by rfl)]
    simp [ext, Tr.root_nil]
  · rw [if_neg (by omega)]
    unfold ext
    rw [if_neg h0, List.reverse_reverse, Int.toNat_natCast, Int.toNat_natCast, ← hl]
    unfold prt
    rw [Tr.two_partF dig l.length l m true (Tr.root dig (l.take m)) (Nat.le_refl _) (by omega) (by omega) (fun _ => rfl)]
    simp
theorem ext_short (l : Strs) (n m : Nat) (hl : l.length = n) (hm : m ≤ n) (hn : n ≤ 1000000) : (ext l m).length ≤ 2 * bin 62 n := by
  unfold ext
  by_cases h0 : m = 0
  · rw [if_pos h0]; simp
  · rw [if_neg h0, List.length_reverse]
    have h1 := bin_pow 62 n (lt62 hn)
    have h2 := Tr.partF_length dig l.length (bin 62 n) l m true (by rw [hl]; omega) (by omega) (by omega)
    have h3 : 1 ≤ bin 62 n := by
      rcases Nat.eq_zero_or_pos (bin 62 n) with h | h
      · rw [h] at h1; simp at h1; omega
      · exact h
    show (Tr.partF dig l.length l m true).length ≤ _
    omega

end Go.Proofs.YtagcpjokajcdiaaDoor
