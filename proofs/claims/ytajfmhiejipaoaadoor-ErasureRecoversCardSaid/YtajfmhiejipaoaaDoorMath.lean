/-
  Plain mathematics of layer 1: the encoding of integers (groups of 7 bits) and its inverse, over lists of numbers. Nothing of the program stands here.
-/
import Derived.WalkKit
namespace Go.Proofs.YtajfmhiejipaoaaDoor.M1

/-- the groups of z, at most f of them -/
def leb : Nat → Nat → List Nat
  | 0, _ => []
  | f + 1, z => if z < 128 then [z] else (z % 128 + 128) :: leb f (z / 128)

/-- the number that a list begins with, and the size of its encoding, of at most f groups; 'first': no group stands before -/
def dec : Bool → Nat → List Nat → Option (Nat × Nat)
  | _, 0, _ => none
  | _, _ + 1, [] => none
  | first, f + 1, b :: t =>
    if b = 0 ∧ first = false then none
    else if b < 128 then some (b, 1)
    else match dec false f t with
      | some (z, k) => some (b - 128 + 128 * z, k + 1)
      | none => none

theorem leb_ne_nil (f z : Nat) (hf : 0 < f) : leb f z ≠ [] := by
  cases f with
  | zero => omega
  | succ f => unfold leb; split <;> simp

theorem leb_length_pos (f z : Nat) (hf : 0 < f) : 1 ≤ (leb f z).length := by
  cases f with
  | zero => omega
  | succ f => unfold leb; split <;> simp

theorem leb_length_le (f z : Nat) : (leb f z).length ≤ f := by
  induction f generalizing z with
  | zero => simp [leb]
  | succ f ih => unfold leb; split <;> simp; exact ih _

theorem leb_bytes (f z : Nat) : ∀ b ∈ leb f z, b < 256 := by
  induction f generalizing z with
  | zero => simp [leb]
  | succ f ih =>
    unfold leb; split
    · intro b hb; simp at hb; omega
    · intro b hb
      rcases List.mem_cons.1 hb with h | h
      · omega
      · exact ih _ b h

/-- enough fuel -/
theorem leb_fuel (f g z : Nat) (hf : z < 128 ^ f) (hfg : f ≤ g) (h0 : 0 < f) : leb f z = leb g z := by
  induction f generalizing g z with
  | zero => omega
  | succ f ih =>
    obtain ⟨g', rfl⟩ : ∃ g', g = g' + 1 := ⟨g - 1, by omega⟩
    unfold leb
    split
    · rfl
    · rename_i hz
      have h1 : z / 128 < 128 ^ f := by
        rw [Nat.div_lt_iff_lt_mul (by omega)]; rw [Nat.pow_succ] at hf; omega
      have h2 : 0 < f := by
        cases f with
        | zero => simp at hf; omega
        | succ f => omega
      rw [ih g' (z / 128) h1 (by omega) h2]

/-- what is encoded is decoded, whatever follows -/
theorem dec_leb (first : Bool) (f z : Nat) (hz : z < 128 ^ f) (hf : 0 < f) (hfirst : first = false → z ≠ 0) (q : List Nat) :
    dec first f (leb f z ++ q) = some (z, (leb f z).length) := by
  induction f generalizing z first with
  | zero => omega
  | succ f ih =>
    unfold leb
    split
    · rename_i h
      simp only [List.cons_append, List.nil_append, dec]
      rw [if_neg (by rintro ⟨h0, h1⟩; exact hfirst h1 h0), if_pos h]; rfl
    · rename_i h
      have h1 : z / 128 < 128 ^ f := by
        rw [Nat.div_lt_iff_lt_mul (by omega)]; rw [Nat.pow_succ] at hz; omega
      have h2 : 0 < f := by
        cases f with
        | zero => simp at hz; omega
        | succ f => omega
      simp only [List.cons_append, dec]
      rw [if_neg (by omega), if_neg (by omega), ih false (z / 128) h1 h2 (by intro _; omega)]
      simp
      omega

/-- what is decoded is what is encoded -/
theorem leb_dec (first : Bool) (f : Nat) (l : List Nat) (z k : Nat) (hb : ∀ b ∈ l, b < 256) (h : dec first f l = some (z, k)) :
    leb f z = l.take k ∧ 1 ≤ k ∧ k ≤ f ∧ k ≤ l.length ∧ z < 128 ^ f ∧ (first = false → z ≠ 0) := by
  induction f generalizing first l z k with
  | zero => simp [dec] at h
  | succ f ih =>
    cases l with
    | nil => simp [dec] at h
    | cons b t =>
      simp only [dec] at h
      have hb1 : b < 256 := hb b (by simp)
      split at h
      · cases h
      · rename_i hn
        split at h
        · rename_i hlt
          simp only [Option.some.injEq, Prod.mk.injEq] at h
          obtain ⟨rfl, rfl⟩ := h
          refine ⟨?_, by omega, by omega, by simp, ?_, ?_⟩
          · unfold leb; rw [if_pos hlt]; simp
          · have : 0 < 128 ^ f := Nat.pow_pos (by omega)
            rw [Nat.pow_succ]; omega
          · intro hf hb0; exact hn ⟨hb0, hf⟩
        · rename_i hge
          split at h
          · rename_i z' k' hd
            simp only [Option.some.injEq, Prod.mk.injEq] at h
            obtain ⟨rfl, rfl⟩ := h
            obtain ⟨e, h1, h2, h3, h4, h5⟩ := ih false t z' k' (fun x hx => hb x (by simp [hx])) hd
            have hz' := h5 rfl
            refine ⟨?_, by omega, by omega, by simp; omega, ?_, by omega⟩
            · unfold leb
              rw [if_neg (by omega), show (b - 128 + 128 * z') / 128 = z' from by omega, show (b - 128 + 128 * z') % 128 + 128 = b from by omega, e]; simp
            · rw [Nat.pow_succ]; omega
          · cases h

/-- decoding fewer groups of a proper prefix of an encoding fails -/
theorem dec_take (first : Bool) (f z : Nat) (k : Nat) (hk : k < (leb f z).length) : dec first f ((leb f z).take k) = none := by
  induction f generalizing z first k with
  | zero => simp [dec]
  | succ f ih =>
    cases k with
    | zero => simp [dec]
    | succ k =>
      unfold leb at hk ⊢
      split at hk
      · simp at hk
      · rename_i h
        rw [if_neg h]
        simp only [List.take_succ_cons, dec]
        rw [if_neg (by omega), if_neg (by omega), ih false (z / 128) k (by simpa using hk)]

theorem leb_inj (f a b : Nat) (ha : a < 128 ^ f) (hb : b < 128 ^ f) (hf : 0 < f) (q : List Nat) (h : leb f a <+: leb f b) : a = b := by
  obtain ⟨q, hq⟩ := h
  have h1 := dec_leb true f a ha hf (by simp) q
  have h2 := dec_leb true f b hb hf (by simp) []
  rw [hq] at h1
  rw [List.append_nil] at h2
  rw [h1] at h2
  exact (Prod.mk.inj (Option.some.inj h2)).1

/-- after k rounds: a is what the first k groups stand for, and all of them go on -/
def Inv (l : List Nat) (k a : Nat) : Prop :=
  a < 128 ^ k ∧ dec true 9 l = (dec (k == 0) (9 - k) (l.drop k)).map fun p => (a + 128 ^ k * p.1, k + p.2)

theorem inv_start (l : List Nat) : Inv l 0 0 := by
  refine ⟨by simp, ?_⟩
  simp only [List.drop_zero, Nat.pow_zero, Nat.one_mul, Nat.zero_add, Nat.sub_zero, beq_self_eq_true]
  cases dec true 9 l <;> rfl

theorem drop_get (l : List Nat) (k : Nat) (h : k < l.length) : l.drop k = l[k] :: l.drop (k + 1) := List.drop_eq_getElem_cons h

theorem inv_zero {l : List Nat} {k a : Nat} (h : Inv l k a) (hk : k < 9) (hl : k < l.length) (h0 : 0 < k) (hb : l[k] = 0) : dec true 9 l = none := by
  rw [h.2, drop_get l k hl, hb, show 9 - k = (8 - k) + 1 from by omega]
  have : (k == 0) = false := by simp; omega
  simp [dec, this]

theorem inv_stop {l : List Nat} {k a : Nat} (h : Inv l k a) (hk : k < 9) (hl : k < l.length) (hz : ¬ (l[k] = 0 ∧ 0 < k)) (hb : l[k] < 128) :
    dec true 9 l = some (a + 128 ^ k * l[k], k + 1) := by
  rw [h.2, drop_get l k hl, show 9 - k = (8 - k) + 1 from by omega]
  simp only [dec]
  rw [if_neg (by intro hh; apply hz; refine ⟨hh.1, ?_⟩; have := hh.2; simp at this; omega), if_pos hb]
  rfl

theorem inv_go {l : List Nat} {k a : Nat} (h : Inv l k a) (hk : k < 9) (hl : k < l.length) (hb : 128 ≤ l[k]) (hb2 : l[k] < 256) :
    Inv l (k + 1) (a + 128 ^ k * (l[k] % 128)) := by
  have hm : l[k] % 128 = l[k] - 128 := by omega
  refine ⟨?_, ?_⟩
  · have h1 := h.1
    have h2 : 128 ^ k * (l[k] % 128) ≤ 128 ^ k * 127 := Nat.mul_le_mul_left _ (by omega)
    rw [Nat.pow_succ]; omega
  · rw [h.2, drop_get l k hl, show 9 - k = (9 - (k + 1)) + 1 from by omega]
    simp only [dec]
    rw [if_neg (by omega), if_neg (by omega), show ((k + 1 : Nat) == 0) = false from rfl]
    cases dec false (9 - (k + 1)) (l.drop (k + 1)) with
    | none => rfl
    | some p =>
      simp only [Option.map_some, Option.some.injEq, Prod.mk.injEq]
      refine ⟨?_, by omega⟩
      rw [hm, Nat.mul_add, ← Nat.add_assoc, Nat.pow_succ, Nat.mul_assoc]

theorem inv_end {l : List Nat} {k a : Nat} (h : Inv l k a) (hk : k ≤ 9) (hl : k ≤ l.length) (he : ¬ (k < 9 ∧ k < l.length)) : dec true 9 l = none := by
  rw [h.2]
  rcases Nat.lt_or_ge k 9 with h9 | h9
  · rw [List.drop_eq_nil_of_le (by omega), show 9 - k = (8 - k) + 1 from by omega]; rfl
  · rw [show 9 - k = 0 from by omega]; simp [dec]

theorem pow128 (k : Nat) : 128 ^ k = 2 ^ (7 * k) := by rw [Nat.pow_mul]

/-- the next group, taken in by 'or' -/
theorem or_val (a k b : Nat) (hk : k < 9) (ha : a < 128 ^ k) (hb : b < 256) :
    bits .or .u64 (a : Int) (IntKind.u64.wrap ((b : Int) % 128 * 2 ^ (7 * k))) = ((a + 128 ^ k * (b % 128) : Nat) : Int) := by
  have h1 : 128 ^ k * (b % 128) < 9223372036854775808 := by
    have h2 : 128 ^ k ≤ 128 ^ 8 := Nat.pow_le_pow_right (by omega) (by omega)
    have h3 : 128 ^ k * (b % 128) ≤ 128 ^ 8 * 127 := Nat.mul_le_mul h2 (by omega)
    have h4 : (128 : Nat) ^ 8 * 127 < 9223372036854775808 := by decide
    omega
  have e : ((b : Int) % 128 * 2 ^ (7 * k)) = ((128 ^ k * (b % 128) : Nat) : Int) := by
    rw [pow128, Int.mul_comm]; simp
  have ha' : a < 9223372036854775808 := by
    have h2 : 128 ^ k ≤ 128 ^ 8 := Nat.pow_le_pow_right (by omega) (by omega)
    have h4 : (128 : Nat) ^ 8 < 9223372036854775808 := by decide
    omega
  rw [e, IntKind.wrap_u64, Int.emod_eq_of_lt (by omega) (by omega), bits_or_u64_nat a _ (by omega) (by omega)]
  congr 1
  rw [Nat.or_comm, pow128, ← Nat.two_pow_add_eq_or_of_lt (by rw [← pow128]; exact ha), Nat.add_comm]

end Go.Proofs.YtajfmhiejipaoaaDoor.M1
