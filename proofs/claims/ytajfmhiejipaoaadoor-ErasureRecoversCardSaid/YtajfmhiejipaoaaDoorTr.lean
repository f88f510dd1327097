/-
  Plain mathematics of layer 2: trees of digests over lists of strings, for any digest function. Nothing of the program stands here.
-/
import Derived.WalkKit
namespace Go.Proofs.YtajfmhiejipaoaaDoor.Tr

/-- the greatest power of two that is less than n, which is at least 2 -/
def lft (n : Nat) : Nat := 2 ^ Nat.log2 (n - 1)
theorem lft_spec {n : Nat} (h : 2 ≤ n) : 1 ≤ lft n ∧ lft n < n ∧ n ≤ 2 * lft n := by
  have h1 := Nat.log2_self_le (show n - 1 ≠ 0 by omega)
  have h2 := Nat.lt_log2_self (n := n - 1)
  have h3 : 1 ≤ 2 ^ Nat.log2 (n - 1) := Nat.one_le_two_pow
  unfold lft
  rw [Nat.pow_succ] at h2
  omega
theorem lft_uniq {n j : Nat} (h1 : 2 ^ j < n) (h2 : n ≤ 2 * 2 ^ j) : 2 ^ j = lft n := by
  unfold lft
  have h3 : 1 ≤ 2 ^ j := Nat.one_le_two_pow
  have : (n - 1).log2 = j := (Nat.log2_eq_iff (by omega)).2 ⟨by omega, by rw [Nat.pow_succ]; omega⟩
  rw [this]

section
variable (S : List UInt8 → List UInt8)
def leaf (s : List UInt8) : List UInt8 := S (0 :: s)
def node (a b : List UInt8) : List UInt8 := S (1 :: (a ++ b))
/-- the root of a list, with enough fuel -/
def rootF : Nat → List (List UInt8) → List UInt8
  | 0, _ => []
  | f + 1, l => match l with
    | [] => S []
    | [s] => leaf S s
    | l => node S (rootF f (l.take (lft l.length))) (rootF f (l.drop (lft l.length)))
def root (l : List (List UInt8)) : List UInt8 := rootF S (l.length + 1) l
theorem rootF_more (f g : Nat) (l : List (List UInt8)) (hf : l.length < f) (hg : l.length < g) : rootF S f l = rootF S g l := by
  induction f generalizing g l with
  | zero => omega
  | succ f ih =>
    cases g with
    | zero => omega
    | succ g =>
      match l, hf, hg with
      | [], _, _ => rfl
      | [s], _, _ => rfl
      | a :: b :: t, hf, hg =>
        have hs := lft_spec (n := (a :: b :: t).length) (by simp)
        simp only [List.length_cons] at hf hg hs
        show node S (rootF S f ((a :: b :: t).take (lft (a :: b :: t).length))) (rootF S f ((a :: b :: t).drop (lft (a :: b :: t).length))) = node S (rootF S g ((a :: b :: t).take (lft (a :: b :: t).length))) (rootF S g ((a :: b :: t).drop (lft (a :: b :: t).length)))
        rw [ih g _ (by rw [List.length_take]; simp only [List.length_cons]; omega) (by rw [List.length_take]; simp only [List.length_cons]; omega),
          ih g _ (by rw [List.length_drop]; simp only [List.length_cons]; omega) (by rw [List.length_drop]; simp only [List.length_cons]; omega)]
theorem root_nil : root S [] = S [] := rfl
theorem root_one (s : List UInt8) : root S [s] = leaf S s := rfl
theorem root_more (l : List (List UInt8)) (h : 2 ≤ l.length) : root S l = node S (root S (l.take (lft l.length))) (root S (l.drop (lft l.length))) := by
  match l, h with
  | a :: b :: t, h =>
    have hs := lft_spec h
    show node S (rootF S ((a :: b :: t).length) ((a :: b :: t).take (lft (a :: b :: t).length))) (rootF S ((a :: b :: t).length) ((a :: b :: t).drop (lft (a :: b :: t).length))) = _
    unfold root
    exact congr (congrArg (node S) (rootF_more S _ _ _ (by rw [List.length_take]; omega) (by omega))) (rootF_more S _ _ _ (by rw [List.length_drop]; omega) (by omega))
/-- the value of n, i and a proof (its last element first), if the proof has the right length -/
def val : Nat → Nat → List UInt8 → List (List UInt8) → Option (List UInt8)
  | n, _, s, [] => if n = 1 then some (leaf S s) else none
  | n, i, s, x :: p => if n = 1 then none
    else if i < lft n then (val (lft n) i s p).map (fun v => node S v x)
    else (val (n - lft n) (i - lft n) s p).map (fun v => node S x v)
/-- the strings of which the digest is taken for a value -/
def way : Nat → Nat → List UInt8 → List (List UInt8) → List (List UInt8)
  | _, _, s, [] => [0 :: s]
  | n, i, s, x :: p => if n ≤ 1 then [0 :: s]
    else if i < lft n then (1 :: ((val S (lft n) i s p).getD [] ++ x)) :: way (lft n) i s p
    else (1 :: (x ++ (val S (n - lft n) (i - lft n) s p).getD [])) :: way (n - lft n) (i - lft n) s p
/-- two lists hold, at one place, two different strings with the same digest -/
def Hit (a b : List (List UInt8)) : Prop := ∃ (i : Nat) (x y : List UInt8), a[i]? = some x ∧ b[i]? = some y ∧ x ≠ y ∧ S x = S y
theorem Hit.head {x y : List UInt8} {a b : List (List UInt8)} (hne : x ≠ y) (h : S x = S y) : Hit S (x :: a) (y :: b) := ⟨0, x, y, rfl, rfl, hne, h⟩
theorem Hit.tail {x y : List UInt8} {a b : List (List UInt8)} (h : Hit S a b) : Hit S (x :: a) (y :: b) := by
  obtain ⟨i, u, v, h1, h2, h3⟩ := h
  exact ⟨i + 1, u, v, h1, h2, h3⟩
theorem val_length (hS : ∀ l, (S l).length = 32) (n i : Nat) (s : List UInt8) (p : List (List UInt8)) (v : List UInt8) (h : val S n i s p = some v) : v.length = 32 := by
  cases p with
  | nil =>
    unfold val at h
    split at h
    · cases h; exact hS _
    · cases h
  | cons x p =>
    unfold val at h
    split at h
    · cases h
    · split at h
      · rw [Option.map_eq_some_iff] at h; obtain ⟨_, _, rfl⟩ := h; exact hS _
      · rw [Option.map_eq_some_iff] at h; obtain ⟨_, _, rfl⟩ := h; exact hS _
/-- who proves two entries for one place has found two strings with one digest -/
theorem binds (hS : ∀ l, (S l).length = 32) (p q : List (List UInt8)) (n i : Nat) (hi : i < n) (s t r : List UInt8) (hne : s ≠ t)
    (h1 : val S n i s p = some r) (h2 : val S n i t q = some r) : Hit S (way S n i s p) (way S n i t q) := by
  induction p generalizing n i q r with
  | nil =>
    unfold val at h1
    split at h1
    · rename_i hn
      cases h1
      cases q with
      | nil =>
        unfold val at h2
        rw [if_pos hn] at h2
        unfold way
        exact Hit.head S (by simpa using hne) (Option.some.inj h2).symm
      | cons y q => unfold val at h2; rw [if_pos hn] at h2; cases h2
    · cases h1
  | cons x p ih =>
    unfold val at h1
    split at h1
    · cases h1
    · rename_i hn
      cases q with
      | nil => unfold val at h2; rw [if_neg hn] at h2; cases h2
      | cons y q =>
        unfold val at h2
        rw [if_neg hn] at h2
        have hk := lft_spec (n := n) (by omega)
        unfold way
        rw [if_neg (show ¬ n ≤ 1 by omega), if_neg (show ¬ n ≤ 1 by omega)]
        by_cases hik : i < lft n
        · rw [if_pos hik] at h1 h2
          rw [Option.map_eq_some_iff] at h1 h2
          obtain ⟨v, e1, rfl⟩ := h1
          obtain ⟨u, e2, hr⟩ := h2
          rw [if_pos hik, if_pos hik, e1, e2]
          by_cases hvu : v ++ x = u ++ y
          · have hlen := (val_length S hS _ _ _ _ _ e1).trans (val_length S hS _ _ _ _ _ e2).symm
            obtain ⟨rfl, -⟩ := List.append_inj hvu hlen
            exact Hit.tail S (ih _ _ _ hik _ e1 e2)
          · exact Hit.head S (by simpa using hvu) hr.symm
        · rw [if_neg hik] at h1 h2
          rw [Option.map_eq_some_iff] at h1 h2
          obtain ⟨v, e1, rfl⟩ := h1
          obtain ⟨u, e2, hr⟩ := h2
          rw [if_neg hik, if_neg hik, e1, e2]
          by_cases hvu : x ++ v = y ++ u
          · have hlen := (val_length S hS _ _ _ _ _ e1).trans (val_length S hS _ _ _ _ _ e2).symm
            obtain ⟨-, rfl⟩ := List.append_inj' hvu hlen
            exact Hit.tail S (ih _ _ _ (by omega) _ e1 e2)
          · exact Hit.head S (by simpa using hvu) hr.symm
/-- the proof of an entry, its last element first -/
def prfF : Nat → List (List UInt8) → Nat → List (List UInt8)
  | 0, _, _ => []
  | f + 1, l, i => if l.length ≤ 1 then []
    else if i < lft l.length then root S (l.drop (lft l.length)) :: prfF f (l.take (lft l.length)) i
    else root S (l.take (lft l.length)) :: prfF f (l.drop (lft l.length)) (i - lft l.length)
def prf (l : List (List UInt8)) (i : Nat) : List (List UInt8) := prfF S l.length l i
theorem val_prfF (f : Nat) (l : List (List UInt8)) (i : Nat) (s : List UInt8) (hf : l.length ≤ f) (hi : i < l.length) (hs : l[i]? = some s) : val S l.length i s (prfF S f l i) = some (root S l) := by
  induction f generalizing l i with
  | zero => omega
  | succ f ih =>
    unfold prfF
    by_cases h1 : l.length ≤ 1
    · rw [if_pos h1]
      match l, hi, h1, hs with
      | [u], hi, _, hs =>
        obtain rfl : i = 0 := by simpa using hi
        cases hs
        rfl
    · rw [if_neg h1, root_more S l (by omega)]
      have hk := lft_spec (n := l.length) (by omega)
      by_cases hik : i < lft l.length
      · rw [if_pos hik]
        unfold val
        rw [if_neg (by omega), if_pos hik]
        have hlen : (l.take (lft l.length)).length = lft l.length := by rw [List.length_take]; omega
        have := ih (l.take (lft l.length)) i (by omega) (by omega) (by rw [List.getElem?_take, if_pos hik]; exact hs)
        rw [hlen] at this
        rw [this]; rfl
      · rw [if_neg hik]
        unfold val
        rw [if_neg (by omega), if_neg hik]
        have hlen : (l.drop (lft l.length)).length = l.length - lft l.length := by rw [List.length_drop]
        have := ih (l.drop (lft l.length)) (i - lft l.length) (by omega) (by omega) (by rw [List.getElem?_drop, show lft l.length + (i - lft l.length) = i by omega]; exact hs)
        rw [hlen] at this
        rw [this]; rfl
theorem prf_accepted (l : List (List UInt8)) (i : Nat) (s : List UInt8) (hs : l[i]? = some s) : val S l.length i s (prf S l i) = some (root S l) :=
  val_prfF S _ l i s (Nat.le_refl _) (List.getElem?_eq_some_iff.1 hs).1 hs
/-- a value is only there for proofs of one length -/
theorem val_len (p q : List (List UInt8)) (n i : Nat) (s t : List UInt8) (hi : i < n) (h1 : (val S n i s p).isSome) (h2 : (val S n i t q).isSome) : p.length = q.length := by
  induction p generalizing n i q with
  | nil =>
    cases q with
    | nil => rfl
    | cons y q =>
      unfold val at h1 h2
      split at h1
      · rename_i hn; rw [if_pos hn] at h2; cases h2
      · cases h1
  | cons x p ih =>
    cases q with
    | nil =>
      unfold val at h1 h2
      split at h1
      · cases h1
      · rename_i hn; rw [if_neg hn] at h2; cases h2
    | cons y q =>
      unfold val at h1 h2
      split at h1
      · cases h1
      · rename_i hn
        rw [if_neg hn] at h2
        have hk := lft_spec (n := n) (by omega)
        simp only [List.length_cons]
        split at h1
        · rename_i hik
          rw [if_pos hik] at h2
          rw [Option.isSome_map] at h1 h2
          rw [ih _ _ _ hik h1 h2]
        · rename_i hik
          rw [if_neg hik] at h2
          rw [Option.isSome_map] at h1 h2
          rw [ih _ _ _ (by omega) h1 h2]
/-- the two values of m, n and a proof (its last element first) -/
def two : Nat → Nat → List UInt8 → Bool → List (List UInt8) → Option (List UInt8 × List UInt8)
  | m, n, old, whole, [] => if m = n ∧ whole = true then some (old, old) else none
  | m, n, old, whole, x :: p => if m = n then (if whole = false ∧ p = [] then some (x, x) else none)
    else if m ≤ lft n then (two m (lft n) old whole p).map (fun v => (v.1, node S v.2 x))
    else (two (m - lft n) (n - lft n) old false p).map (fun v => (node S x v.1, node S x v.2))
/-- the strings of which the digest is taken for the new root -/
def side : Nat → Nat → List UInt8 → Bool → List (List UInt8) → List (List UInt8)
  | _, _, _, _, [] => []
  | m, n, old, whole, x :: p => if n ≤ m then []
    else if m ≤ lft n then (1 :: (((two S m (lft n) old whole p).getD ([], [])).2 ++ x)) :: side m (lft n) old whole p
    else (1 :: (x ++ ((two S (m - lft n) (n - lft n) old false p).getD ([], [])).2)) :: side (m - lft n) (n - lft n) old false p
theorem two_length (hS : ∀ l, (S l).length = 32) (m n : Nat) (old : List UInt8) (whole : Bool) (p : List (List UInt8)) (ho : old.length = 32) (hp : ∀ x ∈ p, x.length = 32) (v : List UInt8 × List UInt8) (h : two S m n old whole p = some v) : v.2.length = 32 := by
  cases p with
  | nil =>
    unfold two at h
    split at h
    · cases h; exact ho
    · cases h
  | cons x p =>
    unfold two at h
    split at h
    · split at h
      · cases h; exact hp x (by simp)
      · cases h
    · split at h
      · rw [Option.map_eq_some_iff] at h; obtain ⟨_, _, rfl⟩ := h; exact hS _
      · rw [Option.map_eq_some_iff] at h; obtain ⟨_, _, rfl⟩ := h; exact hS _
/-- who proves two beginnings of one length has found two strings with one digest -/
theorem binds_two (hS : ∀ l, (S l).length = 32) (p q : List (List UInt8)) (m n : Nat) (hm : 1 ≤ m) (hmn : m ≤ n) (o1 o2 : List UInt8) (h1 : o1.length = 32) (h2 : o2.length = 32) (hp : ∀ x ∈ p, x.length = 32) (hq : ∀ x ∈ q, x.length = 32)
    (whole : Bool) (a1 a2 r : List UInt8) (hne : a1 ≠ a2) (e1 : two S m n o1 whole p = some (a1, r)) (e2 : two S m n o2 whole q = some (a2, r)) : Hit S (side S m n o1 whole p) (side S m n o2 whole q) := by
  induction p generalizing m n q whole a1 a2 r with
  | nil =>
    unfold two at e1
    split at e1
    · rename_i hc
      simp only [Option.some.injEq, Prod.mk.injEq] at e1
      obtain ⟨rfl, rfl⟩ := e1
      cases q with
      | nil =>
        unfold two at e2
        rw [if_pos hc] at e2
        simp only [Option.some.injEq, Prod.mk.injEq] at e2
        exact absurd (e2.2.symm.trans e2.1) hne
      | cons y q =>
        unfold two at e2
        rw [if_pos hc.1, if_neg (by simp [hc.2])] at e2
        cases e2
    · cases e1
  | cons x p ih =>
    unfold two at e1
    split at e1
    · rename_i hc
      split at e1
      · rename_i hw
        simp only [Option.some.injEq, Prod.mk.injEq] at e1
        obtain ⟨rfl, rfl⟩ := e1
        cases q with
        | nil => unfold two at e2; rw [if_neg (by simp [hw.1])] at e2; cases e2
        | cons y q =>
          unfold two at e2
          rw [if_pos hc] at e2
          split at e2
          · simp only [Option.some.injEq, Prod.mk.injEq] at e2
            exact absurd (e2.2.symm.trans e2.1) hne
          · cases e2
      · cases e1
    · rename_i hc
      cases q with
      | nil => unfold two at e2; rw [if_neg (by simp [hc])] at e2; cases e2
      | cons y q =>
        unfold two at e2
        rw [if_neg hc] at e2
        have hk := lft_spec (n := n) (by omega)
        unfold side
        rw [if_neg (show ¬ n ≤ m by omega), if_neg (show ¬ n ≤ m by omega)]
        have hp' : ∀ z ∈ p, z.length = 32 := fun z hz => hp z (by simp [hz])
        have hq' : ∀ z ∈ q, z.length = 32 := fun z hz => hq z (by simp [hz])
        by_cases hmk : m ≤ lft n
        · rw [if_pos hmk] at e1 e2
          rw [Option.map_eq_some_iff] at e1 e2
          obtain ⟨⟨c1, b1⟩, f1, g1⟩ := e1
          obtain ⟨⟨c2, b2⟩, f2, g2⟩ := e2
          simp only [Prod.mk.injEq] at g1 g2
          obtain ⟨rfl, rfl⟩ := g1
          obtain ⟨rfl, hr⟩ := g2
          rw [if_pos hmk, if_pos hmk, f1, f2]
          by_cases hvu : b1 ++ x = b2 ++ y
          · have hlen := (two_length S hS _ _ _ _ _ h1 hp' _ f1).trans (two_length S hS _ _ _ _ _ h2 hq' _ f2).symm
            obtain ⟨hb, -⟩ := List.append_inj hvu hlen
            subst hb
            exact Hit.tail S (ih _ _ _ hm hmk hp' hq' _ _ _ _ hne f1 f2)
          · exact Hit.head S (by simpa using hvu) hr.symm
        · rw [if_neg hmk] at e1 e2
          rw [Option.map_eq_some_iff] at e1 e2
          obtain ⟨⟨c1, b1⟩, f1, g1⟩ := e1
          obtain ⟨⟨c2, b2⟩, f2, g2⟩ := e2
          simp only [Prod.mk.injEq] at g1 g2
          obtain ⟨rfl, rfl⟩ := g1
          obtain ⟨rfl, hr⟩ := g2
          rw [if_neg hmk, if_neg hmk, f1, f2]
          by_cases hvu : x ++ b1 = y ++ b2
          · have hlen := (two_length S hS _ _ _ _ _ h1 hp' _ f1).trans (two_length S hS _ _ _ _ _ h2 hq' _ f2).symm
            obtain ⟨hx, hb⟩ := List.append_inj' hvu hlen
            subst hb hx
            exact Hit.tail S (ih _ _ _ (by omega) (by omega) hp' hq' _ _ _ _ (fun e => hne (by rw [e])) f1 f2)
          · exact Hit.head S (by simpa using hvu) hr.symm
/-- the proof that a list begins with its first m entries, its last element first -/
def partF : Nat → List (List UInt8) → Nat → Bool → List (List UInt8)
  | 0, _, _, _ => []
  | f + 1, l, m, whole => if m = l.length then (if whole then [] else [root S l])
    else if m ≤ lft l.length then root S (l.drop (lft l.length)) :: partF f (l.take (lft l.length)) m whole
    else root S (l.take (lft l.length)) :: partF f (l.drop (lft l.length)) (m - lft l.length) false
theorem two_partF (f : Nat) (l : List (List UInt8)) (m : Nat) (whole : Bool) (old : List UInt8) (hf : l.length ≤ f) (hm : 1 ≤ m) (hml : m ≤ l.length) (ho : whole = true → old = root S (l.take m)) :
    two S m l.length old whole (partF S f l m whole) = some (root S (l.take m), root S l) := by
  induction f generalizing l m whole with
  | zero => omega
  | succ f ih =>
    unfold partF
    by_cases hc : m = l.length
    · rw [if_pos hc, List.take_of_length_le (by omega)]
      rw [List.take_of_length_le (by omega)] at ho
      cases whole with
      | true => unfold two; rw [if_pos rfl, ho rfl]; simp [hc]
      | false => unfold two; simp [hc]
    · have hk := lft_spec (n := l.length) (by omega)
      rw [if_neg hc]
      by_cases hmk : m ≤ lft l.length
      · rw [if_pos hmk]
        unfold two
        rw [if_neg hc, if_pos hmk]
        have hlen : (l.take (lft l.length)).length = lft l.length := by rw [List.length_take]; omega
        have ht : (l.take (lft l.length)).take m = l.take m := by rw [List.take_take]; congr 1; omega
        have := ih (l.take (lft l.length)) m whole (by omega) hm (by omega) (by rw [ht]; exact ho)
        rw [hlen, ht] at this
        rw [this, root_more S l (by omega)]; rfl
      · rw [if_neg hmk]
        unfold two
        rw [if_neg hc, if_neg hmk]
        have hlen : (l.drop (lft l.length)).length = l.length - lft l.length := by rw [List.length_drop]
        have := ih (l.drop (lft l.length)) (m - lft l.length) false (by omega) (by omega) (by omega) (fun e => by cases e)
        rw [hlen] at this
        rw [this, root_more S l (by omega), root_more S (l.take m) (by rw [List.length_take]; omega)]
        have hlm : (l.take m).length = m := by rw [List.length_take]; omega
        have hlf : lft m = lft l.length := by
          unfold lft at hk hmk ⊢
          exact (lft_uniq (by omega) (by omega)).symm
        rw [hlm, hlf, List.take_take, List.drop_take, Nat.min_eq_left (by omega)]; rfl
/-- the head of a list of records, the last one first -/
def zero32 : List UInt8 := List.replicate 32 0
def hd : List (List UInt8) → List UInt8
  | [] => zero32
  | x :: r => S (2 :: (hd r ++ x))
/-- the strings of which the digest is taken for a head, the last one first -/
def hds : List (List UInt8) → List (List UInt8)
  | [] => []
  | x :: r => (2 :: (hd S r ++ x)) :: hds r
theorem hds_length (r : List (List UInt8)) : (hds S r).length = r.length := by
  induction r with
  | nil => rfl
  | cons x r ih => simp [hds, ih]
theorem hd_length (hS : ∀ l, (S l).length = 32) (r : List (List UInt8)) : (hd S r).length = 32 := by
  cases r with
  | nil => simp [hd, zero32]
  | cons x r => exact hS _
theorem binds_head (hS : ∀ l, (S l).length = 32) (a b : List (List UInt8)) (hne : a ≠ b) (h : hd S a = hd S b) :
    Hit S (hds S a) (hds S b) ∨ (a.length ≠ b.length ∧ ∃ z, (if a.length < b.length then hds S b else hds S a)[min a.length b.length]? = some z ∧ S z = zero32) := by
  induction a generalizing b with
  | nil =>
    cases b with
    | nil => exact absurd rfl hne
    | cons y q => exact .inr ⟨by simp, 2 :: (hd S q ++ y), by simp [hds], h.symm⟩
  | cons x r ih =>
    cases b with
    | nil => exact .inr ⟨by simp, 2 :: (hd S r ++ x), by simp [hds], h⟩
    | cons y q =>
      by_cases hxy : hd S r ++ x = hd S q ++ y
      · obtain ⟨h1, rfl⟩ := List.append_inj hxy ((hd_length S hS r).trans (hd_length S hS q).symm)
        rcases ih q (fun e => hne (by rw [e])) h1 with h2 | ⟨h2, z, h3, h4⟩
        · exact .inl (Hit.tail S h2)
        · refine .inr ⟨by simpa using h2, z, ?_, h4⟩
          simp only [List.length_cons, Nat.add_lt_add_iff_right, Nat.add_min_add_right]
          by_cases hc : r.length < q.length
          · rw [if_pos hc] at h3 ⊢; simpa [hds] using h3
          · rw [if_neg hc] at h3 ⊢; simpa [hds] using h3
      · exact .inl (Hit.head S (by simpa using hxy) h)
theorem lft_half {n j : Nat} (h : 2 ≤ n) (hj : n ≤ 2 ^ (j + 1)) : lft n ≤ 2 ^ j ∧ n - lft n ≤ 2 ^ j := by
  have hk := lft_spec h
  have h1 : lft n ≤ 2 ^ j := by
    have h3 : Nat.log2 (n - 1) < j + 1 := (Nat.log2_lt (by omega)).2 (by omega)
    exact Nat.pow_le_pow_right (by omega) (by omega)
  omega
theorem prfF_length (f j : Nat) (l : List (List UInt8)) (i : Nat) (h : l.length ≤ 2 ^ j) : (prfF S f l i).length ≤ j := by
  induction f generalizing l i j with
  | zero => simp [prfF]
  | succ f ih =>
    unfold prfF
    by_cases h1 : l.length ≤ 1
    · rw [if_pos h1]; simp
    · rw [if_neg h1]
      cases j with
      | zero => simp at h; omega
      | succ j =>
        have hh := lft_half (n := l.length) (by omega) h
        by_cases hik : i < lft l.length
        · rw [if_pos hik]; simpa using ih j (l.take (lft l.length)) i (by rw [List.length_take]; omega)
        · rw [if_neg hik]; simpa using ih j (l.drop (lft l.length)) _ (by rw [List.length_drop]; omega)
theorem partF_length (f j : Nat) (l : List (List UInt8)) (m : Nat) (whole : Bool) (h : l.length ≤ 2 ^ j) (hm : 1 ≤ m) (hml : m ≤ l.length) : (partF S f l m whole).length ≤ j + 1 := by
  induction f generalizing l m whole j with
  | zero => simp [partF]
  | succ f ih =>
    unfold partF
    by_cases hc : m = l.length
    · rw [if_pos hc]; cases whole <;> simp
    · rw [if_neg hc]
      have hk := lft_spec (n := l.length) (by omega)
      cases j with
      | zero => simp at h; omega
      | succ j =>
        have hh := lft_half (n := l.length) (by omega) h
        by_cases hmk : m ≤ lft l.length
        · rw [if_pos hmk]; simpa using ih j (l.take (lft l.length)) m whole (by rw [List.length_take]; omega) hm (by rw [List.length_take]; omega)
        · rw [if_neg hmk]; simpa using ih j (l.drop (lft l.length)) (m - lft l.length) false (by rw [List.length_drop]; omega) (by omega) (by rw [List.length_drop]; omega)
end

end Go.Proofs.YtajfmhiejipaoaaDoor.Tr
