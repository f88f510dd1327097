/-
  Layer 6, mathematics: the field with 256 elements, polynomials over it, and the polynomial that has given values at given points.
-/
import Derived.Test.YtajfmhiejipaoaaDoorBase
namespace Go.Proofs.YtajfmhiejipaoaaDoor
namespace Ef

/-- twice an element: the product with x modulo x^8 + x^4 + x^3 + x^2 + 1 -/
def xt (a : Nat) : Nat := if 2 * a < 256 then 2 * a else (2 * a) ^^^ 285
/-- the powers of x -/
def ex : Nat → Nat
  | 0 => 1
  | n + 1 => xt (ex n)
/-- the logarithms, after n rounds of the loop that writes them -/
def lgT : Nat → Nat → Nat
  | 0, _ => 0
  | n + 1, a => if a = ex n then n else lgT n a
def lg (a : Nat) : Nat := lgT 255 a
def gm (a b : Nat) : Nat := if a = 0 ∨ b = 0 then 0 else ex ((lg a + lg b) % 255)
def gq (a b : Nat) : Nat := if a = 0 then 0 else ex ((lg a + 255 - lg b) % 255)

def exs : Nat → Nat → List Nat
  | 0, _ => []
  | n + 1, a => a :: exs n (xt a)
def nd : List Nat → Bool
  | [] => true
  | a :: l => !(l.contains a) && nd l
def all2 (n : Nat) (f : Nat → Nat → Bool) : Nat → Bool
  | 0 => true
  | m + 1 => Nat.all n (fun i _ => f m i) && all2 n f m
theorem all2_get {n : Nat} {f : Nat → Nat → Bool} {m : Nat} (h : all2 n f m = true) {a b : Nat} (ha : a < m) (hb : b < n) : f a b = true := by
  induction m with
  | zero => omega
  | succ m ih =>
    unfold all2 at h
    rw [Bool.and_eq_true] at h
    by_cases h1 : a = m
    · subst h1
      have h2 := h.1
      rw [Nat.all_eq_finRange_all, List.all_eq_true] at h2
      exact h2 ⟨b, hb⟩ (List.mem_finRange _)
    · exact ih h.2 (by omega)
theorem xt_lin0 : all2 256 (fun a b => xt (a ^^^ b) == xt a ^^^ xt b) 256 = true := by decide +kernel
theorem exs_nd : nd (exs 255 1) = true := by decide +kernel
theorem exs_all0 : (Nat.all 256 fun a _ => a == 0 || (exs 255 1).contains a) = true := by decide +kernel
theorem ex_255 : ex 255 = 1 := by decide +kernel
theorem xt_lt0 : (Nat.all 256 fun a _ => decide (xt a < 256) && (a == 0 || xt a != 0)) = true := by decide +kernel
theorem natall {n : Nat} {f : Nat → Bool} (h : (Nat.all n fun a _ => f a) = true) {a : Nat} (ha : a < n) : f a = true := by
  rw [Nat.all_eq_finRange_all, List.all_eq_true] at h
  exact h ⟨a, ha⟩ (List.mem_finRange _)
theorem xt_lin {a b : Nat} (ha : a < 256) (hb : b < 256) : xt (a ^^^ b) = xt a ^^^ xt b := by
  have := all2_get xt_lin0 ha hb
  simpa using this
theorem xt_lt {a : Nat} (h : a < 256) : xt a < 256 := by
  have := natall xt_lt0 h
  simp only [Bool.and_eq_true, decide_eq_true_eq] at this
  exact this.1
theorem xt_ne {a : Nat} (h : a < 256) (h0 : a ≠ 0) : xt a ≠ 0 := by
  have := natall xt_lt0 h
  simp only [Bool.and_eq_true, Bool.or_eq_true, beq_iff_eq, bne_iff_ne] at this
  exact this.2.resolve_left h0
theorem ex_lt (n : Nat) : ex n < 256 := by
  induction n with
  | zero => decide
  | succ n ih => exact xt_lt ih
theorem ex_ne (n : Nat) : ex n ≠ 0 := by
  induction n with
  | zero => decide
  | succ n ih => exact xt_ne (ex_lt n) ih
theorem exs_mem {n k a : Nat} (h : a ∈ exs n (ex k)) : ∃ i, k ≤ i ∧ i < k + n ∧ a = ex i := by
  induction n generalizing k with
  | zero => cases h
  | succ n ih =>
    rcases List.mem_cons.1 h with h | h
    · exact ⟨k, by omega, by omega, h⟩
    · obtain ⟨i, h1, h2, h3⟩ := ih (k := k + 1) h
      exact ⟨i, by omega, by omega, h3⟩
theorem mem_exs {n k i : Nat} (h1 : k ≤ i) (h2 : i < k + n) : ex i ∈ exs n (ex k) := by
  induction n generalizing k with
  | zero => omega
  | succ n ih =>
    by_cases h : i = k
    · subst h; exact List.mem_cons_self ..
    · exact List.mem_cons_of_mem _ (ih (k := k + 1) (by omega) (by omega))
theorem ex_inj_of {n k i j : Nat} (h : nd (exs n (ex k)) = true) (hi : k ≤ i) (hij : i < j) (hj : j < k + n) : ex i ≠ ex j := by
  induction n generalizing k with
  | zero => omega
  | succ n ih =>
    unfold exs nd at h
    rw [Bool.and_eq_true] at h
    by_cases h1 : i = k
    · subst h1
      intro he
      have := mem_exs (n := n) (k := i + 1) (i := j) (by omega) (by omega)
      rw [← he] at this
      have h2 := h.1
      rw [Bool.not_eq_true', List.contains_eq_mem] at h2
      exact absurd this (of_decide_eq_false h2)
    · exact ih (k := k + 1) h.2 (by omega) (by omega)
theorem ex_inj {i j : Nat} (hi : i < 255) (hj : j < 255) (h : ex i = ex j) : i = j := by
  rcases Nat.lt_trichotomy i j with h1 | h1 | h1
  · exact absurd h (ex_inj_of (n := 255) (k := 0) exs_nd (by omega) h1 (by omega))
  · exact h1
  · exact absurd h.symm (ex_inj_of (n := 255) (k := 0) exs_nd (by omega) h1 (by omega))
theorem ex_surj {a : Nat} (h : a < 256) (h0 : a ≠ 0) : ∃ i, i < 255 ∧ a = ex i := by
  have := natall exs_all0 h
  rw [Bool.or_eq_true, beq_iff_eq, List.contains_eq_mem, decide_eq_true_eq] at this
  obtain ⟨i, -, h2, h3⟩ := exs_mem (k := 0) (this.resolve_left h0)
  exact ⟨i, by omega, h3⟩
theorem lgT_ex {n i : Nat} (hn : n ≤ 255) (hi : i < n) : lgT n (ex i) = i := by
  induction n with
  | zero => omega
  | succ n ih =>
    unfold lgT
    by_cases h : i = n
    · subst h; rw [if_pos rfl]
    · rw [if_neg (fun he => h (ex_inj (by omega) (by omega) he))]
      exact ih (by omega) (by omega)
theorem lg_ex {i : Nat} (h : i < 255) : lg (ex i) = i := lgT_ex (Nat.le_refl _) h
theorem lgT_lt (n : Nat) (h : n ≤ 255) (a : Nat) : lgT n a < 255 := by
  induction n with
  | zero => unfold lgT; omega
  | succ n ih =>
    unfold lgT
    split
    · omega
    · exact ih (by omega)
theorem lg_lt (a : Nat) : lg a < 255 := lgT_lt 255 (Nat.le_refl _) a
theorem ex_lg {a : Nat} (h : a < 256) (h0 : a ≠ 0) : ex (lg a) = a := by
  obtain ⟨i, hi, rfl⟩ := ex_surj h h0
  rw [lg_ex hi]
theorem ex_add255 (n : Nat) : ex (n + 255) = ex n := by
  induction n with
  | zero => exact ex_255
  | succ n ih => rw [show n + 1 + 255 = n + 255 + 1 from by omega]; show xt _ = xt _; rw [ih]
theorem ex_mod (n : Nat) : ex (n % 255) = ex n := by
  induction n using Nat.strongRecOn with
  | _ n ih =>
    by_cases h : n < 255
    · rw [Nat.mod_eq_of_lt h]
    · have := ih (n - 255) (by omega)
      rw [show n = n - 255 + 255 from by omega, ex_add255, ← this, Nat.add_mod_right]
/-- multiplication n times by x -/
def itx : Nat → Nat → Nat
  | 0, a => a
  | n + 1, a => xt (itx n a)
theorem itx_lt (n : Nat) {a : Nat} (h : a < 256) : itx n a < 256 := by
  induction n with
  | zero => exact h
  | succ n ih => exact xt_lt ih
theorem itx_lin (n : Nat) {a b : Nat} (ha : a < 256) (hb : b < 256) : itx n (a ^^^ b) = itx n a ^^^ itx n b := by
  induction n with
  | zero => rfl
  | succ n ih => show xt _ = xt _ ^^^ xt _; rw [ih, xt_lin (itx_lt n ha) (itx_lt n hb)]
theorem itx_zero (n : Nat) : itx n 0 = 0 := by
  induction n with
  | zero => rfl
  | succ n ih => show xt _ = 0; rw [ih]; rfl
theorem itx_ex (n k : Nat) : itx n (ex k) = ex (n + k) := by
  induction n with
  | zero => rw [Nat.zero_add]; rfl
  | succ n ih => rw [show n + 1 + k = n + k + 1 from by omega]; show xt _ = xt _; rw [ih]
theorem gm_ex {i b : Nat} (hi : i < 255) (hb : b < 256) : gm (ex i) b = itx i b := by
  unfold gm
  by_cases h : b = 0
  · rw [if_pos (.inr h), h, itx_zero]
  · rw [if_neg (by have := ex_ne i; omega), ex_mod, lg_ex hi]
    rw [← itx_ex, ex_lg hb h]

/-- the elements -/
abbrev G := Fin 256
def z0 : G := ⟨0, by omega⟩
def o1 : G := ⟨1, by omega⟩
def ga (a b : G) : G := ⟨a.val ^^^ b.val, Nat.xor_lt_two_pow (n := 8) a.2 b.2⟩
theorem gm_lt (a b : Nat) : gm a b < 256 := by
  unfold gm
  split
  · omega
  · exact ex_lt _
theorem gq_lt (a b : Nat) : gq a b < 256 := by
  unfold gq
  split
  · omega
  · exact ex_lt _
def mu (a b : G) : G := ⟨gm a.val b.val, gm_lt _ _⟩
def qu (a b : G) : G := ⟨gq a.val b.val, gq_lt _ _⟩
theorem val_ne {a : G} (h : a ≠ z0) : a.val ≠ 0 := fun h1 => h (Fin.ext h1)
theorem ga_comm (a b : G) : ga a b = ga b a := Fin.ext (Nat.xor_comm _ _)
theorem ga_assoc (a b c : G) : ga (ga a b) c = ga a (ga b c) := Fin.ext (Nat.xor_assoc _ _ _)
theorem ga_left (a b c : G) : ga a (ga b c) = ga b (ga a c) := by rw [← ga_assoc, ga_comm a b, ga_assoc]
theorem ga_self (a : G) : ga a a = z0 := Fin.ext (Nat.xor_self _)
theorem ga_zero (a : G) : ga a z0 = a := Fin.ext (Nat.xor_zero _)
theorem zero_ga (a : G) : ga z0 a = a := by rw [ga_comm, ga_zero]
theorem ga_ga (a b : G) : ga a (ga a b) = b := by rw [← ga_assoc, ga_self, zero_ga]
theorem ga_eq {a b : G} (h : ga a b = z0) : a = b := by
  have := ga_ga a b
  rw [h, ga_zero] at this
  exact this
theorem mu_comm (a b : G) : mu a b = mu b a := Fin.ext (by show gm _ _ = gm _ _; unfold gm; rw [Nat.add_comm]; simp only [or_comm])
theorem mu_zero (a : G) : mu a z0 = z0 := Fin.ext (by show gm _ 0 = 0; unfold gm; rw [if_pos (.inr rfl)])
theorem zero_mu (a : G) : mu z0 a = z0 := by rw [mu_comm, mu_zero]
theorem exG {a : G} (h : a ≠ z0) : ∃ i, i < 255 ∧ a.val = ex i := ex_surj a.2 (val_ne h)
theorem mu_ga (a b c : G) : mu a (ga b c) = ga (mu a b) (mu a c) := by
  by_cases h : a = z0
  · rw [h, zero_mu, zero_mu, zero_mu, ga_zero]
  · obtain ⟨i, hi, hv⟩ := exG h
    refine Fin.ext ?_
    show gm a.val (b.val ^^^ c.val) = gm a.val b.val ^^^ gm a.val c.val
    rw [hv, gm_ex hi (Nat.xor_lt_two_pow (n := 8) b.2 c.2), gm_ex hi b.2, gm_ex hi c.2, itx_lin i b.2 c.2]
theorem ga_mu (a b c : G) : mu (ga a b) c = ga (mu a c) (mu b c) := by rw [mu_comm, mu_ga, mu_comm c a, mu_comm c b]
theorem gm_exex (i k : Nat) : gm (ex i) (ex k) = ex (i + k) := by
  unfold gm
  rw [if_neg (by have := ex_ne i; have := ex_ne k; omega), ex_mod]
  rw [← ex_mod i, ← ex_mod k, lg_ex (Nat.mod_lt _ (by omega)), lg_ex (Nat.mod_lt _ (by omega)), ← ex_mod, Nat.mod_add_mod, Nat.add_mod_mod, ex_mod]
theorem mu_assoc (a b c : G) : mu (mu a b) c = mu a (mu b c) := by
  by_cases ha : a = z0
  · rw [ha, zero_mu, zero_mu, zero_mu]
  by_cases hb : b = z0
  · rw [hb, mu_zero, zero_mu, mu_zero]
  by_cases hc : c = z0
  · rw [hc, mu_zero, mu_zero, mu_zero]
  obtain ⟨i, -, hi⟩ := exG ha
  obtain ⟨j, -, hj⟩ := exG hb
  obtain ⟨k, -, hk⟩ := exG hc
  refine Fin.ext ?_
  show gm (gm a.val b.val) c.val = gm a.val (gm b.val c.val)
  rw [hi, hj, hk, gm_exex, gm_exex, gm_exex, gm_exex, Nat.add_assoc]
theorem mu_left (a b c : G) : mu a (mu b c) = mu b (mu a c) := by rw [← mu_assoc, mu_comm a b, mu_assoc]
theorem mu_one (a : G) : mu a o1 = a := by
  by_cases ha : a = z0
  · rw [ha, zero_mu]
  obtain ⟨i, -, hi⟩ := exG ha
  refine Fin.ext ?_
  show gm a.val (ex 0) = a.val
  rw [hi, gm_exex]; rfl
theorem one_mu (a : G) : mu o1 a = a := by rw [mu_comm, mu_one]
theorem mu_ne {a b : G} (ha : a ≠ z0) (hb : b ≠ z0) : mu a b ≠ z0 := by
  obtain ⟨i, -, hi⟩ := exG ha
  obtain ⟨j, -, hj⟩ := exG hb
  intro h
  have h1 : gm a.val b.val = 0 := congrArg Fin.val h
  rw [hi, hj, gm_exex] at h1
  exact ex_ne _ h1
theorem mu_eq0 {a b : G} (h : mu a b = z0) : a = z0 ∨ b = z0 := by
  by_cases ha : a = z0
  · exact .inl ha
  by_cases hb : b = z0
  · exact .inr hb
  · exact absurd h (mu_ne ha hb)
theorem qu_zero (b : G) : qu z0 b = z0 := Fin.ext (show (if (0 : Nat) = 0 then 0 else ex ((lg 0 + 255 - lg b.val) % 255)) = 0 from if_pos rfl)
theorem qu_mu (a : G) {b : G} (hb : b ≠ z0) : mu (qu a b) b = a := by
  by_cases ha : a = z0
  · rw [ha, qu_zero, zero_mu]
  obtain ⟨i, hi, hva⟩ := exG ha
  obtain ⟨j, hj, hvb⟩ := exG hb
  refine Fin.ext ?_
  show gm (gq a.val b.val) b.val = a.val
  unfold gq
  rw [if_neg (val_ne ha), hva, hvb, lg_ex hi, lg_ex hj, ex_mod, gm_exex, show i + 255 - j + j = i + 255 from by omega, ex_add255]
theorem mu_cancel {a b c : G} (hc : c ≠ z0) (h : mu a c = mu b c) : a = b := by
  have h1 : mu (ga a b) c = z0 := by rw [ga_mu, h, ga_self]
  exact ga_eq ((mu_eq0 h1).resolve_right hc)
theorem qu_eq (a : G) {b : G} (hb : b ≠ z0) : qu a b = mu a (qu o1 b) :=
  mu_cancel hb (by rw [qu_mu a hb, mu_assoc, qu_mu o1 hb, mu_one])
theorem qu_self {a : G} (h : a ≠ z0) : qu a a = o1 := mu_cancel h (by rw [qu_mu a h, one_mu])

/-! polynomials -/
def ev : List G → G → G
  | [], _ => z0
  | a :: c, x => ga a (mu x (ev c x))
def addl : List G → List G → List G
  | [], d => d
  | a :: c, [] => a :: c
  | a :: c, b :: d => ga a b :: addl c d
theorem ev_addl (c d : List G) (x : G) : ev (addl c d) x = ga (ev c x) (ev d x) := by
  induction c generalizing d with
  | nil => rw [addl, ev, zero_ga]
  | cons a c ih =>
    cases d with
    | nil => rw [addl, ev, ev, ga_zero]
    | cons b d => rw [addl, ev, ev, ev, ih, mu_ga, ga_assoc, ga_assoc, ga_left b]
theorem addl_len (c d : List G) {n : Nat} (h1 : c.length ≤ n) (h2 : d.length ≤ n) : (addl c d).length ≤ n := by
  induction c generalizing d n with
  | nil => rw [addl]; exact h2
  | cons a c ih =>
    cases d with
    | nil => rw [addl]; exact h1
    | cons b d =>
      rw [addl, List.length_cons]
      rw [List.length_cons] at h1 h2
      have := ih d (n := n - 1) (by omega) (by omega)
      omega
theorem ev_map (k : G) (c : List G) (x : G) : ev (c.map (mu k)) x = mu k (ev c x) := by
  induction c with
  | nil => rw [List.map_nil, ev, mu_zero]
  | cons a c ih => rw [List.map_cons, ev, ev, ih, mu_ga, mu_left x]
def dv : List G → G → List G
  | [], _ => []
  | _ :: c, r => addl c ((dv c r).map (mu r))
theorem dv_len (c : List G) (r : G) : (dv c r).length ≤ c.length - 1 := by
  induction c with
  | nil => exact Nat.le_refl _
  | cons a c ih =>
    rw [dv, List.length_cons, Nat.add_sub_cancel]
    exact addl_len _ _ (Nat.le_refl _) (by rw [List.length_map]; omega)
theorem ev_dv (c : List G) (r x : G) : ga (ev c x) (ev c r) = mu (ga x r) (ev (dv c r) x) := by
  induction c with
  | nil => show ga z0 z0 = mu _ z0; rw [ga_self, mu_zero]
  | cons a c ih =>
    have h1 : mu x (ev c x) = ga (mu (ga x r) (ev c x)) (mu r (ev c x)) := by rw [ga_mu, ga_assoc, ga_self, ga_zero]
    rw [dv, ev, ev, ev_addl, ev_map, mu_ga, mu_left (ga x r) r, ← ih, mu_ga, h1]
    rw [ga_assoc a, ga_left _ a, ga_ga]
    rw [ga_assoc]
theorem ev_zero {pts : List G} (hn : pts.Nodup) {c : List G} (hl : c.length ≤ pts.length) (h : ∀ p ∈ pts, ev c p = z0) (x : G) : ev c x = z0 := by
  induction pts generalizing c with
  | nil =>
    cases c with
    | nil => rfl
    | cons a c => simp at hl
  | cons r ps ih =>
    have hr := h r (List.mem_cons_self ..)
    have key : ∀ y, ev c y = mu (ga y r) (ev (dv c r) y) := fun y => by rw [← ev_dv, hr, ga_zero]
    rw [key]
    rw [ih (List.nodup_cons.1 hn).2 (c := dv c r) (by have := dv_len c r; rw [List.length_cons] at hl; omega) (fun p hp => ?_), mu_zero]
    have h1 := h p (List.mem_cons_of_mem _ hp)
    rw [key] at h1
    refine (mu_eq0 h1).resolve_left (fun h2 => ?_)
    rw [ga_eq h2] at hp
    exact (List.nodup_cons.1 hn).1 hp
/-- a function that is a polynomial with at most n coefficients -/
def Deg (n : Nat) (f : G → G) : Prop := ∃ c : List G, c.length ≤ n ∧ ∀ x, f x = ev c x
theorem Deg.add {n : Nat} {f g : G → G} (hf : Deg n f) (hg : Deg n g) : Deg n (fun x => ga (f x) (g x)) := by
  obtain ⟨c, h1, h2⟩ := hf
  obtain ⟨d, h3, h4⟩ := hg
  exact ⟨addl c d, addl_len _ _ h1 h3, fun x => by show ga (f x) (g x) = _; rw [ev_addl, h2, h4]⟩
theorem Deg.scale {n : Nat} {f : G → G} (hf : Deg n f) (k : G) : Deg n (fun x => mu k (f x)) := by
  obtain ⟨c, h1, h2⟩ := hf
  exact ⟨c.map (mu k), by rw [List.length_map]; exact h1, fun x => by show mu k (f x) = _; rw [ev_map, h2]⟩
theorem Deg.lift {n m : Nat} {f : G → G} (hf : Deg n f) (h : n ≤ m) : Deg m f := by
  obtain ⟨c, h1, h2⟩ := hf
  exact ⟨c, by omega, h2⟩
theorem Deg.zero (n : Nat) : Deg n (fun _ => z0) := ⟨[], Nat.zero_le _, fun _ => rfl⟩
theorem Deg.one : Deg 1 (fun _ => o1) := ⟨[o1], Nat.le_refl _, fun x => by rw [ev, ev, mu_zero, ga_zero]⟩
theorem Deg.lin {n : Nat} {f : G → G} (hf : Deg n f) (q : G) : Deg (n + 1) (fun x => mu (f x) (ga x q)) := by
  obtain ⟨c, h1, h2⟩ := hf
  refine ⟨addl (z0 :: c) (c.map (mu q)), addl_len _ _ (by rw [List.length_cons]; omega) (by rw [List.length_map]; omega), fun x => ?_⟩
  show mu (f x) (ga x q) = _
  rw [ev_addl, ev_map, ev, zero_ga, h2, mu_ga, mu_comm _ x, mu_comm _ q]
theorem Deg.uniq {n : Nat} {f g : G → G} (hf : Deg n f) (hg : Deg n g) {pts : List G} (hn : pts.Nodup) (hl : n ≤ pts.length) (h : ∀ p ∈ pts, f p = g p) (x : G) : f x = g x := by
  obtain ⟨c, h1, h2⟩ := hf.add hg
  have h3 : ga (f x) (g x) = z0 := (h2 x).trans (ev_zero hn (by omega) (fun p hp => by rw [← h2]; show ga (f p) (g p) = z0; rw [h p hp, ga_self]) x)
  exact ga_eq h3
/-! Lagrange's weights -/
def lw (p x : G) : G → List G → G
  | w, [] => w
  | w, q :: l => lw p x (if q ≠ p then mu w (qu (ga x q) (ga p q)) else w) l
theorem lw_mul (p x w : G) (l : List G) : lw p x w l = mu w (lw p x o1 l) := by
  induction l generalizing w with
  | nil => rw [lw, lw, mu_one]
  | cons q l ih =>
    rw [lw, lw]
    by_cases h : q ≠ p
    · rw [if_pos h, if_pos h, ih, ih (mu o1 _), one_mu, mu_assoc]
    · rw [if_neg h, if_neg h, ih]
theorem lw_self (p : G) (l : List G) : lw p p o1 l = o1 := by
  induction l with
  | nil => rfl
  | cons q l ih =>
    rw [lw]
    by_cases h : q ≠ p
    · rw [if_pos h, qu_self (fun h2 => h (ga_eq h2).symm), mu_one]; exact ih
    · rw [if_neg h]; exact ih
theorem lw_other {p x : G} (hx : x ≠ p) (l : List G) (hm : x ∈ l) (w : G) : lw p x w l = z0 := by
  induction l generalizing w with
  | nil => cases hm
  | cons q l ih =>
    rw [lw]
    rcases List.mem_cons.1 hm with rfl | h
    · rw [if_pos hx, ga_self, qu_zero, mu_zero, lw_mul, zero_mu]
    · exact ih h _
/-- how many of the points are others -/
def oth (p : G) : List G → Nat
  | [] => 0
  | q :: l => (if q ≠ p then 1 else 0) + oth p l
theorem oth_le (p : G) (l : List G) : oth p l ≤ l.length := by
  induction l with
  | nil => exact Nat.le_refl _
  | cons q l ih => rw [oth, List.length_cons]; split <;> omega
theorem oth_lt {p : G} {l : List G} (h : p ∈ l) : oth p l + 1 ≤ l.length := by
  induction l with
  | nil => cases h
  | cons q l ih =>
    rw [oth, List.length_cons]
    by_cases hq : q ≠ p
    · rw [if_pos hq]
      have := ih ((List.mem_cons.1 h).resolve_left (fun h2 => hq h2.symm))
      omega
    · rw [if_neg hq]
      have := oth_le p l
      omega
theorem lw_deg (p : G) (l : List G) {n : Nat} {f : G → G} (hf : Deg n f) : Deg (n + oth p l) (fun x => lw p x (f x) l) := by
  induction l generalizing n f with
  | nil => exact hf
  | cons q l ih =>
    rw [oth]
    by_cases h : q ≠ p
    · have hd : ga p q ≠ z0 := fun h2 => h (ga_eq h2).symm
      have h1 : Deg (n + 1) (fun x => mu (f x) (qu (ga x q) (ga p q))) := by
        obtain ⟨c, h1, h2⟩ := (hf.lin q).scale (qu o1 (ga p q))
        refine ⟨c, h1, fun x => ?_⟩
        rw [← h2]
        show mu (f x) (qu (ga x q) (ga p q)) = mu (qu o1 (ga p q)) (mu (f x) (ga x q))
        rw [qu_eq _ hd, ← mu_assoc, mu_comm]
      have := ih h1
      rw [if_pos h]
      have e : (fun x => lw p x (f x) (q :: l)) = fun x => lw p x (mu (f x) (qu (ga x q) (ga p q))) l := by
        funext x; rw [lw, if_pos h]
      rw [e]
      exact this.lift (by omega)
    · rw [if_neg h]
      have e : (fun x => lw p x (f x) (q :: l)) = fun x => lw p x (f x) l := by
        funext x; rw [lw, if_neg h]
      rw [e]
      exact (ih hf).lift (by omega)
/-- the sum of the products of the values with the weights of their points -/
def lag (all : List G) (x : G) : List (G × G) → G
  | [] => z0
  | (p, v) :: l => ga (lag all x l) (mu (lw p x o1 all) v)
theorem lag_deg (all : List G) (l : List (G × G)) (h : ∀ q ∈ l, q.1 ∈ all) : Deg all.length (fun x => lag all x l) := by
  induction l with
  | nil => exact Deg.zero _
  | cons q l ih =>
    obtain ⟨p, v⟩ := q
    refine (ih (fun q hq => h q (List.mem_cons_of_mem _ hq))).add ?_
    have h1 := ((lw_deg p all Deg.one).lift (by have := oth_lt (h (p, v) (List.mem_cons_self ..)); simp only at this; omega : _ ≤ all.length)).scale v
    obtain ⟨c, h2, h3⟩ := h1
    exact ⟨c, h2, fun x => by rw [← h3]; exact mu_comm _ _⟩
theorem lag_out {all : List G} {x : G} (hx : x ∈ all) (l : List (G × G)) (h : ∀ q ∈ l, q.1 ≠ x) : lag all x l = z0 := by
  induction l with
  | nil => rfl
  | cons q l ih =>
    obtain ⟨p, v⟩ := q
    rw [lag, ih (fun q hq => h q (List.mem_cons_of_mem _ hq)), lw_other (fun h2 => h (p, v) (List.mem_cons_self ..) h2.symm) all hx, zero_mu, ga_self]
theorem lag_at {all : List G} {p v : G} (hp : p ∈ all) (l : List (G × G)) (hn : (l.map (·.1)).Nodup) (h : (p, v) ∈ l) : lag all p l = v := by
  induction l with
  | nil => cases h
  | cons q l ih =>
    obtain ⟨p', v'⟩ := q
    rw [List.map_cons, List.nodup_cons] at hn
    rcases List.mem_cons.1 h with h | h
    · obtain ⟨rfl, rfl⟩ := Prod.mk.inj h
      rw [lag, lag_out hp l (fun q hq h2 => hn.1 (List.mem_map.2 ⟨q, hq, h2⟩)), lw_self, one_mu, zero_ga]
    · have h2 : p' ≠ p := fun h2 => hn.1 (List.mem_map.2 ⟨_, h, h2.symm⟩)
      rw [lag, ih hn.2 h, lw_other (fun h3 => h2 h3.symm) all hp, zero_mu, ga_zero]
/-- two lists of values of one polynomial give the same polynomial -/
theorem lag_uniq {ps qs : List (G × G)} (hq : (qs.map (·.1)).Nodup) (hl : ps.length = qs.length)
    (h : ∀ r ∈ qs, lag (ps.map (·.1)) r.1 ps = r.2) (x : G) : lag (qs.map (·.1)) x qs = lag (ps.map (·.1)) x ps := by
  have d1 := lag_deg (ps.map (·.1)) ps (fun q hq => List.mem_map.2 ⟨q, hq, rfl⟩)
  have d2 := lag_deg (qs.map (·.1)) qs (fun q hq => List.mem_map.2 ⟨q, hq, rfl⟩)
  rw [List.length_map] at d1 d2
  refine (d1.lift (by omega : _ ≤ qs.length)).uniq d2 hq (by rw [List.length_map]; omega) (fun p hp2 => ?_) x |>.symm
  obtain ⟨r, hr, rfl⟩ := List.mem_map.1 hp2
  show lag _ _ ps = lag _ _ qs
  rw [h r hr, lag_at (List.mem_map.2 ⟨r, hr, rfl⟩) qs hq (v := r.2) hr]

end Ef
end Go.Proofs.YtajfmhiejipaoaaDoor
