/-
  The reference implementation of layer 2: what its functions of SHA-256 return.
-/
import Derived.Test.YtagcpjokajcdiaaDoorBase
import Derived.Test.YtagcpjokajcdiaaDoorSha
namespace Go.Proofs.YtagcpjokajcdiaaDoor
open Go.RowKit Bs

theorem rot_lt (x n : Nat) (hx : x < 4294967296) : Sha.rot x n < 4294967296 := by
  unfold Sha.rot Sha.M
  refine Nat.or_lt_two_pow (n := 32) ?_ ?_
  · exact Nat.lt_of_le_of_lt (Nat.div_le_self _ _) (by omega)
  · exact Nat.mod_lt _ (by omega)

/-- the same for whatever the walk turns by whatever amount -/
def rotI (x N : Int) : Int := (Sha.rot x.toNat N.toNat : Nat)
theorem rotI_is (x n r : Nat) (h : Sha.rot x n = r) (N : Int) (hN : N = n) : rotI (x : Int) N = (r : Int) := by
  subst hN h; simp [rotI]
theorem rotI_lt (x n r : Nat) (h : Sha.rot x n = r) (hx : x < 4294967296) : r < 4294967296 := by rw [← h]; exact rot_lt x n hx
theorem rotI_n (x n : Nat) (N : Int) (hN : N = n) : rotI (x : Int) N = ((Sha.rot x n : Nat) : Int) := rotI_is x n _ rfl N hN
theorem s0_w (x : Nat) (hx : x < 4294967296) : bits .xor .u32 (bits .xor .u32 (rotI (x : Int) 7) (rotI (x : Int) 18)) ((x : Int) / 8) = ((Sha.s0 x : Nat) : Int) ∧ Sha.s0 x < 4294967296 := by
  have h1 := rot_lt x 7 hx
  have h2 := rot_lt x 18 hx
  have h3 : Sha.rot x 7 ^^^ Sha.rot x 18 < 4294967296 := Nat.xor_lt_two_pow (n := 32) h1 h2
  have h4 : x / 8 < 4294967296 := by omega
  rw [rotI_n x 7 7 rfl, rotI_n x 18 18 rfl, xor_w _ _ h1 h2, show ((x : Int) / 8) = ((x / 8 : Nat) : Int) by simp, xor_w _ _ h3 h4]
  exact ⟨rfl, Nat.xor_lt_two_pow (n := 32) h3 h4⟩
theorem s1_w (x : Nat) (hx : x < 4294967296) : bits .xor .u32 (bits .xor .u32 (rotI (x : Int) 17) (rotI (x : Int) 19)) ((x : Int) / 1024) = ((Sha.s1 x : Nat) : Int) ∧ Sha.s1 x < 4294967296 := by
  have h1 := rot_lt x 17 hx
  have h2 := rot_lt x 19 hx
  have h3 : Sha.rot x 17 ^^^ Sha.rot x 19 < 4294967296 := Nat.xor_lt_two_pow (n := 32) h1 h2
  have h4 : x / 1024 < 4294967296 := by omega
  rw [rotI_n x 17 17 rfl, rotI_n x 19 19 rfl, xor_w _ _ h1 h2, show ((x : Int) / 1024) = ((x / 1024 : Nat) : Int) by simp, xor_w _ _ h3 h4]
  exact ⟨rfl, Nat.xor_lt_two_pow (n := 32) h3 h4⟩
theorem e_w (x i j k : Nat) (I J K : Int) (hI : I = i) (hJ : J = j) (hK : K = k) (hx : x < 4294967296) : bits .xor .u32 (bits .xor .u32 (rotI (x : Int) I) (rotI (x : Int) J)) (rotI (x : Int) K) = ((Sha.rot x i ^^^ Sha.rot x j ^^^ Sha.rot x k : Nat) : Int) ∧ Sha.rot x i ^^^ Sha.rot x j ^^^ Sha.rot x k < 4294967296 := by
  have h1 := rot_lt x i hx
  have h2 := rot_lt x j hx
  have h4 := rot_lt x k hx
  have h3 : Sha.rot x i ^^^ Sha.rot x j < 4294967296 := Nat.xor_lt_two_pow (n := 32) h1 h2
  rw [rotI_n x i I hI, rotI_n x j J hJ, rotI_n x k K hK, xor_w _ _ h1 h2, xor_w _ _ h3 h4]
  exact ⟨rfl, Nat.xor_lt_two_pow (n := 32) h3 h4⟩
theorem not_nat (c : Nat) (h : c < 4294967296) : 4294967295 ^^^ c = 4294967295 - c := by
  apply Nat.eq_of_testBit_eq
  intro i
  have h1 := Nat.testBit_two_pow_sub_succ (n := 32) h i
  have h2 := Nat.testBit_two_pow_sub_one 32 i
  rw [show (2 : Nat) ^ 32 - 1 = 4294967295 from rfl] at h2
  rw [show (2 : Nat) ^ 32 - (c + 1) = 4294967295 - c from by omega] at h1
  rw [Nat.testBit_xor, h1, h2]
  rcases Nat.lt_or_ge i 32 with hi | hi
  · simp [hi]
  · rw [Nat.testBit_lt_two_pow (show c < 2 ^ i from Nat.lt_of_lt_of_le h (show 4294967296 ≤ 2 ^ i from Nat.pow_le_pow_right (n := 2) (by omega) hi))]
    simp [Nat.not_lt.2 hi]
theorem ch_w (e f g : Nat) (he : e < 4294967296) (hf : f < 4294967296) (hg : g < 4294967296) :
    bits .xor .u32 (bits .and .u32 (e : Int) (f : Int)) (bits .and .u32 (bits .xor .u32 (if IntKind.u32.signed = true then -1 else IntKind.u32.max) (e : Int)) (g : Int)) = ((Sha.ch e f g : Nat) : Int) ∧ Sha.ch e f g < 4294967296 := by
  have h1 : e &&& f < 4294967296 := Nat.and_lt_two_pow e (n := 32) hf
  have h2 : 4294967295 - e < 4294967296 := by omega
  have h3 : (4294967295 - e) &&& g < 4294967296 := Nat.and_lt_two_pow _ (n := 32) hg
  rw [show (if IntKind.u32.signed = true then (-1 : Int) else IntKind.u32.max) = ((4294967295 : Nat) : Int) from rfl, xor_w 4294967295 e (by omega) he, not_nat e he, and_w _ _ he hf, and_w _ _ h2 hg, xor_w _ _ h1 h3]
  exact ⟨rfl, Nat.xor_lt_two_pow (n := 32) h1 h3⟩
theorem maj_w (a b c : Nat) (ha : a < 4294967296) (hb : b < 4294967296) (hc : c < 4294967296) :
    bits .xor .u32 (bits .xor .u32 (bits .and .u32 (a : Int) (b : Int)) (bits .and .u32 (a : Int) (c : Int))) (bits .and .u32 (b : Int) (c : Int)) = ((Sha.maj a b c : Nat) : Int) ∧ Sha.maj a b c < 4294967296 := by
  have h1 : a &&& b < 4294967296 := Nat.and_lt_two_pow a (n := 32) hb
  have h2 : a &&& c < 4294967296 := Nat.and_lt_two_pow a (n := 32) hc
  have h3 : b &&& c < 4294967296 := Nat.and_lt_two_pow b (n := 32) hc
  have h4 : (a &&& b) ^^^ (a &&& c) < 4294967296 := Nat.xor_lt_two_pow (n := 32) h1 h2
  rw [and_w _ _ ha hb, and_w _ _ ha hc, and_w _ _ hb hc, xor_w _ _ h1 h2, xor_w _ _ h4 h3]
  exact ⟨rfl, Nat.xor_lt_two_pow (n := 32) h4 h3⟩
theorem sum2_w (a b : Nat) : IntKind.u32.wrap ((a : Int) + b) = (((a + b) % 4294967296 : Nat) : Int) := by
  simp only [IntKind.wrap_u32]; omega
theorem sum4_w (a b c d : Nat) : IntKind.u32.wrap (IntKind.u32.wrap (IntKind.u32.wrap ((a : Int) + b) + c) + d) = (((a + b + c + d) % 4294967296 : Nat) : Int) := by
  simp only [IntKind.wrap_u32]; omega

theorem Tryd.infoU32 : (Tryd.prog.info? 45).map (fun i => (i.zero, i.size, i.bytes)) = some (some (.int .u32 0), 1, 4) := by kernel_rfl
theorem Tryd.infoU8 : (Tryd.prog.info? 5).map (fun i => (i.zero, i.size, i.bytes)) = some (some (.int .u8 0), 1, 1) := by kernel_rfl

end Go.Proofs.YtagcpjokajcdiaaDoor
