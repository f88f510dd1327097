/-
  The reference implementation of layer 2: a block of SHA-256.
-/
import Derived.Test.YtajfmhiejipaoaaDoorRsh
import Derived.Test.YtajfmhiejipaoaaDoorRap
namespace Go.Proofs.YtajfmhiejipaoaaDoor
open Go.RowKit Bs

set_option maxRecDepth 100000 in
theorem constants_any (w : World) :
    Calls Tryd.prog 92 #[] w fun e w' => e = .returned (.slice (some ⟨w.heap.size, 0, none⟩) 64 64) ∧ w' = w.alloc (.cells (iv .u32 Sha.K).toArray 95) := by
  go_enter Tryd.func92, Tryd.ntmps92
  go_wp2_with fail
  go_ret
  exact ⟨rfl, rfl⟩

theorem at_lt {n : Nat} (l : List Nat) (i : Nat) (h : ∀ x ∈ l, x < n) (hn : 0 < n := by omega) : Sha.at_ l i < n := by
  unfold Sha.at_
  rw [List.getD_eq_getElem?_getD]
  rcases Nat.lt_or_ge i l.length with hi | hi
  · rw [List.getElem?_eq_getElem hi]; exact h _ (List.getElem_mem _)
  · rw [List.getElem?_eq_none hi]; exact hn

theorem grow_snoc (w : List Nat) (j : Nat) : Sha.grow (j + 1) w = Sha.grow j w ++ [Sha.next (Sha.grow j w) (Sha.grow j w).length] := by
  induction j generalizing w with
  | zero => rfl
  | succ j ih => rw [Sha.grow, ih]; rfl
theorem next_lt (w : List Nat) (i : Nat) : Sha.next w i < 4294967296 := Nat.mod_lt _ (by decide)
theorem grow_lt (w : List Nat) (j : Nat) (h : ∀ x ∈ w, x < 4294967296) : ∀ x ∈ Sha.grow j w, x < 4294967296 := by
  induction j generalizing w with
  | zero => exact h
  | succ j ih =>
    refine ih _ fun x hx => ?_
    rcases List.mem_append.1 hx with hx | hx
    · exact h x hx
    · simp only [List.mem_singleton] at hx; subst hx; exact next_lt _ _
theorem words_lt (b : List Nat) (hb : ∀ x ∈ b, x < 256) : ∀ x ∈ Sha.words b, x < 4294967296 := by
  intro x hx
  simp only [Sha.words, List.mem_map] at hx
  obtain ⟨i, _, rfl⟩ := hx
  have h0 := at_lt b (4 * i) hb
  have h1 := at_lt b (4 * i + 1) hb
  have h2 := at_lt b (4 * i + 2) hb
  have h3 := at_lt b (4 * i + 3) hb
  unfold Sha.word; omega
theorem rnds_lt (w h : List Nat) (n : Nat) (hh : ∀ x ∈ h, x < 4294967296) : ∀ x ∈ Sha.rnds w h n, x < 4294967296 := by
  induction n with
  | zero => exact hh
  | succ n ih =>
    intro x hx
    have hg := fun i => at_lt (Sha.rnds w h n) i ih
    simp only [Sha.rnds, Sha.rnd, List.mem_cons, List.not_mem_nil, or_false] at hx
    rcases hx with rfl | rfl | rfl | rfl | rfl | rfl | rfl | rfl <;> first | exact hg _ | exact Nat.mod_lt _ (by decide)
theorem grow_length (w : List Nat) (j : Nat) : (Sha.grow j w).length = w.length + j := by
  induction j generalizing w with
  | zero => rfl
  | succ j ih => rw [Sha.grow, ih]; simp; omega

set_option maxRecDepth 100000 in
set_option maxHeartbeats 1000000 in
theorem block_any (gh ch gb ob cb : Nat) (hs0 b : List Nat) (w : World) (hh : Nums w gh 0 8 .u32 hs0) (hb : Nums w gb ob 64 .u8 b) (hb8 : ∀ x ∈ b, x < 256) (hh32 : ∀ x ∈ hs0, x < 4294967296) (hlh : hs0.length = 8) (_hlb : b.length = 64) :
    Calls Tryd.prog 76 #[.slice (some ⟨gh, 0, none⟩) 8 ch, .slice (some ⟨gb, ob, none⟩) 64 cb] w fun e w' => ∃ v, e = .returned v ∧ Own w' w.heap.size 95 .u32 v (Sha.block hs0 b) ∧ Below w.heap.size w w' := by
  obtain ⟨i0, hi, hz0, hz1, hz2⟩ := info_parts Tryd.infoU32
  go_enter Tryd.func76, Tryd.ntmps76
  go_wp2_with fail
  go_loopw [5, 6] (fun v i wr => ∃ j : Nat, j ≤ 16 ∧ i = .int .i64 j ∧ Own wr w.heap.size 95 .u32 v ((Sha.words b).take j) ∧ Below w.heap.size w wr) (fun _ i _ => 16 - (intOf i).toNat)
  case atStart => exact ⟨0, by omega, rfl, Own.nil _ _ _ _, Below.refl _ _⟩
  case round =>
    obtain ⟨j, hj, rfl, hown, hw⟩ := hrel
    have hs := hw.size
    rcases Nat.lt_or_ge j 16 with hj16 | hj16
    · skip
      --[1
      have hbr := hb.below hw (fun _ => hb.lt (by omega))
      obtain ⟨x0, y0, e0, c0⟩ : ∃ x : Nat, x = Sha.at_ b (4 * j) ∧ x < 256 ∧ wr.cell? ⟨gb, ob + 4 * j, none⟩ = some (.int .u8 x) := ⟨_, rfl, at_lt _ _ hb8, hbr.cell (4 * j) (by omega)⟩
      obtain ⟨x1, y1, e1, c1⟩ : ∃ x : Nat, x = Sha.at_ b (4 * j + 1) ∧ x < 256 ∧ wr.cell? ⟨gb, ob + (4 * j + 1), none⟩ = some (.int .u8 x) := ⟨_, rfl, at_lt _ _ hb8, hbr.cell (4 * j + 1) (by omega)⟩
      obtain ⟨x2, y2, e2, c2⟩ : ∃ x : Nat, x = Sha.at_ b (4 * j + 2) ∧ x < 256 ∧ wr.cell? ⟨gb, ob + (4 * j + 2), none⟩ = some (.int .u8 x) := ⟨_, rfl, at_lt _ _ hb8, hbr.cell (4 * j + 2) (by omega)⟩
      obtain ⟨x3, y3, e3, c3⟩ : ∃ x : Nat, x = Sha.at_ b (4 * j + 3) ∧ x < 256 ∧ wr.cell? ⟨gb, ob + (4 * j + 3), none⟩ = some (.int .u8 x) := ⟨_, rfl, at_lt _ _ hb8, hbr.cell (4 * j + 3) (by omega)⟩
      have HX := Lib.hid (show (Sha.words b).take j ++ [x0 * 16777216 + x1 * 65536 + x2 * 256 + x3] = (Sha.words b).take (j + 1) by
        rw [List.take_succ_eq_append_getElem (by simp [Sha.words]; omega), y0, y1, y2, y3]
        simp [Sha.words, Sha.word])
      clear y0 y1 y2 y3
      have Hlen : ((Sha.words b).take j).length ≤ 2000000 := by rw [List.length_take]; omega
      have lg : gb < w.heap.size := hb.lt (by omega)
      have wr0 : IntKind.i64.wrap (4 * (j : Int)) = 4 * (j : Int) := by rw [IntKind.wrap_i64]; omega
      have wr1 : IntKind.i64.wrap (4 * (j : Int) + 1) = 4 * (j : Int) + 1 := by rw [IntKind.wrap_i64]; omega
      have wr2 : IntKind.i64.wrap (4 * (j : Int) + 2) = 4 * (j : Int) + 2 := by rw [IntKind.wrap_i64]; omega
      have wr3 : IntKind.i64.wrap (4 * (j : Int) + 3) = 4 * (j : Int) + 3 := by rw [IntKind.wrap_i64]; omega
      have t0 : (4 * (j : Int)).toNat = 4 * j := by omega
      have t1 : (4 * (j : Int) + 1).toNat = 4 * j + 1 := by omega
      have t2 : (4 * (j : Int) + 2).toNat = 4 * j + 2 := by omega
      have t3 : (4 * (j : Int) + 3).toNat = 4 * j + 3 := by omega
      have i0a : (0 : Int) ≤ 4 * (j : Int) := by omega
      have i0b : 4 * (j : Int) < 64 := by omega
      have i1a : (0 : Int) ≤ 4 * (j : Int) + 1 := by omega
      have i1b : 4 * (j : Int) + 1 < 64 := by omega
      have i2a : (0 : Int) ≤ 4 * (j : Int) + 2 := by omega
      have i2b : 4 * (j : Int) + 2 < 64 := by omega
      have i3a : (0 : Int) ≤ 4 * (j : Int) + 3 := by omega
      have i3b : 4 * (j : Int) + 3 < 64 := by omega
      go_wp2_with fail
      go_region_held3 (fun w' => w'.cell? ⟨gb, ob + 4 * j, none⟩ = some (.int .u8 x0) ∧ w'.cell? ⟨gb, ob + (4 * j + 1), none⟩ = some (.int .u8 x1) ∧ w'.cell? ⟨gb, ob + (4 * j + 2), none⟩ = some (.int .u8 x2) ∧ w'.cell? ⟨gb, ob + (4 * j + 3), none⟩ = some (.int .u8 x3))
        (first
          | go_keep
          | (go_split_ands
             refine ⟨?_, ?_, ?_, ?_⟩
             · (refine (hB.cell (p := ⟨gb, _, none⟩) lg).trans ?_; assumption)
             · (refine (hB.cell (p := ⟨gb, _, none⟩) lg).trans ?_; assumption)
             · (refine (hB.cell (p := ⟨gb, _, none⟩) lg).trans ?_; assumption)
             · (refine (hB.cell (p := ⟨gb, _, none⟩) lg).trans ?_; assumption)))
        ((refine step_push (by rfl) _ _ 96 (by rfl) w.heap.size 95 i0 (.int .u32 0) 4 Tryd.underlying96 hi hz0 hz1 hz2 rfl (by omega) .u32 _ ((Sha.words b).take j) (by rfl) ((hown.alloc _).drew) ⟨wr.heap.size, 0, none⟩ 1 _ _ (by rfl) (fresh_cell wr _ _) (word_or x0 x1 x2 x3 e0 e1 e2 e3) Hlen (by simp; omega) ?_; intro v1 w1 hown1 hB))
      rw [HX.out] at hown1
      have Hown := Lib.hid hown1
      clear hown1 hown HX
      go_wp2_with fail
      go_roundw
      case rel => exact ⟨j + 1, by omega, by go_num, Hown.out, (hw.alloc hs _).trans (off_drew hB)⟩
      case measure => simp [intOf]; omega
      --]1
    · have hjj : (j : Int) = 16 := by omega
      rw [List.take_of_length_le (by simp [Sha.words]; omega)] at hown
      rw [hjj]
      clear hjj hj hj16
      go_wp2_with fail
      have hws : (Sha.words b).length = 16 := by simp [Sha.words]
      go_loopw [5, 7] (fun v i wr => ∃ n : Nat, 16 ≤ n ∧ n ≤ 64 ∧ i = .int .i64 n ∧ Own wr w.heap.size 95 .u32 v (Sha.grow (n - 16) (Sha.words b)) ∧ Below w.heap.size w wr) (fun _ i _ => 64 - (intOf i).toNat)
      case atStart => exact ⟨16, by omega, by omega, rfl, hown, hw⟩
      case round =>
        clear hown hw
        obtain ⟨n, hn1, hn2, rfl, hown, hw⟩ := hrel
        have hs := hw.size
        obtain ⟨G, hG⟩ : ∃ G, Sha.grow (n - 16) (Sha.words b) = G := ⟨_, rfl⟩
        have hlen : G.length = n := by rw [← hG, grow_length, hws]; omega
        have hG32 : ∀ x ∈ G, x < 4294967296 := by rw [← hG]; exact grow_lt _ _ (words_lt b hb8)
        rw [hG] at hown
        obtain ⟨g, cap, rfl⟩ := hown.shape hlen (by omega)
        rcases Nat.lt_or_ge n 64 with hn64 | hn64
        · skip
          --[2
          obtain ⟨a, ya, ea, ca⟩ : ∃ x : Nat, x = Sha.at_ G (n - 15) ∧ x < 4294967296 ∧ wr.cell? ⟨g, n - 15, none⟩ = some (.int .u32 x) := ⟨_, rfl, at_lt _ _ hG32, hown.get _ (by omega)⟩
          obtain ⟨c, yc, ec, cc⟩ : ∃ x : Nat, x = Sha.at_ G (n - 2) ∧ x < 4294967296 ∧ wr.cell? ⟨g, n - 2, none⟩ = some (.int .u32 x) := ⟨_, rfl, at_lt _ _ hG32, hown.get _ (by omega)⟩
          obtain ⟨d, yd, ed, cd⟩ : ∃ x : Nat, x = Sha.at_ G (n - 16) ∧ x < 4294967296 ∧ wr.cell? ⟨g, n - 16, none⟩ = some (.int .u32 x) := ⟨_, rfl, at_lt _ _ hG32, hown.get _ (by omega)⟩
          obtain ⟨f, yf, ef, cf⟩ : ∃ x : Nat, x = Sha.at_ G (n - 7) ∧ x < 4294967296 ∧ wr.cell? ⟨g, n - 7, none⟩ = some (.int .u32 x) := ⟨_, rfl, at_lt _ _ hG32, hown.get _ (by omega)⟩
          have HX := Lib.hid (show G ++ [(d + Sha.s0 a + f + Sha.s1 c) % 4294967296] = Sha.grow (n + 1 - 16) (Sha.words b) by
            rw [show n + 1 - 16 = (n - 16) + 1 by omega, grow_snoc, hG, hlen, ya, yc, yd, yf]; rfl)
          have HD := Lib.hid (show G.getD (n - 16) 0 = d from yd.symm)
          have HF := Lib.hid (show G.getD (n - 7) 0 = f from yf.symm)
          clear ya yc yd yf hG hG32
          have wr15 : IntKind.i64.wrap ((n : Int) - 15) = (n : Int) - 15 := by rw [IntKind.wrap_i64]; omega
          have wr2 : IntKind.i64.wrap ((n : Int) - 2) = (n : Int) - 2 := by rw [IntKind.wrap_i64]; omega
          have wr16 : IntKind.i64.wrap ((n : Int) - 16) = (n : Int) - 16 := by rw [IntKind.wrap_i64]; omega
          have wr7 : IntKind.i64.wrap ((n : Int) - 7) = (n : Int) - 7 := by rw [IntKind.wrap_i64]; omega
          have t15 : ((n : Int) - 15).toNat = n - 15 := by omega
          have t2 : ((n : Int) - 2).toNat = n - 2 := by omega
          have t16 : ((n : Int) - 16).toNat = n - 16 := by omega
          have t7 : ((n : Int) - 7).toNat = n - 7 := by omega
          have i15 : (15 : Int) ≤ (n : Int) := by omega
          have j15 : (n : Int) - 15 < (n : Int) := by omega
          have i2 : (2 : Int) ≤ (n : Int) := by omega
          have j2 : (n : Int) - 2 < (n : Int) := by omega
          have i16 : (16 : Int) ≤ (n : Int) := by omega
          have j16 : (n : Int) - 16 < (n : Int) := by omega
          have i7 : (7 : Int) ≤ (n : Int) := by omega
          have j7 : (n : Int) - 7 < (n : Int) := by omega
          obtain ⟨X1, lS⟩ := s0_w a ea
          obtain ⟨Y1, lT⟩ := s1_w c ec
          obtain ⟨S, hS⟩ : ∃ S, Sha.s0 a = S := ⟨_, rfl⟩
          obtain ⟨T, hT⟩ : ∃ T, Sha.s1 c = T := ⟨_, rfl⟩
          rw [hS] at X1 lS HX
          rw [hT] at Y1 lT HX
          have Hlen := Lib.hid hlen
          clear hS hT hlen
          have lg : g < wr.heap.size := (hown.lt g rfl)
          go_wp2_with fail
          go_quiet ((go_at_call 91; exact rotated_g _ _ _ _ (by omega) (by omega)))
          have hown1 := hown.drewN nq
          have hw1 := below_drewN hw nq
          have hs1 : w.heap.size ≤ (wr.drewN nq).heap.size := hs
          have lg1 : g < (wr.drewN nq).heap.size := lg
          have cc1 : (wr.drewN nq).cell? ⟨g, n - 2, none⟩ = some (.int .u32 c) := cc
          have cd1 : (wr.drewN nq).cell? ⟨g, n - 16, none⟩ = some (.int .u32 d) := cd
          have cf1 : (wr.drewN nq).cell? ⟨g, n - 7, none⟩ = some (.int .u32 f) := cf
          clear hown hw hs lg ca cc cd cf
          generalize wr.drewN nq = wr1 at *
          go_wp2_with fail
          go_quiet ((go_at_call 91; exact rotated_g _ _ _ _ (by omega) (by omega)))
          have hown2 := hown1.drewN nq
          have hw2 := below_drewN hw1 nq
          have hs2 : w.heap.size ≤ (wr1.drewN nq).heap.size := hs1
          have lg2 : g < (wr1.drewN nq).heap.size := lg1
          have cd2 : (wr1.drewN nq).cell? ⟨g, n - 16, none⟩ = some (.int .u32 d) := cd1
          have cf2 : (wr1.drewN nq).cell? ⟨g, n - 7, none⟩ = some (.int .u32 f) := cf1
          clear hown1 hw1 hs1 lg1 cc1 cd1 cf1 X1 Y1
          generalize wr1.drewN nq = wr2 at *
          go_wp2_with fail
          go_region_held3 (fun w' => w'.cell? ⟨g, n - 16, none⟩ = some (.int .u32 d) ∧ w'.cell? ⟨g, n - 7, none⟩ = some (.int .u32 f))
            (first
              | go_keep
              | (go_split_ands; exact ⟨hkd, hkf⟩))
            ((refine step_pushK (by rfl) _ _ 96 (by rfl) w.heap.size 95 i0 (.int .u32 0) 4 Tryd.underlying96 hi hz0 hz1 hz2 rfl (by omega) .u32 g n _ G (by rfl) ((hown2.alloc _).drew) Hlen.out ⟨wr2.heap.size, 0, none⟩ 1 _ _ (by rfl) (fresh_cell wr2 _ _) (sum4_w d S f T) (by omega) (by simp; omega) ?_; intro v1 w1 hown3 hB hk; have hkd : w1.cell? ⟨g, n - 16, none⟩ = some (.int .u32 d) := (hk (n - 16) (by omega)).trans (by rw [HD.out]); have hkf : w1.cell? ⟨g, n - 7, none⟩ = some (.int .u32 f) := (hk (n - 7) (by omega)).trans (by rw [HF.out])))
          all_goals
            rw [HX.out] at hown3
            have Hown3 := Lib.hid hown3
            clear hown3 hown2 HX
            go_wp2_with fail
            go_roundw
            case rel => exact ⟨n + 1, by omega, by omega, by go_num, Hown3.out, (hw2.alloc hs2 _).trans (off_drew hB)⟩
            case measure => simp [intOf]; omega
          --]2
        · have hnn : (n : Int) = 64 := by omega
          have hWl : G = Sha.sched b := by rw [← hG, show n - 16 = 48 by omega]; rfl
          have hn64' : n = 64 := by omega
          rw [hnn]
          subst hn64'
          have hl : gb < w.heap.size := hb.lt (by omega)
          have hW64 : Nums wr g 0 64 .u32 G := ⟨fun i hi => by rw [Nat.zero_add]; exact hown.get i (by omega), fun _ => hown.lt g rfl⟩
          have hHr : Nums wr gh 0 8 .u32 hs0 := hh.below hw (fun _ => hh.lt (by omega))
          have hWl32 : ∀ x ∈ G, x < 4294967296 := hG32
          have Hw := Lib.hid hWl
          clear hG hWl hnn hn1 hn2 hown hG32 hn64 hlen hb
          go_wp2_with fail
          refine (constants_any _).mono ?_
          rintro e w2 ⟨rfl, rfl⟩
          have hK64 : Nums (wr.alloc (.cells (iv .u32 Sha.K).toArray 95)) wr.heap.size 0 64 .u32 Sha.K := Nums.fresh Sha.K 64 rfl
          have hb2 : Below wr.heap.size wr (wr.alloc (.cells (iv .u32 Sha.K).toArray 95)) := (Below.refl _ _).alloc (Nat.le_refl _) _
          have hW2 := hW64.later hb2
          have hH2 := hHr.later hb2
          have hw2 := below_on hw hb2 hs
          have hs2 := hw2.size
          clear hw hb2 hW64 hHr hs
          generalize wr.alloc (.cells (iv .u32 Sha.K).toArray 95) = W2 at *
          generalize wr.heap.size = gk at *
          go_wp2_with (at_builtin; refine wpList_pushN rfl _ _ 96 rfl W2.heap.size 95 i0 (.int .u32 0) 4 Tryd.underlying96 hi hz0 hz1 hz2 rfl (by omega) .u32 _ [] rfl (Own.nil _ _ _ _) gh 0 8 ch hs0 rfl hH2 hlh (by simp) (Nat.le_refl _) ?_)
          intro v3 w3 hown3 hb3
          obtain ⟨gv, cv, rfl⟩ := hown3.shape hlh (by omega)
          have hv3 : Nums w3 gv 0 8 .u32 hs0 := ⟨fun i hi => by rw [Nat.zero_add]; exact hown3.get i (by rw [hlh]; exact hi), fun _ => hown3.lt gv rfl⟩
          have hW3 := hW2.later hb3
          have hK3 := hK64.later hb3
          have hH3 := hH2.later hb3
          have hw3 := below_on hw2 hb3 hs2
          have hs3 := hw3.size
          clear hown3 hb3 hW2 hK64 hH2 hw2 hs2
          go_wp2_with fail
          go_loopw [11, 12] (fun v i wr => ∃ n gv cv : Nat, n ≤ 64 ∧ i = .int .i64 n ∧ v = .slice (some ⟨gv, 0, none⟩) 8 cv ∧ Nums wr gv 0 8 .u32 (Sha.rnds G hs0 n) ∧ Below w3.heap.size w3 wr) (fun _ i _ => 64 - (intOf i).toNat)
          case atStart => exact ⟨0, gv, cv, by omega, rfl, rfl, hv3, Below.refl _ _⟩
          case round =>
            clear hv3
            obtain ⟨n, gv, cv, hn, rfl, rfl, hv, hw⟩ := hrel
            obtain ⟨V, hV⟩ : ∃ V, Sha.rnds G hs0 n = V := ⟨_, rfl⟩
            have hV32 : ∀ x ∈ V, x < 4294967296 := by rw [← hV]; exact rnds_lt _ _ _ hh32
            rw [hV] at hv
            have hWr := hW3.later hw
            have hKr := hK3.later hw
            rcases Nat.lt_or_ge n 64 with hn64 | hn64
            · skip
              --[3
              obtain ⟨a0, y0, b0, c0⟩ : ∃ x : Nat, x = Sha.at_ V 0 ∧ x < 4294967296 ∧ wr.cell? ⟨gv, 0, none⟩ = some (.int .u32 x) := ⟨_, rfl, at_lt _ _ hV32, hv.cell 0 (by omega)⟩
              obtain ⟨a1, y1, b1, c1⟩ : ∃ x : Nat, x = Sha.at_ V 1 ∧ x < 4294967296 ∧ wr.cell? ⟨gv, 1, none⟩ = some (.int .u32 x) := ⟨_, rfl, at_lt _ _ hV32, hv.cell 1 (by omega)⟩
              obtain ⟨a2, y2, b2, c2⟩ : ∃ x : Nat, x = Sha.at_ V 2 ∧ x < 4294967296 ∧ wr.cell? ⟨gv, 2, none⟩ = some (.int .u32 x) := ⟨_, rfl, at_lt _ _ hV32, hv.cell 2 (by omega)⟩
              obtain ⟨a3, y3, b3, c3⟩ : ∃ x : Nat, x = Sha.at_ V 3 ∧ x < 4294967296 ∧ wr.cell? ⟨gv, 3, none⟩ = some (.int .u32 x) := ⟨_, rfl, at_lt _ _ hV32, hv.cell 3 (by omega)⟩
              obtain ⟨a4, y4, b4, c4⟩ : ∃ x : Nat, x = Sha.at_ V 4 ∧ x < 4294967296 ∧ wr.cell? ⟨gv, 4, none⟩ = some (.int .u32 x) := ⟨_, rfl, at_lt _ _ hV32, hv.cell 4 (by omega)⟩
              obtain ⟨a5, y5, b5, c5⟩ : ∃ x : Nat, x = Sha.at_ V 5 ∧ x < 4294967296 ∧ wr.cell? ⟨gv, 5, none⟩ = some (.int .u32 x) := ⟨_, rfl, at_lt _ _ hV32, hv.cell 5 (by omega)⟩
              obtain ⟨a6, y6, b6, c6⟩ : ∃ x : Nat, x = Sha.at_ V 6 ∧ x < 4294967296 ∧ wr.cell? ⟨gv, 6, none⟩ = some (.int .u32 x) := ⟨_, rfl, at_lt _ _ hV32, hv.cell 6 (by omega)⟩
              obtain ⟨a7, y7, b7, c7⟩ : ∃ x : Nat, x = Sha.at_ V 7 ∧ x < 4294967296 ∧ wr.cell? ⟨gv, 7, none⟩ = some (.int .u32 x) := ⟨_, rfl, at_lt _ _ hV32, hv.cell 7 (by omega)⟩
              obtain ⟨kx, yk, bk, ck⟩ : ∃ x : Nat, x = Sha.at_ Sha.K n ∧ x < 4294967296 ∧ wr.cell? ⟨gk, n, none⟩ = some (.int .u32 x) := ⟨_, rfl, at_lt _ _ (by decide), by have := hKr.cell n (by omega); rwa [Nat.zero_add] at this⟩
              obtain ⟨wx, yw, bw, cw⟩ : ∃ x : Nat, x = Sha.at_ G n ∧ x < 4294967296 ∧ wr.cell? ⟨g, n, none⟩ = some (.int .u32 x) := ⟨_, rfl, at_lt _ _ hWl32, by have := hWr.cell n (by omega); rwa [Nat.zero_add] at this⟩
              have HV := Lib.hid (show Sha.rnd V kx wx = Sha.rnds G hs0 (n + 1) by rw [yk, yw, ← hV]; rfl)
              have HR := Lib.hid (show Sha.rnd V kx wx = [(Sha.t1 V kx wx + Sha.t2 V) % 4294967296, a0, a1, a2, (a3 + Sha.t1 V kx wx) % 4294967296, a4, a5, a6] by rw [y0, y1, y2, y3, y4, y5, y6]; rfl)
              have HY := Lib.hid (show Sha.t1 V kx wx = (a7 + (Sha.rot a4 6 ^^^ Sha.rot a4 11 ^^^ Sha.rot a4 25) + Sha.ch a4 a5 a6 + kx + wx) % 4294967296 ∧ Sha.t2 V = ((Sha.rot a0 2 ^^^ Sha.rot a0 13 ^^^ Sha.rot a0 22) + Sha.maj a0 a1 a2) % 4294967296 by
                rw [y0, y1, y2, y4, y5, y6, y7]; exact ⟨rfl, rfl⟩)
              clear hV hV32 yk yw y0 y1 y2 y3 y4 y5 y6 y7
              obtain ⟨X1, x1⟩ := e_w a4 6 11 25 6 11 25 rfl rfl rfl b4
              obtain ⟨X2, x2⟩ := ch_w a4 a5 a6 b4 b5 b6
              obtain ⟨X3, x3⟩ := e_w a0 2 13 22 2 13 22 rfl rfl rfl b0
              obtain ⟨X4, x4⟩ := maj_w a0 a1 a2 b0 b1 b2
              obtain ⟨z1, hz1⟩ : ∃ z, Sha.rot a4 6 ^^^ Sha.rot a4 11 ^^^ Sha.rot a4 25 = z := ⟨_, rfl⟩
              obtain ⟨z2, hz2'⟩ : ∃ z, Sha.ch a4 a5 a6 = z := ⟨_, rfl⟩
              obtain ⟨z3, hz3⟩ : ∃ z, Sha.rot a0 2 ^^^ Sha.rot a0 13 ^^^ Sha.rot a0 22 = z := ⟨_, rfl⟩
              obtain ⟨z4, hz4⟩ : ∃ z, Sha.maj a0 a1 a2 = z := ⟨_, rfl⟩
              rw [hz1] at X1 x1 HY
              rw [hz2'] at X2 x2 HY
              rw [hz3] at X3 x3 HY
              rw [hz4] at X4 x4 HY
              clear hz1 hz2' hz3 hz4
              go_wp2_with fail
              go_quiet ((go_at_call 91; exact rotated_g _ _ _ _ (by omega) (by omega)))
              obtain ⟨t, ht⟩ : ∃ t, (a7 + z1 + z2 + kx + wx) % 4294967296 = t := ⟨_, rfl⟩
              rw [ht] at HY
              rw [show (((a7 : Int) + z1 + z2 + kx) % 4294967296 + wx) % 4294967296 = (t : Int) by omega]
              have bt : t < 4294967296 := by omega
              have Ht := Lib.hid ht
              clear ht X1 X2 x1 x2 ck cw hv hWr hKr bk bw c4 c7
              have c0' : (wr.drewN nq).cell? ⟨gv, 0, none⟩ = some (.int .u32 a0) := c0
              have c1' : (wr.drewN nq).cell? ⟨gv, 1, none⟩ = some (.int .u32 a1) := c1
              have c2' : (wr.drewN nq).cell? ⟨gv, 2, none⟩ = some (.int .u32 a2) := c2
              have c3' : (wr.drewN nq).cell? ⟨gv, 3, none⟩ = some (.int .u32 a3) := c3
              have c5' : (wr.drewN nq).cell? ⟨gv, 5, none⟩ = some (.int .u32 a5) := c5
              have c6' : (wr.drewN nq).cell? ⟨gv, 6, none⟩ = some (.int .u32 a6) := c6
              have hw' := below_drewN hw nq
              clear c0 c1 c2 c3 c5 c6 hw
              generalize wr.drewN nq = wr1 at *
              go_wp2_with fail
              go_quiet ((go_at_call 91; exact rotated_g _ _ _ _ (by omega) (by omega)))
              obtain ⟨u, hu⟩ : ∃ u, (z3 + z4) % 4294967296 = u := ⟨_, rfl⟩
              rw [hu] at HY
              rw [show ((z3 : Int) + z4) % 4294967296 = (u : Int) by omega]
              have bu : u < 4294967296 := by omega
              clear hu X3 X4 x3 x4 c0'
              have d1 : (wr1.drewN nq).cell? ⟨gv, 1, none⟩ = some (.int .u32 a1) := c1'
              have d2 : (wr1.drewN nq).cell? ⟨gv, 2, none⟩ = some (.int .u32 a2) := c2'
              have d3 : (wr1.drewN nq).cell? ⟨gv, 3, none⟩ = some (.int .u32 a3) := c3'
              have d5 : (wr1.drewN nq).cell? ⟨gv, 5, none⟩ = some (.int .u32 a5) := c5'
              have d6 : (wr1.drewN nq).cell? ⟨gv, 6, none⟩ = some (.int .u32 a6) := c6'
              have hw2 := below_drewN hw' nq
              clear c1' c2' c3' c5' c6' hw'
              generalize wr1.drewN nq = wr2 at *
              go_wp2_with fail
              go_region_held3 (fun w' => w'.cell? ⟨gv, 1, none⟩ = some (.int .u32 a1) ∧ w'.cell? ⟨gv, 2, none⟩ = some (.int .u32 a2) ∧ w'.cell? ⟨gv, 3, none⟩ = some (.int .u32 a3) ∧ w'.cell? ⟨gv, 5, none⟩ = some (.int .u32 a5) ∧ w'.cell? ⟨gv, 6, none⟩ = some (.int .u32 a6))
                (go_keep) (fail)
              have hL : Sha.rnds G hs0 (n + 1) = [(t + u) % 4294967296, a0, a1, a2, (a3 + t) % 4294967296, a4, a5, a6] := by rw [← HV.out, HR.out, HY.out.1, HY.out.2]
              have hN := Nums.fresh (W := wr2) (t := 95) (k := .u32) [(t + u) % 4294967296, a0, a1, a2, (a3 + t) % 4294967296, a4, a5, a6] 8 rfl
              rw [show IntKind.u32.wrap ((t : Int) + u) = (((t + u) % 4294967296 : Nat) : Int) by rw [IntKind.wrap_u32]; omega, show IntKind.u32.wrap ((a3 : Int) + t) = (((a3 + t) % 4294967296 : Nat) : Int) by rw [IntKind.wrap_u32]; omega]
              have HN := Lib.hid hN
              have HL := Lib.hid hL
              clear hN hL d1 d2 d3 d5 d6
              go_wp2_with fail
              go_roundw
              case rel => exact ⟨n + 1, wr2.heap.size, 8, by omega, by go_num, rfl, by rw [HL.out]; exact ⟨HN.out.cell, HN.out.lt⟩, (hw2.alloc hw2.size _).drew⟩
              case measure => simp [intOf]; omega
              --]3
            · have hnn : (n : Int) = 64 := by omega
              have hn64' : n = 64 := by omega
              rw [hnn]
              subst hn64'
              rw [Hw.out] at hV
              have hHr := hH3.later hw
              have hw4 := below_on hw3 hw hs3
              have hs4 := hw4.size
              clear hnn hn hn64 hWr hKr hW3 hK3 hH3 hw hw3 hs3
              go_wp2_with fail
              have hg1 : gh < wr.heap.size := hHr.lt (by omega)
              have hg2 : gv < wr.heap.size := hv.lt (by omega)
              obtain ⟨w4, hw4e⟩ : ∃ w4, w4 = wr := ⟨_, rfl⟩
              rw [← hw4e] at hHr hv hw4 hs4 hg1 hg2 ⊢
              have hlen8 : (Sha.add8 hs0 V).length = 8 := by simp [Sha.add8]
              clear hw4e
              go_loopw [17, 18] (fun v i wr => ∃ j : Nat, j ≤ 8 ∧ i = .int .i64 j ∧ Own wr w4.heap.size 95 .u32 v ((Sha.add8 hs0 V).take j) ∧ Below w4.heap.size w4 wr) (fun _ i _ => 8 - (intOf i).toNat)
              case atStart => exact ⟨0, by omega, rfl, Own.nil _ _ _ _, Below.refl _ _⟩
              case round =>
                obtain ⟨j, hj, rfl, hown, hw⟩ := hrel
                have hs := hw.size
                rcases Nat.lt_or_ge j 8 with hj8 | hj8
                · obtain ⟨a, y0, b0, c0⟩ : ∃ x : Nat, x = Sha.at_ hs0 j ∧ x < 4294967296 ∧ wr.cell? ⟨gh, j, none⟩ = some (.int .u32 x) := ⟨_, rfl, at_lt _ _ hh32, by have := (hHr.later hw).cell j hj8; rwa [Nat.zero_add] at this⟩
                  obtain ⟨c, y1, b1, c1⟩ : ∃ x : Nat, x = Sha.at_ V j ∧ x < 4294967296 ∧ wr.cell? ⟨gv, j, none⟩ = some (.int .u32 x) := ⟨_, rfl, at_lt _ _ hV32, by have := (hv.later hw).cell j hj8; rwa [Nat.zero_add] at this⟩
                  have HX := Lib.hid (show (Sha.add8 hs0 V).take j ++ [(a + c) % 4294967296] = (Sha.add8 hs0 V).take (j + 1) by
                    rw [List.take_succ_eq_append_getElem (by omega), y0, y1]; simp [Sha.add8, Sha.M])
                  have Hlen : ((Sha.add8 hs0 V).take j).length ≤ 2000000 := by rw [List.length_take]; omega
                  have i1 : (j : Int) < 8 := by omega
                  clear y0 y1
                  go_wp2_with fail
                  go_region_held3 (fun w' => w'.cell? ⟨gh, j, none⟩ = some (.int .u32 a) ∧ w'.cell? ⟨gv, j, none⟩ = some (.int .u32 c))
                    (first
                      | go_keep
                      | (go_split_ands
                         refine ⟨?_, ?_⟩
                         · (refine (hB.cell (p := ⟨gh, _, none⟩) hg1).trans ?_; assumption)
                         · (refine (hB.cell (p := ⟨gv, _, none⟩) hg2).trans ?_; assumption)))
                    ((refine step_push (by rfl) _ _ 96 (by rfl) w4.heap.size 95 i0 (.int .u32 0) 4 Tryd.underlying96 hi hz0 hz1 hz2 rfl (by omega) .u32 _ ((Sha.add8 hs0 V).take j) (by rfl) ((hown.alloc _).drew) ⟨wr.heap.size, 0, none⟩ 1 _ _ (by rfl) (fresh_cell wr _ _) (sum2_w a c) Hlen (by simp; omega) ?_; intro v1 w1 hown1 hB))
                  rw [HX.out] at hown1
                  have Hown := Lib.hid hown1
                  clear hown1 hown HX
                  go_wp2_with fail
                  go_roundw
                  case rel => exact ⟨j + 1, by omega, by go_num, Hown.out, (hw.alloc hs _).trans (off_drew hB)⟩
                  case measure => simp [intOf]; omega
                · rw [List.take_of_length_le (by omega)] at hown
                  go_wp2_with fail
                  go_ret
                  refine ⟨_, rfl, ⟨?_⟩, below_on hw4 hw hs4⟩
                  rw [← hV] at hown
                  exact hown.row.mono hs4

end Go.Proofs.YtajfmhiejipaoaaDoor
