/-
  Package pack: the pieces of a code, one after the other (pieces).
-/
import Derived.Test.YtnploljhikljfaaPwe
import Derived.Test.YtnploljhikljfaaRfp
namespace Go.Proofs.Ytnploljhikljfaa
open Go.RowKit Bs Pk
attribute [local go_sem] Oper.semAt_some

theorem pieces_any (a : Option Addr) (n c : Nat) (w : World) :
    Calls Try.prog 28 #[.slice a n c] w fun e w' => e = .returned (.func (.func 30) #[] #[.pointer (some ⟨w.heap.size, 0, none⟩)]) ∧ w' = w.alloc (.cells #[.slice a n c] 29) := by
  go_enter Try.func28, Try.ntmps28
  go_wp2
  go_ret
  exact ⟨rfl, rfl⟩

def lenV : Value → Nat
  | .slice _ n _ => n
  | _ => 0
theorem cut3 (W : World) (g i e n c : Nat) (h1 : 1 < e) (h2 : e ≤ n) (h3 : n ≤ c) :
    (Instr.sliceAt 29 (.slice (some ⟨g, i, none⟩) n c) (some (.int .i64 1)) (some (.int .i64 (e : Int))) (some (.int .i64 (e : Int)))).run Try.prog W = .ok (.slice (some ⟨g, i + 1, none⟩) (e - 1) (e - 1)) W := by
  have hu : Try.prog.underlying 29 = some (.slice (Try.prog.elem 29)) := by kernel_rfl
  rw [run_sliceAt_slice (h := hu), run_slice_lhm (ht := hu) (h0 := by omega) (h1 := by omega) (h2 := by omega) (h3 := by omega)]
  have hz : (sizeOf (Try.prog.elem 29)).run Try.prog W = .ok 1 W := by kernel_rfl
  simp [hz, Result.andThen, sliced, show e ≠ 1 by omega, Addr.add]
theorem cut_from (W : World) (g j e n c : Nat) (h2 : e ≤ n) (h3 : n ≤ c) :
    (Instr.sliceAt 29 (.slice (some ⟨g, j, none⟩) n c) (some (.int .i64 (e : Int))) none none).run Try.prog W = .ok (.slice (some ⟨g, if c = e then j else j + e, none⟩) (n - e) (c - e)) W := by
  have hu : Try.prog.underlying 29 = some (.slice (Try.prog.elem 29)) := by kernel_rfl
  rw [run_sliceAt_slice (h := hu), run_slice_l (ht := hu) (h0 := by omega) (h1 := by omega)]
  have hz : (sizeOf (Try.prog.elem 29)).run Try.prog W = .ok 1 W := by kernel_rfl
  simp only [hz, Result.andThen, sliced]
  by_cases h : c = e
  · simp [h]
  · simp [h, Addr.add]

set_option maxRecDepth 100000 in
set_option maxHeartbeats 1000000 in
theorem pieces1_in (l gb g c : Nat) (C : List Nat) (hC : C.length ≤ 1000000) (hb : ∀ b ∈ C, b < 256) (J Jx : Nat → World → Prop)
    (hN : ∀ k W, J k W → Sl W g C c) (hJ : ∀ k A B, J k A → Below A.heap.size A B → J k B)
    (hY : ∀ m k W1 (hk : k < (parse C 0).length), J k W1 → YieldAt Fence.wide m Try.prog l #[pcV g (parse C 0)[k]] W1 fun e W' => (e = .returned (.bool true) ∧ J (k + 1) W') ∨ (e = .returned (.bool false) ∧ Jx k W'))
    (W : World) (hgb : W.cell? ⟨gb, 0, none⟩ = some (.slice (some ⟨g, 0, none⟩) C.length c)) (h0 : J 0 W) :
    CallsIn Fence.wide (3 - 1) Try.prog 30 #[.func (.yield l) #[] #[], .pointer (some ⟨gb, 0, none⟩)] W fun e W' =>
      (∃ v, e = .returned v) ∧ (J (parse C 0).length W' ∨ ∃ k, Jx k W') := by
  obtain ⟨xs, hxs⟩ : ∃ xs, parse C 0 = xs := ⟨_, rfl⟩
  have HX := Lib.hid hxs
  have HY := Lib.hid hY
  have HJ := Lib.hid hJ
  have HN := Lib.hid hN
  rw [hxs] at HY ⊢
  have hcap := (hN _ _ h0).cap
  obtain ⟨n, hn⟩ : ∃ n, C.length = n := ⟨_, rfl⟩
  have HL := Lib.hid hn
  rw [hn] at hC hgb hcap
  have h0' := Lib.hid h0
  clear hxs hY hJ hN hn h0
  refine callsIn_of_wp Try.func30 rfl trivial ?_ rfl
  simp only [Try.ntmps30, List.size_toArray, List.length_cons, List.length_nil, Nat.reduceAdd, Nat.reduceSub, Array.replicate_succ, Array.replicate_zero, List.push_toArray, List.append_toArray, List.nil_append, List.cons_append]
  gi_wp2
  gi_loopw [3] (fun v wr => ∃ i j k, i ≤ n ∧ v = .slice (some ⟨g, j, none⟩) (n - i) (c - i) ∧ (i < n → j = i) ∧ xs.drop k = parse C i ∧ J k wr ∧ k ≤ xs.length) (fun v _ => lenV v)
  case atStart => exact ⟨0, 0, 0, Nat.zero_le _, rfl, fun _ => rfl, by rw [HX.out]; rfl, h0'.out, Nat.zero_le _⟩
  case round =>
    clear h0' hgb
    obtain ⟨i, j, k, hi, rfl, hij, hd, hJk, hkl⟩ := hrel
    obtain ⟨r, hr⟩ : ∃ r, n - i = r := ⟨_, rfl⟩
    obtain ⟨cr, hcr⟩ : ∃ cr, c - i = cr := ⟨_, rfl⟩
    rw [hr, hcr]
    have hrc : r ≤ cr := by omega
    have HJk := Lib.hid hJk
    rcases Nat.lt_or_ge 1 r with g1 | g1
    · obtain rfl := hij (by omega)
      have d1 : decide ((1 : Int) < (r : Int)) = true := decide_eq_true (by omega)
      have d1' : decide (1 < r) = true := decide_eq_true g1
      have hsl := HN.out _ _ hJk
      have c0 := hsl.get j (by rw [HL.out]; omega)
      have c1 := hsl.get (j + 1) (by rw [HL.out]; omega)
      have hm256 : C.getD j 0 < 256 := by
        rw [List.getD_eq_getElem?_getD, List.getElem?_eq_getElem (by rw [HL.out]; omega)]
        exact hb _ (List.getElem_mem _)
      have hd256 : C.getD (j + 1) 0 < 256 := by
        rw [List.getD_eq_getElem?_getD, List.getElem?_eq_getElem (by rw [HL.out]; omega)]
        exact hb _ (List.getElem_mem _)
      obtain ⟨q, hq⟩ : ∃ q, C.getD j 0 = q := ⟨_, rfl⟩
      obtain ⟨d, hdd⟩ : ∃ d, C.getD (j + 1) 0 = d := ⟨_, rfl⟩
      rw [hq] at c0 hm256
      rw [hdd] at c1 hd256
      have i1 : (0 : Int) < (r : Int) := by omega
      have i2 : (1 : Int) < (r : Int) := by omega
      have i3 : 0 < r := by omega
      have hw0 : IntKind.i64.wrap (q : Int) = (q : Int) := by rw [IntKind.wrap_i64]; omega
      have hw1 : IntKind.i64.wrap (d : Int) = (d : Int) := by rw [IntKind.wrap_i64]; omega
      by_cases g2 : q < 128
      · have d2 : decide ((q : Int) < 128) = true := decide_eq_true (by omega)
        have d2' : decide (q < 128) = true := decide_eq_true g2
        have hw2 : IntKind.i64.wrap ((q : Int) - 124) = (q : Int) - 124 := by rw [IntKind.wrap_i64]; omega
        have hw3 : IntKind.i64.wrap (2 + (q : Int)) = ((q + 2 : Nat) : Int) := by rw [IntKind.wrap_i64]; omega
        obtain ⟨e, he⟩ : ∃ e, q + 2 = e := ⟨_, rfl⟩
        rw [he] at hw3
        obtain ⟨gp, hgp⟩ : ∃ gp, wr.heap.size = gp := ⟨_, rfl⟩
        by_cases g3 : e ≤ r
        · have d3 : decide ((r : Int) < (e : Int)) = false := decide_eq_false (by omega)
          have d3' : decide (r < e) = false := decide_eq_false (by omega)
          have hpc := parse_run C j q (by rw [HL.out]; omega) hq g2 (by rw [HL.out]; omega)
          rw [hpc] at hd
          obtain ⟨hk, hx, hd2⟩ := drop_cons hd
          have hc3 : (Instr.sliceAt 29 (.slice (some ⟨g, j, none⟩) r cr) (some (.int .i64 1)) (some (.int .i64 (e : Int))) (some (.int .i64 (e : Int)))).run Try.prog = fun W => .ok (.slice (some ⟨g, j + 1, none⟩) (e - 1) (e - 1)) W := by
            funext W
            exact cut3 W g j e r cr (by omega) g3 hrc
          have hcf : (Instr.sliceAt 29 (.slice (some ⟨g, j, none⟩) r cr) (some (.int .i64 (e : Int))) none none).run Try.prog = fun W => .ok (.slice (some ⟨g, if cr = e then j else j + e, none⟩) (r - e) (cr - e)) W := by
            funext W
            exact cut_from W g j e r cr g3 hrc
          obtain ⟨j2, hj2⟩ : ∃ j2, (if cr = e then j else j + e) = j2 := ⟨_, rfl⟩
          rw [hj2] at hcf
          have HJ2 := Lib.hid hj2
          have HD2 := Lib.hid (show xs.drop (k + 1) = parse C (j + e) by rw [hd2, ← he]; congr 1; omega)
          have HXX : Hid (∃ hk : k < xs.length, xs[k] = Pc.run (j + 1) (e - 1)) := Lib.hid ⟨hk, by rw [hx, show q + 1 = e - 1 by omega]⟩
          obtain ⟨hk', hx'⟩ := HXX.out
          obtain ⟨fn, tmps, assign, body, hy, hRd⟩ := HY.out (3 - 1 - 1) k _ hk' (HJ.out k _ _ HJk.out ((Below.refl _ wr).alloc (Nat.le_refl _) (Obj.cells #[.slice (some ⟨g, j + 1, none⟩) (e - 1) (e - 1), .int .i64 0, .int .i64 0] 47)))
          rw [hx', show pcV g (.run (j + 1) (e - 1)) = .agg #[.slice (some ⟨g, j + 1, none⟩) (e - 1) (e - 1), .int .i64 0, .int .i64 0] from rfl] at hy
          have HRD := Lib.hid hRd
          have HE := Lib.hid he
          clear hpc hd hx hk hd2 hq hdd hJk hsl hj2 hij he hx' hk' hRd
          gi_wp2
          refine HRD.out.mono ?_
          rintro e' W2 (⟨rfl, hJ3⟩ | ⟨rfl, hJx3⟩)
          · gi_wp2
            refine ⟨⟨j + e, j2, k + 1, by omega, ?_, ?_, HD2.out, hJ3, by obtain ⟨h, _⟩ := HXX.out; omega⟩, ?_⟩
            · rw [show r - e = n - (j + e) by omega, show cr - e = c - (j + e) by omega]
            · intro h
              have := HJ2.out
              rw [if_neg (by omega)] at this
              omega
            · show r - e < r
              have := HE.out
              omega
          · gi_wp2
            refine bodyPost_ret (results_none rfl _ _ _) rfl ?_
            exact ⟨⟨_, rfl⟩, .inr ⟨_, hJx3⟩⟩
        · have d3 : decide ((r : Int) < (e : Int)) = true := decide_eq_true (by omega)
          have d3' : decide (r < e) = true := decide_eq_true (by omega)
          rw [parse_bad C j q (by rw [HL.out]; omega) hq g2 (by rw [HL.out]; omega)] at hd
          have hkx : k = xs.length := by
            have := congrArg List.length hd
            rw [List.length_drop, List.length_nil] at this; omega
          have HK := Lib.hid hkx
          clear hd hkx hq hdd hJk hsl hij he
          gi_wp2
          refine bodyPost_ret (results_none rfl _ _ _) rfl ?_
          exact ⟨⟨_, rfl⟩, .inl (by rw [← HK.out]; exact HJ.out k _ _ HJk.out ((Below.refl _ wr).alloc (by rw [hgp]; exact Nat.le_refl _) _))⟩
      · have hpc := parse_copy C j q d (by rw [HL.out]; omega) hq hdd g2
        rw [hpc] at hd
        obtain ⟨hk, hx, hd2⟩ := drop_cons hd
        have hw2 : IntKind.i64.wrap ((q : Int) - 124) = ((q - 124 : Nat) : Int) := by rw [IntKind.wrap_i64]; omega
        obtain ⟨p, hp⟩ : ∃ p, q - 124 = p := ⟨_, rfl⟩
        rw [hp] at hw2 hx
        have d2 : decide ((q : Int) < 128) = false := decide_eq_false (by omega)
        have d2' : decide (q < 128) = false := decide_eq_false (by omega)
        obtain ⟨gp, hgp⟩ : ∃ gp, wr.heap.size = gp := ⟨_, rfl⟩
        have HD2 := Lib.hid hd2
        have HXX : Hid (∃ hk : k < xs.length, xs[k] = Pc.copy p d) := Lib.hid ⟨hk, hx⟩
        obtain ⟨fn, tmps, assign, body, hy, hRd⟩ := HY.out (3 - 1 - 1) k _ hk (HJ.out k _ _ HJk.out ((Below.refl _ wr).alloc (Nat.le_refl _) (Obj.cells #[.slice none 0 0, .int .i64 (p : Int), .int .i64 (d : Int)] 47)))
        rw [hx, show pcV g (.copy p d) = .agg #[.slice none 0 0, .int .i64 (p : Int), .int .i64 (d : Int)] from rfl] at hy
        have HRD := Lib.hid hRd
        have hcf : (Instr.sliceAt 29 (.slice (some ⟨g, j, none⟩) r cr) (some (.int .i64 2)) none none).run Try.prog = fun W => .ok (.slice (some ⟨g, if cr = 2 then j else j + 2, none⟩) (r - 2) (cr - 2)) W := by
          funext W
          exact cut_from W g j 2 r cr (by omega) hrc
        obtain ⟨j2, hj2⟩ : ∃ j2, (if cr = 2 then j else j + 2) = j2 := ⟨_, rfl⟩
        rw [hj2] at hcf
        have HJ2 := Lib.hid hj2
        clear hpc hd hx hk hd2 hq hdd hp hJk hsl hRd hj2 hij
        gi_wp2
        refine HRD.out.mono ?_
        rintro e W2 (⟨rfl, hJ3⟩ | ⟨rfl, hJx3⟩)
        · gi_wp2
          refine ⟨⟨j + 2, j2, k + 1, by omega, ?_, ?_, HD2.out, hJ3, by obtain ⟨h, _⟩ := HXX.out; omega⟩, ?_⟩
          · rw [show r - 2 = n - (j + 2) by omega, show cr - 2 = c - (j + 2) by omega]
          · intro h
            have := HJ2.out
            rw [if_neg (by omega)] at this
            omega
          · show r - 2 < r
            omega
        · gi_wp2
          refine bodyPost_ret (results_none rfl _ _ _) rfl ?_
          exact ⟨⟨_, rfl⟩, .inr ⟨_, hJx3⟩⟩
    · have d1 : decide ((1 : Int) < (r : Int)) = false := decide_eq_false (by omega)
      have d1' : decide (1 < r) = false := decide_eq_false (by omega)
      rw [parse_end C i (by rw [HL.out]; omega)] at hd
      have hkx : k = xs.length := by
        have := congrArg List.length hd
        rw [List.length_drop, List.length_nil] at this; omega
      have HK := Lib.hid hkx
      clear hd hkx hJk
      gi_wp2
      go_end0
      exact ⟨⟨_, rfl⟩, .inl (by rw [← HK.out]; exact HJk.out)⟩

theorem pieces_yields (gb g c : Nat) (C : List Nat) (hC : C.length ≤ 1000000) (hb : ∀ b ∈ C, b < 256) (w : World) (hgb : w.cell? ⟨gb, 0, none⟩ = some (.slice (some ⟨g, 0, none⟩) C.length c)) :
    Rfp.Yields Fence.wide (3 - 1) Try.prog 30 #[.pointer (some ⟨gb, 0, none⟩)] (fun x : Pc => #[pcV g x]) (fun W => Sl W g C c) (parse C 0) w := by
  intro l J Jx W hW hN hJ hY h0
  exact pieces1_in l gb g c C hC hb J Jx hN hJ (fun m k W1 hk hj => yieldAt_any m (hY k hk W1 hj)) W ((hW.cell (p := ⟨gb, 0, none⟩) (block_lt_of_cell hgb)).trans hgb) h0

end Go.Proofs.Ytnploljhikljfaa
