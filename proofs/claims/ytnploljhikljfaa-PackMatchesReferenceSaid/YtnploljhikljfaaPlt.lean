/-
  PackRoundTrip: for every two strings and two slices of rows of integers the law returns true.
-/
import Derived.Test.YtnploljhikljfaaPlb
import Derived.Deep.Cut
namespace Go.Proofs.Ytnploljhikljfaa
open Go.RowKit Bs Pk

/-- strings as values -/
def svs (l : List (List UInt8)) : List Value := l.map fun s => Value.string (bs s)
/-- the slice v holds the strings l, at or behind the block 'base', and nobody else writes there -/
structure OwnT (W : World) (base : Nat) (v : Value) (l : List (List UInt8)) : Prop where
  row : W.ownsRow base 9 1 v l.length (svs l)
theorem OwnT.nil (W : World) (base : Nat) : OwnT W base (.slice none 0 0) [] := ⟨World.ownsRow_nil _ _ _ _⟩
theorem OwnT.shape {W : World} {base : Nat} {v : Value} {l : List (List UInt8)} (h : OwnT W base v l) : ∃ a c, v = .slice a l.length c ∧ (∀ i (hi : i < l.length), ∃ g, a = some ⟨g, 0, none⟩ ∧ W.cell? ⟨g, i, none⟩ = some (.string (bs l[i]))) := by
  rcases h.row.2 with ⟨rfl, h0⟩ | ⟨g, cap, cur, rfl, hb, hrow, h1, h2, h3, htake⟩
  · have : l = [] := List.length_eq_zero_iff.1 h0
    subst this
    exact ⟨none, 0, rfl, fun i hi => by simp at hi⟩
  · refine ⟨_, cap, rfl, fun i hi => ⟨g, rfl, ?_⟩⟩
    rw [cell_of_row W g i _ _ _ hrow, ← Array.getElem?_toList]
    have e1 : cur.toList[i]? = (cur.toList.take (l.length * 1))[i]? := by rw [List.getElem?_take, if_pos (by omega)]
    rw [e1, htake]
    simp [svs, hi]
theorem OwnT.block {W : World} {base : Nat} {v : Value} {l : List (List UInt8)} (h : OwnT W base v l) (j : Nat) (hj : v.ownBlock = some j) : base ≤ j := by
  rcases h.row.2 with ⟨rfl, _⟩ | ⟨g, cap, cur, rfl, hb, _⟩
  · cases hj
  · cases hj; exact hb
theorem OwnT.lt {W : World} {base : Nat} {v : Value} {l : List (List UInt8)} (h : OwnT W base v l) (j : Nat) (hj : v.ownBlock = some j) : j < W.heap.size := by
  rcases h.row.2 with ⟨rfl, _⟩ | ⟨g, cap, cur, rfl, _, hrow, _⟩
  · cases hj
  · cases hj; exact (Array.getElem?_eq_some_iff.1 hrow).1
theorem OwnT.alloc {W : World} {base : Nat} {v : Value} {l : List (List UInt8)} (h : OwnT W base v l) (o : Obj) : OwnT (W.alloc o) base v l := ⟨h.row.alloc o⟩
theorem OwnT.later {W W' : World} {base : Nat} {v : Value} {l : List (List UInt8)} (h : OwnT W base v l) (hb : Below W.heap.size W W') : OwnT W' base v l := by
  refine ⟨h.row.1, ?_⟩
  rcases h.row.2 with h0 | ⟨g, cap, cur, rfl, h1, h2, h3⟩
  · exact .inl h0
  · exact .inr ⟨g, cap, cur, rfl, h1, (hb.block g (h.lt g rfl)).trans h2, h3⟩
theorem OwnT.drewN {W : World} {base : Nat} {v : Value} {l : List (List UInt8)} (h : OwnT W base v l) (q : Nat) : OwnT (W.drewN q) base v l := ⟨h.row.1, h.row.2⟩
theorem Ls.drewN {W : World} {g : Nat} {l : List ByteArray} (h : Ls W g l) (q : Nat) : Ls (W.drewN q) g l := ⟨h.row⟩
theorem infoStrT : (Try.prog.info? 9).map (fun i => (i.zero, i.size, i.bytes)) = some (some (.string ByteArray.empty), 1, 16) := by kernel_rfl
/-- one string more -/
theorem wpList_pushT {w : World} {ops : Array Oper} {rest : List Oper} {o : Oper} {a : Act} {Q : Exit → Act → World → Prop} (hgd : o.guard = none) (s x : Operand)
    (ho : o.op = .call { callee := .builtin .append, args := #[s, x], argTypes := #[31, 31] })
    (base : Nat) (v : Value) (l : List (List UInt8)) (hs : a.eval s = v) (hown : OwnT w base v l) (ad : Addr) (c : Nat) (y : List UInt8) (hx : a.eval x = .slice (some ad) 1 c)
    (hc : w.cell? (ad.add 0) = some (.string (bs y))) (hlen : l.length ≤ 2000000) (hbase : base ≤ w.heap.size)
    (h : ∀ v' w', OwnT w' base v' (l ++ [y]) → Below base w w' → wpList Try.prog ops Q rest (a.put o.dst v') w') : wpList Try.prog ops Q (o :: rest) a w := by
  obtain ⟨i0, hi, hz0, hz1, hz2⟩ := info_parts infoStrT
  refine wpList_append_own w hgd s x 31 ho base 9 i0 (.string ByteArray.empty) 1 16 Try.underlying31 hi hz0 hz1 hz2 rfl (by omega) v l.length (svs l) hs hown.row ad 1 c [.string (bs y)] hx rfl ?_ ?_ ?_ ?_ hbase ?_
  · intro j u hj
    match j, hj with
    | 0, hj => simp at hj; subst hj; exact hc
  · intro u hu; simp at hu; subst hu; rfl
  · unfold maxLen; omega
  · omega
  · intro v' w' hown' hgrow _
    refine h v' w' ⟨?_⟩ ((Below.refl base w).grown hgrow hbase hown.block)
    rw [show svs (l ++ [y]) = svs l ++ [.string (bs y)] by simp [svs], List.length_append]
    exact hown'
/-- a string's encoding -/
def encS (u : List UInt8) : List UInt8 := ub (enc (nb u))
theorem encS_inj {u v : List UInt8} (hu : u.length ≤ 4096) (hv : v.length ≤ 4096) : encS u = encS v ↔ u = v := by
  refine ⟨fun h => ?_, fun h => by rw [h]⟩
  have h2 : enc (nb u) = enc (nb v) := by
    rw [← nb_ub (enc_lt _ (nb_lt u)), ← nb_ub (enc_lt _ (nb_lt v))]
    exact congrArg nb h
  exact nb_inj (enc_inj (by rw [nb_length]; exact hu) (by rw [nb_length]; exact hv) h2)

set_option maxRecDepth 100000 in
set_option maxHeartbeats 8000000 in
theorem PackRoundTrip_any (s t : ByteArray) (a : Option Addr) (n c : Nat) (a2 : Option Addr) (n2 c2 : Nat) (w : World) (hR : IsRows3 w a n) (hR2 : IsRows3 w a2 n2) :
    Calls Try.prog 5 #[.string s, .string t, .slice a n c, .slice a2 n2 c2] w fun e w' => e = .returned (.bool true) ∧ Below w.heap.size w w' := by
  obtain ⟨t0, ht0, PC⟩ := pcut_any s
  obtain ⟨t1, ht1, PC2⟩ := pcut_any t
  have HS := Lib.hid psane_any
  replace PC := Lib.hid PC
  replace PC2 := Lib.hid PC2
  have HM := Lib.hid (fun W (h : IsRows3 W a n) => Made_any a n c W h)
  have HM2 := Lib.hid (fun W (h : IsRows3 W a2 n2) => Made_any a2 n2 c2 W h)
  have HRK : ∀ (a : Option Addr) (n : Nat), IsRows3 w a n → ∀ W, Below w.heap.size w W → IsRows3 W a n := fun a n hR W hb => by
    refine ⟨hR.1, hR.2.imp id ?_⟩
    rintro ⟨b, off, rfl, h⟩
    refine ⟨b, off, rfl, fun i j hi hj => ?_⟩
    obtain ⟨z, hz, hzb⟩ := h i j hi hj
    exact ⟨z, (hb.cell (p := ⟨b, off + i * 3 + j, none⟩) (block_lt_of_cell hz)).trans hz, hzb⟩
  have HRW := Lib.hid (HRK a n hR)
  have HRW2 := Lib.hid (HRK a2 n2 hR2)
  have HB := Lib.hid (Below.refl w.heap.size w)
  clear hR hR2 HRK
  go_enter Try.func5, Try.ntmps5
  go_wp2_with (first
    | (go_at_call 10; (with_reducible refine (HS.out _).mono ?_); rintro e w1 ⟨rfl, hB⟩; replace HB := Lib.hid (below_on HB.out hB HB.out.size); clear hB)
    | (go_at_call 11; (with_reducible refine (PC.out _).mono ?_); rintro e ww ⟨rfl, hww⟩; rw [hww]; clear hww ww)
    | (go_at_call 11; (with_reducible refine (PC2.out _).mono ?_); rintro e ww ⟨rfl, hww⟩; rw [hww]; clear hww ww)
    | (go_at_call 12; (with_reducible refine (HM.out _ (HRW.out _ HB.out)).mono ?_); rintro e w2 ⟨t2, ht2, rfl, hB⟩; replace HB := Lib.hid (below_on HB.out hB HB.out.size); clear hB HM)
    | (go_at_call 12; (with_reducible refine (HM2.out _ (HRW2.out _ HB.out)).mono ?_); rintro e w2 ⟨t3, ht3, rfl, hB⟩; replace HB := Lib.hid (below_on HB.out hB HB.out.size); clear hB))
  have hws := HB.out.size
  have hL0 : Ls (w2.alloc (Obj.cells #[Value.string (bs t0), Value.string (bs t1), Value.string (bs t2), Value.string (bs t3)] 9)) w2.heap.size ([t0, t1, t2, t3].map bs) := ⟨heap_alloc_new _ _⟩
  have hLS : ∀ u ∈ [t0, t1, t2, t3], u.length ≤ 600 := by
    intro u hu
    simp only [List.mem_cons, List.not_mem_nil, or_false] at hu
    rcases hu with rfl | rfl | rfl | rfl <;> assumption
  have hLl : [t0, t1, t2, t3].length = 4 := rfl
  have HB0 : Hid (Below w.heap.size w (w2.alloc (Obj.cells #[Value.string (bs t0), Value.string (bs t1), Value.string (bs t2), Value.string (bs t3)] 9))) := Lib.hid (HB.out.alloc hws _)
  obtain ⟨L, hL⟩ : ∃ L, [t0, t1, t2, t3] = L := ⟨_, rfl⟩
  rw [hL] at hL0 hLS hLl
  have HLS := Lib.hid hLS
  have HLL := Lib.hid hLl
  obtain ⟨gl, hgl⟩ : ∃ gl, w2.heap.size = gl := ⟨_, rfl⟩
  obtain ⟨w3, hw3⟩ : ∃ w3, w2.alloc (Obj.cells #[Value.string (bs t0), Value.string (bs t1), Value.string (bs t2), Value.string (bs t3)] 9) = w3 := ⟨_, rfl⟩
  have hg3 : gl < w3.heap.size := by rw [← hw3, World.size_alloc, hgl]; omega
  rw [hw3, hgl] at hL0
  rw [hw3] at HB0
  rw [hw3, hgl]
  have HL0 := Lib.hid hL0
  clear hw3 hgl hws HB HM2 HRW HRW2 HS PC PC2 hL hLS hLl hL0 ht0 ht1 ht2 ht3
  go_loopw [11, 12] (fun v i wr => ∃ k : Nat, k ≤ 4 ∧ i = .int .i64 k ∧ OwnT wr w3.heap.size v ((L.take k).map encS) ∧ Ls wr gl (L.map bs) ∧ Below w3.heap.size w3 wr) (fun _ i _ => 4 - (intOf i).toNat)
  case atStart => exact ⟨0, by omega, rfl, OwnT.nil _ _, HL0.out, Below.refl _ _⟩
  case round =>
    clear HL0
    obtain ⟨k, hk, rfl, hown, hLw, hB⟩ := hrel
    rcases Nat.lt_or_ge k 4 with g1 | g1
    · have hkL : k < L.length := by rw [HLL.out]; exact g1
      have HCU : Hid (∀ (W : World) (j : Nat) (hj : j < L.length), Ls W gl (L.map bs) → W.cell? ⟨gl, j, none⟩ = some (.string (bs L[j]))) := Lib.hid (fun W j hj h => by
        have := h.get j (by simpa using hj)
        simpa using this)
      have hul := HLS.out _ (List.getElem_mem hkL)
      have hcu := HCU.out wr k hkL hLw
      obtain ⟨u, hu⟩ : ∃ u, L[k] = u := ⟨_, rfl⟩
      rw [hu] at hul hcu
      have HU := Lib.hid hu
      have d1 : decide ((k : Int) < 4) = true := decide_eq_true (by omega)
      have i1 : (0 : Int) ≤ (k : Int) := by omega
      have i2 : (k : Int) < 4 := by omega
      have EN := fun W => Encode_ok u (by omega) W
      have hgd : good (nb (encS u)) := by
        unfold encS
        rw [nb_ub (enc_lt _ (nb_lt u))]
        exact good_enc _ (by rw [nb_length]; omega)
      have DE := fun W => Decode_ok (encS u) hgd W
      rw [show ub (whole (nb (encS u))) = u by unfold encS; rw [nb_ub (enc_lt _ (nb_lt u)), whole_enc _ (by rw [nb_length]; omega), ub_nb]] at DE
      have hXX := show bs (ub (enc (nb u))) = bs (encS u) from rfl
      rw [hXX] at EN
      have hw7 : IntKind.i64.wrap ((k : Int) + 1) = ((k + 1 : Nat) : Int) := by rw [IntKind.wrap_i64]; omega
      obtain ⟨S, hS⟩ : ∃ S, bs u = S := ⟨_, rfl⟩
      obtain ⟨C, hC⟩ : ∃ C, bs (encS u) = C := ⟨_, rfl⟩
      rw [hS] at EN DE hcu
      rw [hC] at EN DE
      have HSU := Lib.hid hS
      have HCU2 := Lib.hid hC
      have HE := Lib.hid EN
      have HD := Lib.hid DE
      have HOW := Lib.hid hown
      have HLW := Lib.hid hLw
      have HB := Lib.hid hB
      clear hu hS hC EN DE hgd hXX hown hLw hB
      obtain ⟨xa, xc, hxv, hxcell⟩ := HOW.out.shape
      have hxl : ((L.take k).map encS).length = k := by rw [List.length_map, List.length_take]; omega
      rw [hxl] at hxv
      subst hxv
      clear hxcell
      go_wp2_with (first
        | (go_at_call 15; (with_reducible refine (HE.out _).mono ?_); rintro e w4 ⟨rfl, hB4⟩; replace HOW := Lib.hid (HOW.out.later hB4); replace HLW := Lib.hid (HLW.out.later hB4); replace HB := Lib.hid (below_on HB.out hB4 HB.out.size); clear hB4 hcu)
        | (go_at_call 16; (with_reducible refine (HD.out _).mono ?_); rintro e w5 ⟨rfl, hB5⟩; replace HOW := Lib.hid (HOW.out.later hB5); replace HLW := Lib.hid (HLW.out.later hB5); replace HB := Lib.hid (below_on HB.out hB5 HB.out.size); clear hB5; have hcu : w5.cell? ⟨gl, k, none⟩ = some (.string S) := (by have h := HCU.out w5 k hkL HLW.out; rw [HU.out, HSU.out] at h; exact h)))
      go_loopw [17] (fun i wr => ∃ j : Nat, j ≤ k ∧ i = .int .i64 j ∧ OwnT wr w3.heap.size (.slice xa k xc) ((L.take k).map encS) ∧ Ls wr gl (L.map bs) ∧ Below w3.heap.size w3 wr) (fun i _ => k - (intOf i).toNat)
      case atStart => exact ⟨0, by omega, rfl, HOW.out, HLW.out, HB.out⟩
      case round =>
        clear HOW HLW HB hcu
        obtain ⟨j, hj, rfl, hown, hLw, hB⟩ := hrel
        have hcu : wr.cell? ⟨gl, k, none⟩ = some (.string S) := by have h := HCU.out wr k hkL hLw; rw [HU.out, HSU.out] at h; exact h
        rcases Nat.lt_or_ge j k with g2 | g2
        · have d2 : decide ((j : Int) < (k : Int)) = true := decide_eq_true (by omega)
          have hjL : j < L.length := by omega
          have hvl := HLS.out _ (List.getElem_mem hjL)
          have hcv := HCU.out wr j hjL hLw
          obtain ⟨ya, yc, hyv, hycell⟩ := hown.shape
          obtain ⟨gx, hgx, hcx⟩ := hycell j (by rw [hxl]; exact g2)
          injection hyv with e1 e2 e3
          subst e1
          subst hgx
          have hEj : ((L.take k).map encS)[j]'(by rw [hxl]; exact g2) = encS L[j] := by simp
          rw [hEj] at hcx
          obtain ⟨v, hv⟩ : ∃ v, L[j] = v := ⟨_, rfl⟩
          rw [hv] at hvl hcv hcx
          have hb1 : ((bs (encS v)).toList == C.toList) = decide (v = u) := by
            rw [← HCU2.out, bs_toList, bs_toList]
            by_cases h : v = u
            · subst h; simp
            · rw [decide_eq_false h]; exact beq_eq_false_iff_ne.2 (fun h2 => h ((encS_inj (by omega) (by omega)).1 h2))
          have hb2 : ((bs v).toList == S.toList) = decide (v = u) := by
            rw [← HSU.out, bs_toList, bs_toList]
            by_cases h : v = u
            · subst h; simp
            · rw [decide_eq_false h]; exact beq_eq_false_iff_ne.2 h
          obtain ⟨bq, hbq⟩ : ∃ bq, decide (v = u) = bq := ⟨_, rfl⟩
          rw [hbq] at hb1 hb2
          obtain ⟨V, hV⟩ : ∃ V, bs v = V := ⟨_, rfl⟩
          obtain ⟨D, hD⟩ : ∃ D, bs (encS v) = D := ⟨_, rfl⟩
          rw [hV] at hcv hb2
          rw [hD] at hcx hb1
          have i3 : (0 : Int) ≤ (j : Int) := by omega
          have i4 : (j : Int) < (k : Int) := by omega
          have i5 : (j : Int) < 4 := by omega
          have HOW := Lib.hid hown
          have HLW := Lib.hid hLw
          have HB := Lib.hid hB
          clear hv hV hD hbq hown hLw hB hycell e2 e3 hEj
          go_wp2_with fail
          go_quiet (fail)
          go_wp2_with fail
          go_roundw
          case rel => exact ⟨j + 1, by omega, by go_num, HOW.out.drewN _, HLW.out.drewN _, below_drewN HB.out nq⟩
          case measure => simp [intOf]; omega
        · obtain rfl : j = k := by omega
          have d2 : decide ((j : Int) < (j : Int)) = false := decide_eq_false (by omega)
          have hTk : (L.take (j + 1)).map encS = (L.take j).map encS ++ [encS u] := by
            rw [List.take_succ_eq_append_getElem hkL, List.map_append, HU.out]; rfl
          obtain ⟨CL, hCL⟩ : ∃ CL, (L.take j).map encS = CL := ⟨_, rfl⟩
          rw [hCL] at hTk hown hxl
          have HTK := Lib.hid hTk
          have HOW := Lib.hid hown
          have HLW := Lib.hid hLw
          have HB := Lib.hid hB
          have hws := hB.size
          have HXL := Lib.hid hxl
          clear hCL
          clear hTk hown hLw hB hxl
          have hfc : Hid ((wr.alloc (Obj.cells #[Value.string C] 9)).cell? ((⟨wr.heap.size, 0, none⟩ : Addr).add 0) = some (.string (bs (encS u)))) := Lib.hid (by rw [HCU2.out]; exact fresh_cell _ _ _)
          have HLa : Hid (Ls (wr.alloc (Obj.cells #[Value.string C] 9)) gl (L.map bs)) := Lib.hid ⟨(heap_alloc_old _ _ _ HLW.out.lt).trans HLW.out.row⟩
          go_wp2_with (refine wpList_pushT rfl _ _ rfl w3.heap.size _ CL rfl (HOW.out.alloc _) ⟨wr.heap.size, 0, none⟩ 1 (encS u) rfl hfc.out (by rw [HXL.out]; omega) (by rw [World.size_alloc]; omega) ?_)
          intro v6 w6 hown6 hB6
          rw [← HTK.out] at hown6
          have HOW6 := Lib.hid hown6
          have HLW6 := Lib.hid (HLa.out.below hB6 hg3)
          have HB6 := Lib.hid ((HB.out.alloc hws _).trans hB6)
          have hcu6 : w6.cell? ⟨gl, j, none⟩ = some (.string S) := by have h := HCU.out w6 j hkL HLW6.out; rw [HU.out, HSU.out] at h; exact h
          clear hown6 hB6 HOW HLW HB hcu HLa
          by_cases hg : good (nb u)
          · have DE2 := Lib.hid (fun W => Decode_ok u hg W)
            have EN2 := Lib.hid (fun W => Encode_ok (ub (whole (nb u))) (by rw [ub_length1]; exact hg.1) W)
            rw [HSU.out] at DE2
            rw [nb_ub (whole_lt u), hg.2, ub_nb, HSU.out] at EN2
            obtain ⟨T, hT⟩ : ∃ T, bs (ub (whole (nb u))) = T := ⟨_, rfl⟩
            rw [hT] at DE2 EN2
            clear hT HE HD
            go_wp2_with (first
              | (go_at_call 16; (with_reducible refine (DE2.out _).mono ?_); rintro e w7 ⟨rfl, hB7⟩; replace HOW6 := Lib.hid (HOW6.out.later hB7); replace HLW6 := Lib.hid (HLW6.out.later hB7); replace HB6 := Lib.hid (below_on HB6.out hB7 HB6.out.size); clear hB7 hcu6)
              | (go_at_call 15; (with_reducible refine (EN2.out _).mono ?_); rintro e w8 ⟨rfl, hB8⟩; replace HOW6 := Lib.hid (HOW6.out.later hB8); replace HLW6 := Lib.hid (HLW6.out.later hB8); replace HB6 := Lib.hid (below_on HB6.out hB8 HB6.out.size); clear hB8; have hcu : w8.cell? ⟨gl, j, none⟩ = some (.string S) := (by have h := HCU.out w8 j hkL HLW6.out; rw [HU.out, HSU.out] at h; exact h)))
            go_roundw
            case rel => exact ⟨j + 1, by omega, by go_num, HOW6.out, HLW6.out, HB6.out⟩
            case measure => simp [intOf]; omega
          · have DE2 := Lib.hid (fun W => Decode_no u (by omega) hg W)
            rw [HSU.out] at DE2
            clear HE HD
            go_wp2_with (go_at_call 16; (with_reducible refine (DE2.out _).mono ?_); rintro e w7 ⟨rfl, hB7⟩; replace HOW6 := Lib.hid (HOW6.out.later hB7); replace HLW6 := Lib.hid (HLW6.out.later hB7); replace HB6 := Lib.hid (below_on HB6.out hB7 HB6.out.size); clear hB7 hcu6)
            go_roundw
            case rel => exact ⟨j + 1, by omega, by go_num, HOW6.out, HLW6.out, HB6.out⟩
            case measure => simp [intOf]; omega
    · obtain rfl : k = 4 := by omega
      obtain ⟨xa, xc, hxv, -⟩ := hown.shape
      have HB := Lib.hid hB
      clear hown hLw hB
      go_wp2_with fail
      go_ret
      exact ⟨rfl, below_on HB0.out HB.out HB0.out.size⟩

end Go.Proofs.Ytnploljhikljfaa
