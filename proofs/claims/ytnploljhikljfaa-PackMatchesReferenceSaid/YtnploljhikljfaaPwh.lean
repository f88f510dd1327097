/-
  Package pack: Decode.
-/
import Derived.Test.YtnploljhikljfaaPwg
namespace Go.Proofs.Ytnploljhikljfaa
open Go.RowKit Bs Pk

theorem ub_nb (l : List UInt8) : ub (nb l) = l := by
  unfold ub nb
  rw [List.map_map]
  conv => rhs; rw [← List.map_id l]
  apply List.map_congr_left
  intro b _
  simp
/-- what a code stands for, if it is an encoding -/
def good (c : List Nat) : Prop := (whole c).length ≤ 4096 ∧ enc (whole c) = c
theorem good_enc (s : List Nat) (hs : s.length ≤ 4096) : good (enc s) := by
  unfold good
  rw [whole_enc s hs]; exact ⟨hs, rfl⟩
theorem good_len {c : List Nat} (h : good c) : c.length ≤ 4129 := by
  have := (enc_bound (whole c)).1
  rw [h.2] at this
  have := h.1
  omega
theorem whole_lt (l : List UInt8) : ∀ b ∈ whole (nb l), b < 256 := ex_lt _ (nb_lt l) _ _ (by simp)

theorem conv_all (l : List UInt8) (w : World) : (convert 9 29 (.string (bs l))).run Try.prog w = .ok (.slice (some ⟨w.heap.size, 0, none⟩) (nb l).length (bcap l w)) (bW l w) := by
  rw [nb_length]; exact bytes_run l w

set_option maxRecDepth 100000 in
set_option maxHeartbeats 1000000 in
theorem Decode_ok (l : List UInt8) (hg : good (nb l)) (w : World) :
    Calls Try.prog 16 #[.string (bs l)] w fun e w' => e = .returned (.tuple #[.string (bs (ub (whole (nb l)))), .int .i64 0]) ∧ Below w.heap.size w w' := by
  have hlen := good_len hg
  have hEx := fun (W : World) => expanded_any W.heap.size (bcap l W) (nb l) (by omega) (nb_lt l) (bW l W) (bW_sl l W)
  have hcv := conv_all l
  have hWl : (ub (whole (nb l))).length ≤ 4096 := by have := hg.1; simpa [ub] using this
  have hEn := fun (W : World) => Encode_ok (ub (whole (nb l))) hWl W
  rw [nb_ub (whole_lt l), hg.2, ub_nb] at hEn
  obtain ⟨S, hS⟩ : ∃ S, bs l = S := ⟨_, rfl⟩
  have hsz : S.size = (nb l).length := by rw [← hS, bs_size, nb_length]
  obtain ⟨T, hT⟩ : ∃ T, bs (ub (whole (nb l))) = T := ⟨_, rfl⟩
  rw [hS] at hcv hEn ⊢
  rw [hT] at hEx hEn ⊢
  obtain ⟨n, hn⟩ : ∃ n, (nb l).length = n := ⟨_, rfl⟩
  rw [hn] at hcv hEx hlen hsz
  have HEX := Lib.hid hEx
  have HEN := Lib.hid hEn
  have hbb := fun W => Lib.hid (bW_below l W)
  have d1 : decide ((4129 : Int) < (n : Int)) = false := decide_eq_false (by omega)
  have d1' : decide (4129 < n) = false := decide_eq_false (by omega)
  clear hS hT hEx hEn hWl hg hn
  go_enter Try.func16, Try.ntmps16
  go_wp2_with (first
    | (go_at_call 23; (with_reducible refine (HEX.out _).mono ?_); rintro e w1 ⟨rfl, hb1⟩)
    | (go_at_call 15; (with_reducible refine (HEN.out _).mono ?_); rintro e w2 ⟨rfl, hb2⟩))
  go_ret2
  exact ⟨rfl, below_on ((hbb w).out.trans (hb1.mono (hbb w).out.size)) hb2 (by have := hb1.size; have := (hbb w).out.size; omega)⟩

set_option maxRecDepth 100000 in
set_option maxHeartbeats 1000000 in
theorem Decode_no (l : List UInt8) (hl : l.length ≤ 1000000) (hg : ¬ good (nb l)) (w : World) :
    Calls Try.prog 16 #[.string (bs l)] w fun e w' => e = .returned (.tuple #[.string ByteArray.empty, .int .i64 70]) ∧ Below w.heap.size w w' := by
  have hcv := conv_all l
  by_cases hlen : 4129 < l.length
  · obtain ⟨S, hS⟩ : ∃ S, bs l = S := ⟨_, rfl⟩
    have hsz : S.size = l.length := by rw [← hS, bs_size]
    rw [hS]
    have d1 : decide ((4129 : Int) < (l.length : Int)) = true := decide_eq_true (by omega)
    have d1' : decide (4129 < l.length) = true := decide_eq_true hlen
    clear hcv
    go_enter Try.func16, Try.ntmps16
    go_wp2_with fail
    go_ret2
    exact ⟨rfl, Below.refl _ _⟩
  · have hEx := fun (W : World) => expanded_any W.heap.size (bcap l W) (nb l) (by rw [nb_length]; omega) (nb_lt l) (bW l W) (bW_sl l W)
    have hbb := fun W => Lib.hid (bW_below l W)
    have hn := nb_length l
    rw [hn] at hcv hEx
    obtain ⟨n, hn'⟩ : ∃ n, l.length = n := ⟨_, rfl⟩
    rw [hn'] at hcv hEx hlen
    have d1 : decide ((4129 : Int) < (n : Int)) = false := decide_eq_false (by omega)
    have d1' : decide (4129 < n) = false := decide_eq_false (by omega)
    by_cases hW : (whole (nb l)).length ≤ 4096
    · have hWl : (ub (whole (nb l))).length ≤ 4096 := by simpa [ub] using hW
      have hEn := fun (W : World) => Encode_ok (ub (whole (nb l))) hWl W
      rw [nb_ub (whole_lt l)] at hEn
      have hne : ub (enc (whole (nb l))) ≠ l := fun h => hg ⟨hW, by rw [← nb_ub (enc_lt _ (whole_lt l)), h]⟩
      have hnb : ((bs (ub (enc (whole (nb l))))).toList == (bs l).toList) = false := by rw [bs_toList, bs_toList]; exact beq_eq_false_iff_ne.2 hne
      have hnS : (bs (ub (enc (whole (nb l))))).toList ≠ (bs l).toList := by rw [bs_toList, bs_toList]; exact hne
      obtain ⟨S, hS⟩ : ∃ S, bs l = S := ⟨_, rfl⟩
      have hsz : S.size = n := by rw [← hS, bs_size, hn']
      obtain ⟨R, hR⟩ : ∃ R, bs (ub (enc (whole (nb l)))) = R := ⟨_, rfl⟩
      rw [hR] at hEn hnb hnS
      rw [hS] at hcv hnb hnS ⊢
      obtain ⟨T, hT⟩ : ∃ T, bs (ub (whole (nb l))) = T := ⟨_, rfl⟩
      rw [hT] at hEx hEn
      have HEX := Lib.hid hEx
      have HEN := Lib.hid hEn
      clear hS hT hEx hEn hWl hg hn hR hW hne hn'
      go_enter Try.func16, Try.ntmps16
      go_wp2_with (first
        | (go_at_call 23; (with_reducible refine (HEX.out _).mono ?_); rintro e w1 ⟨rfl, hb1⟩)
        | (go_at_call 15; (with_reducible refine (HEN.out _).mono ?_); rintro e w2 ⟨rfl, hb2⟩))
      go_ret2
      exact ⟨rfl, below_on ((hbb w).out.trans (hb1.mono (hbb w).out.size)) hb2 (by have := hb1.size; have := (hbb w).out.size; omega)⟩
    · have hbig : 4096 < (bs (ub (whole (nb l)))).size := by rw [bs_size]; simp [ub]; omega
      obtain ⟨S, hS⟩ : ∃ S, bs l = S := ⟨_, rfl⟩
      have hsz : S.size = n := by rw [← hS, bs_size, hn']
      rw [hS] at hcv ⊢
      obtain ⟨T, hT⟩ : ∃ T, bs (ub (whole (nb l))) = T := ⟨_, rfl⟩
      rw [hT] at hEx hbig
      have HEX := Lib.hid hEx
      have HEN := Lib.hid (fun (W : World) => Encode_no T hbig W)
      clear hS hT hEx hg hn hW hn' hbig
      go_enter Try.func16, Try.ntmps16
      go_wp2_with (first
        | (go_at_call 23; (with_reducible refine (HEX.out _).mono ?_); rintro e w1 ⟨rfl, hb1⟩)
        | (go_at_call 15; (with_reducible refine (HEN.out _).mono ?_); rintro e ww ⟨rfl, hww⟩; rw [hww]; clear hww ww))
      go_ret2
      exact ⟨rfl, (hbb w).out.trans (hb1.mono (hbb w).out.size)⟩

end Go.Proofs.Ytnploljhikljfaa
