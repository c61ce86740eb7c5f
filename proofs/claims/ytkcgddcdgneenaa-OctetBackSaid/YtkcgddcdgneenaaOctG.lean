import Derived.Test.YtkcgddcdgneenaaOctF
namespace Go.Proofs.Ytkcgddcdgneenaa
open Go.ChangeShapes Go.WideShapes Go.ChangeAt Go.RowKit P1 K
set_option linter.unusedVariables false

def WLRel (l : List UInt8) (vn vi : Value) : Prop := ∃ i : Nat, ∃ x : Int, i ≤ l.length ∧ vn = .int .i64 x ∧ x = wrap64 (num (l.take i) : Nat) ∧ vi = .int .i64 i

set_option maxRecDepth 100000 in
theorem rWide_in (b T : Nat) (s : List UInt8) (p : Nat) (c k : Int) (ok : Ok s p c) (h1 : 1 ≤ k) (h8 : k ≤ 8) (w : World) (h : Rdr w b T s p c) :
    Calls Try.prog 24 #[.pointer (some ⟨b, 0, none⟩), .int .i64 k] w fun e w' => e = .returned (.int .i64 (rdW s p c k).1) ∧ Kp [b] w w' ∧ Rdr w' b T s (rdW s p c k).2.1 (rdW s p c k).2.2 := by
  obtain ⟨c0, c1, c2, f1, f2⟩ := h.cells
  have hlen := rdB_len s p c k h8
  have hyes := rdW_yes s p c k h1 h8
  have hnot := rdW_not s p c k h1 h8
  have H := Lib.hid h; have HY := Lib.hid hyes; have HN := Lib.hid hnot
  clear h hyes hnot
  go_enter Try.func24, Try.ntmps24
  go_wp2_with fail
  refine (rBytes_walk b T s p c k ok (by omega) (by omega) w H.out).mono ?_
  rintro e w1 ⟨rfl, kp1, h2⟩
  clear c0 c1 c2 f1 f2 H
  generalize (rdB s p c k).1 = l at *
  generalize (rdB s p c k).2.1 = p2 at *
  generalize (rdB s p c k).2.2 = d at *
  have hcv := Lib.run_convert_string_bytes (P := Try.prog) w1 9 53 5 (bs l) Try.underlying9 Try.underlying53 Try.underlying5
  have H2 := Lib.hid h2; clear h2
  go_wp2
  have kpb := kp1.bytes 5 (bs l)
  have hcb := bytes_cell w1 5 l
  have H3 : Hid (Rdr (Lib.bytesWorld w1 5 (bs l)) b T s p2 d) := Lib.hid (by
    have := H2.out
    unfold Rdr at *
    rw [Lib.bytesWorld_at_old _ _ _ _ (lt_of_block this)]; exact this)
  generalize Lib.bytesWorld w1 5 (bs l) = wb at *
  have HC := Lib.hid hcb
  clear hcb H2 hcv kp1
  go_loop [6, 26] (fun vn vi => WLRel l vn vi) (fun vn vi => l.length - (intOf vi).toNat)
  case atStart => exact ⟨0, 0, Nat.zero_le _, rfl, by simp [num, wrap64_eq], rfl⟩
  case round =>
    obtain ⟨i, x, hi, rfl, hx, rfl⟩ := hrel
    by_cases hlt : i < l.length
    · have hcell := HC.out i hlt
      have hnt := num_take l i hlt
      have hsm := num_take_lt l i hlen hlt
      have hbb := byt_lt l i
      obtain rfl : x = (num (l.take i) : Nat) := by rw [hx, wrap64_eq]; omega
      have hbo := bits_shl_or (num (l.take i)) (byt l i) hbb
      rw [← hnt] at hbo
      generalize num (l.take i) = m at *
      clear hx hnt
      have HB := Lib.hid hbo
      clear hbo
      go_wp2
      go_round
      case measure => simp [intOf]; omega
      case rel =>
        refine ⟨i + 1, _, by omega, rfl, HB.out, by simp⟩
    · obtain rfl : i = l.length := by omega
      rw [List.take_length] at hx
      have HX := Lib.hid hx
      clear hx hlt hi
      have h3 := H3.out
      obtain ⟨c0, c1, c2, f1, f2⟩ := h3.cells
      clear h3
      by_cases hk : numOk l = true
      · have hE := HY.out hk
        have hnn : 0 ≤ x := by
          have := num_ok_lt l hlen hk
          rw [HX.out, wrap64_eq]; omega
        have hxn : x = (num l : Nat) := by
          have := num_ok_lt l hlen hk
          rw [HX.out, wrap64_eq]; omega
        have HE := Lib.hid hE; have Hx := Lib.hid hxn
        clear hE hxn hk
        go_wp2
        go_ret
        rw [HE.out, ← Hx.out]
        exact ⟨rfl, kpb, H3.out⟩
      · rw [Bool.not_eq_true] at hk
        have hE := HN.out hk
        have hnn : x < 0 := by
          have := num_bad_ge l hk
          rw [HX.out, wrap64_eq]; omega
        have HE := Lib.hid hE
        clear hE hk
        go_wp2_with fail
        refine (refuse_walk b T s p d 1 _ (H3.out.setP p)).mono ?_
        rintro e w3 ⟨rfl, kp3, h4⟩
        have kp := (kpb.set ⟨b, 1, none⟩ (by simp) (.int .i64 p)).trans kp3
        clear c0 c1 c2 f1 f2 kp3 kpb
        go_wp2
        go_ret
        rw [HE.out]
        exact ⟨rfl, kp, h4⟩

theorem rWide_walk (b T : Nat) (s : List UInt8) (p : Nat) (c k : Int) (ok : Ok s p c) (w : World) (h : Rdr w b T s p c) :
    Calls Try.prog 24 #[.pointer (some ⟨b, 0, none⟩), .int .i64 k] w fun e w' => e = .returned (.int .i64 (rdW s p c k).1) ∧ Kp [b] w w' ∧ Rdr w' b T s (rdW s p c k).2.1 (rdW s p c k).2.2 := by
  by_cases hk : k < 1
  · rw [rdW_in s p c k (.inl hk)]
    have H := Lib.hid h; clear h
    go_enter Try.func24, Try.ntmps24
    go_wp2_with (go_at_call 27; refine (refuse_walk b T s p c 1 w H.out).mono ?_; rintro e w1 ⟨rfl, kp, h1'⟩)
    go_ret
    exact ⟨rfl, kp, h1'⟩
  · by_cases hk8 : 8 < k
    · rw [rdW_in s p c k (.inr hk8)]
      have H := Lib.hid h; clear h
      go_enter Try.func24, Try.ntmps24
      go_wp2_with (go_at_call 27; refine (refuse_walk b T s p c 1 w H.out).mono ?_; rintro e w1 ⟨rfl, kp, h1'⟩)
      go_ret
      exact ⟨rfl, kp, h1'⟩
    · exact rWide_in b T s p c k ok (by omega) (by omega) w h
end Go.Proofs.Ytkcgddcdgneenaa
