import Derived.Test.YtkcgddcdgneenaaOctH
namespace Go.Proofs.Ytkcgddcdgneenaa
open Go.ChangeShapes Go.WideShapes Go.ChangeAt Go.RowKit P1 K
set_option linter.unusedVariables false

set_option maxRecDepth 100000 in
theorem qBytes_walk (b T : Nat) (s : List UInt8) (p : Nat) (c n : Int) (ok : Ok s p c) (w : World) (h : Rdr w b T s p c) :
    Calls Try.prog 36 #[.pointer (some ⟨b, 0, none⟩), .int .i64 n] w fun e w' => e = .returned (.string (bs (rdB s p c n).1)) ∧ Kp [b] w w' ∧ Rdr w' b T s (rdB s p c n).2.1 (rdB s p c n).2.2 := by
  obtain ⟨c0, c1, c2, f1, f2⟩ := h.cells
  have H := Lib.hid h; clear h
  by_cases hc : c = 0
  · subst hc
    by_cases hn : n < 0
    · rw [rdB_neg s p n hn]
      go_enter Try.func36, Try.ntmps36
      go_wp2
      go_ret
      exact ⟨rfl, (Kp.refl _ _).set _ (by simp) _, H.out.setC 1⟩
    · obtain ⟨k, rfl⟩ := Int.eq_ofNat_of_zero_le (show 0 ≤ n by omega)
      by_cases hl : s.length - p < k
      · rw [rdB_end s p k hl]
        have hlt : ((s.length - p : Nat) : Int) < (k : Int) := by omega
        go_enter Try.func36, Try.ntmps36
        go_wp2_with (go_at_call 18; refine (qLeft_walk b T s p 0 ok w H.out).mono ?_; rintro e w1 ⟨rfl, n, rfl⟩)
        go_ret
        exact ⟨rfl, ((Kp.refl _ _).drewN _).set _ (by simp) _, (show Rdr (w.drewN _) b T s p 0 from H.out).setC 10⟩
      · rw [rdB_yes s p k hl]
        obtain ⟨hs, hp, _, _⟩ := ok
        have hlt : (k : Int) ≤ ((s.length - p : Nat) : Int) := by omega
        have q2 : (0 : Int) ≤ (p : Int) + (k : Int) := by omega
        have q3 : ((p : Int) + (k : Int)).toNat = p + k := by omega
        have q5 : (p : Int) + (k : Int) ≤ (s.length : Int) := by omega
        have q4 : (p : Int) ≤ (p : Int) + (k : Int) := by omega
        have Hl := Lib.hid hl; clear hl
        go_enter Try.func36, Try.ntmps36
        go_wp2_with (go_at_call 18; refine (qLeft_walk b T s p 0 ⟨hs, hp, by omega, by omega⟩ w H.out).mono ?_; rintro e w1 ⟨rfl, n, rfl⟩)
        have q1 : IntKind.i64.wrap ((p : Int) + (k : Int) - (k : Int)) = (p : Int) := by rw [show (p : Int) + (k : Int) - (k : Int) = p by omega]; exact IntWalk.i64_in _ (by omega)
        go_quiet (fail)
        clear q1 q3
        go_wp2
        go_ret
        exact ⟨rfl, (((Kp.refl _ _).drewN _).set _ (by simp) _).drewN _, H.out.setPN _ (p + k) _ (by simp)⟩
  · rw [rdB_bad s p c n hc]
    have hn : (c != 0) = true := by rw [bne_iff_ne]; exact hc
    clear hc
    go_enter Try.func36, Try.ntmps36
    go_wp2
    go_ret
    exact ⟨rfl, Kp.refl _ _, H.out⟩

set_option maxRecDepth 100000 in
theorem qText_walk (b T : Nat) (s : List UInt8) (p : Nat) (c n : Int) (ok : Ok s p c) (h0 : -9223372036854775808 ≤ n) (h1 : n ≤ 9223372036854775807) (w : World) (h : Rdr w b T s p c) :
    Calls Try.prog 35 #[.pointer (some ⟨b, 0, none⟩), .int .i64 n] w fun e w' => e = .returned (.string (bs (rdT s p c n).1)) ∧ Kp [b] w w' ∧ Rdr w' b T s (rdT s p c n).2.1 (rdT s p c n).2.2 := by
  rw [rdT_sz]
  have hg := rdG_ok s p c n ok
  have hw := qGroups_walk b T s p c n ok h0 h1 w h
  obtain ⟨k, p1, d, hgq⟩ : ∃ k p1 d, rdG s p c n = (k, p1, d) := ⟨_, _, _, rfl⟩
  rw [hgq] at hg hw ⊢
  simp only [] at hg hw ⊢
  have HS := Lib.hid (szR_rdB s p k p1 d)
  have HW := Lib.hid hw; clear hw hgq
  obtain ⟨c0, c1, c2, f1, f2⟩ := h.cells
  have H := Lib.hid h; clear h
  go_enter Try.func35, Try.ntmps35
  go_wp2_with fail
  refine HW.out.mono ?_
  rintro e w1 ⟨rfl, kp1, h2⟩
  clear c0 c1 c2 f1 f2
  have H2 := Lib.hid h2; clear h2
  have okd := hg.1
  have hk := hg.2.1
  have hB := rdB_ok s p1 d k okd
  clear hg
  go_wp2_with fail
  refine (qBytes_walk b T s p1 d k okd w1 H2.out).mono ?_
  rintro e w2 ⟨rfl, kp2, h3⟩
  have kp := kp1.trans kp2
  clear kp1 kp2
  obtain ⟨c0, c1, c2, f1, f2⟩ := h3.cells
  have H3 := Lib.hid h3; clear h3
  generalize (rdB s p1 d k).1 = l at *
  generalize (rdB s p1 d k).2.1 = p2 at *
  generalize (rdB s p1 d k).2.2 = d2 at *
  by_cases hd : d2 = 0
  · subst hd
    go_wp2
    go_ret
    obtain ⟨e1, e2, e3, _⟩ := HS.out
    rw [e1, e2, e3 trivial]
    exact ⟨rfl, kp, H3.out⟩
  · have hn : (d2 != 0) = true := by rw [bne_iff_ne]; exact hd
    have Hd := Lib.hid hd; clear hd
    go_wp2
    go_ret
    obtain ⟨e1, e2, _, e3⟩ := HS.out
    rw [e1, e2, e3 Hd.out]
    exact ⟨rfl, kp.set _ (by simp) _, H3.out.setP p⟩

set_option maxRecDepth 100000 in
theorem qWide_in (b T : Nat) (s : List UInt8) (p k : Nat) (ok : Ok s p 0) (h1 : 1 ≤ k) (h8 : k ≤ 8) (w : World) (h : Rdr w b T s p 0) :
    Calls Try.prog 34 #[.pointer (some ⟨b, 0, none⟩), .int .i64 k] w fun e w' => e = .returned (.int .i64 (rdW s p 0 k).1) ∧ Kp [b] w w' ∧ Rdr w' b T s (rdW s p 0 k).2.1 (rdW s p 0 k).2.2 := by
  obtain ⟨c0, c1, c2, f1, f2⟩ := h.cells
  have H := Lib.hid h; clear h
  by_cases hl : s.length - p < k
  · rw [rdW_end s p k h1 h8 hl]
    have hlt : ((s.length - p : Nat) : Int) < (k : Int) := by omega
    go_enter Try.func34, Try.ntmps34
    go_wp2_with (go_at_call 18; refine (qLeft_walk b T s p 0 ok w H.out).mono ?_; rintro e w1 ⟨rfl, n, rfl⟩)
    go_ret
    exact ⟨rfl, ((Kp.refl _ _).drewN _).set _ (by simp) _, (show Rdr (w.drewN _) b T s p 0 from H.out).setC 10⟩
  · rw [rdW_num s p k h1 h8 hl]
    obtain ⟨hs, hp, _, _⟩ := ok
    have hlt : (k : Int) ≤ ((s.length - p : Nat) : Int) := by omega
    have q2 : (0 : Int) ≤ (p : Int) + (k : Int) := by omega
    have q3 : ((p : Int) + (k : Int)).toNat = p + k := by omega
    have q5 : (p : Int) + (k : Int) ≤ (s.length : Int) := by omega
    have q4 : (p : Int) ≤ (p : Int) + (k : Int) := by omega
    have hln : ((s.drop p).take k).length ≤ 8 := by rw [List.length_take]; omega
    have hnum := number_walk ((s.drop p).take k) hln
    have HN := Lib.hid hnum
    by_cases hk : numOk ((s.drop p).take k) = true
    · have hN : numN ((s.drop p).take k) = (num ((s.drop p).take k) : Nat) := by simp [numN, hk]
      rw [if_pos hk]
      have HNN := Lib.hid hN
      clear hl hnum hln hN
      go_enter Try.func34, Try.ntmps34
      go_wp2_with fail
      refine (qLeft_walk b T s p 0 ⟨hs, hp, by omega, by omega⟩ w H.out).mono ?_
      rintro e w1 ⟨rfl, n, rfl⟩
      have H5 : Rdr (w.drewN n) b T s p 0 := H.out
      have kp5 : Kp [b] w (w.drewN n) := (Kp.refl _ _).drewN _
      clear c0 c1 c2 f1 f2 H
      generalize w.drewN n = w5 at *
      obtain ⟨c0, c1, c2, f1, f2⟩ := H5.cells
      have H := Lib.hid H5; clear H5
      go_wp2
      have q1 : IntKind.i64.wrap ((p : Int) + (k : Int)) = (p : Int) + (k : Int) := IntWalk.i64_in _ (by omega)
      go_quiet ((go_at_call 32; refine Calls.quiet_mk (HN.out _)))
      clear q1 q3
      go_wp2
      go_ret
      exact ⟨by rw [← HNN.out]; rfl, (kp5.drewN _).set _ (by simp) _, H.out.setPN _ (p + k) _ (by simp)⟩
    · rw [if_neg hk]
      rw [Bool.not_eq_true] at hk
      clear hl hnum hln
      go_enter Try.func34, Try.ntmps34
      go_wp2_with fail
      refine (qLeft_walk b T s p 0 ⟨hs, hp, by omega, by omega⟩ w H.out).mono ?_
      rintro e w1 ⟨rfl, n, rfl⟩
      have H5 : Rdr (w.drewN n) b T s p 0 := H.out
      have kp5 : Kp [b] w (w.drewN n) := (Kp.refl _ _).drewN _
      clear c0 c1 c2 f1 f2 H
      generalize w.drewN n = w5 at *
      obtain ⟨c0, c1, c2, f1, f2⟩ := H5.cells
      have H := Lib.hid H5; clear H5
      go_wp2
      have q1 : IntKind.i64.wrap ((p : Int) + (k : Int)) = (p : Int) + (k : Int) := IntWalk.i64_in _ (by omega)
      go_quiet ((go_at_call 32; refine Calls.quiet_mk (HN.out _)))
      clear q1 q3
      go_wp2
      go_ret
      exact ⟨rfl, (kp5.drewN _).set _ (by simp) _, (show Rdr (w5.drewN _) b T s p 0 from H.out).setC 1⟩

theorem qWide_walk (b T : Nat) (s : List UInt8) (p : Nat) (c k : Int) (ok : Ok s p c) (w : World) (h : Rdr w b T s p c) :
    Calls Try.prog 34 #[.pointer (some ⟨b, 0, none⟩), .int .i64 k] w fun e w' => e = .returned (.int .i64 (rdW s p c k).1) ∧ Kp [b] w w' ∧ Rdr w' b T s (rdW s p c k).2.1 (rdW s p c k).2.2 := by
  by_cases hc : c = 0
  · subst hc
    by_cases hk : k < 1 ∨ 8 < k
    · rw [rdW_in s p 0 k hk, newc_zero]
      obtain ⟨c0, c1, c2, f1, f2⟩ := h.cells
      have H := Lib.hid h; clear h
      rcases hk with hk | hk
      all_goals
        go_enter Try.func34, Try.ntmps34
        go_wp2
        go_ret
        exact ⟨rfl, (Kp.refl _ _).set _ (by simp) _, H.out.setC 1⟩
    · obtain ⟨j, rfl⟩ := Int.eq_ofNat_of_zero_le (show 0 ≤ k by omega)
      exact qWide_in b T s p j ok (by omega) (by omega) w h
  · rw [rdW_bad s p c k hc]
    obtain ⟨c0, c1, c2, f1, f2⟩ := h.cells
    have H := Lib.hid h; clear h
    have hn : (c != 0) = true := by rw [bne_iff_ne]; exact hc
    clear hc
    go_enter Try.func34, Try.ntmps34
    go_wp2
    go_ret
    exact ⟨rfl, Kp.refl _ _, H.out⟩
end Go.Proofs.Ytkcgddcdgneenaa
