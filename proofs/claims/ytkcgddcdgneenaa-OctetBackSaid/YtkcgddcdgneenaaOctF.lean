import Derived.Test.YtkcgddcdgneenaaOctE
namespace Go.Proofs.Ytkcgddcdgneenaa
open Go.ChangeShapes Go.WideShapes Go.ChangeAt Go.RowKit P1 K
set_option linter.unusedVariables false

set_option maxRecDepth 100000 in
theorem rGroups_walk (b T : Nat) (s : List UInt8) (p : Nat) (c most : Int) (ok : Ok s p c) (h0 : -9223372036854775808 ≤ most) (h1 : most ≤ 9223372036854775807) (w : World) (h : Rdr w b T s p c) :
    Calls Try.prog 23 #[.pointer (some ⟨b, 0, none⟩), .int .i64 most] w fun e w' => e = .returned (.int .i64 (rdG s p c most).1) ∧ Kp [b] w w' ∧ Rdr w' b T s (rdG s p c most).2.1 (rdG s p c most).2.2 := by
  obtain ⟨hs, hp, _, _⟩ := ok
  have hfa := rgo_facts s p most
  obtain ⟨c0, c1, c2, _, f2⟩ := h.cells
  have H := Lib.hid h; clear h
  have HF := Lib.hid hfa; clear hfa
  have hdl : (s.drop p).length ≤ 140737488351232 := by rw [List.length_drop]; omega
  have HD := Lib.hid hdl; clear hdl
  go_enter Try.func23, Try.ntmps23
  go_wp2
  go_quiet ((go_at_call 38; refine Calls.quiet_mk (first_walk _ most HD.out h0 h1 _)))
  go_wp2_with fail
  refine (refuse_walk b T s p c _ (w.drewN nq) H.out).mono ?_
  rintro e w1 ⟨rfl, kp, h1'⟩
  have kp' := kp.ofDrewN
  clear c0 c1 c2 f2 kp
  obtain ⟨c0, c1, c2, f1, f2⟩ := h1'.cells
  have H1 := Lib.hid h1'; clear h1'
  by_cases hd : newc c (rgo (s.drop p) most 9 0 0).2.2 = 0
  · have HE := Lib.hid (rdG_0 s p c most hd)
    have hz := HF.out
    generalize (rgo (s.drop p) most 9 0 0).1 = r1 at *
    generalize (rgo (s.drop p) most 9 0 0).2.1 = r2 at *
    generalize newc c (rgo (s.drop p) most 9 0 0).2.2 = d at *
    subst hd
    obtain ⟨_, hz2, _⟩ := hz
    go_wp2
    go_ret
    rw [HE.out]
    exact ⟨rfl, kp'.set _ (by simp) _, by have := H1.out.setP (p + r2); simpa using this⟩
  · have HE := Lib.hid (rdG_d s p c most hd)
    have hn : ((newc c (rgo (s.drop p) most 9 0 0).2.2) != 0) = true := by rw [bne_iff_ne]; exact hd
    clear hd
    generalize newc c (rgo (s.drop p) most 9 0 0).2.2 = d at *
    go_wp2
    go_ret
    rw [HE.out]
    exact ⟨rfl, kp', H1.out⟩

theorem told_walk (b T : Nat) (s : List UInt8) (p : Nat) (c n : Int) (w : World) (h : Rdr w b T s p c) :
    Calls Try.prog 40 #[.pointer (some ⟨b, 0, none⟩), .int .i64 n] w fun e w' => e = .returned (.int .i64 (toldN n)) ∧ Kp [b] w w' ∧ Rdr w' b T s p (toldC c n) := by
  have H := Lib.hid h; clear h
  by_cases hn : n < 0
  · have e1 : toldN n = 0 := by unfold toldN; omega
    have e2 : toldC c n = newc c 1 := by simp [toldC, hn]
    rw [e1, e2]; clear e1 e2
    go_enter Try.func40, Try.ntmps40
    go_wp2_with (go_at_call 27; refine (refuse_walk b T s p c 1 w H.out).mono ?_; rintro e w1 ⟨rfl, kp, h1'⟩)
    go_ret
    exact ⟨rfl, kp, h1'⟩
  · have e1 : ((toldN n : Nat) : Int) = n := by unfold toldN; omega
    have e2 : toldC c n = c := by simp [toldC, hn]
    rw [e1, e2]; clear e1 e2
    go_enter Try.func40, Try.ntmps40
    go_wp2
    go_ret
    exact ⟨rfl, Kp.refl _ _, H.out⟩

set_option maxRecDepth 100000 in
theorem sizedB_walk (b T : Nat) (s : List UInt8) (p k p1 : Nat) (c c1 n : Int) (ok : Ok s p c) (ok1 : Ok s p1 c1) (hk : k < 9223372036854775808) (w : World) (h : Rdr w b T s p c)
    (hf : Calls Try.prog 40 #[.pointer (some ⟨b, 0, none⟩), .int .i64 n] w fun e w' => e = .returned (.int .i64 k) ∧ Kp [b] w w' ∧ Rdr w' b T s p1 c1) :
    Calls Try.prog 39 #[.pointer (some ⟨b, 0, none⟩), .func (Fn.func 40) #[.pointer (some ⟨b, 0, none⟩)] #[], .int .i64 n] w fun e w' => e = .returned (.string (bs (szR s p k p1 c1).1)) ∧ Kp [b] w w' ∧ Rdr w' b T s (szR s p k p1 c1).2.1 (szR s p k p1 c1).2.2 := by
  obtain ⟨c0, c1', c2, f1, f2⟩ := h.cells
  have H := Lib.hid h; clear h
  have HF := Lib.hid hf; clear hf
  obtain ⟨hs, hp1, _, _⟩ := ok1
  obtain ⟨_, hp, _, _⟩ := ok
  go_enter Try.func39, Try.ntmps39
  go_wp2_with fail
  refine HF.out.mono ?_
  rintro e w1 ⟨rfl, kp1, h1'⟩
  clear c0 c1' c2 f1 f2
  have H1 := Lib.hid h1'; clear h1'
  by_cases hl : s.length - p1 < k
  · have hlt : ((s.length - p1 : Nat) : Int) < (k : Int) := by omega
    go_wp2_with fail
    refine (left_walk b T s p1 c1 ⟨hs, hp1, by assumption, by assumption⟩ w1 H1.out).mono ?_
    rintro e w2 ⟨rfl, nq, rfl⟩
    go_wp2_with fail
    refine (refuse_walk b T s p1 c1 10 (w1.drewN nq) H1.out).mono ?_
    rintro e w3 ⟨rfl, kp2, h2⟩
    have kp := kp1.trans kp2.ofDrewN
    clear kp1 kp2 H1
    obtain ⟨c0, c1', c2, f1, f2⟩ := h2.cells
    have H2 := Lib.hid h2; clear h2
    have hnn : (newc c1 10 != 0) = true := by
      rw [bne_iff_ne]
      by_cases hc : c1 = 0
      · subst hc; decide
      · rw [newc_not _ _ hc]; exact hc
    have he : szR s p k p1 c1 = ([], p, newc c1 10) := by
      by_cases hc : c1 = 0
      · subst hc; exact szR_end s p k p1 hl
      · rw [newc_not _ _ hc]; exact szR_bad s p k p1 c1 hc
    have HE := Lib.hid he
    clear he
    generalize newc c1 10 = d at *
    go_wp2
    go_ret
    rw [HE.out]
    exact ⟨rfl, kp.set _ (by simp) _, H2.out.setP p⟩
  · have hlt : (k : Int) ≤ ((s.length - p1 : Nat) : Int) := by omega
    go_wp2_with fail
    refine (left_walk b T s p1 c1 ⟨hs, hp1, by assumption, by assumption⟩ w1 H1.out).mono ?_
    rintro e w2 ⟨rfl, nq, rfl⟩
    have h2 := H1.out
    obtain ⟨c0, c1', c2, f1, f2⟩ := h2.cells
    clear h2
    by_cases hc : c1 = 0
    · subst hc
      have HE := Lib.hid (szR_yes s p k p1 hl)
      have q2 : (0 : Int) ≤ (p1 : Int) + (k : Int) := by omega
      have q3 : ((p1 : Int) + (k : Int)).toNat = p1 + k := by omega
      have q4 : (p1 : Int) ≤ (p1 : Int) + (k : Int) := by omega
      have q5 : (p1 : Int) + (k : Int) ≤ (s.length : Int) := by omega
      go_wp2
      have q1 : IntKind.i64.wrap ((p1 : Int) + (k : Int)) = (p1 : Int) + (k : Int) := IntWalk.i64_in _ (by omega)
      go_quiet (fail)
      clear q1 q3
      go_wp2
      go_ret
      rw [HE.out]
      exact ⟨rfl, (kp1.drewN _).set _ (by simp) _, H1.out.setPN _ (p1 + k) _ (by simp)⟩
    · have HE := Lib.hid (szR_bad s p k p1 c1 hc)
      have hn : (c1 != 0) = true := by rw [bne_iff_ne]; exact hc
      clear hc
      go_wp2
      go_ret
      rw [HE.out]
      exact ⟨rfl, (kp1.drewN _).set _ (by simp) _, (show Rdr (w1.drewN nq) b T s p1 c1 from H1.out).setP p⟩

set_option maxRecDepth 100000 in
theorem sizedT_walk (b T : Nat) (s : List UInt8) (p k p1 : Nat) (c c1 n : Int) (ok : Ok s p c) (ok1 : Ok s p1 c1) (hk : k < 9223372036854775808) (w : World) (h : Rdr w b T s p c)
    (hf : Calls Try.prog 23 #[.pointer (some ⟨b, 0, none⟩), .int .i64 n] w fun e w' => e = .returned (.int .i64 k) ∧ Kp [b] w w' ∧ Rdr w' b T s p1 c1) :
    Calls Try.prog 39 #[.pointer (some ⟨b, 0, none⟩), .func (Fn.func 23) #[.pointer (some ⟨b, 0, none⟩)] #[], .int .i64 n] w fun e w' => e = .returned (.string (bs (szR s p k p1 c1).1)) ∧ Kp [b] w w' ∧ Rdr w' b T s (szR s p k p1 c1).2.1 (szR s p k p1 c1).2.2 := by
  obtain ⟨c0, c1', c2, f1, f2⟩ := h.cells
  have H := Lib.hid h; clear h
  have HF := Lib.hid hf; clear hf
  obtain ⟨hs, hp1, _, _⟩ := ok1
  obtain ⟨_, hp, _, _⟩ := ok
  go_enter Try.func39, Try.ntmps39
  go_wp2_with fail
  refine HF.out.mono ?_
  rintro e w1 ⟨rfl, kp1, h1'⟩
  clear c0 c1' c2 f1 f2
  have H1 := Lib.hid h1'; clear h1'
  by_cases hl : s.length - p1 < k
  · have hlt : ((s.length - p1 : Nat) : Int) < (k : Int) := by omega
    go_wp2_with fail
    refine (left_walk b T s p1 c1 ⟨hs, hp1, by assumption, by assumption⟩ w1 H1.out).mono ?_
    rintro e w2 ⟨rfl, nq, rfl⟩
    go_wp2_with fail
    refine (refuse_walk b T s p1 c1 10 (w1.drewN nq) H1.out).mono ?_
    rintro e w3 ⟨rfl, kp2, h2⟩
    have kp := kp1.trans kp2.ofDrewN
    clear kp1 kp2 H1
    obtain ⟨c0, c1', c2, f1, f2⟩ := h2.cells
    have H2 := Lib.hid h2; clear h2
    have hnn : (newc c1 10 != 0) = true := by
      rw [bne_iff_ne]
      by_cases hc : c1 = 0
      · subst hc; decide
      · rw [newc_not _ _ hc]; exact hc
    have he : szR s p k p1 c1 = ([], p, newc c1 10) := by
      by_cases hc : c1 = 0
      · subst hc; exact szR_end s p k p1 hl
      · rw [newc_not _ _ hc]; exact szR_bad s p k p1 c1 hc
    have HE := Lib.hid he
    clear he
    generalize newc c1 10 = d at *
    go_wp2
    go_ret
    rw [HE.out]
    exact ⟨rfl, kp.set _ (by simp) _, H2.out.setP p⟩
  · have hlt : (k : Int) ≤ ((s.length - p1 : Nat) : Int) := by omega
    go_wp2_with fail
    refine (left_walk b T s p1 c1 ⟨hs, hp1, by assumption, by assumption⟩ w1 H1.out).mono ?_
    rintro e w2 ⟨rfl, nq, rfl⟩
    have h2 := H1.out
    obtain ⟨c0, c1', c2, f1, f2⟩ := h2.cells
    clear h2
    by_cases hc : c1 = 0
    · subst hc
      have HE := Lib.hid (szR_yes s p k p1 hl)
      have q2 : (0 : Int) ≤ (p1 : Int) + (k : Int) := by omega
      have q3 : ((p1 : Int) + (k : Int)).toNat = p1 + k := by omega
      have q4 : (p1 : Int) ≤ (p1 : Int) + (k : Int) := by omega
      have q5 : (p1 : Int) + (k : Int) ≤ (s.length : Int) := by omega
      go_wp2
      have q1 : IntKind.i64.wrap ((p1 : Int) + (k : Int)) = (p1 : Int) + (k : Int) := IntWalk.i64_in _ (by omega)
      go_quiet (fail)
      clear q1 q3
      go_wp2
      go_ret
      rw [HE.out]
      exact ⟨rfl, (kp1.drewN _).set _ (by simp) _, H1.out.setPN _ (p1 + k) _ (by simp)⟩
    · have HE := Lib.hid (szR_bad s p k p1 c1 hc)
      have hn : (c1 != 0) = true := by rw [bne_iff_ne]; exact hc
      clear hc
      go_wp2
      go_ret
      rw [HE.out]
      exact ⟨rfl, (kp1.drewN _).set _ (by simp) _, (show Rdr (w1.drewN nq) b T s p1 c1 from H1.out).setP p⟩

theorem rBytes_walk (b T : Nat) (s : List UInt8) (p : Nat) (c n : Int) (ok : Ok s p c) (h0 : -9223372036854775808 ≤ n) (h1 : n ≤ 9223372036854775807) (w : World) (h : Rdr w b T s p c) :
    Calls Try.prog 28 #[.pointer (some ⟨b, 0, none⟩), .int .i64 n] w fun e w' => e = .returned (.string (bs (rdB s p c n).1)) ∧ Kp [b] w w' ∧ Rdr w' b T s (rdB s p c n).2.1 (rdB s p c n).2.2 := by
  rw [rdB_sz]
  have ok1 : Ok s p (toldC c n) := by
    refine ⟨ok.len, ok.at_, ?_, ?_⟩
    · unfold toldC newc; have := ok.lo; split <;> (try split) <;> omega
    · unfold toldC newc; have := ok.hi; split <;> (try split) <;> omega
  have hk : toldN n < 9223372036854775808 := by unfold toldN; omega
  have H := Lib.hid h; clear h
  go_enter Try.func28, Try.ntmps28
  go_wp2_with fail
  refine (sizedB_walk b T s p (toldN n) p c (toldC c n) n ok ok1 hk w H.out (told_walk b T s p c n w H.out)).mono ?_
  rintro e w1 ⟨rfl, kp, h2⟩
  go_wp2
  go_ret
  exact ⟨rfl, kp, h2⟩

theorem rText_walk (b T : Nat) (s : List UInt8) (p : Nat) (c n : Int) (ok : Ok s p c) (h0 : -9223372036854775808 ≤ n) (h1 : n ≤ 9223372036854775807) (w : World) (h : Rdr w b T s p c) :
    Calls Try.prog 25 #[.pointer (some ⟨b, 0, none⟩), .int .i64 n] w fun e w' => e = .returned (.string (bs (rdT s p c n).1)) ∧ Kp [b] w w' ∧ Rdr w' b T s (rdT s p c n).2.1 (rdT s p c n).2.2 := by
  rw [rdT_sz]
  have hg := rdG_ok s p c n ok
  have H := Lib.hid h; clear h
  go_enter Try.func25, Try.ntmps25
  go_wp2_with fail
  refine (sizedT_walk b T s p _ _ c _ n ok hg.1 hg.2.1 w H.out (rGroups_walk b T s p c n ok h0 h1 w H.out)).mono ?_
  rintro e w1 ⟨rfl, kp, h2⟩
  go_wp2
  go_ret
  exact ⟨rfl, kp, h2⟩

theorem rDone_walk (b T : Nat) (s : List UInt8) (p : Nat) (c : Int) (ok : Ok s p c) (w : World) (h : Rdr w b T s p c) :
    Calls Try.prog 20 #[.pointer (some ⟨b, 0, none⟩)] w fun e w' => e = .returned (.int .i64 (rdD s p c)) ∧ ∃ n, w' = w.drewN n := by
  obtain ⟨c0, c1, c2, _, _⟩ := h.cells
  have H := Lib.hid h; clear h
  by_cases hc : c = 0
  · subst hc
    by_cases hp : p < s.length
    · have e : rdD s p 0 = 3 := by simp [rdD, hp]
      rw [e]; clear e
      have hlt : (0 : Int) < ((s.length - p : Nat) : Int) := by omega
      go_enter Try.func20, Try.ntmps20
      go_wp2_with (go_at_call 17; refine (left_walk b T s p 0 ok w H.out).mono ?_; rintro e w1 ⟨rfl, n, rfl⟩)
      go_ret
      exact ⟨rfl, _, rfl⟩
    · have e : rdD s p 0 = 0 := by simp [rdD, hp]
      rw [e]; clear e
      have hle : ((s.length - p : Nat) : Int) ≤ 0 := by omega
      have Hp := Lib.hid hp; clear hp
      go_enter Try.func20, Try.ntmps20
      go_wp2_with (go_at_call 17; refine (left_walk b T s p 0 ok w H.out).mono ?_; rintro e w1 ⟨rfl, n, rfl⟩)
      go_ret
      exact ⟨rfl, _, rfl⟩
  · have e : rdD s p c = c := by simp [rdD, hc]
    rw [e]; clear e
    have hn : (c == 0) = false := by rw [beq_eq_false_iff_ne]; exact hc
    clear hc
    go_enter Try.func20, Try.ntmps20
    go_wp2
    go_ret
    exact ⟨rfl, 0, rfl⟩

theorem read_walk (s : List UInt8) (w : World) :
    Calls Try.prog 15 #[.string (bs s)] w fun e w' => e = .returned (.pointer (some ⟨w.heap.size, 0, none⟩)) ∧ Kp [] w w' ∧ w'.heap.size = w.heap.size + 1 ∧ Rdr w' w.heap.size 58 s 0 0 := by
  go_enter Try.func15, Try.ntmps15
  go_wp2
  go_ret
  exact ⟨rfl, (Kp.refl _ _).alloc _, by simp, rowNew w _⟩
end Go.Proofs.Ytkcgddcdgneenaa
