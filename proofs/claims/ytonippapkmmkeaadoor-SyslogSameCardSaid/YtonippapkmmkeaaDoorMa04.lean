/- Texts on the program and on the document, joined: StpC. -/
import Derived.Test.YtonippapkmmkeaaDoorMa03
/- The rest of a stamp, and stamp.Parse, walked. -/
namespace Go.Proofs.YtonippapkmmkeaaDoor
open Go.ChangeShapes Go.WideShapes Go.ChangeAt Go.RowKit K S3
set_option linter.unusedVariables false

/-! ### Digits behind a point -/
def FRelS (w : World) (b T : Nat) (l : List UInt8) (g : Bool) (vn vp : Value) (wr : World) : Prop :=
  ∃ (p n : Nat) (l' : List UInt8), p ≤ 9 ∧ n + 10 ^ p ≤ 1000000000 ∧ vn = .int .i64 n ∧ vp = .int .i64 ((10 ^ p : Nat) : Int) ∧ Kp [b] w wr ∧ RD wr b T l' g ∧ l'.length ≤ l.length ∧ fGo 9 0 l = fGo p n l'
theorem fGo_stop (p n : Nat) (l : List UInt8) (h : swd l = false) : fGo (p + 1) n l = (n, p + 1, l) := by
  cases l with
  | nil => rfl
  | cons c t => have h' : isD c = false := h; conv => lhs; unfold fGo
                simp [h']
theorem fGo_step (p n : Nat) (l : List UInt8) (h : swd l = true) : fGo (p + 1) n l = fGo p (n + (byt l 0 - 48) * 10 ^ p) l.tail ∧ 0 < l.length ∧ 48 ≤ byt l 0 ∧ byt l 0 ≤ 57 := by
  cases l with
  | nil => cases h
  | cons c t =>
    have h' : isD c = true := h
    refine ⟨?_, by simp, (isD_le h').1, (isD_le h').2⟩
    conv => lhs; unfold fGo
    rw [if_pos h']; rfl
theorem one_digit (l : List UInt8) (h : swd l = true) : nV 1 0 9 l = ((byt l 0 - 48 : Nat) : Int) ∧ nOk 1 0 9 l = true ∧ nL 1 l = l.tail := by
  have h1 := nGo_step 0 0 l h
  have e : nGo 1 0 l = (some (byt l 0 - 48), l.tail) := by rw [h1.1]; simp [nGo]
  have hr : inR ((byt l 0 - 48 : Nat) : Int) 0 9 = true := by simp [inR]; omega
  refine ⟨?_, ?_, ?_⟩
  · unfold nV; rw [e]; simp only; rw [if_pos hr]
  · unfold nOk; rw [e]; exact hr
  · unfold nL; rw [e]
theorem pow_nine {p : Nat} (h : p ≤ 9) : 1 ≤ 10 ^ p ∧ 10 ^ p ≤ 1000000000 := by
  have h1 : 10 ^ p ≤ 10 ^ 9 := Nat.pow_le_pow_right (by omega) h
  have h2 : 0 < 10 ^ p := Nat.pow_pos (by omega)
  omega
theorem pow_lt_nine {p : Nat} (h : p < 9) : 10 ^ p ≤ 100000000 := by
  have h1 : 10 ^ p ≤ 10 ^ 8 := Nat.pow_le_pow_right (by omega) (by omega)
  omega

set_option maxHeartbeats 2000000 in
theorem rfraction_walk (b T : Nat) (l : List UInt8) (g : Bool) (hl : l.length ≤ 140737488351232) (w : World) (hr : RD w b T l g) :
    Calls Tryd.prog 46 #[.pointer (some ⟨b, 0, none⟩)] w fun e w' => e = .returned (.int .i64 (fV l : Nat)) ∧ Kp [b] w w' ∧ RD w' b T (fL l) (g || !fOk l) := by
  have hA := took_walk b T l g 46 hl w hr
  cases hk : mkOk 46 l
  · have e1 : fV l = 0 := by unfold fV; rw [hk]; rfl
    have e2 : fOk l = true := by unfold fOk; rw [hk]; rfl
    have e3 : fL l = l := by unfold fL; rw [hk]; rfl
    rw [e1, e2, e3]
    rw [hk, mkL_not hk] at hA
    clear e1 e2 e3 hk hr
    go_enter Tryd.func46, Tryd.ntmps46
    go_wp2_with fail
    refine hA.mono ?_
    rintro e w1 ⟨rfl, k1, r1⟩
    go_wp2
    go_ret
    refine ⟨rfl, k1, ?_⟩
    simpa using r1
  · have e1 : fV l = (fGo 9 0 (mkL 46 l)).1 := by unfold fV; rw [hk]; rfl
    have e2 : fOk l = !((fGo 9 0 (mkL 46 l)).2.1 == 9) := by unfold fOk; rw [hk]; rfl
    have e3 : fL l = (fGo 9 0 (mkL 46 l)).2.2 := by unfold fL; rw [hk]; rfl
    rw [e1, e2, e3]
    rw [hk] at hA
    have hll := mkL_len 46 l
    generalize mkL 46 l = m at hA hll ⊢
    clear e1 e2 e3 hk hr
    go_enter Tryd.func46, Tryd.ntmps46
    go_wp2_with fail
    refine hA.mono ?_
    rintro e w1 ⟨rfl, k1, r1⟩
    go_wp2
    go_loopw [3, 4] (fun vn vp wr => FRelS w b T m g vn vp wr) (fun vn vp wr => (intOf vp).toNat)
    case atStart => exact ⟨9, 0, m, by omega, by omega, rfl, rfl, k1, r1, Nat.le_refl _, rfl⟩
    case round =>
      clear hA k1 r1
      obtain ⟨p, n, l', hp, hn, rfl, rfl, hkp, hr, hle, hg⟩ := hrel
      obtain ⟨c0, c1, f0, f1⟩ := hr.cells
      have hw := swd_walk l' (by omega) wr
      have hN := number_walk b T 1 1 rfl (by omega) 0 9 (by omega) (by omega) l' g (by omega) wr hr
      have HR := Lib.hid hr; clear hr
      by_cases hp0 : p = 0
      · subst hp0
        have hg2 : fGo 9 0 m = (n, 0, l') := hg
        have HG := Lib.hid hg2
        simp only [Nat.pow_zero] at hn ⊢
        clear hg hg2 hN hw
        go_wp2
        go_ret
        rw [HG.out]
        refine ⟨rfl, hkp, ?_⟩
        simpa using HR.out
      · obtain ⟨q, rfl⟩ : ∃ q, p = q + 1 := ⟨p - 1, by omega⟩
        have hP := pow_lt_nine (show q < 9 by omega)
        have hP1 := (pow_nine (show q ≤ 9 by omega)).1
        have h10 : 10 ^ (q + 1) = 10 * 10 ^ q := by rw [Nat.pow_succ]; omega
        cases hs : swd l'
        · rw [hs] at hw
          rw [fGo_stop q n l' hs] at hg
          have HG := Lib.hid hg
          by_cases h9 : q = 8
          · subst h9
            clear hg hs hN hP hP1 h10
            simp only [show (10 : Nat) ^ (8 + 1) = 1000000000 by decide] at hn ⊢
            go_wp2_with fail
            refine hw.mono ?_
            rintro e w1 ⟨rfl, rfl⟩
            go_wp2
            go_ret
            rw [HG.out]
            refine ⟨rfl, hkp.set _ (by simp) _, ?_⟩
            have := HR.out.setG true
            simpa using this
          · have hq7 : 10 ^ q ≤ 10 ^ 7 := Nat.pow_le_pow_right (by omega) (by omega)
            have hq9 : (q + 1 == 9) = false := by rw [beq_eq_false_iff_ne]; omega
            have HQ := Lib.hid hq9
            rw [h10] at hn ⊢
            clear hg hs hN h10 h9 hq9
            generalize 10 ^ q = P at *
            have hne : (((10 * P : Nat) : Int) == 1000000000) = false := by rw [beq_eq_false_iff_ne]; omega
            go_wp2_with fail
            refine hw.mono ?_
            rintro e w1 ⟨rfl, rfl⟩
            go_wp2
            go_ret
            rw [HG.out]
            refine ⟨rfl, hkp, ?_⟩
            rw [HQ.out]
            simpa using HR.out
        · rw [hs] at hw
          obtain ⟨hst, hpos, hb1, hb2⟩ := fGo_step q n l' hs
          obtain ⟨o1, o2, o3⟩ := one_digit l' hs
          rw [o1, o2, o3] at hN
          rw [hst] at hg
          have HG := Lib.hid hg
          have hv : byt l' 0 - 48 ≤ 9 := by omega
          rw [h10] at hn ⊢
          clear hg hst hs h10 o1 o2 o3 hb1 hb2
          generalize byt l' 0 - 48 = v at hN hv HG ⊢
          have HP : Hid (∃ P, P = 10 ^ q) := Lib.hid ⟨_, rfl⟩
          obtain ⟨P, hPe⟩ := HP.out
          have HPE := Lib.hid hPe
          rw [← hPe] at hn hP hP1 ⊢
          clear hPe HP
          have hm1 : (v : Int) * (P : Int) ≤ 9 * P := Int.mul_le_mul_of_nonneg_right (by omega) (by omega)
          have hm0 : 0 ≤ (v : Int) * (P : Int) := Int.mul_nonneg (by omega) (by omega)
          go_wp2_with fail
          refine hw.mono ?_
          rintro e w1 ⟨rfl, rfl⟩
          go_wp2_with fail
          refine hN.mono ?_
          rintro e w2 ⟨rfl, k2, r2⟩
          go_wp2
          go_roundw
          case measure => simp [intOf]; omega
          case rel =>
            refine ⟨q, n + v * P, l'.tail, by omega, ?_, ?_, ?_, hkp.trans k2, by simpa using r2, by simp; omega, ?_⟩
            · rw [← HPE.out]
              have : ((v * P : Nat) : Int) ≤ 9 * P := by rw [Int.natCast_mul]; exact hm1
              omega
            · congr 1
            · rw [← HPE.out]
            · rw [HG.out, HPE.out]

theorem zone_walk (b T : Nat) (l : List UInt8) (g : Bool) (hl : l.length ≤ 140737488351232) (w : World) (hr : RD w b T l g) :
    Calls Tryd.prog 47 #[.pointer (some ⟨b, 0, none⟩)] w fun e w' => e = .returned (.int .i64 (zV l)) ∧ Kp [b] w w' ∧ RD w' b T (zL l) (g || !zOk l) := by
  have hA := took_walk b T l g 90 hl w hr
  clear hr
  unfold zV zL zOk
  cases hk : mkOk 90 l
  · rw [hk, mkL_not hk] at hA
    clear hk
    have hB := fun w1 h => took_walk b T l g 43 hl w1 h
    simp only [Bool.false_eq_true, if_false]
    cases hk2 : mkOk 43 l
    · rw [hk2, mkL_not hk2] at hB
      clear hk2
      have hC := fun w1 h => smark_walk b T l g 45 hl w1 h
      have hl2 := mkL_len 45 l
      have hD := fun w1 h => minutes_walk b T (mkL 45 l) (g || !mkOk 45 l) (by omega) w1 h
      have hh := hmV_in (mkL 45 l)
      have e2 : ((g || !mkOk 45 l) || !hmOk (mkL 45 l)) = (g || !(mkOk 45 l && hmOk (mkL 45 l))) := by
        cases g <;> cases mkOk 45 l <;> cases hmOk (mkL 45 l) <;> rfl
      rw [e2] at hD
      clear e2
      simp only [Bool.false_eq_true, if_false]
      generalize hmV (mkL 45 l) = v at hD hh ⊢
      generalize (g || !(mkOk 45 l && hmOk (mkL 45 l))) = g9 at hD ⊢
      generalize hmL (mkL 45 l) = l9 at hD ⊢
      obtain ⟨q1, q2⟩ := hh
      have HB := Lib.hid hB; have HC := Lib.hid hC; have HD := Lib.hid hD; clear hB hC hD
      go_enter Tryd.func47, Tryd.ntmps47
      go_wp2_with fail
      refine hA.mono ?_
      rintro e w1 ⟨rfl, k1, r1⟩
      go_wp2_with fail
      refine (HB.out w1 r1).mono ?_
      rintro e w2 ⟨rfl, k2, r2⟩
      go_wp2_with fail
      refine (HC.out w2 r2).mono ?_
      rintro e w3 ⟨rfl, k3, r3⟩
      go_wp2_with fail
      refine (HD.out w3 r3).mono ?_
      rintro e w4 ⟨rfl, k4, r4⟩
      go_wp2
      go_ret
      exact ⟨rfl, ((k1.trans k2).trans k3).trans k4, r4⟩
    · rw [hk2] at hB
      clear hk2
      have hl2 := mkL_len 43 l
      have hD := fun w1 h => minutes_walk b T (mkL 43 l) g (by omega) w1 h
      simp only [if_true]
      generalize hmV (mkL 43 l) = v at hD ⊢
      generalize (g || !hmOk (mkL 43 l)) = g9 at hD ⊢
      generalize hmL (mkL 43 l) = l9 at hD ⊢
      have HB := Lib.hid hB; have HD := Lib.hid hD; clear hB hD
      go_enter Tryd.func47, Tryd.ntmps47
      go_wp2_with fail
      refine hA.mono ?_
      rintro e w1 ⟨rfl, k1, r1⟩
      go_wp2_with fail
      refine (HB.out w1 r1).mono ?_
      rintro e w2 ⟨rfl, k2, r2⟩
      go_wp2_with fail
      refine (HD.out w2 r2).mono ?_
      rintro e w3 ⟨rfl, k3, r3⟩
      go_wp2
      go_ret
      exact ⟨rfl, (k1.trans k2).trans k3, r3⟩
  · rw [hk] at hA
    clear hk
    simp only [if_true]
    go_enter Tryd.func47, Tryd.ntmps47
    go_wp2_with fail
    refine hA.mono ?_
    rintro e w1 ⟨rfl, k1, r1⟩
    go_wp2
    go_ret
    exact ⟨rfl, k1, by simpa using r1⟩

/-! ### The whole -/
theorem isTime_walk (t : Int) (g : Bool) (hg : g = (decide (0 ≤ t) && decide (t ≤ 2305843009213693952))) (w : World) :
    Calls Tryd.prog 49 #[.int .i64 t] w fun e w' => e = .returned (.bool g) ∧ w = w' := by
  subst hg
  by_cases h0 : 0 ≤ t
  · by_cases h1 : t ≤ 2305843009213693952
    · rw [decide_eq_true h0, decide_eq_true h1]
      go_enter Tryd.func49, Tryd.ntmps49
      go_wp2
      go_ret
      exact ⟨rfl, rfl⟩
    · rw [decide_eq_true h0, decide_eq_false h1]
      have h2 : decide (t ≤ 2305843009213693952) = false := decide_eq_false h1
      go_enter Tryd.func49, Tryd.ntmps49
      go_wp2
      go_ret
      exact ⟨rfl, rfl⟩
  · rw [decide_eq_false h0]
    have h2 : decide (0 ≤ t) = false := decide_eq_false h0
    go_enter Tryd.func49, Tryd.ntmps49
    go_wp2
    go_ret
    exact ⟨rfl, rfl⟩

theorem Kp.belowNew {w w1 w2 : World} {b : Nat} (h : Below w.heap.size w w1) (k : Kp [b] w1 w2) (hb : w.heap.size ≤ b) : Below w.heap.size w w2 :=
  ⟨k.os.trans h.os, k.tape.trans h.tape, k.output.trans h.output, Nat.le_trans h.size k.size, fun i hi => (k.block i (Nat.lt_of_lt_of_le hi h.size) (by simp; omega)).trans (h.block i hi)⟩

theorem pOk_or (l : List UInt8) : ((((((((false || !dOk l) || !mkOk 84 (dL l)) || !hmOk (p1 l)) || !mkOk 58 (hmL (p1 l))) || !nOk 2 0 59 (p2 l)) || !fOk (p3 l)) || !zOk (p4 l))) = !(dOk l && mkOk 84 (dL l) && hmOk (p1 l) && mkOk 58 (hmL (p1 l)) && nOk 2 0 59 (p2 l) && fOk (p3 l) && zOk (p4 l)) := by
  cases dOk l <;> cases mkOk 84 (dL l) <;> cases hmOk (p1 l) <;> cases mkOk 58 (hmL (p1 l)) <;> cases nOk 2 0 59 (p2 l) <;> cases fOk (p3 l) <;> cases zOk (p4 l) <;> rfl
theorem pOk_done (l : List UInt8) : (!(((((((false || !dOk l) || !mkOk 84 (dL l)) || !hmOk (p1 l)) || !mkOk 58 (hmL (p1 l))) || !nOk 2 0 59 (p2 l)) || !fOk (p3 l)) || !zOk (p4 l)) && (zL (p4 l)).isEmpty) = pOk l := by
  rw [pOk_or, Bool.not_not]; rfl
theorem pGood_no (l : List UInt8) (h : pOk l = false ∨ pS l < 0 ∨ 2305843009 < pS l ∨ 2305843009213693952 < pS l * 1000000000 + pF l) : prsV l = 0 ∧ prsC l = 30 := by
  have : pGood l = false := by
    unfold pGood
    rcases h with h | h | h | h
    · rw [h]; rfl
    · rw [decide_eq_false (by omega : ¬ 0 ≤ pS l)]; simp
    · rw [decide_eq_false (by omega : ¬ pS l ≤ 2305843009)]; simp
    · rw [decide_eq_false (by omega : ¬ pS l * 1000000000 + pF l ≤ 2305843009213693952)]; simp
  unfold prsV prsC; rw [this]; exact ⟨rfl, rfl⟩
theorem pGood_yes (l : List UInt8) (h : pOk l = true) (h1 : 0 ≤ pS l) (h2 : pS l ≤ 2305843009) (h3 : pS l * 1000000000 + pF l ≤ 2305843009213693952) : prsV l = pS l * 1000000000 + pF l ∧ prsC l = 0 := by
  have : pGood l = true := by
    unfold pGood; rw [h, decide_eq_true h1, decide_eq_true h2, decide_eq_true h3]; rfl
  unfold prsV prsC; rw [this]; exact ⟨rfl, rfl⟩

set_option maxHeartbeats 2000000 in
theorem parse_walk (l : List UInt8) (hl : l.length ≤ 140737488351232) (w : World) (hM : Months w) :
    Calls Tryd.prog 31 #[.string (bs l)] w fun e w' => e = .returned (.tuple #[.int .i64 (prsV l), .int .i64 (prsC l)]) ∧ Below w.heap.size w w' := by
  have hlt : 2 < w.heap.size := World.block_lt_of_cell? w _ (hM 0 (by omega))
  have m1 := dL_len l
  have m2 : (p1 l).length ≤ (dL l).length := mkL_len 84 (dL l)
  have m3 := hmL_len (p1 l)
  have m4 : (p2 l).length ≤ (hmL (p1 l)).length := mkL_len 58 _
  have m5 : (p3 l).length ≤ (p2 l).length := nL_len 2 _
  have m6 : (p4 l).length ≤ (p3 l).length := fL_len _
  have m7 := zL_len (p4 l)
  obtain ⟨b, hb⟩ : ∃ b, b = w.heap.size := ⟨_, rfl⟩
  have hA := fun w1 h h2 => rdate_walk b 77 l false hl w1 h h2 (by omega)
  have hB := fun w1 h => smark_walk b 77 (dL l) (false || !dOk l) 84 (by omega) w1 h
  have hC := fun w1 h => minutes_walk b 77 (p1 l) ((false || !dOk l) || !mkOk 84 (dL l)) (by omega) w1 h
  have hD := fun w1 h => smark_walk b 77 (hmL (p1 l)) (((false || !dOk l) || !mkOk 84 (dL l)) || !hmOk (p1 l)) 58 (by omega) w1 h
  have hE := fun w1 h => number_walk b 77 2 2 rfl (by omega) 0 59 (by omega) (by omega) (p2 l) ((((false || !dOk l) || !mkOk 84 (dL l)) || !hmOk (p1 l)) || !mkOk 58 (hmL (p1 l))) (by omega) w1 h
  have hF := fun w1 h => rfraction_walk b 77 (p3 l) (((((false || !dOk l) || !mkOk 84 (dL l)) || !hmOk (p1 l)) || !mkOk 58 (hmL (p1 l))) || !nOk 2 0 59 (p2 l)) (by omega) w1 h
  have hG := fun w1 h => zone_walk b 77 (p4 l) ((((((false || !dOk l) || !mkOk 84 (dL l)) || !hmOk (p1 l)) || !mkOk 58 (hmL (p1 l))) || !nOk 2 0 59 (p2 l)) || !fOk (p3 l)) (by omega) w1 h
  have hH := fun w1 h => done_walk b 77 (zL (p4 l)) (((((((false || !dOk l) || !mkOk 84 (dL l)) || !hmOk (p1 l)) || !mkOk 58 (hmL (p1 l))) || !nOk 2 0 59 (p2 l)) || !fOk (p3 l)) || !zOk (p4 l)) (by omega) w1 h
  rw [pOk_done l] at hH
  have q1 := dV_in l
  have q2 := hmV_in (p1 l)
  have q3 := nV_in 2 0 59 (p2 l) (by omega)
  have q4 := fV_in (p3 l)
  have q5 := zV_in (p4 l)
  have hS : pS l = dV l * 86400 + hmV (p1 l) * 60 + nV 2 0 59 (p2 l) - zV (p4 l) * 60 := rfl
  have hFe : pF l = fV (p3 l) := rfl
  have HA := Lib.hid hA; have HB := Lib.hid hB; have HC := Lib.hid hC; have HD := Lib.hid hD; have HE := Lib.hid hE; have HF := Lib.hid hF; have HG := Lib.hid hG; have HH := Lib.hid hH
  clear hA hB hC hD hE hF hG hH m1 m2 m3 m4 m5 m6 m7
  have HNo := Lib.hid (pGood_no l); have HYes := Lib.hid (pGood_yes l)
  have HS := Lib.hid hS; have HFe := Lib.hid hFe
  clear hS hFe
  obtain ⟨q11, q12⟩ := q1
  obtain ⟨q21, q22⟩ := q2
  obtain ⟨q31, q32⟩ := q3
  obtain ⟨q51, q52⟩ := q5
  subst hb
  go_enter Tryd.func31, Tryd.ntmps31
  go_wp2_with fail
  have b0 : Below w.heap.size w (w.alloc (.cells #[.string (bs l), .bool false] 77)) := (Below.refl _ _).alloc (Nat.le_refl _) _
  refine (HA.out _ (rowNew _ _) (hM.below b0)).mono ?_
  rintro e w1 ⟨rfl, k1, r1⟩
  replace b0 := Kp.belowNew b0 k1 (Nat.le_refl _); clear k1
  go_wp2_with fail
  refine (HB.out w1 r1).mono ?_
  rintro e w2 ⟨rfl, k1, r2⟩
  replace b0 := Kp.belowNew b0 k1 (Nat.le_refl _); clear k1 r1
  go_wp2_with fail
  refine (HC.out w2 r2).mono ?_
  rintro e w3 ⟨rfl, k1, r3⟩
  replace b0 := Kp.belowNew b0 k1 (Nat.le_refl _); clear k1 r2
  go_wp2_with fail
  refine (HD.out w3 r3).mono ?_
  rintro e w4 ⟨rfl, k1, r4⟩
  replace b0 := Kp.belowNew b0 k1 (Nat.le_refl _); clear k1 r3
  go_wp2_with fail
  refine (HE.out w4 r4).mono ?_
  rintro e w5 ⟨rfl, k1, r5⟩
  replace b0 := Kp.belowNew b0 k1 (Nat.le_refl _); clear k1 r4
  go_wp2_with fail
  refine (HF.out w5 r5).mono ?_
  rintro e w6 ⟨rfl, k1, r6⟩
  replace b0 := Kp.belowNew b0 k1 (Nat.le_refl _); clear k1 r5
  go_wp2_with fail
  refine (HG.out w6 r6).mono ?_
  rintro e w7 ⟨rfl, k1, r7⟩
  replace b0 := Kp.belowNew b0 k1 (Nat.le_refl _); clear k1 r6
  have HH7 := Lib.hid (HH.out w7 r7)
  clear HA HB HC HD HE HF HG HH r7
  have hS := HS.out; have hFe := HFe.out
  generalize dV l = x1 at *
  generalize hmV (p1 l) = x2 at *
  generalize nV 2 0 59 (p2 l) = x3 at *
  generalize zV (p4 l) = x4 at *
  generalize fV (p3 l) = x5 at *
  cases hok : pOk l
  · have H7 := HH7.out
    rw [hok] at H7
    have hno := Lib.hid (HNo.out (Or.inl hok))
    clear hok HH7 HNo HYes hS hFe HS HFe
    go_wp2_with fail
    refine H7.mono ?_
    rintro e w8 ⟨rfl, rfl⟩
    go_wp2
    go_ret2
    rw [hno.out.1, hno.out.2]
    exact ⟨rfl, b0⟩
  · have H7 := HH7.out
    rw [hok] at H7
    clear HH7
    by_cases s1 : pS l < 0
    · have hno := Lib.hid (HNo.out (Or.inr (Or.inl s1)))
      have s2 : x1 * 86400 + x2 * 60 + x3 - x4 * 60 < 0 := by omega
      clear hok HNo HYes hS hFe HS HFe s1
      go_wp2_with fail
      refine H7.mono ?_
      rintro e w8 ⟨rfl, rfl⟩
      go_wp2
      go_ret2
      rw [hno.out.1, hno.out.2]
      exact ⟨rfl, b0⟩
    · by_cases s2 : 2305843009 < pS l
      · have hno := Lib.hid (HNo.out (Or.inr (Or.inr (Or.inl s2))))
        have s3 : 2305843009 < x1 * 86400 + x2 * 60 + x3 - x4 * 60 := by omega
        have s4 : 0 ≤ x1 * 86400 + x2 * 60 + x3 - x4 * 60 := by omega
        clear hok HNo HYes hS hFe HS HFe s1 s2
        go_wp2_with fail
        refine H7.mono ?_
        rintro e w8 ⟨rfl, rfl⟩
        go_wp2
        go_ret2
        rw [hno.out.1, hno.out.2]
        exact ⟨rfl, b0⟩
      · have s3 : x1 * 86400 + x2 * 60 + x3 - x4 * 60 ≤ 2305843009 := by omega
        have s4 : 0 ≤ x1 * 86400 + x2 * 60 + x3 - x4 * 60 := by omega
        have s5 : (pS l * 1000000000 + pF l : Int) = (x1 * 86400 + x2 * 60 + x3 - x4 * 60) * 1000000000 + x5 := by rw [hFe]; omega
        by_cases s6 : 2305843009213693952 < pS l * 1000000000 + pF l
        · have hno := Lib.hid (HNo.out (Or.inr (Or.inr (Or.inr s6))))
          have hT := fun w1 => isTime_walk ((x1 * 86400 + x2 * 60 + x3 - x4 * 60) * 1000000000 + x5) false (by rw [decide_eq_false (by omega : ¬ (x1 * 86400 + x2 * 60 + x3 - x4 * 60) * 1000000000 + x5 ≤ 2305843009213693952)]; simp) w1
          have HT := Lib.hid hT
          clear hok HNo HYes hS hFe HS HFe s1 s2 s5 s6 hT
          go_wp2_with fail
          refine H7.mono ?_
          rintro e w8 ⟨rfl, rfl⟩
          go_wp2_with fail
          refine (HT.out _).mono ?_
          rintro e w9 ⟨rfl, rfl⟩
          go_wp2
          go_ret2
          rw [hno.out.1, hno.out.2]
          exact ⟨rfl, b0⟩
        · have hyes := HYes.out hok (by omega) (by omega) (by omega)
          rw [s5] at hyes
          have hy := Lib.hid hyes
          have hT := fun w1 => isTime_walk ((x1 * 86400 + x2 * 60 + x3 - x4 * 60) * 1000000000 + x5) true (by rw [decide_eq_true (by omega : (x1 * 86400 + x2 * 60 + x3 - x4 * 60) * 1000000000 + x5 ≤ 2305843009213693952), decide_eq_true (by omega)]; rfl) w1
          have HT := Lib.hid hT
          clear hok HNo HYes hS hFe HS HFe s1 s2 s5 s6 hT hyes
          go_wp2_with fail
          refine H7.mono ?_
          rintro e w8 ⟨rfl, rfl⟩
          go_wp2_with fail
          refine (HT.out _).mono ?_
          rintro e w9 ⟨rfl, rfl⟩
          go_wp2
          go_ret2
          rw [hy.out.1, hy.out.2]
          exact ⟨rfl, b0⟩
end Go.Proofs.YtonippapkmmkeaaDoor
