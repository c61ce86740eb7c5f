/- Texts on the program and on the document, joined: StpB. -/
import Derived.Test.YtonippapkmmkeaaDoorMa02
/- stamp's calendar and the parts of a stamp, walked. -/
namespace Go.Proofs.YtonippapkmmkeaaDoor
open Go.ChangeShapes Go.WideShapes Go.ChangeAt Go.RowKit K S3
set_option linter.unusedVariables false

/-- What the variable 'monthsAhead' holds. -/
def Months (w : World) : Prop := ∀ k, k < 13 → w.cell? ⟨2, k, none⟩ = some (.int .i64 (cum (k + 1)))
theorem Months.below {w w' : World} (h : Months w) (k : Below w.heap.size w w') : Months w' := by
  intro i hi
  have hb := World.block_lt_of_cell? w _ (h i hi)
  rw [World.cell?_of_block (k.block _ hb)]
  exact h i hi
theorem Months.kp {w w' : World} {b : Nat} (h : Months w) (k : Kp [b] w w') (hb : b ≠ 2) : Months w' := by
  intro i hi
  have hl := World.block_lt_of_cell? w _ (h i hi)
  rw [World.cell?_of_block (k.block _ hl (by simp; omega))]
  exact h i hi

theorem leap_1 (y : Nat) (h4 : ¬ y % 4 = 0) : leap y = false := by simp [leap, h4]
theorem leap_2 (y : Nat) (h4 : y % 4 = 0) (h1 : ¬ y % 100 = 0) : leap y = true := by simp [leap, h4, h1]
theorem leap_3 (y : Nat) (h4 : y % 4 = 0) (h1 : y % 100 = 0) (h2 : y % 400 = 0) : leap y = true := by simp [leap, h4, h2]
theorem leap_4 (y : Nat) (h4 : y % 4 = 0) (h1 : y % 100 = 0) (h2 : ¬ y % 400 = 0) : leap y = false := by simp [leap, h1, h2]
theorem isLeap_walk (y : Nat) (hy : y ≤ 1000000) (w : World) :
    Calls Tryd.prog 77 #[.int .i64 y] w fun e w' => e = .returned (.bool (leap y)) ∧ w = w' := by
  by_cases h4 : y % 4 = 0
  · have a4 : (((y : Nat) : Int) % 4 == 0) = true := by rw [beq_iff_eq]; omega
    by_cases h1 : y % 100 = 0
    · have a1 : (((y : Nat) : Int) % 100 != 0) = false := by rw [bne_eq_false_iff_eq]; omega
      by_cases h2 : y % 400 = 0
      · have a2 : (((y : Nat) : Int) % 400 == 0) = true := by rw [beq_iff_eq]; omega
        rw [leap_3 y h4 h1 h2]
        clear h4 h1 h2
        go_enter Tryd.func77, Tryd.ntmps77
        go_wp2
        go_ret
        exact ⟨rfl, rfl⟩
      · have a2 : (((y : Nat) : Int) % 400 == 0) = false := by rw [beq_eq_false_iff_ne]; omega
        rw [leap_4 y h4 h1 h2]
        clear h4 h1 h2
        go_enter Tryd.func77, Tryd.ntmps77
        go_wp2
        go_ret
        exact ⟨rfl, rfl⟩
    · have a1 : (((y : Nat) : Int) % 100 != 0) = true := by rw [bne_iff_ne]; omega
      rw [leap_2 y h4 h1]
      clear h4 h1
      go_enter Tryd.func77, Tryd.ntmps77
      go_wp2
      go_ret
      exact ⟨rfl, rfl⟩
  · have a4 : (((y : Nat) : Int) % 4 == 0) = false := by rw [beq_eq_false_iff_ne]; omega
    rw [leap_1 y h4]
    clear h4
    go_enter Tryd.func77, Tryd.ntmps77
    go_wp2
    go_ret
    exact ⟨rfl, rfl⟩
theorem leapsAhead_walk (y : Int) (h0 : 0 ≤ y) (h1 : y ≤ 1000000) (w : World) :
    Calls Tryd.prog 76 #[.int .i64 y] w fun e w' => e = .returned (.int .i64 (lf y)) ∧ w = w' := by
  unfold lf
  go_enter Tryd.func76, Tryd.ntmps76
  go_wp2
  go_ret
  exact ⟨rfl, rfl⟩
theorem lf_in (y : Int) (h0 : 0 ≤ y) (h1 : y ≤ 1000000) : 0 ≤ lf y ∧ lf y ≤ 1000000 := by unfold lf; omega
theorem yearsAhead_walk (y : Int) (h0 : 0 ≤ y) (h1 : y ≤ 1000000) (w : World) :
    Calls Tryd.prog 59 #[.int .i64 y] w fun e w' => e = .returned (.int .i64 (ya y)) ∧ w = w' := by
  unfold ya
  have hA := leapsAhead_walk y h0 h1 w
  have hB := leapsAhead_walk 1970 (by omega) (by omega) w
  have e : lf 1970 = 478 := by decide
  rw [e] at hB
  have hl := lf_in y h0 h1
  generalize lf y = q at hA hl ⊢
  obtain ⟨hl1, hl2⟩ := hl
  clear e
  go_enter Tryd.func59, Tryd.ntmps59
  go_wp2_with fail
  refine hA.mono ?_
  rintro e w1 ⟨rfl, rfl⟩
  go_wp2_with fail
  refine hB.mono ?_
  rintro e w1 ⟨rfl, rfl⟩
  go_wp2
  go_ret
  exact ⟨rfl, rfl⟩
theorem daysAhead_walk (y m : Nat) (mm : Int) (hmm : mm = (m : Nat)) (hy : y ≤ 1000000) (h1 : 1 ≤ m) (h2 : m ≤ 13) (w : World) (hM : Months w) :
    Calls Tryd.prog 60 #[.int .i64 y, .int .i64 mm] w fun e w' => e = .returned (.int .i64 (da y m)) ∧ w = w' := by
  subst hmm
  have hc := hM (m - 1) (by omega)
  rw [show m - 1 + 1 = m by omega] at hc
  have hci := cum_all m h1 h2
  have hL := isLeap_walk y hy w
  unfold da lp
  generalize cum m = q at hc hci ⊢
  obtain ⟨hc1, hc2⟩ := hci
  have hp : 0 ≤ (m : Int) - 1 := by omega
  have hp2 : ((m : Int) - 1).toNat = m - 1 := by omega
  by_cases hm : 2 < m
  · rw [if_pos hm]
    cases hk : leap y
    · rw [hk] at hL
      clear hk
      go_enter Tryd.func60, Tryd.ntmps60
      go_wp2_with fail
      refine hL.mono ?_
      rintro e w1 ⟨rfl, rfl⟩
      go_wp2
      go_ret
      exact ⟨by simp, rfl⟩
    · rw [hk] at hL
      clear hk
      go_enter Tryd.func60, Tryd.ntmps60
      go_wp2_with fail
      refine hL.mono ?_
      rintro e w1 ⟨rfl, rfl⟩
      go_wp2
      go_ret
      exact ⟨by simp, rfl⟩
  · rw [if_neg hm]
    go_enter Tryd.func60, Tryd.ntmps60
    go_wp2
    go_ret
    exact ⟨by simp, rfl⟩
theorem lastOf_walk (y m : Nat) (hy : y ≤ 1000000) (h1 : 1 ≤ m) (h2 : m ≤ 12) (w : World) (hM : Months w) :
    Calls Tryd.prog 58 #[.int .i64 y, .int .i64 m] w fun e w' => e = .returned (.int .i64 (dim y m)) ∧ w = w' := by
  have hA := daysAhead_walk y (m + 1) ((m : Int) + 1) (by omega) hy (by omega) (by omega) w hM
  have hB := daysAhead_walk y m (m : Int) rfl hy (by omega) (by omega) w hM
  unfold dim
  have hl1 := da_in y (m + 1) (by omega) (by omega)
  have hl2 := da_in y m (by omega) (by omega)
  generalize da y (m + 1) = p at hA hl1 ⊢
  generalize da y m = q at hB hl2 ⊢
  obtain ⟨a1, a2⟩ := hl1
  obtain ⟨a3, a4⟩ := hl2
  go_enter Tryd.func58, Tryd.ntmps58
  go_wp2_with fail
  refine hA.mono ?_
  rintro e w1 ⟨rfl, rfl⟩
  go_wp2_with fail
  refine hB.mono ?_
  rintro e w1 ⟨rfl, rfl⟩
  go_wp2
  go_ret
  exact ⟨rfl, rfl⟩

/-! ### Parts of a stamp -/
theorem minutes_walk (b T : Nat) (l : List UInt8) (g : Bool) (hl : l.length ≤ 140737488351232) (w : World) (hr : RD w b T l g) :
    Calls Tryd.prog 44 #[.pointer (some ⟨b, 0, none⟩)] w fun e w' => e = .returned (.int .i64 (hmV l)) ∧ Kp [b] w w' ∧ RD w' b T (hmL l) (g || !hmOk l) := by
  have e1 : (((g || !nOk 2 0 23 l) || !mkOk 58 (nL 2 l)) || !nOk 2 0 59 (mkL 58 (nL 2 l))) = (g || !hmOk l) := by
    unfold hmOk; cases g <;> cases nOk 2 0 23 l <;> cases mkOk 58 (nL 2 l) <;> cases nOk 2 0 59 (mkL 58 (nL 2 l)) <;> rfl
  have hn1 := nL_len 2 l
  have hn2 := mkL_len 58 (nL 2 l)
  have hA := number_walk b T 2 2 rfl (by omega) 0 23 (by omega) (by omega) l g hl w hr
  have hB := fun w1 (h : RD w1 b T (nL 2 l) (g || !nOk 2 0 23 l)) => smark_walk b T (nL 2 l) _ 58 (by omega) w1 h
  have hC := fun w2 (h : RD w2 b T (mkL 58 (nL 2 l)) ((g || !nOk 2 0 23 l) || !mkOk 58 (nL 2 l))) => number_walk b T 2 2 rfl (by omega) 0 59 (by omega) (by omega) (mkL 58 (nL 2 l)) _ (by omega) w2 h
  rw [e1] at hC
  have v1 := nV_in 2 0 23 l (by omega)
  have v2 := nV_in 2 0 59 (mkL 58 (nL 2 l)) (by omega)
  unfold hmV hmL
  generalize nV 2 0 23 l = x1 at hA v1 ⊢
  generalize nV 2 0 59 (mkL 58 (nL 2 l)) = x2 at hC v2 ⊢
  generalize nL 2 (mkL 58 (nL 2 l)) = L2 at hC ⊢
  generalize (g || !hmOk l) = G at hC ⊢
  obtain ⟨v3, v4⟩ := v1
  obtain ⟨v5, v6⟩ := v2
  have HB := Lib.hid hB; have HC := Lib.hid hC; clear hB hC e1 hr
  go_enter Tryd.func44, Tryd.ntmps44
  go_wp2_with fail
  refine hA.mono ?_
  rintro e w1 ⟨rfl, k1, r1⟩
  go_wp2_with fail
  refine (HB.out w1 r1).mono ?_
  rintro e w2 ⟨rfl, k2, r2⟩
  go_wp2_with fail
  refine (HC.out w2 r2).mono ?_
  rintro e w3 ⟨rfl, k3, r3⟩
  go_wp2
  go_ret
  exact ⟨rfl, (k1.trans k2).trans k3, r3⟩

theorem dOk_or (l : List UInt8) (g : Bool) : (((((g || !nOk 4 0 9999 l) || !mkOk 45 (nL 4 l)) || !nOk 2 1 12 (dl1 l)) || !mkOk 45 (nL 2 (dl1 l))) || !nOk 2 1 (dim (dY l) (dM l)) (dl2 l)) = (g || !dOk l) := by
  unfold dOk; cases g <;> cases nOk 4 0 9999 l <;> cases mkOk 45 (nL 4 l) <;> cases nOk 2 1 12 (dl1 l) <;> cases mkOk 45 (nL 2 (dl1 l)) <;> cases nOk 2 1 (dim (dY l) (dM l)) (dl2 l) <;> rfl
set_option maxHeartbeats 1000000 in
theorem rdate_walk (b T : Nat) (l : List UInt8) (g : Bool) (hl : l.length ≤ 140737488351232) (w : World) (hr : RD w b T l g) (hM : Months w) (hb : b ≠ 2) :
    Calls Tryd.prog 42 #[.pointer (some ⟨b, 0, none⟩)] w fun e w' => e = .returned (.int .i64 (dV l)) ∧ Kp [b] w w' ∧ RD w' b T (dL l) (g || !dOk l) := by
  have e1 := dOk_or l g
  have n1 := nL_len 4 l
  have n2 : (dl1 l).length ≤ (nL 4 l).length := mkL_len 45 (nL 4 l)
  have n3 := nL_len 2 (dl1 l)
  have n4 : (dl2 l).length ≤ (nL 2 (dl1 l)).length := mkL_len 45 (nL 2 (dl1 l))
  have hY := dY_in l
  have hMo := dM_in l
  have hdi := dim_in (dY l) (dM l) hMo.1 hMo.2.1
  have hA := number_walk b T 4 4 rfl (by omega) 0 9999 (by omega) (by omega) l g hl w hr
  have hB := fun w1 h => smark_walk b T (nL 4 l) (g || !nOk 4 0 9999 l) 45 (by omega) w1 h
  have hC := fun w1 h => number_walk b T 2 2 rfl (by omega) 1 12 (by omega) (by omega) (dl1 l) ((g || !nOk 4 0 9999 l) || !mkOk 45 (nL 4 l)) (by omega) w1 h
  have hD := fun w1 h => smark_walk b T (nL 2 (dl1 l)) (((g || !nOk 4 0 9999 l) || !mkOk 45 (nL 4 l)) || !nOk 2 1 12 (dl1 l)) 45 (by omega) w1 h
  have hE := fun w1 h => number_walk b T 2 2 rfl (by omega) 1 (dim (dY l) (dM l)) (by omega) (by omega) (dl2 l) ((((g || !nOk 4 0 9999 l) || !mkOk 45 (nL 4 l)) || !nOk 2 1 12 (dl1 l)) || !mkOk 45 (nL 2 (dl1 l))) (by omega) w1 h
  have hF := fun w1 h => lastOf_walk (dY l) (dM l) (by omega) hMo.1 hMo.2.1 w1 h
  have hG := fun w1 => yearsAhead_walk (dY l : Nat) (by omega) (by omega) w1
  have hH := fun w1 h => daysAhead_walk (dY l) (dM l) (dM l : Nat) rfl (by omega) hMo.1 (by omega) w1 h
  rw [← hY.2] at hA
  rw [← hMo.2.2] at hC
  rw [e1] at hE
  change ∀ w1, RD w1 b T (nL 4 l) (g || !nOk 4 0 9999 l) → Calls Tryd.prog 43 #[.pointer (some ⟨b, 0, none⟩), .int .u8 45] w1 fun e w' => e = .returned (.tuple #[]) ∧ Kp [b] w1 w' ∧ RD w' b T (dl1 l) ((g || !nOk 4 0 9999 l) || !mkOk 45 (nL 4 l)) at hB
  change ∀ w1, RD w1 b T (nL 2 (dl1 l)) (((g || !nOk 4 0 9999 l) || !mkOk 45 (nL 4 l)) || !nOk 2 1 12 (dl1 l)) → Calls Tryd.prog 43 #[.pointer (some ⟨b, 0, none⟩), .int .u8 45] w1 fun e w' => e = .returned (.tuple #[]) ∧ Kp [b] w1 w' ∧ RD w' b T (dl2 l) ((((g || !nOk 4 0 9999 l) || !mkOk 45 (nL 4 l)) || !nOk 2 1 12 (dl1 l)) || !mkOk 45 (nL 2 (dl1 l))) at hD
  have hD2 := dD_in l
  have hya := ya_in (dY l) hY.1
  have hda := da_in (dY l) (dM l) hMo.1 (by omega)
  have hDV : dV l = ya (dY l) + da (dY l) (dM l) + dD l - 1 := rfl
  rw [hDV]
  change ∀ w1, _ → Calls _ _ _ w1 fun e w' => e = .returned (.int .i64 (dD l)) ∧ Kp [b] w1 w' ∧ RD w' b T (dL l) (g || !dOk l) at hE
  generalize dL l = l9 at hE ⊢
  generalize (g || !dOk l) = g9 at hE ⊢
  generalize ya (dY l) = y9 at hG hya ⊢
  generalize da (dY l) (dM l) = a9 at hH hda ⊢
  generalize dD l = d9 at hE hD2 ⊢
  generalize dim (dY l) (dM l) = i9 at hE hF hdi
  generalize dY l = y at *
  generalize dM l = m at *
  have HB := Lib.hid hB; have HC := Lib.hid hC; have HD := Lib.hid hD; have HE := Lib.hid hE; have HF := Lib.hid hF; have HG := Lib.hid hG; have HH := Lib.hid hH; have HA := Lib.hid hA
  clear hA hB hC hD hE hF hG hH e1 hr hDV hY hMo hdi
  obtain ⟨q1, q2⟩ := hD2
  obtain ⟨q3, q4⟩ := hya
  obtain ⟨q5, q6⟩ := hda
  go_enter Tryd.func42, Tryd.ntmps42
  go_wp2_with fail
  refine HA.out.mono ?_
  rintro e w1 ⟨rfl, k1, r1⟩
  go_wp2_with fail
  refine (HB.out w1 r1).mono ?_
  rintro e w2 ⟨rfl, k2, r2⟩
  go_wp2_with fail
  refine (HC.out w2 r2).mono ?_
  rintro e w3 ⟨rfl, k3, r3⟩
  go_wp2_with fail
  refine (HD.out w3 r3).mono ?_
  rintro e w4 ⟨rfl, k4, r4⟩
  have k14 := ((k1.trans k2).trans k3).trans k4
  clear k1 k2 k3 k4
  go_wp2_with fail
  refine (HF.out w4 (hM.kp k14 hb)).mono ?_
  rintro e w5 ⟨rfl, rfl⟩
  go_wp2_with fail
  refine (HE.out w4 r4).mono ?_
  rintro e w6 ⟨rfl, k6, r6⟩
  have k16 := k14.trans k6
  clear k14 k6
  go_wp2_with fail
  refine (HG.out w6).mono ?_
  rintro e w7 ⟨rfl, rfl⟩
  go_wp2_with fail
  refine (HH.out w6 (hM.kp k16 hb)).mono ?_
  rintro e w8 ⟨rfl, rfl⟩
  go_wp2
  go_ret
  exact ⟨rfl, k16, r6⟩
end Go.Proofs.YtonippapkmmkeaaDoor
