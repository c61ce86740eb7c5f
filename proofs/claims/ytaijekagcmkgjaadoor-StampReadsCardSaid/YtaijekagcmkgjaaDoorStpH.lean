/- The document's own Parse, walked: stamps that are right in form. -/
import Derived.Test.YtaijekagcmkgjaaDoorStpG
namespace Go.Proofs.YtaijekagcmkgjaaDoor
open Go.ChangeShapes Go.WideShapes Go.ChangeAt Go.RowKit K S3
set_option linter.unusedVariables false

/-- What of Parse is left behind the numbers. -/
theorem p_notF {l : List UInt8} (f : fOk (l.drop 19) = false) : prsV l = 0 ∧ prsC l = 30 := p_not fun h => by rw [h.2.2.1] at f; cases f
theorem p_notZ {l : List UInt8} (z : rzOk (fL (l.drop 19)) = false) : prsV l = 0 ∧ prsC l = 30 := p_not fun h => by rw [h.2.2.2] at z; cases z

set_option maxRecDepth 100000 in
set_option maxHeartbeats 8000000 in
theorem qparse_good (l : List UInt8) (hl : l.length ≤ 140737488351232) (hs : Seps l) (hn : Nums5 l) (w : World) :
    Calls Tryd.prog 10 #[.string (bs l)] w fun e w' => e = .returned (.tuple #[.int .i64 (prsV l), .int .i64 (prsC l)]) ∧ Drew w w' := by
  have hR := fun f z => right_of hs hn f z
  have hE := fun f z h => p_early hs hn f z h
  have hNF := @p_notF l
  have hNZ := @p_notZ l
  have hP := fun w1 => part_walk (l.drop 19) (by rw [List.length_drop]; omega) w1
  have hZ := fun w1 => qzone_walk (fL (l.drop 19)) (by have := fL_len (l.drop 19); rw [List.length_drop] at this; omega) w1
  have hz := zV_in (fL (l.drop 19))
  have hz2 : -1439 ≤ rzV (fL (l.drop 19)) ∧ rzV (fL (l.drop 19)) ≤ 1439 := by unfold rzV; split <;> omega
  have hf2 := fV_in (l.drop 19)
  obtain ⟨h20, s4, s7, s10, s13, s16⟩ := hs
  have q4 := fun w1 => qnumber_walk (l.take 4) (by rw [List.length_take]; omega) w1
  have q5 := fun w1 => qnumber_walk ((l.drop 5).take 2) (by rw [List.length_take]; omega) w1
  have q8 := fun w1 => qnumber_walk ((l.drop 8).take 2) (by rw [List.length_take]; omega) w1
  have q11 := fun w1 => qnumber_walk ((l.drop 11).take 2) (by rw [List.length_take]; omega) w1
  have q14 := fun w1 => qnumber_walk ((l.drop 14).take 2) (by rw [List.length_take]; omega) w1
  have q17 := fun w1 => qnumber_walk ((l.drop 17).take 2) (by rw [List.length_take]; omega) w1
  have hY9 : gY l ≤ 9999 := by
    have := numI_lt (l.take 4) 4 (by rw [List.length_take]; omega)
    unfold gY; simp at this; omega
  change ∀ w1, Calls _ _ _ w1 fun e w' => e = .returned (.int .i64 (gY l)) ∧ w1 = w' at q4
  change ∀ w1, Calls _ _ _ w1 fun e w' => e = .returned (.int .i64 (gM l)) ∧ w1 = w' at q5
  change ∀ w1, Calls _ _ _ w1 fun e w' => e = .returned (.int .i64 (gD l)) ∧ w1 = w' at q8
  change ∀ w1, Calls _ _ _ w1 fun e w' => e = .returned (.int .i64 (gH l)) ∧ w1 = w' at q11
  change ∀ w1, Calls _ _ _ w1 fun e w' => e = .returned (.int .i64 (gI l)) ∧ w1 = w' at q14
  change ∀ w1, Calls _ _ _ w1 fun e w' => e = .returned (.int .i64 (gC l)) ∧ w1 = w' at q17
  obtain ⟨ny, nm1, nm2, nd1, nd2, nh1, nh2, ni1, ni2, nc1, nc2⟩ := hn
  obtain ⟨y, hy⟩ := Int.eq_ofNat_of_zero_le ny
  obtain ⟨m, hm⟩ := Int.eq_ofNat_of_zero_le (show 0 ≤ gM l by omega)
  rw [hy] at q4 hE hR hY9 nd2
  rw [hm] at q5 hR nm1 nm2 nd2
  simp only [Int.toNat_natCast] at hR nd2
  have hday := fun w1 => days_walk y m (by omega) (by omega) (by omega) w1
  have hdm := dim_in y m (by omega) (by omega)
  have hdayk := fun (k : Nat) (a : 1 ≤ k) (b : k < m) w1 => days_walk y k (by omega) a (by omega) w1
  have hpast := fun w1 => past_walk y (by omega) w1
  have hdd : dim y m = dim y m := rfl
  generalize gD l = D at *
  generalize gH l = H at *
  generalize gI l = I at *
  generalize gC l = C at *
  generalize fV (l.drop 19) = fv at *
  generalize rzV (fL (l.drop 19)) = zv at *
  have e1 : (y : Int) < 1969 ∨ 2100 < (y : Int) ∨ y = 1969 ∨ (1970 ≤ y ∧ y ≤ 2100) := by omega
  have Q4 := Lib.hid q4; have Q5 := Lib.hid q5; have Q8 := Lib.hid q8; have Q11 := Lib.hid q11; have Q14 := Lib.hid q14; have Q17 := Lib.hid q17; have HD := Lib.hid hday; have HDK := Lib.hid hdayk; have HPA := Lib.hid hpast
  have HR := Lib.hid hR; have HE := Lib.hid hE; have HNF := Lib.hid hNF; have HNZ := Lib.hid hNZ; have HP := Lib.hid hP; have HZ := Lib.hid hZ; have HE1 := Lib.hid e1
  have b4 : (((byt l 4 : Nat) : Int) != 45) = false := by rw [bne_eq_false_iff_eq]; exact s4
  have b7 : (((byt l 7 : Nat) : Int) != 45) = false := by rw [bne_eq_false_iff_eq]; exact s7
  have b10 : (((byt l 10 : Nat) : Int) != 84) = false := by rw [bne_eq_false_iff_eq]; exact s10
  have b13 : (((byt l 13 : Nat) : Int) != 58) = false := by rw [bne_eq_false_iff_eq]; exact s13
  have b16 : (((byt l 16 : Nat) : Int) != 58) = false := by rw [bne_eq_false_iff_eq]; exact s16
  have i20 : (20 : Int) ≤ ((l.length : Nat) : Int) := by omega
  have i4 : (4 : Int) ≤ ((l.length : Nat) : Int) := by omega
  have i7 : (7 : Int) ≤ ((l.length : Nat) : Int) := by omega
  have i10 : (10 : Int) ≤ ((l.length : Nat) : Int) := by omega
  have i13 : (13 : Int) ≤ ((l.length : Nat) : Int) := by omega
  have i16 : (16 : Int) ≤ ((l.length : Nat) : Int) := by omega
  have i19 : (19 : Int) ≤ ((l.length : Nat) : Int) := by omega
  clear q4 q5 q8 q11 q14 q17 hday hdayk hpast hR hE hNF hNZ hP hZ e1 s4 s7 s10 s13 s16 hdd hy hm hz ny
  obtain ⟨dm1, dm2⟩ := hdm
  obtain ⟨z1, z2⟩ := hz2
  go_enter Tryd.func10, Tryd.ntmps10
  go_wp2
  go_quiet ((first | (go_at_call 28; with_reducible refine Calls.quiet_mk (Q4.out _)) | (go_at_call 28; with_reducible refine Calls.quiet_mk (Q5.out _)) | (go_at_call 28; with_reducible refine Calls.quiet_mk (Q8.out _))))
  have D1 : Drew w (w.drewN nq) := ⟨nq, rfl⟩
  generalize w.drewN nq = w5 at D1 ⊢
  go_wp2
  go_quiet ((first | (go_at_call 28; with_reducible refine Calls.quiet_mk (Q11.out _)) | (go_at_call 28; with_reducible refine Calls.quiet_mk (Q14.out _)) | (go_at_call 28; with_reducible refine Calls.quiet_mk (Q17.out _))))
  have D2 : Drew w (w5.drewN nq) := D1.trans ⟨nq, rfl⟩
  generalize w5.drewN nq = w6 at D2 ⊢
  clear D1 b4 b7 b10 b13 b16 Q4 Q5 Q8 Q11 Q14 Q17
  go_wp2_with fail
  refine (HD.out w6).mono ?_
  rintro e w7 ⟨rfl, rfl⟩
  clear HD
  go_wp2_with fail
  refine (HP.out w6).mono ?_
  rintro e w7 ⟨rfl, D3⟩
  replace D3 : Drew w6 w7 := D3
  have D4 := D2.trans D3
  clear D2 D3 HP
  go_wp2_with fail
  refine (HZ.out w7).mono ?_
  rintro e w8 ⟨rfl, D5⟩
  have D6 := D4.trans D5
  clear D4 D5 HZ
  cases hfo : fOk (l.drop 19)
  · have hno := Lib.hid (HNF.out hfo)
    clear HNF HNZ HR HE hfo
    go_wp2
    go_ret2
    rw [hno.out.1, hno.out.2]
    exact ⟨rfl, D6⟩
  · cases hzo : rzOk (fL (l.drop 19))
    · have hno := Lib.hid (HNZ.out hzo)
      clear HNF HNZ HR HE hfo hzo
      go_wp2
      go_ret2
      rw [hno.out.1, hno.out.2]
      exact ⟨rfl, D6⟩
    · have hR := HR.out hfo hzo
      have hE := HE.out hfo hzo
      have HR2 := Lib.hid hR
      have HE2 := Lib.hid hE
      clear HNF HNZ HR HE hfo hzo hR hE
      have hpin : pst y = 0 ∨ (1970 ≤ y ∧ pst y = ya y) := by unfold pst; by_cases h : 1970 ≤ y <;> simp [h]
      have hyain : (1969 ≤ y ∧ y ≤ 2100) → -365 ≤ ya y ∧ ya y ≤ 48000 := by intro h; unfold ya lf; omega
      rcases HE1.out with e | e | e | ⟨e, e2⟩
      · have hno := Lib.hid (HE2.out (Or.inl e))
        clear HR2 HE2 HPA HDK hpin hyain
        go_wp2
        go_ret2
        rw [hno.out.1, hno.out.2]
        exact ⟨rfl, D6⟩
      · have hno := Lib.hid (HE2.out (Or.inr e))
        have e3 : 1969 ≤ (y : Int) := by omega
        clear HR2 HE2 HPA HDK hpin hyain
        go_wp2
        go_ret2
        rw [hno.out.1, hno.out.2]
        exact ⟨rfl, D6⟩
      · have e3 : 1969 ≤ (y : Int) := by omega
        have e4 : (y : Int) ≤ 2100 := by omega
        have e5 : (((y : Nat) : Int) == 1969) = true := by rw [beq_iff_eq]; omega
        have hp : pst y = 0 := by unfold pst; rw [if_neg (by omega)]
        have hya : ya (y : Int) = -365 := by rw [e]; decide
        have hPA := HPA.out w8
        rw [hp] at hPA
        obtain ⟨T0, hT0⟩ : ∃ T0, ya (y : Int) + D - 1 = T0 := ⟨_, rfl⟩
        have hTb : -366 ≤ T0 ∧ T0 ≤ 50000 := by omega
        have hT1 : D - 1 - 365 = T0 := by omega
        obtain ⟨tb1, tb2⟩ := hTb
        have HT0 := Lib.hid (show ya (y : Int) + D - 1 = T0 ∧ D - 1 - 365 = T0 from ⟨hT0, hT1⟩)
        clear HE2 HPA hpin hyain hp hya hT0 hT1 e
        go_wp2_with fail
        refine hPA.mono ?_
        rintro e w9 ⟨rfl, rfl⟩
        go_wp2
        go_loop [15, 16] (fun v15 v16 => MRel y m T0 v15 v16) (fun v15 v16 => m - (intOf v16).toNat)
        case atStart => exact ⟨1, by omega, by omega, rfl, by rw [da_first]; congr 1; have := HT0.out; omega⟩
        case round =>
          obtain ⟨k, k1, k2, rfl, rfl⟩ := hrel
          have hdk := da_in y k (by omega) (by omega)
          obtain ⟨dk1, dk2⟩ := hdk
          by_cases hkm : k < m
          · have hD := HDK.out k k1 hkm w8
            have hst := da_step y k
            have hdi := dim_in y k (by omega) (by omega)
            obtain ⟨di1, di2⟩ := hdi
            generalize da y k = q at *
            generalize dim y k = r at *
            have HST := Lib.hid hst
            have HD := Lib.hid hD
            clear hst hD
            go_wp2_with fail
            refine HD.out.mono ?_
            rintro e w9 ⟨rfl, rfl⟩
            go_wp2
            go_round
            case measure => simp [intOf]; omega
            case rel => exact ⟨k + 1, by omega, by omega, by simp, by rw [HST.out]; congr 1; omega⟩
          · obtain rfl : k = m := by omega
            have hyes := HR2.out.yes _ rfl
            have hno := HR2.out.no _ rfl
            rw [HT0.out.1] at hyes hno
            generalize da y k = q at *
            by_cases t1 : (T0 + q) * 86400 + (H * 60 + I - zv) * 60 + C < 0
            · have HN := Lib.hid (hno (Or.inl t1))
              clear hyes hno
              go_wp2
              go_ret2
              rw [HN.out.1, HN.out.2]
              exact ⟨rfl, D6⟩
            · by_cases t2 : 2305843009 < (T0 + q) * 86400 + (H * 60 + I - zv) * 60 + C
              · have HN := Lib.hid (hno (Or.inr (Or.inl t2)))
                clear hyes hno
                go_wp2
                go_ret2
                rw [HN.out.1, HN.out.2]
                exact ⟨rfl, D6⟩
              · have t1' : 0 ≤ (T0 + q) * 86400 + (H * 60 + I - zv) * 60 + C := by omega
                have t2' : (T0 + q) * 86400 + (H * 60 + I - zv) * 60 + C ≤ 2305843009 := by omega
                by_cases t3 : 2305843009213693952 < ((T0 + q) * 86400 + (H * 60 + I - zv) * 60 + C) * 1000000000 + fv
                · have HN := Lib.hid (hno (Or.inr (Or.inr t3)))
                  clear hyes hno t1 t2
                  go_wp2
                  go_ret2
                  rw [HN.out.1, HN.out.2]
                  exact ⟨rfl, D6⟩
                · have HY := Lib.hid (hyes t1' t2' (by omega))
                  have t3' : ((T0 + q) * 86400 + (H * 60 + I - zv) * 60 + C) * 1000000000 + fv ≤ 2305843009213693952 := by omega
                  clear hyes hno t1 t2 t3
                  go_wp2
                  go_ret2
                  rw [HY.out.1, HY.out.2]
                  exact ⟨rfl, D6⟩
      · have e3 : 1969 ≤ (y : Int) := by omega
        have e4 : (y : Int) ≤ 2100 := by omega
        have e5 : (((y : Nat) : Int) == 1969) = false := by rw [beq_eq_false_iff_ne]; omega
        have hp : pst y = ya y := by unfold pst; rw [if_pos e]
        have hya := hyain ⟨by omega, e2⟩
        have hPA := HPA.out w8
        rw [hp] at hPA
        obtain ⟨T0, hT0⟩ : ∃ T0, ya (y : Int) + D - 1 = T0 := ⟨_, rfl⟩
        have hTb : -366 ≤ T0 ∧ T0 ≤ 50000 := by omega
        obtain ⟨tb1, tb2⟩ := hTb
        obtain ⟨ya1, ya2⟩ := hya
        have HT0 := Lib.hid hT0
        clear HE2 HPA hpin hyain hp hT0 e
        generalize ya (y : Int) = P at *
        go_wp2_with fail
        refine hPA.mono ?_
        rintro e w9 ⟨rfl, rfl⟩
        go_wp2
        go_loop [15, 16] (fun v15 v16 => MRel y m T0 v15 v16) (fun v15 v16 => m - (intOf v16).toNat)
        case atStart => exact ⟨1, by omega, by omega, rfl, by rw [da_first]; congr 1; have := HT0.out; omega⟩
        case round =>
          obtain ⟨k, k1, k2, rfl, rfl⟩ := hrel
          have hdk := da_in y k (by omega) (by omega)
          obtain ⟨dk1, dk2⟩ := hdk
          by_cases hkm : k < m
          · have hD := HDK.out k k1 hkm w8
            have hst := da_step y k
            have hdi := dim_in y k (by omega) (by omega)
            obtain ⟨di1, di2⟩ := hdi
            generalize da y k = q at *
            generalize dim y k = r at *
            have HST := Lib.hid hst
            have HD := Lib.hid hD
            clear hst hD
            go_wp2_with fail
            refine HD.out.mono ?_
            rintro e w9 ⟨rfl, rfl⟩
            go_wp2
            go_round
            case measure => simp [intOf]; omega
            case rel => exact ⟨k + 1, by omega, by omega, by simp, by rw [HST.out]; congr 1; omega⟩
          · obtain rfl : k = m := by omega
            have hyes := HR2.out.yes _ rfl
            have hno := HR2.out.no _ rfl
            rw [HT0.out] at hyes hno
            generalize da y k = q at *
            by_cases t1 : (T0 + q) * 86400 + (H * 60 + I - zv) * 60 + C < 0
            · have HN := Lib.hid (hno (Or.inl t1))
              clear hyes hno
              go_wp2
              go_ret2
              rw [HN.out.1, HN.out.2]
              exact ⟨rfl, D6⟩
            · by_cases t2 : 2305843009 < (T0 + q) * 86400 + (H * 60 + I - zv) * 60 + C
              · have HN := Lib.hid (hno (Or.inr (Or.inl t2)))
                clear hyes hno
                go_wp2
                go_ret2
                rw [HN.out.1, HN.out.2]
                exact ⟨rfl, D6⟩
              · have t1' : 0 ≤ (T0 + q) * 86400 + (H * 60 + I - zv) * 60 + C := by omega
                have t2' : (T0 + q) * 86400 + (H * 60 + I - zv) * 60 + C ≤ 2305843009 := by omega
                by_cases t3 : 2305843009213693952 < ((T0 + q) * 86400 + (H * 60 + I - zv) * 60 + C) * 1000000000 + fv
                · have HN := Lib.hid (hno (Or.inr (Or.inr t3)))
                  clear hyes hno t1 t2
                  go_wp2
                  go_ret2
                  rw [HN.out.1, HN.out.2]
                  exact ⟨rfl, D6⟩
                · have HY := Lib.hid (hyes t1' t2' (by omega))
                  have t3' : ((T0 + q) * 86400 + (H * 60 + I - zv) * 60 + C) * 1000000000 + fv ≤ 2305843009213693952 := by omega
                  clear hyes hno t1 t2 t3
                  go_wp2
                  go_ret2
                  rw [HY.out.1, HY.out.2]
                  exact ⟨rfl, D6⟩
end Go.Proofs.YtaijekagcmkgjaaDoor
