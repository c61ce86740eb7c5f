/- The program's length, walked. -/
import Derived.Test.YtndinelljmjfaaaDoorFrqA
import Derived.Deep.RegionWith
namespace Go.Proofs.YtndinelljmjfaaaDoor
open Go.ChangeShapes Go.WideShapes Go.ChangeAt Go.RowKit K F12
set_option linter.unusedVariables false

/-- What length leaves. -/
def LnPost (w : World) (b most dr wt lg ah : Nat) (v : Value) (c : List UInt8) (e : Ending) (w' : World) : Prop :=
  Kp [b] w w' ∧ match hd most c lg ah with
  | .bad => e = .returned (.string (bs [])) ∧ FrB w' b most true dr 0 0 0 (.slice none 0 0)
  | .more => e = .returned (.string (bs [])) ∧ FrB w' b most false dr wt (dg c lg) (ah + c.length) v
  | .num m k r => e = .returned (.string (bs r)) ∧ FrB w' b most false dr 2 m k v
theorem ln_bad {w w' : World} {b most dr wt lg ah : Nat} {v : Value} {c : List UInt8} (k : Kp [b] w w') (e : hd most c lg ah = .bad) (h : FrB w' b most true dr 0 0 0 (.slice none 0 0)) : LnPost w b most dr wt lg ah v c (.returned (.string (bs []))) w' := by
  unfold LnPost; rw [e]; exact ⟨k, rfl, h⟩
theorem ln_more {w w' : World} {b most dr wt lg ah : Nat} {v : Value} {c : List UInt8} (k : Kp [b] w w') (e : hd most c lg ah = .more) (h : FrB w' b most false dr wt (dg c lg) (ah + c.length) v) : LnPost w b most dr wt lg ah v c (.returned (.string (bs []))) w' := by
  unfold LnPost; rw [e]; exact ⟨k, rfl, h⟩
theorem ln_num {w w' : World} {b most dr wt lg ah m n : Nat} {v : Value} {c r : List UInt8} (k : Kp [b] w w') (e : hd most c lg ah = .num m n r) (h : FrB w' b most false dr 2 m n v) : LnPost w b most dr wt lg ah v c (.returned (.string (bs r))) w' := by
  unfold LnPost; rw [e]; exact ⟨k, rfl, h⟩
theorem drop_parts {c : List UInt8} {j : Nat} (h : j < c.length) : ∃ x, c.drop j = x :: c.drop (j + 1) ∧ byt c j = x.toNat ∧ c.take (j + 1) = c.take j ++ [x] := by
  refine ⟨c[j], List.drop_eq_getElem_cons h, byt_get c j h, ?_⟩
  rw [List.take_add_one, List.getElem?_eq_getElem h]; rfl
def LnRel (b most dr wt lg ah : Nat) (v : Value) (c : List UInt8) (w : World) (g : Nat) (v8 : Value) (wr : World) : Prop :=
  ∃ (j n : Nat), j + g = c.length ∧ v8 = .int .i64 (j : Nat) ∧ n ≤ most ∧ n = dg (c.take j) lg ∧ hd most c lg ah = hd most (c.drop j) n (ah + j) ∧ (0 < ah + j ∨ fst1 (c.drop j)) ∧ FrB wr b most false dr wt n (ah + j) v ∧ Kp [b] w wr
set_option maxRecDepth 100000 in
set_option maxHeartbeats 1500000 in
theorem length_walk (b most dr wt lg ah : Nat) (v : Value) (c : List UInt8) (hm : most ≤ 65535) (hlg : lg ≤ most) (hp : 0 < ah ∨ fst1 c) (hc : c.length ≤ 1000000) (hah : ah ≤ 1000000) (w : World) (h : FrB w b most false dr wt lg ah v) :
    Calls Tryd.prog 26 #[.pointer (some ⟨b, 0, none⟩), .string (bs c)] w (LnPost w b most dr wt lg ah v c) := by
  go_enter Tryd.func26, Tryd.ntmps26
  go_wp2_with fail
  go_loopg [8] c.length (fun g v8 wr => LnRel b most dr wt lg ah v c w g v8 wr)
  case atStart => exact ⟨0, lg, by omega, rfl, hlg, rfl, rfl, by simpa using hp, h, Kp.refl _ _⟩
  case round =>
    obtain ⟨j, n, hg, rfl, hn, hdg, hhd, hpj, hF, hk⟩ := hrel
    have HF := Lib.hid hF
    have HK := Lib.hid hk
    clear hF hk h hp
    cases gk with
    | zero =>
      have hj : ¬ ((j : Nat) : Int) < ((c.length : Nat) : Int) := by omega
      have hje : j = c.length := by omega
      rw [hje, List.drop_length] at hhd
      rw [hje, List.take_length] at hdg
      have HF2 := HF.out
      rw [hdg, hje] at HF2
      have HF3 := Lib.hid HF2
      have HH := Lib.hid hhd
      clear hhd hdg hje HF2
      go_wp2_with fail
      go_ret
      exact ln_more HK.out HH.out HF3.out
    | succ g =>
      have hj : ((j : Nat) : Int) < ((c.length : Nat) : Int) := by omega
      have hjl : j < c.length := by omega
      obtain ⟨x, hx1, hx2, hx3⟩ := drop_parts hjl
      rw [hx1] at hhd hpj
      rw [hd_step most x _ n (ah + j) hpj] at hhd
      have hdg2 : n * 10 + (x.toNat - 48) = dg (c.take (j + 1)) lg := by rw [hx3, dg_snoc, ← hdg]
      rw [← hx2] at hhd hdg2
      have HDG := Lib.hid hdg2
      obtain ⟨c0, c1, c2, c3, c4, c5, c6⟩ := HF.out.cells
      obtain ⟨f1, f2, f3, f4, f5, f6⟩ := HF.out.free
      have HF2 := Lib.hid (HF.out.setAh (ah + j + 1) (((ah : Nat) : Int) + ((j : Nat) : Int) + 1) (by omega))
      have HK2 := Lib.hid (HK.out.set ⟨b, 5, none⟩ (by simp) (.int .i64 (((ah : Nat) : Int) + ((j : Nat) : Int) + 1)))
      clear hdg hdg2 hx1 hx3 hpj
      have hxl := byt_lt c j
      by_cases h32 : byt c j = 32
      · rw [if_pos h32] at hhd
        have HH := Lib.hid hhd
        have HF4 := Lib.hid (HF2.out.setWt 2 2 rfl)
        have HK4 := Lib.hid (HK2.out.set ⟨b, 3, none⟩ (by simp) (.int .i64 2))
        clear hhd hx2
        go_wp2
        go_ret
        exact ln_num HK4.out HH.out HF4.out
      · rw [if_neg h32] at hhd
        clear hx2
        have hbb : ¬ ((byt c j : Nat) : Int) = 32 := by omega
        by_cases hdi : 48 ≤ byt c j ∧ byt c j ≤ 57
        · rw [if_neg (fun h => h hdi)] at hhd
          have hdt : dgt (byt c j) = true := by unfold dgt; simp; omega
          have HDI := Lib.hid (isdigit_walk (byt c j))
          rw [hdt] at HDI
          obtain ⟨n2, hn2⟩ : ∃ n2, n2 = n * 10 + (byt c j - 48) := ⟨_, rfl⟩
          rw [← hn2] at hhd HDG
          clear hdt
          by_cases hov : most < n2
          · rw [if_pos hov] at hhd
            have hov2 : ((most : Nat) : Int) < ((n2 : Nat) : Int) := by omega
            have HH := Lib.hid hhd
            clear hhd h32 c0 c1 c2 c3 c4 c5 c6 f1 f2 f3 f4 f5 f6
            obtain ⟨c0, c1, c2, c3, c4, c5, c6⟩ := HF.out.cells
            obtain ⟨f1, f2, f3, f4, f5, f6⟩ := HF.out.free
            go_wp2_with fail
            refine (HDI.out _).mono ?_
            rintro e w2 ⟨rfl, rfl⟩
            have q2 := HF2.out
            have k2 := HK2.out
            clear c0 c1 c2 c3 c4 c5 c6 f1 f2 f3 f4 f5 f6
            generalize wr.setCell ⟨b, 5, none⟩ (.int .i64 (((ah : Nat) : Int) + ((j : Nat) : Int) + 1)) = w2 at *
            obtain ⟨c0, c1, c2, c3, c4, c5, c6⟩ := q2.cells
            obtain ⟨f1, f2, f3, f4, f5, f6⟩ := q2.free
            have z1 : IntKind.i64.wrap (10 * ((n : Nat) : Int)) = 10 * (n : Int) := IntWalk.i64_in _ (by omega)
            have z2 : IntKind.u8.wrap (((byt c j : Nat) : Int) - 48) = ((byt c j : Nat) : Int) - 48 := IntWalk.u8_in _ (by omega)
            have z3 : IntKind.i64.wrap (((byt c j : Nat) : Int) - 48) = ((byt c j : Nat) : Int) - 48 := IntWalk.i64_in _ (by omega)
            have z4 : IntKind.i64.wrap (10 * ((n : Nat) : Int) + (((byt c j : Nat) : Int) - 48)) = 10 * (n : Int) + (((byt c j : Nat) : Int) - 48) := IntWalk.i64_in _ (by omega)
            have HQ3 := Lib.hid (show FrB (w2.setCell ⟨b, 4, none⟩ (.int .i64 (10 * ((n : Nat) : Int) + (((byt c j : Nat) : Int) - 48)))).drew b most false dr wt n2 (ah + j + 1) v from q2.setLg n2 _ (by omega))
            have HK3 := Lib.hid ((k2.set ⟨b, 4, none⟩ (by simp) (.int .i64 (10 * ((n : Nat) : Int) + (((byt c j : Nat) : Int) - 48)))).drew)
            have HN2 := Lib.hid hn2
            clear hdi hn2 q2 k2 HF HK HF2 HK2
            go_wp2_with fail
            go_region_with (fail)
            all_goals
              clear c0 c1 c2 c3 c4 c5 c6 f1 f2 f3 f4 f5 f6 z1 z2 z3 z4
              generalize (w2.setCell ⟨b, 4, none⟩ (.int .i64 (10 * ((n : Nat) : Int) + (((byt c j : Nat) : Int) - 48)))).drew = w3 at *
              obtain ⟨c0, c1, c2, c3, c4, c5, c6⟩ := HQ3.out.cells
              go_wp2_with fail
              go_quiet (fail)
              have q4 : FrB (w3.drewN nq) b most false dr wt n2 (ah + j + 1) v := HQ3.out
              have HK4 := Lib.hid (HK3.out.drewN nq)
              clear c0 c1 c2 c3 c4 c5 c6
              generalize w3.drewN nq = w4 at *
              have HDE := Lib.hid (die_walk b most false dr wt n2 (ah + j + 1) v _ q4)
              go_wp2_with fail
              refine HDE.out.mono ?_
              rintro e w5 ⟨rfl, q5, k5⟩
              have K5 := Lib.hid (HK4.out.trans k5)
              clear k5
              go_wp2
              go_ret
              exact ln_bad K5.out HH.out q5
          · rw [if_neg hov] at hhd
            have hov2 : ¬ ((most : Nat) : Int) < ((n2 : Nat) : Int) := by omega
            have HH := Lib.hid hhd
            clear hhd h32 c0 c1 c2 c3 c4 c5 c6 f1 f2 f3 f4 f5 f6
            obtain ⟨c0, c1, c2, c3, c4, c5, c6⟩ := HF.out.cells
            obtain ⟨f1, f2, f3, f4, f5, f6⟩ := HF.out.free
            go_wp2_with fail
            refine (HDI.out _).mono ?_
            rintro e w2 ⟨rfl, rfl⟩
            have q2 := HF2.out
            have k2 := HK2.out
            clear c0 c1 c2 c3 c4 c5 c6 f1 f2 f3 f4 f5 f6
            generalize wr.setCell ⟨b, 5, none⟩ (.int .i64 (((ah : Nat) : Int) + ((j : Nat) : Int) + 1)) = w2 at *
            obtain ⟨c0, c1, c2, c3, c4, c5, c6⟩ := q2.cells
            obtain ⟨f1, f2, f3, f4, f5, f6⟩ := q2.free
            have z1 : IntKind.i64.wrap (10 * ((n : Nat) : Int)) = 10 * (n : Int) := IntWalk.i64_in _ (by omega)
            have z2 : IntKind.u8.wrap (((byt c j : Nat) : Int) - 48) = ((byt c j : Nat) : Int) - 48 := IntWalk.u8_in _ (by omega)
            have z3 : IntKind.i64.wrap (((byt c j : Nat) : Int) - 48) = ((byt c j : Nat) : Int) - 48 := IntWalk.i64_in _ (by omega)
            have z4 : IntKind.i64.wrap (10 * ((n : Nat) : Int) + (((byt c j : Nat) : Int) - 48)) = 10 * (n : Int) + (((byt c j : Nat) : Int) - 48) := IntWalk.i64_in _ (by omega)
            have HQ3 := Lib.hid (show FrB (w2.setCell ⟨b, 4, none⟩ (.int .i64 (10 * ((n : Nat) : Int) + (((byt c j : Nat) : Int) - 48)))).drew b most false dr wt n2 (ah + j + 1) v from q2.setLg n2 _ (by omega))
            have HK3 := Lib.hid ((k2.set ⟨b, 4, none⟩ (by simp) (.int .i64 (10 * ((n : Nat) : Int) + (((byt c j : Nat) : Int) - 48)))).drew)
            have HN2 := Lib.hid hn2
            clear hdi hn2 q2 k2 HF HK HF2 HK2
            go_wp2_with fail
            go_region_with (fail)
            all_goals
              clear c0 c1 c2 c3 c4 c5 c6 f1 f2 f3 f4 f5 f6 z1 z2 z3 z4
              generalize (w2.setCell ⟨b, 4, none⟩ (.int .i64 (10 * ((n : Nat) : Int) + (((byt c j : Nat) : Int) - 48)))).drew = w3 at *
              obtain ⟨c0, c1, c2, c3, c4, c5, c6⟩ := HQ3.out.cells
              go_wp2_with fail
              go_quiet (fail)
              have q4 : FrB (w3.drewN nq) b most false dr wt n2 (ah + j + 1) v := HQ3.out
              have HK4 := Lib.hid (HK3.out.drewN nq)
              clear c0 c1 c2 c3 c4 c5 c6
              generalize w3.drewN nq = w4 at *
              have HQ4 := Lib.hid q4
              clear q4
              go_wp2
              go_roundg g
              case measure => omega
              case rel => exact ⟨j + 1, n2, by omega, by simp, by omega, HDG.out, HH.out, .inl (by omega), HQ4.out, HK4.out⟩
        · rw [if_pos hdi] at hhd
          have hdt : dgt (byt c j) = false := by unfold dgt; simp; omega
          have HDI := Lib.hid (isdigit_walk (byt c j))
          rw [hdt] at HDI
          have HH := Lib.hid hhd
          have HDE := Lib.hid (die_walk b most false dr wt n (ah + j + 1) v _ HF2.out)
          clear hhd h32 hdi hdt
          go_wp2_with fail
          refine (HDI.out _).mono ?_
          rintro e w2 ⟨rfl, rfl⟩
          go_wp2_with fail
          refine HDE.out.mono ?_
          rintro e w3 ⟨rfl, q3, k3⟩
          have K3 := Lib.hid (HK2.out.trans k3)
          clear k3 HK2 HF2
          go_wp2
          go_ret
          exact ln_bad K3.out HH.out q3
end Go.Proofs.YtndinelljmjfaaaDoor
