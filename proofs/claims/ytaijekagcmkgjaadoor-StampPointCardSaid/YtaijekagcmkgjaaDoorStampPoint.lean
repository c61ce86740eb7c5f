/- Noughts behind the digits of a second's part change nothing, as long as there are at most nine, and one digit more is none: gonglaw03.StampPoint answers true at every input, and its arguments read as before. Its card ties the listed tables (of package stamp and of Go's library) to the program's text. No other condition. -/
import Derived.Test.YtaijekagcmkgjaaDoorStpY
namespace Go.Proofs.YtaijekagcmkgjaaDoor
open Go.ChangeShapes Go.WideShapes Go.ChangeAt Go.RowKit K S3
open Go.ChangeMaps (open_string shut_string)
set_option linter.unusedVariables false

theorem pnt_len (n : Nat) : 1 ≤ (pnt n).length ∧ (pnt n).length ≤ 10 := by
  obtain ⟨T, e, _, hl, _⟩ := pnt_cons n
  rw [e, List.length_cons]; omega
def NoRel (base : List UInt8) (w : World) (v5 v31 : Value) (wr : World) : Prop :=
  ∃ i : Nat, i ≤ 10 ∧ v31 = .int .i64 i ∧ v5 = .string (bs (base ++ List.replicate i 48)) ∧ Below w.heap.size w wr

namespace stampPoint
theorem own : ownKnob Tryd.prog.godebug = none := by kernel_rfl
theorem tabs {W : World} (h : laidMetH Tryd.prog Rows.stampPointRow.laid W) : Months W ∧ Pows W :=
  ⟨monthsOf h (by kernel_rfl) (by unfold Rows.stampPointRow; simp only [List.mem_cons, true_or, or_true]), powsOf h (by kernel_rfl) (by unfold Rows.stampPointRow; simp only [List.mem_cons, true_or, or_true])⟩
set_option maxRecDepth 100000 in
set_option maxHeartbeats 8000000 in
theorem walk (a : Int) (wa : (Lit.int .i64 a).wf = true) (many : Int) (wm : (Lit.int .i64 many).wf = true) (w : World) (ht : Months w ∧ Pows w) :
    Calls Tryd.prog 7 #[.int .i64 a, .int .i64 many] w fun e w' => e = .returned (.bool true) ∧ Below w.heap.size w w' := by
  have hba := bounds_i64 wa
  have hbm := bounds_i64 wm
  obtain ⟨hM, hP⟩ := ht
  have HW := works_walk w hM
  have HB1 := Lib.hid (fun w1 => below_walk a 2305843009213693953 hba.1 hba.2 (by omega) (by omega) w1)
  have HB2 := Lib.hid (fun w1 => below_walk many 10 hbm.1 hbm.2 (by omega) (by omega) w1)
  have hb1 := belowN_bounds a 2305843009213693953 (by omega)
  have hb2 := belowN_bounds many 10 (by omega)
  generalize belowN a 2305843009213693953 = tt at *
  generalize belowN many 10 = mm at *
  obtain ⟨t, rfl⟩ := Int.eq_ofNat_of_zero_le hb1.1
  have ht61 : t ≤ 2305843009213693952 := by omega
  obtain ⟨y, m, d, hd⟩ := date_ex (t / 86400000000000) (by omega)
  have hPr := fun w1 h1 h2 => print_yes t y m d ht61 hd w1 h1 h2
  have hyes := fun i h1 h9 => point_yes t y m d i ht61 hd h1 h9
  have hno := fun i h => point_no t y m d i ht61 hd h
  have hpl := pnt_len (t % 1000000000)
  have htx : ∀ i, (dtx y m d ++ (84 :: (clk (t / 1000000000) ++ pnt (t % 1000000000)))) ++ List.replicate i 48 ++ [90] = dtx y m d ++ (84 :: (clk (t / 1000000000) ++ ((pnt (t % 1000000000) ++ List.replicate i 48) ++ [90]))) := by intro i; simp
  have hbl : (dtx y m d ++ (84 :: (clk (t / 1000000000) ++ pnt (t % 1000000000)))).length = 19 + (pnt (t % 1000000000)).length := by
    simp [dtx_len, clk_len]; omega
  have hfirst : (t % 1000000000 = 0 → (txt y m d (t / 1000000000) (t % 1000000000)).length = 19 ∧ txt y m d (t / 1000000000) (t % 1000000000) ++ [46] = dtx y m d ++ (84 :: (clk (t / 1000000000) ++ pnt (t % 1000000000)))) ∧
      (t % 1000000000 ≠ 0 → (txt y m d (t / 1000000000) (t % 1000000000)).length ≠ 19 ∧ txt y m d (t / 1000000000) (t % 1000000000) = dtx y m d ++ (84 :: (clk (t / 1000000000) ++ pnt (t % 1000000000)))) := by
    constructor
    · intro h0
      rw [txt_len, h0]
      exact ⟨rfl, by simp [txt, frc, pnt]⟩
    · intro h0
      have e : pnt (t % 1000000000) = frc (t % 1000000000) := by unfold pnt; rw [if_neg h0]
      rw [txt_len, e]
      refine ⟨?_, rfl⟩
      rw [← e]; omega
  have hxl := txt_len y m d (t / 1000000000) (t % 1000000000)
  have hfl := frc_len (t % 1000000000)
  simp only [← htx] at hyes hno
  have hplen : ∀ i, (pnt (t % 1000000000) ++ List.replicate i (48 : UInt8)).length = (pnt (t % 1000000000)).length + i := by intro i; simp
  simp only [hplen] at hyes hno
  generalize dtx y m d ++ (84 :: (clk (t / 1000000000) ++ pnt (t % 1000000000))) = base at *
  generalize (pnt (t % 1000000000)).length = q at *
  generalize txt y m d (t / 1000000000) (t % 1000000000) = X at *
  generalize t % 1000000000 = n9 at *
  have HPR := Lib.hid hPr; have HYES := Lib.hid hyes; have HNO := Lib.hid hno
  have HF := Lib.hid hfirst; have HBL := Lib.hid hbl
  have hX1 : 19 ≤ X.length := by omega
  have hX2 : X.length ≤ 29 := by omega
  obtain ⟨q1, q2⟩ := hpl
  obtain ⟨m1, m2⟩ := hb2
  clear hPr hyes hno hfirst hbl htx hplen hd hxl hfl hb1
  go_enter Tryd.func7, Tryd.ntmps7
  go_wp2_with fail
  refine HW.mono ?_
  rintro e w1 ⟨rfl, b1⟩
  clear HW
  go_wp2_with fail
  refine (HB1.out w1).mono ?_
  rintro e w2 ⟨rfl, rfl⟩
  clear HB1
  go_wp2_with fail
  refine (HPR.out w1 (hM.below b1) (hP.below b1)).mono ?_
  rintro e w2 ⟨rfl, c⟩
  replace b1 := b1.trans (c.mono b1.size); clear c HPR
  have main : ∀ (w3 : World), True := fun _ => trivial
  obtain ⟨Y, hY⟩ : ∃ Y, Y = X ++ [90] := ⟨_, rfl⟩
  have hYl : Y.length = X.length + 1 := by rw [hY]; simp
  have hYt : Y.take (Y.length - 1) = X := by rw [hYl, hY]; simp
  have hY1 : (1 : Int) ≤ ((Y.length : Nat) : Int) := by omega
  have hY2 : ((Y.length : Nat) : Int) ≤ 30 := by omega
  rw [← hY]
  have HYl := Lib.hid hYl; have HYt := Lib.hid hYt
  clear hY hYl hYt main
  by_cases h0 : n9 = 0
  · obtain ⟨x19, xb⟩ := HF.out.1 h0
    have hb19 : (((Y.length - 1 : Nat) : Int) == 19) = true := by rw [beq_iff_eq]; have := HYl.out; omega
    clear x19 h0
    go_wp2
    generalize hS : bs (List.take (Y.length - 1) Y) ++ ({ data := #[46] } : ByteArray) = S
    have hS2 : S = bs base := by
      rw [← hS, HYt.out, ← xb]; exact bs_append X [46]
    have HS := Lib.hid hS2
    clear hS2 xb hb19
    clear hS HF HYl HYt hX1 hX2
    go_loopw [5, 31] (fun v5 v31 wr => NoRel base w v5 v31 wr) (fun v5 v31 wr => 10 - (intOf v31).toNat)
    case atStart => exact ⟨0, by omega, rfl, by rw [HS.out]; simp, b1⟩
    case round =>
      obtain ⟨i, hi, rfl, rfl, hb⟩ := hrel
      by_cases hi10 : i < 10
      · have hL : (base ++ List.replicate i 48).length = 19 + q + i := by rw [List.length_append, List.length_replicate, HBL.out]
        have hpa := parse_walk (base ++ List.replicate i 48 ++ [90]) (by rw [List.length_append, hL]; simp; omega) wr (hM.below hb)
        have hnx : base ++ List.replicate i 48 ++ [48] = base ++ List.replicate (i + 1) 48 := by rw [List.append_assoc, ← List.replicate_succ']
        have HNX := Lib.hid hnx
        have hyes := HYES.out i
        have hno := HNO.out i
        generalize base ++ List.replicate i 48 = S1 at *
        have HL := Lib.hid hL
        have l1 : ((S1.length : Nat) : Int) ≤ 38 := by omega
        have l0 : (20 : Int) ≤ ((S1.length : Nat) : Int) := by omega
        have e90 : bs S1 ++ ({ data := #[90] } : ByteArray) = bs (S1 ++ [90]) := bs_append S1 [90]
        by_cases hmid : 2 ≤ q + i ∧ q + i ≤ 10
        · obtain ⟨v1, v2⟩ := hyes hmid.1 hmid.2
          rw [v1, v2] at hpa
          have l2 : (20 : Int) < ((S1.length : Nat) : Int) := by omega
          have l3 : ((S1.length : Nat) : Int) ≤ 29 := by omega
          have l4 : (((S1.length : Nat) : Int) == 20) = false := by rw [beq_eq_false_iff_ne]; omega
          have HPA := Lib.hid hpa
          clear hL hyes hno hnx v1 v2 hpa hmid e90
          by_cases him : mm ≤ (i : Int)
          · go_wp2_with fail
            refine HPA.out.mono ?_
            rintro e w5 ⟨rfl, c⟩
            have hb5 := hb.trans (c.mono hb.size); clear c
            go_wp2_with fail
            refine (HB2.out w5).mono ?_
            rintro e w6 ⟨rfl, rfl⟩
            go_wp2
            go_roundw
            case measure => simp [intOf]; omega
            case rel => exact ⟨i + 1, by omega, by simp, by rw [← HNX.out]; exact congrArg Value.string (bs_append S1 [48]), hb5⟩
          · go_wp2_with fail
            refine HPA.out.mono ?_
            rintro e w5 ⟨rfl, c⟩
            have hb5 := hb.trans (c.mono hb.size); clear c
            go_wp2_with fail
            refine (HB2.out w5).mono ?_
            rintro e w6 ⟨rfl, rfl⟩
            go_wp2
            go_roundw
            case measure => simp [intOf]; omega
            case rel => exact ⟨i + 1, by omega, by simp, by rw [← HNX.out]; exact congrArg Value.string (bs_append S1 [48]), hb5⟩
        · have hout : q + i = 1 ∨ 10 < q + i := by omega
          obtain ⟨v1, v2⟩ := hno hout
          rw [v1, v2] at hpa
          have HPA := Lib.hid hpa
          have hcase : ((((S1.length : Nat) : Int) == 20) = true ∧ ((S1.length : Nat) : Int) ≤ 20) ∨ ((((S1.length : Nat) : Int) == 20) = false ∧ (20 : Int) < ((S1.length : Nat) : Int) ∧ 29 < ((S1.length : Nat) : Int)) := by
            rw [beq_iff_eq, beq_eq_false_iff_ne]; omega
          clear hL hyes hno hnx v1 v2 hpa hmid e90 hout
          rcases hcase with ⟨k1, k2⟩ | ⟨k1, k2, k3⟩
          all_goals
            by_cases him : mm ≤ (i : Int)
            all_goals
              go_wp2_with fail
              refine HPA.out.mono ?_
              rintro e w5 ⟨rfl, c⟩
              have hb5 := hb.trans (c.mono hb.size); clear c
              go_wp2_with fail
              refine (HB2.out w5).mono ?_
              rintro e w6 ⟨rfl, rfl⟩
              go_wp2
              go_roundw
              case measure => simp [intOf]; omega
              case rel => exact ⟨i + 1, by omega, by simp, by rw [← HNX.out]; exact congrArg Value.string (bs_append S1 [48]), hb5⟩
      · obtain rfl : i = 10 := by omega
        go_wp2
        go_ret
        exact ⟨rfl, hb⟩
  · obtain ⟨x19, xb⟩ := HF.out.2 h0
    have hb19 : (((Y.length - 1 : Nat) : Int) == 19) = false := by rw [beq_eq_false_iff_ne]; have := HYl.out; omega
    clear x19 h0
    go_wp2
    generalize hS : bs (List.take (Y.length - 1) Y) = S
    have hS2 : S = bs base := by rw [← hS, HYt.out, xb]
    have HS := Lib.hid hS2
    clear hS2 xb hb19
    clear hS HF HYl HYt hX1 hX2
    go_loopw [5, 31] (fun v5 v31 wr => NoRel base w v5 v31 wr) (fun v5 v31 wr => 10 - (intOf v31).toNat)
    case atStart => exact ⟨0, by omega, rfl, by rw [HS.out]; simp, b1⟩
    case round =>
      obtain ⟨i, hi, rfl, rfl, hb⟩ := hrel
      by_cases hi10 : i < 10
      · have hL : (base ++ List.replicate i 48).length = 19 + q + i := by rw [List.length_append, List.length_replicate, HBL.out]
        have hpa := parse_walk (base ++ List.replicate i 48 ++ [90]) (by rw [List.length_append, hL]; simp; omega) wr (hM.below hb)
        have hnx : base ++ List.replicate i 48 ++ [48] = base ++ List.replicate (i + 1) 48 := by rw [List.append_assoc, ← List.replicate_succ']
        have HNX := Lib.hid hnx
        have hyes := HYES.out i
        have hno := HNO.out i
        generalize base ++ List.replicate i 48 = S1 at *
        have HL := Lib.hid hL
        have l1 : ((S1.length : Nat) : Int) ≤ 38 := by omega
        have l0 : (20 : Int) ≤ ((S1.length : Nat) : Int) := by omega
        have e90 : bs S1 ++ ({ data := #[90] } : ByteArray) = bs (S1 ++ [90]) := bs_append S1 [90]
        by_cases hmid : 2 ≤ q + i ∧ q + i ≤ 10
        · obtain ⟨v1, v2⟩ := hyes hmid.1 hmid.2
          rw [v1, v2] at hpa
          have l2 : (20 : Int) < ((S1.length : Nat) : Int) := by omega
          have l3 : ((S1.length : Nat) : Int) ≤ 29 := by omega
          have l4 : (((S1.length : Nat) : Int) == 20) = false := by rw [beq_eq_false_iff_ne]; omega
          have HPA := Lib.hid hpa
          clear hL hyes hno hnx v1 v2 hpa hmid e90
          by_cases him : mm ≤ (i : Int)
          · go_wp2_with fail
            refine HPA.out.mono ?_
            rintro e w5 ⟨rfl, c⟩
            have hb5 := hb.trans (c.mono hb.size); clear c
            go_wp2_with fail
            refine (HB2.out w5).mono ?_
            rintro e w6 ⟨rfl, rfl⟩
            go_wp2
            go_roundw
            case measure => simp [intOf]; omega
            case rel => exact ⟨i + 1, by omega, by simp, by rw [← HNX.out]; exact congrArg Value.string (bs_append S1 [48]), hb5⟩
          · go_wp2_with fail
            refine HPA.out.mono ?_
            rintro e w5 ⟨rfl, c⟩
            have hb5 := hb.trans (c.mono hb.size); clear c
            go_wp2_with fail
            refine (HB2.out w5).mono ?_
            rintro e w6 ⟨rfl, rfl⟩
            go_wp2
            go_roundw
            case measure => simp [intOf]; omega
            case rel => exact ⟨i + 1, by omega, by simp, by rw [← HNX.out]; exact congrArg Value.string (bs_append S1 [48]), hb5⟩
        · have hout : q + i = 1 ∨ 10 < q + i := by omega
          obtain ⟨v1, v2⟩ := hno hout
          rw [v1, v2] at hpa
          have HPA := Lib.hid hpa
          have hcase : ((((S1.length : Nat) : Int) == 20) = true ∧ ((S1.length : Nat) : Int) ≤ 20) ∨ ((((S1.length : Nat) : Int) == 20) = false ∧ (20 : Int) < ((S1.length : Nat) : Int) ∧ 29 < ((S1.length : Nat) : Int)) := by
            rw [beq_iff_eq, beq_eq_false_iff_ne]; omega
          clear hL hyes hno hnx v1 v2 hpa hmid e90 hout
          rcases hcase with ⟨k1, k2⟩ | ⟨k1, k2, k3⟩
          all_goals
            by_cases him : mm ≤ (i : Int)
            all_goals
              go_wp2_with fail
              refine HPA.out.mono ?_
              rintro e w5 ⟨rfl, c⟩
              have hb5 := hb.trans (c.mono hb.size); clear c
              go_wp2_with fail
              refine (HB2.out w5).mono ?_
              rintro e w6 ⟨rfl, rfl⟩
              go_wp2
              go_roundw
              case measure => simp [intOf]; omega
              case rel => exact ⟨i + 1, by omega, by simp, by rw [← HNX.out]; exact congrArg Value.string (bs_append S1 [48]), hb5⟩
      · obtain rfl : i = 10 := by omega
        go_wp2
        go_ret
        exact ⟨rfl, hb⟩

/-! ### The row's step, over a listed table -/
set_option maxRecDepth 1000000 in
theorem contract (H : Type) (enc : TypeId × Value → H) (W : World) (base : Nat) (args : Array Value) (ds gs : List (DataW H)) (before : List MemPlace)
    (hval0 : ∀ (j : Nat) t v, Tryd.f7.params[j]? = some t → args[j]? = some v → Value.okWide Tryd.prog W .any base t v)
    (hW : DataW.Whole enc Tryd.prog Tryd.f7.params.toList Rows.stampPointSpec.vars false W args.toList ds gs before)
    (hsz0 : (DataW.weightsEach Tryd.prog (Tryd.f7.params.toList ++ (OpenSpec.ofChange Rows.stampPointSpec).bare.plain.varTypes Tryd.prog) (ds ++ gs)).all (· ≤ reachBytes) = true)
    (hL : laidMetH Tryd.prog Rows.stampPointRow.laid W) :
    Calls Tryd.prog 7 args W fun e W' => ∃ v, e = .returned v ∧ Rows.stampPointSpec.post enc Tryd.prog Tryd.f7 false true false false W args v W' := by
  have hval : ∀ (j : Nat) t v, Tryd.f7.params[j]? = some t → args[j]? = some v → Value.okWide Tryd.prog W .any base t v := hval0
  have hW' := hW
  obtain ⟨p, q, hA0, hV, rfl, hfz, hnd⟩ := hW
  have hA : DataW.TrodAll enc Tryd.prog W 0 (fun _ => true) true Tryd.f7.params.toList args.toList ds p := hA0
  have hsz : (DataW.weightsEach Tryd.prog (Tryd.f7.params.toList ++ (OpenSpec.ofChange Rows.stampPointSpec).bare.plain.varTypes Tryd.prog) (ds ++ gs)).all (· ≤ reachBytes) = true := hsz0
  rw [Tryd.params7] at hA hval hsz
  obtain ⟨v0, vs0, d0, ds0, p0, q0, hargs, rfl, rfl, h0, r0⟩ := trodAll_cons hA
  obtain ⟨v1, vs1, d1, ds1, p1, q1, rfl, rfl, rfl, h1, r1⟩ := trodAll_cons r0
  obtain ⟨rfl, rfl, rfl⟩ := trodAll_nil r1
  obtain rfl : args = #[v0, v1] := by cases args; simp_all
  obtain ⟨rfl, rfl⟩ := trodVars_none hV
  obtain ⟨a0, rfl, rfl, rfl, w0⟩ := open_int Tryd.underlying3 (hval 0 3 v0 rfl rfl) h0
  obtain ⟨a1, rfl, rfl, rfl, w1⟩ := open_int Tryd.underlying3 (hval 1 3 v1 rfl rfl) h1
  clear hA0 hval0 hsz0
  refine (walk a0 w0 a1 w1 W (tabs hL)).mono fun e W' ⟨he, bel⟩ => ?_
  subst he
  simp only [List.append_nil] at hW'
  exact ⟨_, rfl, _, _, _, [], [], [], hW', trodAll_mk1 (shut_bool Tryd.underlying4 _), (trodAll_cons_mk (shut_int Tryd.underlying3 w0) (trodAll_cons_mk (shut_int Tryd.underlying3 w1) trodAll_mk0)), rfl, bel.frame _, fun h => by cases h⟩

set_option maxRecDepth 1000000 in
theorem laid_met (os : Os) : laidMet Tryd.prog Rows.stampPointRow.laid ((World.laidAll Tryd.prog os Rows.stampPointRow.laid).forCall (fun _ _ => 0) ⟨#[], #[.int .i64 0, .int .i64 0], []⟩).memory :=
  laidMet_laidAll _ (by kernel_rfl) (by kernel_rfl)
set_option maxRecDepth 1000000 in
theorem reads (os : Os) {H : Type} (enc : TypeId × Value → H) : ∃ places, DataW.whole enc Tryd.prog ((World.laidAll Tryd.prog os Rows.stampPointRow.laid).forCall (fun _ _ => 0) ⟨#[], #[.int .i64 0, .int .i64 0], []⟩).memory Tryd.f7.params.toList Rows.stampPointSpec.vars false (#[.int .i64 0, .int .i64 0] : Array Value).toList 8 = some ([.lit (.int .i64 0), .lit (.int .i64 0)], [], places) :=
  ⟨[], by kernel_rfl⟩
set_option maxRecDepth 1000000 in
theorem lifted (os : Os) (started : os.Started) (H : Type) (enc : TypeId × Value → H) (F : Stop.Interp) :
    ReturnsInHanded {} Tryd.checked os 7 .any ((OpenSpec.ofChange Rows.stampPointSpec).preRow enc Tryd.prog Tryd.f7 Rows.stampPointRow.domain false Rows.stampPointRow.laid) (((OpenSpec.ofChange Rows.stampPointSpec).at F).post enc Tryd.prog Tryd.f7 false true false false) := by
  obtain ⟨places, hx⟩ := reads os enc
  refine returnsInHanded_of_row (C := Tryd.checked) (s := OpenSpec.ofChange Rows.stampPointSpec) own started (by kernel_rfl) Tryd.func7
    (witness_row_at (enc := enc) (C := Tryd.checked) false (World.laidAll Tryd.prog os Rows.stampPointRow.laid) #[.int .i64 0, .int .i64 0] (World.laidAll_os _ _ _) (by kernel_rfl) (by kernel_rfl) (by kernel_rfl)
      (OpenSpec.preRow_of_cond 8 hx (by kernel_rfl) (fun k hk => by cases hk) (by kernel_rfl) (laid_met os))) ?_
  intro W base args ds gs before hval hW _ _ hsz hL _ _
  exact contract H enc W base args ds gs before hval hW hsz hL

theorem over : Rows.stampPointRow.holds Tryd.pinned (OpenSpec.ofChange Rows.stampPointSpec) :=
  OpenClaim.holds_of_cond 7 Tryd.f7 rfl rfl rfl rfl rfl rfl rfl ⟨rfl, rfl, rfl, rfl, rfl⟩ rfl rfl rfl rfl rfl (by kernel_rfl) Tryd.func7 (by kernel_rfl)
    (of_decide_eq_true (by kernel_rfl)) (by unfold Func.isWrapper; first | (rw [if_pos (by decide +kernel)]; kernel_rfl) | (rw [if_neg (by decide +kernel)]; exact ⟨rfl, rfl⟩))
    (fun os started H enc _ F => by rw [OpenClaim.pre_eq_preRow]; exact lifted os started H enc F)

theorem plain (f : FuncId) (fn : Func) (hf : Tryd.pinned.checked.prog.funcNamed "gong/gonglaw03.StampPoint" = some f) (hfn : Tryd.pinned.checked.prog.funcs[f]? = some fn) :
    false = Tryd.pinned.checked.prog.looks [] ∧ ∀ (j : Nat) t, fn.params[j]? = some t → Tryd.pinned.checked.prog.wantsStandIn t = false := by
  obtain rfl : f = 7 := Option.some.inj ((show Tryd.prog.funcNamed "gong/gonglaw03.StampPoint" = some 7 by kernel_rfl).symm.trans hf) |>.symm
  obtain rfl : fn = Tryd.f7 := (Option.some.inj (Tryd.func7.symm.trans hfn)).symm
  refine ⟨by kernel_rfl, fun j t ht => ?_⟩
  have hall : (Tryd.f7.params.toList.all fun u => !Tryd.prog.wantsStandIn u) = true := by kernel_rfl
  have hm : t ∈ Tryd.f7.params.toList := by simpa using Array.mem_of_getElem? ht
  exact (show Tryd.prog.wantsStandIn t = false by simpa using List.all_eq_true.1 hall t hm)

/-- The card. -/
theorem proved : Rows.StampPointCardSaid :=
  Claim7.holds_tied_plain_at .later [] _ _ _ _ over (fun _ h => by cases h) (by kernel_rfl) (fun _ h => by cases h) stampPoint_row_tie rfl ⟨rfl, rfl⟩ (by kernel_rfl) rfl plain (by kernel_rfl)
#print axioms proved
end stampPoint
end Go.Proofs.YtaijekagcmkgjaaDoor
