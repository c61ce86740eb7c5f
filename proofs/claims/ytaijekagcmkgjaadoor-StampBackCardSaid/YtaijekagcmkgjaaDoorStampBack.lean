/- A time's stamp is read as that time, with Z, and by any clock that shows no year below 1970; so is a span that spells a number: gonglaw03.StampBack answers true at every input, and its arguments read as before. Its card ties the listed tables (of package stamp and of Go's library) to the program's text. No other condition. -/
import Derived.Test.YtaijekagcmkgjaaDoorStpY
import Derived.Test.YtaijekagcmkgjaaDoorStpZ
namespace Go.Proofs.YtaijekagcmkgjaaDoor
open Go.ChangeShapes Go.WideShapes Go.ChangeAt Go.RowKit K S3
open Go.ChangeMaps (open_string shut_string)
set_option linter.unusedVariables false

def byL (k : Nat) : Nat := ([1, 1000, 1000000, 1000000000] : List Nat)[k]?.getD 1
theorem byL_u (k : Nat) (h : k < 4) : byL k = byU (6 - k) ∧ 1 ≤ byL k ∧ byL k ≤ 1000000000 := by
  obtain rfl | rfl | rfl | rfl : k = 0 ∨ k = 1 ∨ k = 2 ∨ k = 3 := by omega
  all_goals decide
def BRel (w : World) (B : Nat) (v79 : Value) (wr : World) : Prop :=
  ∃ k : Nat, k ≤ 4 ∧ v79 = .int .i64 k ∧ Below w.heap.size w wr ∧ ∀ j, j < 4 → wr.cell? ⟨B, j, none⟩ = some (.int .i64 (byL j : Nat))
/-- What Shifted answers, and what is read of it. -/
theorem shiftB (t : Nat) (z : Int) (ht : t ≤ 2305843009213693952) (z0 : -1439 ≤ z) (z1 : z ≤ 1439) (h : 0 ≤ (t : Int) + z * 60000000000) :
    ∃ X : List UInt8, X.length ≤ 40 ∧ prsV X = t ∧ prsC X = 0 ∧ ∀ w, Months w → Pows w → Calls Tryd.prog 15 #[.int .i64 t, .int .i64 z] w fun e w' => e = .returned (.tuple #[.string (bs X), .int .i64 0]) ∧ Below w.heap.size w w' := by
  obtain ⟨u, hu⟩ := Int.eq_ofNat_of_zero_le h
  obtain ⟨y, m, dd, hd⟩ := date_ex (u / 86400000000000) (by omega)
  have hb := back_shift t z u y m dd ht z0 z1 hu hd
  refine ⟨txt y m dd (u / 1000000000) (u % 1000000000) ++ sgn z, ?_, hb.1, hb.2, fun w hM hP => shifted_yes t z u y m dd ht z0 z1 hu hd w hM hP⟩
  have := txt_len y m dd (u / 1000000000) (u % 1000000000)
  have := frc_len (u % 1000000000)
  rw [List.length_append, sgn_len]; omega
theorem printB (t : Nat) (ht : t ≤ 2305843009213693952) :
    ∃ X : List UInt8, X.length ≤ 40 ∧ prsV X = t ∧ prsC X = 0 ∧ ∀ w, Months w → Pows w → Calls Tryd.prog 13 #[.int .i64 t] w fun e w' => e = .returned (.tuple #[.string (bs X), .int .i64 0]) ∧ Below w.heap.size w w' := by
  obtain ⟨y, m, dd, hd⟩ := date_ex (t / 86400000000000) (by omega)
  have hb := back_print t y m dd ht hd
  refine ⟨_, ?_, hb.1, hb.2, fun w hM hP => print_yes t y m dd ht hd w hM hP⟩
  have := txt_len y m dd (t / 1000000000) (t % 1000000000)
  have := frc_len (t % 1000000000)
  rw [List.length_append, List.length_singleton]; omega
theorem slT_len (n j : Nat) (hj : j < 7) (hd : n % byU j = 0) (h9 : n / byU j ≤ 999999999) : (slT n).length ≤ 40 := by
  by_cases h0 : n = 0
  · subst h0; decide
  · obtain ⟨k, hk, k1, k2, k3⟩ := sl_of n j hj hd h9
    have e1 : slT n = Lib.decDigits (n / byU k) ++ nmU k := by unfold slT; rw [if_neg h0, k3]
    have := dec_len _ k2
    have := unit_in k hk
    rw [e1, List.length_append]; omega
theorem spellB (n k : Nat) (hk : k < 4) (hn : n < 1000000000) :
    ∃ X : List UInt8, X.length ≤ 40 ∧ (∀ w, Units w → Pows w → Calls Tryd.prog 17 #[.int .i64 ((n : Int) * (byL k : Nat))] w fun e w' => e = .returned (.tuple #[.string (bs X), .int .i64 0]) ∧ Below w.heap.size w w') ∧
      ∀ w, Units w → Calls Tryd.prog 11 #[.string (bs X)] w fun e w' => e = .returned (.tuple #[.int .i64 ((n : Int) * (byL k : Nat)), .int .i64 0]) ∧ Below w.heap.size w w' := by
  obtain ⟨e, b1, b2⟩ := byL_u k hk
  have hN : n * byL k ≤ 2305843009213693952 := by
    have : n * byL k ≤ 999999999 * 1000000000 := Nat.mul_le_mul (by omega) b2
    omega
  have hd : n * byL k % byU (6 - k) = 0 := by rw [e]; exact Nat.mul_mod_left _ _
  have h9 : n * byL k / byU (6 - k) ≤ 999999999 := by
    rw [e, Nat.mul_div_cancel _ (by omega)]; omega
  obtain ⟨s1, s2, s3⟩ := back_spell (n * byL k) (6 - k) hN (by omega) hd h9
  have hl := slT_len (n * byL k) (6 - k) (by omega) hd h9
  refine ⟨slT (n * byL k), hl, fun w hU hP => ?_, fun w hU => ?_⟩
  · have := spell_yes (n * byL k) hN w hU hP
    rwa [s1, Int.natCast_mul] at this
  · have := span_walk (slT (n * byL k)) (by omega) w hU
    rwa [s2, s3, Int.natCast_mul] at this

namespace stampBack
theorem own : ownKnob Tryd.prog.godebug = none := by kernel_rfl
theorem tabs {W : World} (h : laidMetH Tryd.prog Rows.stampBackRow.laid W) : Months W ∧ Units W ∧ Pows W :=
  ⟨monthsOf h (by kernel_rfl) (by unfold Rows.stampBackRow; simp only [List.mem_cons, true_or, or_true]), unitsOf h (by kernel_rfl) (by unfold Rows.stampBackRow; simp only [List.mem_cons, true_or, or_true]), powsOf h (by kernel_rfl) (by unfold Rows.stampBackRow; simp only [List.mem_cons, true_or, or_true])⟩
set_option maxRecDepth 100000 in
set_option maxHeartbeats 8000000 in
theorem walk (a : Int) (wa : (Lit.int .i64 a).wf = true) (b : Int) (wb : (Lit.int .i64 b).wf = true) (c : Int) (wc : (Lit.int .i64 c).wf = true) (w : World) (ht : Months w ∧ Units w ∧ Pows w) :
    Calls Tryd.prog 5 #[.int .i64 a, .int .i64 b, .int .i64 c] w fun e w' => e = .returned (.bool true) ∧ Below w.heap.size w w' := by
  have hba := bounds_i64 wa
  have hbb := bounds_i64 wb
  have hbc := bounds_i64 wc
  obtain ⟨hM, hU, hP⟩ := ht
  have HW := works_walk w hM
  have HB1 := Lib.hid (fun w1 => below_walk a 2305843009213693953 hba.1 hba.2 (by omega) (by omega) w1)
  have HB2 := Lib.hid (fun w1 => below_walk b 2879 hbb.1 hbb.2 (by omega) (by omega) w1)
  have HB3 := Lib.hid (fun w1 => below_walk c 1000000000 hbc.1 hbc.2 (by omega) (by omega) w1)
  have hb1 := belowN_bounds a 2305843009213693953 (by omega)
  have hb2 := belowN_bounds b 2879 (by omega)
  have hb3 := belowN_bounds c 1000000000 (by omega)
  generalize belowN a 2305843009213693953 = tt at *
  generalize belowN b 2879 = zz at *
  generalize belowN c 1000000000 = nn at *
  obtain ⟨t, rfl⟩ := Int.eq_ofNat_of_zero_le hb1.1
  obtain ⟨n, rfl⟩ := Int.eq_ofNat_of_zero_le hb3.1
  have ht61 : t ≤ 2305843009213693952 := by omega
  have hn9 : n < 1000000000 := by omega
  obtain ⟨X, lX, vX, cX, pX⟩ := printB t ht61
  have HPX := Lib.hid pX
  have hA := fun w1 h => parse_walk X (by omega) w1 h
  rw [vX, cX] at hA
  have HA := Lib.hid hA
  obtain ⟨z1, z2⟩ := hb2
  have hs1 := fun h => shiftB t (zz - 1439) ht61 (by omega) (by omega) h
  have hs2 := fun h => shifted_no t (zz - 1439) (by omega) (by omega) (by omega) (by omega) (Or.inr (Or.inr (Or.inr h)))
  have HS1 := Lib.hid hs1; have HS2 := Lib.hid hs2
  clear pX hA vX cX hs1 hs2 hb1 hb3
  go_enter Tryd.func5, Tryd.ntmps5
  go_wp2_with fail
  refine HW.mono ?_
  rintro e w1 ⟨rfl, b1⟩
  clear HW
  go_wp2_with fail
  refine (HB1.out w1).mono ?_
  rintro e w2 ⟨rfl, rfl⟩
  clear HB1
  go_wp2_with fail
  refine (HB2.out w1).mono ?_
  rintro e w2 ⟨rfl, rfl⟩
  clear HB2
  go_wp2_with fail
  refine (HPX.out w1 (hM.below b1) (hP.below b1)).mono ?_
  rintro e w2 ⟨rfl, c1⟩
  replace b1 := b1.trans (c1.mono b1.size); clear c1 HPX
  go_wp2_with fail
  refine (HA.out w2 (hM.below b1)).mono ?_
  rintro e w3 ⟨rfl, c1⟩
  replace b1 := b1.trans (c1.mono b1.size); clear c1 HA
  by_cases hsh : 0 ≤ (t : Int) + (zz - 1439) * 60000000000
  · obtain ⟨Y, lY, vY, cY, pY⟩ := HS1.out hsh
    have HPY := Lib.hid pY
    have hA := fun w1 h => parse_walk Y (by omega) w1 h
    rw [vY, cY] at hA
    have HA := Lib.hid hA
    clear HS1 HS2 pY hA vY cY hsh
    go_wp2_with fail
    refine (HPY.out w3 (hM.below b1) (hP.below b1)).mono ?_
    rintro e w4 ⟨rfl, c1⟩
    replace b1 := b1.trans (c1.mono b1.size); clear c1 HPY
    go_wp2_with fail
    refine (HA.out w4 (hM.below b1)).mono ?_
    rintro e w5 ⟨rfl, c1⟩
    replace b1 := b1.trans (c1.mono b1.size); clear c1 HA
    go_wp2_with fail
    refine (HB3.out w5).mono ?_
    rintro e w6 ⟨rfl, rfl⟩
    go_wp2
    have hbL : Below w.heap.size w (w5.alloc (.cells #[.int .i64 1, .int .i64 1000, .int .i64 1000000, .int .i64 1000000000] 3)) := b1.alloc b1.size _
    have hcL : ∀ j, j < 4 → (w5.alloc (.cells #[.int .i64 1, .int .i64 1000, .int .i64 1000000, .int .i64 1000000000] 3)).cell? ⟨w5.heap.size, j, none⟩ = some (.int .i64 (byL j : Nat)) := by
      intro j hj
      refine (cellRow (rowNew _ _) j).trans ?_
      obtain rfl | rfl | rfl | rfl : j = 0 ∨ j = 1 ∨ j = 2 ∨ j = 3 := by omega
      all_goals rfl
    have HCL := Lib.hid hcL
    clear hcL HB3
    go_loopw [79] (fun v79 wr => BRel w w5.heap.size v79 wr) (fun v79 wr => 4 - (intOf v79).toNat)
    case atStart => exact ⟨0, by omega, rfl, hbL, HCL.out⟩
    case round =>
      obtain ⟨k, hk, rfl, hb, hcl⟩ := hrel
      clear HCL hbL
      by_cases h4 : k < 4
      · have hcell := hcl k h4
        have hblt := World.block_lt_of_cell? wr _ hcell
        obtain ⟨V, lV, pV, qV⟩ := spellB n k h4 hn9
        obtain ⟨y1, y2⟩ := (byL_u k h4).2
        have hkI : (k : Int) < 4 := by omega
        have hcl2 := Lib.hid hcl
        have hm0 : 0 ≤ (n : Int) * (byL k : Nat) := by rw [← Int.natCast_mul]; exact Int.natCast_nonneg _
        have hm9 : (n : Int) * (byL k : Nat) ≤ 999999999000000000 := by
          have : n * byL k ≤ 999999999 * 1000000000 := Nat.mul_le_mul (by omega) y2
          rw [← Int.natCast_mul]; omega
        have HV := Lib.hid pV; have HQ := Lib.hid qV
        clear pV qV hcl
        generalize byL k = by' at *
        go_wp2_with fail
        refine (HV.out wr (hU.below hb) (hP.below hb)).mono ?_
        rintro e x1 ⟨rfl, c1⟩
        have hbx := hb.trans (c1.mono hb.size)
        go_wp2_with fail
        refine (HQ.out x1 (hU.below hbx)).mono ?_
        rintro e x2 ⟨rfl, c2⟩
        have hby := hbx.trans (c2.mono hbx.size)
        have hcc : ∀ j, j < 4 → x2.cell? ⟨w5.heap.size, j, none⟩ = some (.int .i64 (byL j : Nat)) := fun j hj =>
          ((c2.cell (p := ⟨w5.heap.size, j, none⟩) (Nat.lt_of_lt_of_le hblt c1.size)).trans (c1.cell (p := ⟨w5.heap.size, j, none⟩) hblt)).trans (hcl2.out j hj)
        have HCC := Lib.hid hcc
        clear c1 c2 hcc
        go_wp2
        go_roundw
        case measure => simp [intOf]; omega
        case rel => exact ⟨k + 1, by omega, by simp, hby, HCC.out⟩
      · obtain rfl : k = 4 := by omega
        clear hcl
        go_wp2
        go_ret
        exact ⟨rfl, hb⟩
  · have hz0 : zz - 1439 < 0 := by omega
    have ht8 : (t : Int) ≤ 86400000000000 := by omega
    have hS := HS2.out (by omega)
    have HS3 := Lib.hid hS
    clear HS1 HS2 hS hsh
    go_wp2_with fail
    refine (HS3.out w3).mono ?_
    rintro e w4 ⟨rfl, rfl⟩
    go_wp2_with fail
    refine (HB3.out w3).mono ?_
    rintro e w6 ⟨rfl, rfl⟩
    go_wp2
    have hbL : Below w.heap.size w (w3.alloc (.cells #[.int .i64 1, .int .i64 1000, .int .i64 1000000, .int .i64 1000000000] 3)) := b1.alloc b1.size _
    have hcL : ∀ j, j < 4 → (w3.alloc (.cells #[.int .i64 1, .int .i64 1000, .int .i64 1000000, .int .i64 1000000000] 3)).cell? ⟨w3.heap.size, j, none⟩ = some (.int .i64 (byL j : Nat)) := by
      intro j hj
      refine (cellRow (rowNew _ _) j).trans ?_
      obtain rfl | rfl | rfl | rfl : j = 0 ∨ j = 1 ∨ j = 2 ∨ j = 3 := by omega
      all_goals rfl
    have HCL := Lib.hid hcL
    clear hcL HB3
    go_loopw [79] (fun v79 wr => BRel w w3.heap.size v79 wr) (fun v79 wr => 4 - (intOf v79).toNat)
    case atStart => exact ⟨0, by omega, rfl, hbL, HCL.out⟩
    case round =>
      obtain ⟨k, hk, rfl, hb, hcl⟩ := hrel
      clear HCL hbL
      by_cases h4 : k < 4
      · have hcell := hcl k h4
        have hblt := World.block_lt_of_cell? wr _ hcell
        obtain ⟨V, lV, pV, qV⟩ := spellB n k h4 hn9
        obtain ⟨y1, y2⟩ := (byL_u k h4).2
        have hkI : (k : Int) < 4 := by omega
        have hcl2 := Lib.hid hcl
        have hm0 : 0 ≤ (n : Int) * (byL k : Nat) := by rw [← Int.natCast_mul]; exact Int.natCast_nonneg _
        have hm9 : (n : Int) * (byL k : Nat) ≤ 999999999000000000 := by
          have : n * byL k ≤ 999999999 * 1000000000 := Nat.mul_le_mul (by omega) y2
          rw [← Int.natCast_mul]; omega
        have HV := Lib.hid pV; have HQ := Lib.hid qV
        clear pV qV hcl
        generalize byL k = by' at *
        go_wp2_with fail
        refine (HV.out wr (hU.below hb) (hP.below hb)).mono ?_
        rintro e x1 ⟨rfl, c1⟩
        have hbx := hb.trans (c1.mono hb.size)
        go_wp2_with fail
        refine (HQ.out x1 (hU.below hbx)).mono ?_
        rintro e x2 ⟨rfl, c2⟩
        have hby := hbx.trans (c2.mono hbx.size)
        have hcc : ∀ j, j < 4 → x2.cell? ⟨w3.heap.size, j, none⟩ = some (.int .i64 (byL j : Nat)) := fun j hj =>
          ((c2.cell (p := ⟨w3.heap.size, j, none⟩) (Nat.lt_of_lt_of_le hblt c1.size)).trans (c1.cell (p := ⟨w3.heap.size, j, none⟩) hblt)).trans (hcl2.out j hj)
        have HCC := Lib.hid hcc
        clear c1 c2 hcc
        go_wp2
        go_roundw
        case measure => simp [intOf]; omega
        case rel => exact ⟨k + 1, by omega, by simp, hby, HCC.out⟩
      · obtain rfl : k = 4 := by omega
        clear hcl
        go_wp2
        go_ret
        exact ⟨rfl, hb⟩

/-! ### The row's step, over a listed table -/
set_option maxRecDepth 1000000 in
theorem contract (H : Type) (enc : TypeId × Value → H) (W : World) (base : Nat) (args : Array Value) (ds gs : List (DataW H)) (before : List MemPlace)
    (hval0 : ∀ (j : Nat) t v, Tryd.f5.params[j]? = some t → args[j]? = some v → Value.okWide Tryd.prog W .any base t v)
    (hW : DataW.Whole enc Tryd.prog Tryd.f5.params.toList Rows.stampBackSpec.vars false W args.toList ds gs before)
    (hsz0 : (DataW.weightsEach Tryd.prog (Tryd.f5.params.toList ++ (OpenSpec.ofChange Rows.stampBackSpec).bare.plain.varTypes Tryd.prog) (ds ++ gs)).all (· ≤ reachBytes) = true)
    (hL : laidMetH Tryd.prog Rows.stampBackRow.laid W) :
    Calls Tryd.prog 5 args W fun e W' => ∃ v, e = .returned v ∧ Rows.stampBackSpec.post enc Tryd.prog Tryd.f5 false true false false W args v W' := by
  have hval : ∀ (j : Nat) t v, Tryd.f5.params[j]? = some t → args[j]? = some v → Value.okWide Tryd.prog W .any base t v := hval0
  have hW' := hW
  obtain ⟨p, q, hA0, hV, rfl, hfz, hnd⟩ := hW
  have hA : DataW.TrodAll enc Tryd.prog W 0 (fun _ => true) true Tryd.f5.params.toList args.toList ds p := hA0
  have hsz : (DataW.weightsEach Tryd.prog (Tryd.f5.params.toList ++ (OpenSpec.ofChange Rows.stampBackSpec).bare.plain.varTypes Tryd.prog) (ds ++ gs)).all (· ≤ reachBytes) = true := hsz0
  rw [Tryd.params5] at hA hval hsz
  obtain ⟨v0, vs0, d0, ds0, p0, q0, hargs, rfl, rfl, h0, r0⟩ := trodAll_cons hA
  obtain ⟨v1, vs1, d1, ds1, p1, q1, rfl, rfl, rfl, h1, r1⟩ := trodAll_cons r0
  obtain ⟨v2, vs2, d2, ds2, p2, q2, rfl, rfl, rfl, h2, r2⟩ := trodAll_cons r1
  obtain ⟨rfl, rfl, rfl⟩ := trodAll_nil r2
  obtain rfl : args = #[v0, v1, v2] := by cases args; simp_all
  obtain ⟨rfl, rfl⟩ := trodVars_none hV
  obtain ⟨a0, rfl, rfl, rfl, w0⟩ := open_int Tryd.underlying3 (hval 0 3 v0 rfl rfl) h0
  obtain ⟨a1, rfl, rfl, rfl, w1⟩ := open_int Tryd.underlying3 (hval 1 3 v1 rfl rfl) h1
  obtain ⟨a2, rfl, rfl, rfl, w2⟩ := open_int Tryd.underlying3 (hval 2 3 v2 rfl rfl) h2
  clear hA0 hval0 hsz0
  refine (walk a0 w0 a1 w1 a2 w2 W (tabs hL)).mono fun e W' ⟨he, bel⟩ => ?_
  subst he
  simp only [List.append_nil] at hW'
  exact ⟨_, rfl, _, _, _, [], [], [], hW', trodAll_mk1 (shut_bool Tryd.underlying4 _), (trodAll_cons_mk (shut_int Tryd.underlying3 w0) (trodAll_cons_mk (shut_int Tryd.underlying3 w1) (trodAll_cons_mk (shut_int Tryd.underlying3 w2) trodAll_mk0))), rfl, bel.frame _, fun h => by cases h⟩

set_option maxRecDepth 1000000 in
theorem laid_met (os : Os) : laidMet Tryd.prog Rows.stampBackRow.laid ((World.laidAll Tryd.prog os Rows.stampBackRow.laid).forCall (fun _ _ => 0) ⟨#[], #[.int .i64 0, .int .i64 0, .int .i64 0], []⟩).memory :=
  laidMet_laidAll _ (by kernel_rfl) (by kernel_rfl)
set_option maxRecDepth 1000000 in
theorem reads (os : Os) {H : Type} (enc : TypeId × Value → H) : ∃ places, DataW.whole enc Tryd.prog ((World.laidAll Tryd.prog os Rows.stampBackRow.laid).forCall (fun _ _ => 0) ⟨#[], #[.int .i64 0, .int .i64 0, .int .i64 0], []⟩).memory Tryd.f5.params.toList Rows.stampBackSpec.vars false (#[.int .i64 0, .int .i64 0, .int .i64 0] : Array Value).toList 8 = some ([.lit (.int .i64 0), .lit (.int .i64 0), .lit (.int .i64 0)], [], places) :=
  ⟨[], by kernel_rfl⟩
set_option maxRecDepth 1000000 in
theorem lifted (os : Os) (started : os.Started) (H : Type) (enc : TypeId × Value → H) (F : Stop.Interp) :
    ReturnsInHanded {} Tryd.checked os 5 .any ((OpenSpec.ofChange Rows.stampBackSpec).preRow enc Tryd.prog Tryd.f5 Rows.stampBackRow.domain false Rows.stampBackRow.laid) (((OpenSpec.ofChange Rows.stampBackSpec).at F).post enc Tryd.prog Tryd.f5 false true false false) := by
  obtain ⟨places, hx⟩ := reads os enc
  refine returnsInHanded_of_row (C := Tryd.checked) (s := OpenSpec.ofChange Rows.stampBackSpec) own started (by kernel_rfl) Tryd.func5
    (witness_row_at (enc := enc) (C := Tryd.checked) false (World.laidAll Tryd.prog os Rows.stampBackRow.laid) #[.int .i64 0, .int .i64 0, .int .i64 0] (World.laidAll_os _ _ _) (by kernel_rfl) (by kernel_rfl) (by kernel_rfl)
      (OpenSpec.preRow_of_cond 8 hx (by kernel_rfl) (fun k hk => by cases hk) (by kernel_rfl) (laid_met os))) ?_
  intro W base args ds gs before hval hW _ _ hsz hL _ _
  exact contract H enc W base args ds gs before hval hW hsz hL

theorem over : Rows.stampBackRow.holds Tryd.pinned (OpenSpec.ofChange Rows.stampBackSpec) :=
  OpenClaim.holds_of_cond 5 Tryd.f5 rfl rfl rfl rfl rfl rfl rfl ⟨rfl, rfl, rfl, rfl, rfl⟩ rfl rfl rfl rfl rfl (by kernel_rfl) Tryd.func5 (by kernel_rfl)
    (of_decide_eq_true (by kernel_rfl)) (by unfold Func.isWrapper; first | (rw [if_pos (by decide +kernel)]; kernel_rfl) | (rw [if_neg (by decide +kernel)]; exact ⟨rfl, rfl⟩))
    (fun os started H enc _ F => by rw [OpenClaim.pre_eq_preRow]; exact lifted os started H enc F)

theorem plain (f : FuncId) (fn : Func) (hf : Tryd.pinned.checked.prog.funcNamed "gong/gonglaw03.StampBack" = some f) (hfn : Tryd.pinned.checked.prog.funcs[f]? = some fn) :
    false = Tryd.pinned.checked.prog.looks [] ∧ ∀ (j : Nat) t, fn.params[j]? = some t → Tryd.pinned.checked.prog.wantsStandIn t = false := by
  obtain rfl : f = 5 := Option.some.inj ((show Tryd.prog.funcNamed "gong/gonglaw03.StampBack" = some 5 by kernel_rfl).symm.trans hf) |>.symm
  obtain rfl : fn = Tryd.f5 := (Option.some.inj (Tryd.func5.symm.trans hfn)).symm
  refine ⟨by kernel_rfl, fun j t ht => ?_⟩
  have hall : (Tryd.f5.params.toList.all fun u => !Tryd.prog.wantsStandIn u) = true := by kernel_rfl
  have hm : t ∈ Tryd.f5.params.toList := by simpa using Array.mem_of_getElem? ht
  exact (show Tryd.prog.wantsStandIn t = false by simpa using List.all_eq_true.1 hall t hm)

/-- The card. -/
theorem proved : Rows.StampBackCardSaid :=
  Claim7.holds_tied_plain_at .later [] _ _ _ _ over (fun _ h => by cases h) (by kernel_rfl) (fun _ h => by cases h) stampBack_row_tie rfl ⟨rfl, rfl⟩ (by kernel_rfl) rfl plain (by kernel_rfl)
#print axioms proved
end stampBack
end Go.Proofs.YtaijekagcmkgjaaDoor
