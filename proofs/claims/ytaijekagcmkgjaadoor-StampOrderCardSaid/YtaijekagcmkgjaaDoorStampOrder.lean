/- Of two times whose stamps with Z have one length the earlier one's stands ahead, and of whole seconds all have one length: gonglaw03.StampOrder answers true at every input, and its arguments read as before. Its card ties the listed tables (of package stamp and of Go's library) to the program's text. No other condition. -/
import Derived.Test.YtaijekagcmkgjaaDoorStpY
import Derived.Test.YtaijekagcmkgjaaDoorStpO
namespace Go.Proofs.YtaijekagcmkgjaaDoor
open Go.ChangeShapes Go.WideShapes Go.ChangeAt Go.RowKit K S3
open Go.ChangeMaps (open_string shut_string)
set_option linter.unusedVariables false

/-- Two printed times. -/
theorem printO (t u : Nat) (ht : t ≤ 2305843009213693952) (hu : u ≤ 2305843009213693952) :
    ∃ X Y : List UInt8, 20 ≤ X.length ∧ X.length ≤ 30 ∧ Y.length ≤ 30 ∧ (X.length = Y.length → Op.bytesLess X Y = decide ((t : Int) < (u : Int)) ∧ (X == Y) = ((t : Int) == (u : Int))) ∧
      (∀ w, Months w → Pows w → Calls Tryd.prog 13 #[.int .i64 t] w fun e w' => e = .returned (.tuple #[.string (bs X), .int .i64 0]) ∧ Below w.heap.size w w') ∧
      ∀ w, Months w → Pows w → Calls Tryd.prog 13 #[.int .i64 u] w fun e w' => e = .returned (.tuple #[.string (bs Y), .int .i64 0]) ∧ Below w.heap.size w w' := by
  obtain ⟨y, m, d, hd⟩ := date_ex (t / 86400000000000) (by omega)
  obtain ⟨y', m', d', hd'⟩ := date_ex (u / 86400000000000) (by omega)
  have f1 := frc_len (t % 1000000000)
  have f2 := frc_len (u % 1000000000)
  refine ⟨txt y m d (t / 1000000000) (t % 1000000000) ++ [90], txt y' m' d' (u / 1000000000) (u % 1000000000) ++ [90], ?_, ?_, ?_, ?_, fun w hM hP => print_yes t y m d ht hd w hM hP, fun w hM hP => print_yes u y' m' d' hu hd' w hM hP⟩
  · rw [List.length_append, txt_len, List.length_singleton]; omega
  · rw [List.length_append, txt_len, List.length_singleton]; omega
  · rw [List.length_append, txt_len, List.length_singleton]; omega
  · intro hl
    rcases Nat.lt_trichotomy t u with h | h | h
    · have hlt := less_print t u y m d y' m' d' h hu hd hd' hl
      have hne : ¬ (txt y m d (t / 1000000000) (t % 1000000000) ++ [90]) = (txt y' m' d' (u / 1000000000) (u % 1000000000) ++ [90]) := by
        intro e; rw [e, less_irr] at hlt; cases hlt
      rw [hlt, decide_eq_true (by omega), beq_eq_false_iff_ne.2 hne, beq_eq_false_iff_ne.2 (by omega : ¬ (t : Int) = (u : Int))]
      exact ⟨rfl, rfl⟩
    · subst h
      obtain ⟨rfl, rfl, rfl⟩ := hd.uniq hd'
      rw [less_irr, decide_eq_false (by omega)]
      exact ⟨rfl, by simp⟩
    · have hlt := less_print u t y' m' d' y m d h ht hd' hd hl.symm
      have hne : ¬ (txt y m d (t / 1000000000) (t % 1000000000) ++ [90]) = (txt y' m' d' (u / 1000000000) (u % 1000000000) ++ [90]) := by
        intro e; rw [e, less_irr] at hlt; cases hlt
      rw [less_asym _ _ hlt, decide_eq_false (by omega), beq_eq_false_iff_ne.2 hne, beq_eq_false_iff_ne.2 (by omega : ¬ (t : Int) = (u : Int))]
      exact ⟨rfl, rfl⟩
/-- A whole second, printed. -/
theorem printW (t : Nat) (ht : t ≤ 2305843009213693952) :
    ∃ X : List UInt8, X.length = 20 ∧ ∀ w, Months w → Pows w → Calls Tryd.prog 13 #[.int .i64 ((t : Int) - (t : Int) % 1000000000)] w fun e w' => e = .returned (.tuple #[.string (bs X), .int .i64 0]) ∧ Below w.heap.size w w' := by
  obtain ⟨v, hv⟩ : ∃ v : Nat, v = t - t % 1000000000 := ⟨_, rfl⟩
  have hvI : (t : Int) - (t : Int) % 1000000000 = (v : Int) := by omega
  obtain ⟨y, m, d, hd⟩ := date_ex (v / 86400000000000) (by omega)
  refine ⟨txt y m d (v / 1000000000) (v % 1000000000) ++ [90], ?_, fun w hM hP => ?_⟩
  · rw [List.length_append, txt_len, List.length_singleton, show v % 1000000000 = 0 by omega]; rfl
  · rw [hvI]; exact print_yes v y m d (by omega) hd w hM hP

namespace stampOrder
theorem own : ownKnob Tryd.prog.godebug = none := by kernel_rfl
theorem tabs {W : World} (h : laidMetH Tryd.prog Rows.stampOrderRow.laid W) : Months W ∧ Pows W :=
  ⟨monthsOf h (by kernel_rfl) (by unfold Rows.stampOrderRow; simp only [List.mem_cons, true_or, or_true]), powsOf h (by kernel_rfl) (by unfold Rows.stampOrderRow; simp only [List.mem_cons, true_or, or_true])⟩
set_option maxRecDepth 100000 in
set_option maxHeartbeats 4000000 in
theorem walk (a : Int) (wa : (Lit.int .i64 a).wf = true) (b : Int) (wb : (Lit.int .i64 b).wf = true) (w : World) (ht : Months w ∧ Pows w) :
    Calls Tryd.prog 6 #[.int .i64 a, .int .i64 b] w fun e w' => e = .returned (.bool true) ∧ Below w.heap.size w w' := by
  have hba := bounds_i64 wa
  have hbb := bounds_i64 wb
  obtain ⟨hM, hP⟩ := ht
  have HW := works_walk w hM
  have HB1 := Lib.hid (fun w1 => below_walk a 2305843009213693953 hba.1 hba.2 (by omega) (by omega) w1)
  have HB2 := Lib.hid (fun w1 => below_walk b 2305843009213693953 hbb.1 hbb.2 (by omega) (by omega) w1)
  have hb1 := belowN_bounds a 2305843009213693953 (by omega)
  have hb2 := belowN_bounds b 2305843009213693953 (by omega)
  generalize belowN a 2305843009213693953 = tt at *
  generalize belowN b 2305843009213693953 = uu at *
  obtain ⟨t, rfl⟩ := Int.eq_ofNat_of_zero_le hb1.1
  obtain ⟨u, rfl⟩ := Int.eq_ofNat_of_zero_le hb2.1
  have ht61 : t ≤ 2305843009213693952 := by omega
  have hu61 : u ≤ 2305843009213693952 := by omega
  obtain ⟨X, Y, x1, x2, y2, hxy, pX, pY⟩ := printO t u ht61 hu61
  obtain ⟨V, v1, pV⟩ := printW t ht61
  have PX := Lib.hid pX; have PY := Lib.hid pY; have PV := Lib.hid pV
  have hV : (((V.length : Nat) : Int) != 20) = false := by rw [bne_eq_false_iff_eq]; omega
  have hX30 : ((X.length : Nat) : Int) ≤ 30 := by omega
  clear pX pY pV v1 hb1 hb2
  have HXY := Lib.hid hxy; clear hxy
  go_enter Tryd.func6, Tryd.ntmps6
  go_wp2_with fail
  refine HW.mono ?_
  rintro e w1 ⟨rfl, b1⟩
  clear HW
  go_wp2_with fail
  refine (HB1.out w1).mono ?_
  rintro e w2 ⟨rfl, rfl⟩
  clear HB1
  go_wp2_with fail
  refine (HB2.out w1).mono ?_
  rintro e w2 ⟨rfl, rfl⟩
  clear HB2
  go_wp2_with fail
  refine (PX.out w1 (hM.below b1) (hP.below b1)).mono ?_
  rintro e w2 ⟨rfl, c⟩
  replace b1 := b1.trans (c.mono b1.size); clear c PX
  go_wp2_with fail
  refine (PY.out w2 (hM.below b1) (hP.below b1)).mono ?_
  rintro e w3 ⟨rfl, c⟩
  replace b1 := b1.trans (c.mono b1.size); clear c PY
  go_wp2_with fail
  refine (PV.out w3 (hM.below b1) (hP.below b1)).mono ?_
  rintro e w4 ⟨rfl, c⟩
  replace b1 := b1.trans (c.mono b1.size); clear c PV
  by_cases hl : X.length = Y.length
  · obtain ⟨o1, o2⟩ := HXY.out hl
    have hne : (((X.length : Nat) : Int) != ((Y.length : Nat) : Int)) = false := by rw [bne_eq_false_iff_eq]; omega
    rcases Nat.lt_trichotomy t u with h | h | h
    · have i1 : (t : Int) < (u : Int) := by omega
      have i2 : ((t : Int) == (u : Int)) = false := by rw [beq_eq_false_iff_ne]; omega
      rw [decide_eq_true i1] at o1
      rw [i2] at o2
      clear hl HXY h
      go_wp2
      go_ret
      exact ⟨rfl, b1⟩
    · subst h
      have i1 : ¬ (t : Int) < (t : Int) := by omega
      rw [decide_eq_false i1] at o1
      have i2 : (X == Y) = true := by rw [o2]; simp
      clear hl HXY i1 o2
      go_wp2
      go_ret
      exact ⟨rfl, b1⟩
    · have i1 : ¬ (t : Int) < (u : Int) := by omega
      have i2 : ((t : Int) == (u : Int)) = false := by rw [beq_eq_false_iff_ne]; omega
      have i3 : (u : Int) ≤ (t : Int) := by omega
      rw [decide_eq_false i1] at o1
      rw [i2] at o2
      clear hl HXY i1
      go_wp2
      go_ret
      refine ⟨one ?_, b1⟩
      show Value.bool (!decide (t < u)) = _
      rw [decide_eq_false (by omega)]; rfl
  · have hne : (((X.length : Nat) : Int) != ((Y.length : Nat) : Int)) = true := by rw [bne_iff_ne]; omega
    clear hl HXY
    go_wp2
    go_ret
    exact ⟨rfl, b1⟩

/-! ### The row's step, over a listed table -/
set_option maxRecDepth 1000000 in
theorem contract (H : Type) (enc : TypeId × Value → H) (W : World) (base : Nat) (args : Array Value) (ds gs : List (DataW H)) (before : List MemPlace)
    (hval0 : ∀ (j : Nat) t v, Tryd.f6.params[j]? = some t → args[j]? = some v → Value.okWide Tryd.prog W .any base t v)
    (hW : DataW.Whole enc Tryd.prog Tryd.f6.params.toList Rows.stampOrderSpec.vars false W args.toList ds gs before)
    (hsz0 : (DataW.weightsEach Tryd.prog (Tryd.f6.params.toList ++ (OpenSpec.ofChange Rows.stampOrderSpec).bare.plain.varTypes Tryd.prog) (ds ++ gs)).all (· ≤ reachBytes) = true)
    (hL : laidMetH Tryd.prog Rows.stampOrderRow.laid W) :
    Calls Tryd.prog 6 args W fun e W' => ∃ v, e = .returned v ∧ Rows.stampOrderSpec.post enc Tryd.prog Tryd.f6 false true false false W args v W' := by
  have hval : ∀ (j : Nat) t v, Tryd.f6.params[j]? = some t → args[j]? = some v → Value.okWide Tryd.prog W .any base t v := hval0
  have hW' := hW
  obtain ⟨p, q, hA0, hV, rfl, hfz, hnd⟩ := hW
  have hA : DataW.TrodAll enc Tryd.prog W 0 (fun _ => true) true Tryd.f6.params.toList args.toList ds p := hA0
  have hsz : (DataW.weightsEach Tryd.prog (Tryd.f6.params.toList ++ (OpenSpec.ofChange Rows.stampOrderSpec).bare.plain.varTypes Tryd.prog) (ds ++ gs)).all (· ≤ reachBytes) = true := hsz0
  rw [Tryd.params6] at hA hval hsz
  obtain ⟨v0, vs0, d0, ds0, p0, q0, hargs, rfl, rfl, h0, r0⟩ := trodAll_cons hA
  obtain ⟨v1, vs1, d1, ds1, p1, q1, rfl, rfl, rfl, h1, r1⟩ := trodAll_cons r0
  obtain ⟨rfl, rfl, rfl⟩ := trodAll_nil r1
  obtain rfl : args = #[v0, v1] := by cases args; simp_all
  obtain ⟨rfl, rfl⟩ := trodVars_none hV
  obtain ⟨a0, rfl, rfl, rfl, w0⟩ := open_int Tryd.underlying3 (hval 0 3 v0 rfl rfl) h0
  obtain ⟨a1, rfl, rfl, rfl, w1⟩ := open_int Tryd.underlying3 (hval 1 3 v1 rfl rfl) h1
  clear hA0 hval0 hsz0
  refine (walk a0 w0 a1 w1 W (tabs hL)).mono fun e W' ⟨he, bel⟩ => ?_
  subst he
  simp only [List.append_nil] at hW'
  exact ⟨_, rfl, _, _, _, [], [], [], hW', trodAll_mk1 (shut_bool Tryd.underlying4 _), (trodAll_cons_mk (shut_int Tryd.underlying3 w0) (trodAll_cons_mk (shut_int Tryd.underlying3 w1) trodAll_mk0)), rfl, bel.frame _, fun h => by cases h⟩

set_option maxRecDepth 1000000 in
theorem laid_met (os : Os) : laidMet Tryd.prog Rows.stampOrderRow.laid ((World.laidAll Tryd.prog os Rows.stampOrderRow.laid).forCall (fun _ _ => 0) ⟨#[], #[.int .i64 0, .int .i64 0], []⟩).memory :=
  laidMet_laidAll _ (by kernel_rfl) (by kernel_rfl)
set_option maxRecDepth 1000000 in
theorem reads (os : Os) {H : Type} (enc : TypeId × Value → H) : ∃ places, DataW.whole enc Tryd.prog ((World.laidAll Tryd.prog os Rows.stampOrderRow.laid).forCall (fun _ _ => 0) ⟨#[], #[.int .i64 0, .int .i64 0], []⟩).memory Tryd.f6.params.toList Rows.stampOrderSpec.vars false (#[.int .i64 0, .int .i64 0] : Array Value).toList 8 = some ([.lit (.int .i64 0), .lit (.int .i64 0)], [], places) :=
  ⟨[], by kernel_rfl⟩
set_option maxRecDepth 1000000 in
theorem lifted (os : Os) (started : os.Started) (H : Type) (enc : TypeId × Value → H) (F : Stop.Interp) :
    ReturnsInHanded {} Tryd.checked os 6 .any ((OpenSpec.ofChange Rows.stampOrderSpec).preRow enc Tryd.prog Tryd.f6 Rows.stampOrderRow.domain false Rows.stampOrderRow.laid) (((OpenSpec.ofChange Rows.stampOrderSpec).at F).post enc Tryd.prog Tryd.f6 false true false false) := by
  obtain ⟨places, hx⟩ := reads os enc
  refine returnsInHanded_of_row (C := Tryd.checked) (s := OpenSpec.ofChange Rows.stampOrderSpec) own started (by kernel_rfl) Tryd.func6
    (witness_row_at (enc := enc) (C := Tryd.checked) false (World.laidAll Tryd.prog os Rows.stampOrderRow.laid) #[.int .i64 0, .int .i64 0] (World.laidAll_os _ _ _) (by kernel_rfl) (by kernel_rfl) (by kernel_rfl)
      (OpenSpec.preRow_of_cond 8 hx (by kernel_rfl) (fun k hk => by cases hk) (by kernel_rfl) (laid_met os))) ?_
  intro W base args ds gs before hval hW _ _ hsz hL _ _
  exact contract H enc W base args ds gs before hval hW hsz hL

theorem over : Rows.stampOrderRow.holds Tryd.pinned (OpenSpec.ofChange Rows.stampOrderSpec) :=
  OpenClaim.holds_of_cond 6 Tryd.f6 rfl rfl rfl rfl rfl rfl rfl ⟨rfl, rfl, rfl, rfl, rfl⟩ rfl rfl rfl rfl rfl (by kernel_rfl) Tryd.func6 (by kernel_rfl)
    (of_decide_eq_true (by kernel_rfl)) (by unfold Func.isWrapper; first | (rw [if_pos (by decide +kernel)]; kernel_rfl) | (rw [if_neg (by decide +kernel)]; exact ⟨rfl, rfl⟩))
    (fun os started H enc _ F => by rw [OpenClaim.pre_eq_preRow]; exact lifted os started H enc F)

theorem plain (f : FuncId) (fn : Func) (hf : Tryd.pinned.checked.prog.funcNamed "gong/gonglaw03.StampOrder" = some f) (hfn : Tryd.pinned.checked.prog.funcs[f]? = some fn) :
    false = Tryd.pinned.checked.prog.looks [] ∧ ∀ (j : Nat) t, fn.params[j]? = some t → Tryd.pinned.checked.prog.wantsStandIn t = false := by
  obtain rfl : f = 6 := Option.some.inj ((show Tryd.prog.funcNamed "gong/gonglaw03.StampOrder" = some 6 by kernel_rfl).symm.trans hf) |>.symm
  obtain rfl : fn = Tryd.f6 := (Option.some.inj (Tryd.func6.symm.trans hfn)).symm
  refine ⟨by kernel_rfl, fun j t ht => ?_⟩
  have hall : (Tryd.f6.params.toList.all fun u => !Tryd.prog.wantsStandIn u) = true := by kernel_rfl
  have hm : t ∈ Tryd.f6.params.toList := by simpa using Array.mem_of_getElem? ht
  exact (show Tryd.prog.wantsStandIn t = false by simpa using List.all_eq_true.1 hall t hm)

/-- The card. -/
theorem proved : Rows.StampOrderCardSaid :=
  Claim7.holds_tied_plain_at .later [] _ _ _ _ over (fun _ h => by cases h) (by kernel_rfl) (fun _ h => by cases h) stampOrder_row_tie rfl ⟨rfl, rfl⟩ (by kernel_rfl) rfl plain (by kernel_rfl)
#print axioms proved
end stampOrder
end Go.Proofs.YtaijekagcmkgjaaDoor
