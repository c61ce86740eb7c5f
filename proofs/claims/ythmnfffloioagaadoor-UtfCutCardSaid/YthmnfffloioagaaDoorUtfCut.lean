/- UTF-8 behind UTF-8 is UTF-8; what is cut off leaves a beginning, that is UTF-8, as long as may be: gonglaw04.UtfCut answers true at every input, and its arguments read as before. Its card ties the table of package utf to the program's text. No other condition. -/
import Derived.Test.YthmnfffloioagaaDoorUtfW
import Derived.Test.YthmnfffloioagaaDoorBook
namespace Go.Proofs.YthmnfffloioagaaDoor
open Go.ChangeShapes Go.WideShapes Go.ChangeAt Go.RowKit K U4
open Go.ChangeMaps (open_string shut_string)
set_option linter.unusedVariables false

theorem hasp_walk (l p : List UInt8) (w : World) :
    Calls Tryd.prog 28 #[.string (bs l), .string (bs p)] w fun e w' => e = .returned (.bool (Lib.hasPrefix l p)) ∧ w = w' := by
  have h := Tryd.strings_HasPrefix (bs l) (bs p) w
  rw [bs_toList, bs_toList] at h
  exact h.mono fun _ _ ⟨a, b⟩ => ⟨a, b.symm⟩
theorem rest_run (l : List UInt8) (p : Nat) (h : p ≤ l.length) : ∀ w, (Instr.slice 9 (.string (bs l)) (some (.int .i64 (p : Nat))) none none).run Tryd.prog w = .ok (.string (bs (l.drop p))) w := by
  intro w
  rw [run_slice_string_from_if w 9 (bs l) .i64 (p : Int) Tryd.underlying9, if_pos (by rw [bs_size]; omega)]
  rw [show ((p : Nat) : Int).toNat = p by omega, bs_size, bs_extract_end]
/-- What the law says, in plain words. -/
theorem cut_facts {a b : List UInt8} {ca cb : List Nat} (ha : AllC ca) (ea : flat ca = a) (hb : AllC cb) (eb : flat cb = b) (M : Nat) :
    chE (a ++ b) = 0 ∧ ctE (a ++ b) (M : Int) = 0 ∧ ∃ S, ctT (a ++ b) (M : Int) = S ∧ S.length ≤ M ∧ S.length ≤ (a ++ b).length ∧ Lib.hasPrefix (a ++ b) S = true ∧ chE S = 0 ∧
      ((a ++ b).drop S.length = [] ∨ (a ++ b).drop S.length ≠ [] ∧ fE ((a ++ b).drop S.length) = 0 ∧ M < S.length + fN ((a ++ b).drop S.length)) := by
  have hc : chars (a ++ b) = some (ca ++ cb) := by rw [chars_iff]; exact ⟨ha.app hb, by rw [flat_app, ea, eb]⟩
  have h1 := ct_ok (m := (M : Int)) (by omega) hc
  rw [Int.toNat_natCast] at h1
  obtain ⟨pre, suf, e1, e2, e3⟩ := ctN_split (ca ++ cb) M
  have hle := ctN_le (ca ++ cb) M
  have hl : a ++ b = flat pre ++ flat suf := by rw [← flat_app, ← e1, flat_app, ea, eb]
  have hall : AllC (pre ++ suf) := by rw [← e1]; exact ha.app hb
  have ht : (a ++ b).take (ctN (ca ++ cb) M) = flat pre := by
    rw [hl, e2]; exact List.take_left
  rw [ht] at h1
  have hd : (a ++ b).drop (flat pre).length = flat suf := by rw [hl]; exact List.drop_left
  refine ⟨(chE_some hc).1, h1.1, flat pre, h1.2, by omega, by rw [hl, List.length_append]; omega, ?_, (chE_some (chars_flat hall.left)).1, ?_⟩
  · unfold Lib.hasPrefix
    rw [List.isPrefixOf_iff_prefix, hl]
    exact List.prefix_append _ _
  · rw [hd]
    rcases e3 with rfl | ⟨c, s', rfl, h4⟩
    · exact .inl rfl
    · right
      obtain ⟨f1, f2, f3⟩ := first_of c (hall.right).head (flat s')
      rw [flat_cons]
      refine ⟨made_ne c _, ?_, by rw [f3]; omega⟩
      unfold fE; rw [f1]; rfl

namespace utfCut
theorem own : ownKnob Tryd.prog.godebug = none := by kernel_rfl
theorem tabs {W : World} (h : laidMetH Tryd.prog Rows.utfCutRow.laid W) : Leads W :=
  leadsOf h (by kernel_rfl) (List.Mem.head _)
set_option maxRecDepth 100000 in
set_option maxHeartbeats 2000000 in
theorem walk (a : List UInt8) (la : a.length ≤ reachBytes) (b : List UInt8) (lb : b.length ≤ reachBytes) (m : Int) (wm : (Lit.int .i64 m).wf = true) (w : World) (ht : Leads w) :
    Calls Tryd.prog 7 #[.string (bs a), .string (bs b), .int .i64 m] w fun e w' => e = .returned (.bool true) ∧ Below w.heap.size w w' := by
  have la2 : a.length ≤ 140737488351232 := by unfold reachBytes at la; omega
  have lb2 : b.length ≤ 140737488351232 := by unfold reachBytes at lb; omega
  have hm := bounds_of wm
  have HW := Lib.hid (works_walk w ht)
  clear la lb wm
  obtain ⟨hm0, hm1⟩ := hm
  by_cases h : 300 < a.length ∨ (a.length ≤ 300 ∧ 300 < b.length)
  · rcases h with h1 | ⟨h1, h2⟩
    · have h1' : (300 : Int) < ((a.length : Nat) : Int) := by omega
      go_enter Tryd.func7, Tryd.ntmps7
      go_wp2_with fail
      refine HW.out.mono ?_
      rintro e w1 ⟨rfl, b1⟩
      go_wp2
      go_ret
      exact ⟨rfl, b1⟩
    · have h1' : ((a.length : Nat) : Int) ≤ 300 := by omega
      have h2' : (300 : Int) < ((b.length : Nat) : Int) := by omega
      go_enter Tryd.func7, Tryd.ntmps7
      go_wp2_with fail
      refine HW.out.mono ?_
      rintro e w1 ⟨rfl, b1⟩
      go_wp2
      go_ret
      exact ⟨rfl, b1⟩
  · have h1 : ((a.length : Nat) : Int) ≤ 300 := by omega
    have h2 : ((b.length : Nat) : Int) ≤ 300 := by omega
    clear h
    have hKa := fun w1 (h : Leads w1) => check_walk a la2 w1 h
    have hKb := fun w1 (h : Leads w1) => check_walk b lb2 w1 h
    rcases chE_cases a with ⟨ea, ca, _, _, ha, fa⟩ | ⟨ea, _, _⟩
    · rcases chE_cases b with ⟨eb, cb, _, _, hb, fb⟩ | ⟨eb, _, _⟩
      · have hbn := belowN_bounds m 700 (by omega)
        have HB := Lib.hid (fun w1 => below_walk m 700 hm0 hm1 (by omega) (by omega) w1)
        obtain ⟨M, hM⟩ := Int.eq_ofNat_of_zero_le hbn.1
        have hM7 : M < 700 := by omega
        rw [hM] at HB
        obtain ⟨f1, f2, S, f3, f4, f5, f6, f7, f8⟩ := cut_facts ha fa hb fb M
        have hab : (a ++ b).length ≤ 600 := by rw [List.length_append]; omega
        obtain ⟨L, hL⟩ : ∃ L, a ++ b = L := ⟨_, rfl⟩
        rw [hL] at f1 f2 f3 f5 f6 f8 hab
        have hCt := fun w1 (h : Leads w1) => cut_walk L (by omega) (M : Int) (by omega) w1 h
        rw [f2, f3] at hCt
        have hKab := fun w1 (h : Leads w1) => check_walk L (by omega) w1 h
        rw [f1] at hKab
        have hKs := fun w1 (h : Leads w1) => check_walk S (by omega) w1 h
        rw [f7] at hKs
        have hP := fun w1 => hasp_walk L S w1
        rw [f6] at hP
        rw [ea] at hKa
        rw [eb] at hKb
        have hFi := fun w1 (h : Leads w1) => first_walk (L.drop S.length) (by rw [List.length_drop]; omega) w1 h
        have HKa := Lib.hid hKa; have HKb := Lib.hid hKb; have HCt := Lib.hid hCt; have HKab := Lib.hid hKab; have HKs := Lib.hid hKs; have HP := Lib.hid hP; have HFi := Lib.hid hFi
        have F8 := Lib.hid f8
        have hS4 : ((S.length : Nat) : Int) ≤ (M : Nat) := by omega
        clear hKa hKb hCt hKab hKs hP hFi f1 f2 f3 f6 f7 f8 ea eb ha fa hb fb hM hbn
        go_enter Tryd.func7, Tryd.ntmps7
        go_wp2_with fail
        refine HW.out.mono ?_
        rintro e w1 ⟨rfl, b1⟩
        go_wp2_with fail
        refine (HKa.out w1 (ht.below b1)).mono ?_
        rintro e w2 ⟨rfl, m2, rfl⟩
        have b2 := Below_drewN b1 m2
        clear b1
        generalize w1.drewN m2 = w2 at b2
        go_wp2_with fail
        refine (HKb.out w2 (ht.below b2)).mono ?_
        rintro e w3 ⟨rfl, m3, rfl⟩
        have b3 := Below_drewN b2 m3
        clear b2
        generalize w2.drewN m3 = w3 at b3
        go_wp2_with fail
        refine (HB.out w3).mono ?_
        rintro e w4 ⟨rfl, rfl⟩
        go_wp2_with fail
        refine (HCt.out w3 (ht.below b3)).mono ?_
        rintro e w4 ⟨rfl, m4, rfl⟩
        have b4 := Below_drewN b3 m4
        clear b3
        generalize w3.drewN m4 = w4 at b4
        go_wp2_with fail
        refine (HKab.out w4 (ht.below b4)).mono ?_
        rintro e w5 ⟨rfl, m5, rfl⟩
        have b5 := Below_drewN b4 m5
        clear b4
        generalize w4.drewN m5 = w5 at b5
        go_wp2_with fail
        refine (HP.out w5).mono ?_
        rintro e w6 ⟨rfl, rfl⟩
        go_wp2_with fail
        refine (HKs.out w5 (ht.below b5)).mono ?_
        rintro e w6 ⟨rfl, m6, rfl⟩
        have b6 := Below_drewN b5 m6
        clear b5
        generalize w5.drewN m6 = w6 at b6
        rcases F8.out with f8 | ⟨f8, f9, f10⟩
        · have HF8 := Lib.hid f8
          have hem : (L.drop S.length).isEmpty = true := by rw [f8]; rfl
          clear f8
          have hsl := rest_run L S.length f5
          generalize L.drop S.length = R at *
          go_wp2
          go_ret
          exact ⟨rfl, b6⟩
        · have hem : (L.drop S.length).isEmpty = false := List.isEmpty_eq_false_iff.2 f8
          have hfi := HFi.out w6 (ht.below b6)
          rw [f9] at hfi
          have HFI := Lib.hid hfi
          have hsl := rest_run L S.length f5
          generalize L.drop S.length = R at *
          have h10 : (M : Int) < ((S.length : Nat) : Int) + ((fN R : Nat) : Int) := by omega
          have hfn : fN R ≤ 4 := by
            unfold fN
            by_cases hq : fOk R = true
            · rw [if_pos hq]; exact (lead_pos _).2
            · rw [if_neg hq]; omega
          generalize fN R = N at *
          clear f8 f9 f10 hfi
          go_wp2_with fail
          refine HFI.out.mono ?_
          rintro e w7 ⟨rfl, m7, rfl⟩
          have b7 := Below_drewN b6 m7
          clear b6
          generalize w6.drewN m7 = w7 at b7
          go_wp2
          go_ret
          exact ⟨rfl, b7⟩
      · rw [ea] at hKa
        rw [eb] at hKb
        have HKa := Lib.hid hKa
        have HKb := Lib.hid hKb
        clear hKa hKb ea eb ha fa
        go_enter Tryd.func7, Tryd.ntmps7
        go_wp2_with fail
        refine HW.out.mono ?_
        rintro e w1 ⟨rfl, b1⟩
        go_wp2_with fail
        refine (HKa.out w1 (ht.below b1)).mono ?_
        rintro e w2 ⟨rfl, m2, rfl⟩
        have b2 := Below_drewN b1 m2
        clear b1
        generalize w1.drewN m2 = w2 at b2
        go_wp2_with fail
        refine (HKb.out w2 (ht.below b2)).mono ?_
        rintro e w3 ⟨rfl, m3, rfl⟩
        have b3 := Below_drewN b2 m3
        go_wp2
        go_ret
        exact ⟨rfl, b3⟩
    · rw [ea] at hKa
      have HKa := Lib.hid hKa
      clear hKa hKb ea
      go_enter Tryd.func7, Tryd.ntmps7
      go_wp2_with fail
      refine HW.out.mono ?_
      rintro e w1 ⟨rfl, b1⟩
      go_wp2_with fail
      refine (HKa.out w1 (ht.below b1)).mono ?_
      rintro e w2 ⟨rfl, m2, rfl⟩
      have b2 := Below_drewN b1 m2
      go_wp2
      go_ret
      exact ⟨rfl, b2⟩

/-! ### The row's step, over a listed table -/
set_option maxRecDepth 1000000 in
theorem contract (H : Type) (enc : TypeId × Value → H) (W : World) (base : Nat) (args : Array Value) (ds gs : List (DataW H)) (before : List MemPlace)
    (hval0 : ∀ (j : Nat) t v, Tryd.f7.params[j]? = some t → args[j]? = some v → Value.okWide Tryd.prog W .any base t v)
    (hW : DataW.Whole enc Tryd.prog Tryd.f7.params.toList Rows.utfCutSpec.vars false W args.toList ds gs before)
    (hsz0 : (DataW.weightsEach Tryd.prog (Tryd.f7.params.toList ++ (OpenSpec.ofChange Rows.utfCutSpec).bare.plain.varTypes Tryd.prog) (ds ++ gs)).all (· ≤ reachBytes) = true)
    (hL : laidMetH Tryd.prog Rows.utfCutRow.laid W) :
    Calls Tryd.prog 7 args W fun e W' => ∃ v, e = .returned v ∧ Rows.utfCutSpec.post enc Tryd.prog Tryd.f7 false true false false W args v W' := by
  have hval : ∀ (j : Nat) t v, Tryd.f7.params[j]? = some t → args[j]? = some v → Value.okWide Tryd.prog W .any base t v := hval0
  have hW' := hW
  obtain ⟨p, q, hA0, hV, rfl, hfz, hnd⟩ := hW
  have hA : DataW.TrodAll enc Tryd.prog W 0 (fun _ => true) true Tryd.f7.params.toList args.toList ds p := hA0
  have hsz : (DataW.weightsEach Tryd.prog (Tryd.f7.params.toList ++ (OpenSpec.ofChange Rows.utfCutSpec).bare.plain.varTypes Tryd.prog) (ds ++ gs)).all (· ≤ reachBytes) = true := hsz0
  rw [Tryd.params7] at hA hval hsz
  obtain ⟨v0, vs0, d0, ds0, p0, q0, hargs, rfl, rfl, h0, r0⟩ := trodAll_cons hA
  obtain ⟨v1, vs1, d1, ds1, p1, q1, rfl, rfl, rfl, h1, r1⟩ := trodAll_cons r0
  obtain ⟨v2, vs2, d2, ds2, p2, q2, rfl, rfl, rfl, h2, r2⟩ := trodAll_cons r1
  obtain ⟨rfl, rfl, rfl⟩ := trodAll_nil r2
  obtain rfl : args = #[v0, v1, v2] := by cases args; simp_all
  obtain ⟨rfl, rfl⟩ := trodVars_none hV
  have k0 := h0
  obtain ⟨a0, rfl, rfl, rfl, w0⟩ := open_string Tryd.underlying9 (hval 0 9 v0 rfl rfl) h0
  obtain ⟨l0, e0, b0⟩ := (Rdg.of k0 hsz (j := 0) rfl rfl).string Tryd.underlying9
  obtain rfl : a0 = bs l0 := by simpa [Value.cells] using e0
  have k1 := h1
  obtain ⟨a1, rfl, rfl, rfl, w1⟩ := open_string Tryd.underlying9 (hval 1 9 v1 rfl rfl) h1
  obtain ⟨l1, e1, b1⟩ := (Rdg.of k1 hsz (j := 1) rfl rfl).string Tryd.underlying9
  obtain rfl : a1 = bs l1 := by simpa [Value.cells] using e1
  obtain ⟨a2, rfl, rfl, rfl, w2⟩ := open_int Tryd.underlying3 (hval 2 3 v2 rfl rfl) h2
  clear hA0 hval0 hsz0
  refine (walk l0 b0 l1 b1 a2 w2 W (tabs hL)).mono fun e W' ⟨he, bel⟩ => ?_
  subst he
  simp only [List.append_nil] at hW'
  exact ⟨_, rfl, _, _, _, [], [], [], hW', trodAll_mk1 (shut_bool Tryd.underlying4 _), (trodAll_cons_mk (shut_string Tryd.underlying9 w0) (trodAll_cons_mk (shut_string Tryd.underlying9 w1) (trodAll_cons_mk (shut_int Tryd.underlying3 w2) trodAll_mk0))), rfl, bel.frame _, fun h => by cases h⟩

set_option maxRecDepth 1000000 in
theorem laid_met (os : Os) : laidMet Tryd.prog Rows.utfCutRow.laid ((World.laidAll Tryd.prog os Rows.utfCutRow.laid).forCall (fun _ _ => 0) ⟨#[], #[.string ByteArray.empty, .string ByteArray.empty, .int .i64 0], []⟩).memory :=
  laidMet_laidAll _ (by kernel_rfl) (by kernel_rfl)
set_option maxRecDepth 1000000 in
theorem reads (os : Os) {H : Type} (enc : TypeId × Value → H) : ∃ places, DataW.whole enc Tryd.prog ((World.laidAll Tryd.prog os Rows.utfCutRow.laid).forCall (fun _ _ => 0) ⟨#[], #[.string ByteArray.empty, .string ByteArray.empty, .int .i64 0], []⟩).memory Tryd.f7.params.toList Rows.utfCutSpec.vars false (#[.string ByteArray.empty, .string ByteArray.empty, .int .i64 0] : Array Value).toList 8 = some ([.lit (.string []), .lit (.string []), .lit (.int .i64 0)], [], places) :=
  ⟨[], by kernel_rfl⟩
set_option maxRecDepth 1000000 in
theorem lifted (os : Os) (started : os.Started) (H : Type) (enc : TypeId × Value → H) (F : Stop.Interp) :
    ReturnsInHanded {} Tryd.checked os 7 .any ((OpenSpec.ofChange Rows.utfCutSpec).preRow enc Tryd.prog Tryd.f7 Rows.utfCutRow.domain false Rows.utfCutRow.laid) (((OpenSpec.ofChange Rows.utfCutSpec).at F).post enc Tryd.prog Tryd.f7 false true false false) := by
  obtain ⟨places, hx⟩ := reads os enc
  refine returnsInHanded_of_row (C := Tryd.checked) (s := OpenSpec.ofChange Rows.utfCutSpec) own started (by kernel_rfl) Tryd.func7
    (witness_row_at (enc := enc) (C := Tryd.checked) false (World.laidAll Tryd.prog os Rows.utfCutRow.laid) #[.string ByteArray.empty, .string ByteArray.empty, .int .i64 0] (World.laidAll_os _ _ _) (by kernel_rfl) (by kernel_rfl) (by kernel_rfl)
      (OpenSpec.preRow_of_cond 8 hx (by kernel_rfl) (fun k hk => by cases hk) (by kernel_rfl) (laid_met os))) ?_
  intro W base args ds gs before hval hW _ _ hsz hL _ _
  exact contract H enc W base args ds gs before hval hW hsz hL

theorem over : Rows.utfCutRow.holds Tryd.pinned (OpenSpec.ofChange Rows.utfCutSpec) :=
  OpenClaim.holds_of_cond 7 Tryd.f7 rfl rfl rfl rfl rfl rfl rfl ⟨rfl, rfl, rfl, rfl, rfl⟩ rfl rfl rfl rfl rfl (by kernel_rfl) Tryd.func7 (by kernel_rfl)
    (of_decide_eq_true (by kernel_rfl)) (by unfold Func.isWrapper; first | (rw [if_pos (by decide +kernel)]; kernel_rfl) | (rw [if_neg (by decide +kernel)]; exact ⟨rfl, rfl⟩))
    (fun os started H enc _ F => by rw [OpenClaim.pre_eq_preRow]; exact lifted os started H enc F)

theorem plain (f : FuncId) (fn : Func) (hf : Tryd.pinned.checked.prog.funcNamed "gong/gonglaw04.UtfCut" = some f) (hfn : Tryd.pinned.checked.prog.funcs[f]? = some fn) :
    false = Tryd.pinned.checked.prog.looks [] ∧ ∀ (j : Nat) t, fn.params[j]? = some t → Tryd.pinned.checked.prog.wantsStandIn t = false := by
  obtain rfl : f = 7 := Option.some.inj ((show Tryd.prog.funcNamed "gong/gonglaw04.UtfCut" = some 7 by kernel_rfl).symm.trans hf) |>.symm
  obtain rfl : fn = Tryd.f7 := (Option.some.inj (Tryd.func7.symm.trans hfn)).symm
  refine ⟨by kernel_rfl, fun j t ht => ?_⟩
  have hall : (Tryd.f7.params.toList.all fun u => !Tryd.prog.wantsStandIn u) = true := by kernel_rfl
  have hm : t ∈ Tryd.f7.params.toList := by simpa using Array.mem_of_getElem? ht
  exact (show Tryd.prog.wantsStandIn t = false by simpa using List.all_eq_true.1 hall t hm)

/-- The card. -/
theorem proved : Rows.UtfCutCardSaid :=
  Claim7.holds_tied_plain_at .later [] _ _ _ _ over (fun _ h => by cases h) (by kernel_rfl) (fun _ h => by cases h) utfCut_row_tie rfl ⟨rfl, rfl⟩ (by kernel_rfl) rfl plain (by kernel_rfl)
#print axioms proved
end utfCut
end Go.Proofs.YthmnfffloioagaaDoor
