/- The characters of any bytes, the first one, whether they are UTF-8, begin with a mark, and what is shown of them, is as the document has it: gonglaw04.UtfReads answers true at every input, and its argument reads as before. Its card ties the table of package utf to the program's text. No other condition. -/
import Derived.Test.YthmnfffloioagaaDoorUtfW
import Derived.Test.YthmnfffloioagaaDoorInts
namespace Go.Proofs.YthmnfffloioagaaDoor
open Go.ChangeShapes Go.WideShapes Go.ChangeAt Go.RowKit K U4
open Go.ChangeMaps (open_string shut_string)
set_option linter.unusedVariables false

namespace utfReads
theorem own : ownKnob Tryd.prog.godebug = none := by kernel_rfl
theorem tabs {W : World} (h : laidMetH Tryd.prog Rows.utfReadsRow.laid W) : Leads W :=
  leadsOf h (by kernel_rfl) (List.Mem.head _)
set_option maxRecDepth 100000 in
set_option maxHeartbeats 1000000 in
theorem walk (l : List UInt8) (hl : l.length ≤ reachBytes) (w : World) (ht : Leads w) :
    Calls Tryd.prog 3 #[.string (bs l)] w fun e w' => e = .returned (.bool true) ∧ Below w.heap.size w w' := by
  have hl2 : l.length ≤ 140737488351232 := by unfold reachBytes at hl; omega
  have HW := Lib.hid (fun w1 (h : Leads w1) => works_walk w1 h)
  clear hl
  by_cases h : 1000 < l.length
  · have h1 : (1000 : Int) < ((l.length : Nat) : Int) := by omega
    go_enter Tryd.func3, Tryd.ntmps3
    go_wp2_with fail
    refine (HW.out w ht).mono ?_
    rintro e w1 ⟨rfl, b1⟩
    go_wp2
    go_ret
    exact ⟨rfl, b1⟩
  · have h1 : ((l.length : Nat) : Int) ≤ 1000 := by omega
    have HA := Lib.hid (first_walk l hl2 w ht)
    have HB := Lib.hid (fun w1 => qfirst_walk l hl2 w1)
    have HC := Lib.hid (fun w1 (h : Leads w1) => chars_walk l (by omega) w1 h)
    have HD := Lib.hid (fun w1 => qchars_walk l (by omega) w1)
    have HE := Lib.hid (fun w1 => mark_walk l w1)
    have HF := Lib.hid (fun w1 => qmark_walk l hl2 w1)
    have HG := Lib.hid (fun w1 (h : Leads w1) => check_walk l hl2 w1 h)
    have HH := Lib.hid (fun w1 => qcheck_walk l (by omega) w1)
    have HI := Lib.hid (fun w1 (h : Leads w1) => shown_walk l (by omega) w1 h)
    have HJ := Lib.hid (fun w1 => qshown_walk l (by omega) w1)
    have hcl : (chL l).length ≤ 1000000 := by
      rcases chE_cases l with ⟨_, cs, _, e3, _, e4⟩ | ⟨_, _, e3⟩
      · rw [e3]; have := flat_len cs; rw [e4] at this; omega
      · rw [e3]; simp
    generalize fC l = x1 at *
    generalize fN l = x2 at *
    generalize fE l = x3 at *
    generalize mkT l = x4 at *
    generalize mkB l = x5 at *
    generalize shown l = x6 at *
    have s4 : (x4 == x4) = true := by simp
    have s6 : (x6 == x6) = true := by simp
    go_enter Tryd.func3, Tryd.ntmps3
    go_wp2_with fail
    refine HA.out.mono ?_
    rintro e w1 ⟨rfl, d1⟩
    have b1 := d1.below
    clear d1
    go_wp2_with fail
    refine (HB.out w1).mono ?_
    rintro e w2 ⟨rfl, d⟩
    have b2 := b1.trans (d.mono b1.size)
    clear d
    go_wp2_with fail
    refine (HC.out w2 (ht.below b2)).mono ?_
    rintro e w3 ⟨v, rfl, o3, d⟩
    have b3 := b2.trans (d.mono b2.size)
    have o3 := o3.mono b2.size
    clear d
    go_wp2_with fail
    refine (HD.out w3).mono ?_
    rintro e w4 ⟨v2, rfl, o4, d⟩
    have b4 := b3.trans (d.mono b3.size)
    have o5 := o3.below d
    clear d o3
    generalize chE l = x7 at *
    go_wp2_with fail
    refine (HE.out w4).mono ?_
    rintro e w5 ⟨rfl, rfl⟩
    go_wp2_with fail
    refine (HF.out w4).mono ?_
    rintro e w5 ⟨rfl, rfl⟩
    go_wp2_with fail
    refine (same_walk (chL l) hcl v v2 w4 (RdI.of o5) (RdI.of o4)).mono ?_
    rintro e w5 ⟨rfl, m, rfl⟩
    obtain ⟨ao, cap, rfl, hroom⟩ := Room.of (o5.drewN m)
    have b5 := Below_drewN b4 m
    clear b4 o4 o5
    generalize w4.drewN m = w5 at b5 hroom ⊢
    have HR := Lib.hid hroom
    clear hroom
    go_wp2_with fail
    refine (spoil_walk ao _ cap hcl w.heap.size w5 HR.out).mono ?_
    rintro e w6 ⟨rfl, d⟩
    have b6 := b5.trans d
    clear d b5 HR
    go_wp2_with fail
    refine (HG.out w6 (ht.below b6)).mono ?_
    rintro e w7 ⟨rfl, d⟩
    have b7 := b6.trans (d.below.mono b6.size)
    clear d
    go_wp2_with fail
    refine (HH.out w7).mono ?_
    rintro e w8 ⟨rfl, d⟩
    have b8 := b7.trans (d.mono b7.size)
    clear d
    go_wp2_with fail
    refine (HI.out w8 (ht.below b8)).mono ?_
    rintro e w9 ⟨rfl, d⟩
    have b9 := b8.trans (d.mono b8.size)
    clear d
    go_wp2_with fail
    refine (HJ.out w9).mono ?_
    rintro e w10 ⟨rfl, d⟩
    have b10 := b9.trans (d.mono b9.size)
    clear d
    go_wp2_with fail
    refine (HW.out w10 (ht.below b10)).mono ?_
    rintro e w11 ⟨rfl, d⟩
    have b11 := b10.trans (d.mono b10.size)
    clear d
    go_wp2
    go_ret
    exact ⟨rfl, b11⟩

/-! ### The row's step, over a listed table -/
set_option maxRecDepth 1000000 in
theorem contract (H : Type) (enc : TypeId × Value → H) (W : World) (base : Nat) (args : Array Value) (ds gs : List (DataW H)) (before : List MemPlace)
    (hval0 : ∀ (j : Nat) t v, Tryd.f3.params[j]? = some t → args[j]? = some v → Value.okWide Tryd.prog W .any base t v)
    (hW : DataW.Whole enc Tryd.prog Tryd.f3.params.toList Rows.utfReadsSpec.vars false W args.toList ds gs before)
    (hsz0 : (DataW.weightsEach Tryd.prog (Tryd.f3.params.toList ++ (OpenSpec.ofChange Rows.utfReadsSpec).bare.plain.varTypes Tryd.prog) (ds ++ gs)).all (· ≤ reachBytes) = true)
    (hL : laidMetH Tryd.prog Rows.utfReadsRow.laid W) :
    Calls Tryd.prog 3 args W fun e W' => ∃ v, e = .returned v ∧ Rows.utfReadsSpec.post enc Tryd.prog Tryd.f3 false true false false W args v W' := by
  have hval : ∀ (j : Nat) t v, Tryd.f3.params[j]? = some t → args[j]? = some v → Value.okWide Tryd.prog W .any base t v := hval0
  have hW' := hW
  obtain ⟨p, q, hA0, hV, rfl, hfz, hnd⟩ := hW
  have hA : DataW.TrodAll enc Tryd.prog W 0 (fun _ => true) true Tryd.f3.params.toList args.toList ds p := hA0
  have hsz : (DataW.weightsEach Tryd.prog (Tryd.f3.params.toList ++ (OpenSpec.ofChange Rows.utfReadsSpec).bare.plain.varTypes Tryd.prog) (ds ++ gs)).all (· ≤ reachBytes) = true := hsz0
  rw [Tryd.params3] at hA hval hsz
  obtain ⟨v0, vs0, d0, ds0, p0, q0, hargs, rfl, rfl, h0, r0⟩ := trodAll_cons hA
  obtain ⟨rfl, rfl, rfl⟩ := trodAll_nil r0
  obtain rfl : args = #[v0] := by cases args; simp_all
  obtain ⟨rfl, rfl⟩ := trodVars_none hV
  have k0 := h0
  obtain ⟨a0, rfl, rfl, rfl, w0⟩ := open_string Tryd.underlying9 (hval 0 9 v0 rfl rfl) h0
  obtain ⟨l0, e0, b0⟩ := (Rdg.of k0 hsz (j := 0) rfl rfl).string Tryd.underlying9
  obtain rfl : a0 = bs l0 := by simpa [Value.cells] using e0
  clear hA0 hval0 hsz0
  refine (walk l0 b0 W (tabs hL)).mono fun e W' ⟨he, bel⟩ => ?_
  subst he
  simp only [List.append_nil] at hW'
  exact ⟨_, rfl, _, _, _, [], [], [], hW', trodAll_mk1 (shut_bool Tryd.underlying4 _), (trodAll_cons_mk (shut_string Tryd.underlying9 w0) trodAll_mk0), rfl, bel.frame _, fun h => by cases h⟩

set_option maxRecDepth 1000000 in
theorem laid_met (os : Os) : laidMet Tryd.prog Rows.utfReadsRow.laid ((World.laidAll Tryd.prog os Rows.utfReadsRow.laid).forCall (fun _ _ => 0) ⟨#[], #[.string ByteArray.empty], []⟩).memory :=
  laidMet_laidAll _ (by kernel_rfl) (by kernel_rfl)
set_option maxRecDepth 1000000 in
theorem reads (os : Os) {H : Type} (enc : TypeId × Value → H) : ∃ places, DataW.whole enc Tryd.prog ((World.laidAll Tryd.prog os Rows.utfReadsRow.laid).forCall (fun _ _ => 0) ⟨#[], #[.string ByteArray.empty], []⟩).memory Tryd.f3.params.toList Rows.utfReadsSpec.vars false (#[.string ByteArray.empty] : Array Value).toList 8 = some ([.lit (.string [])], [], places) :=
  ⟨[], by kernel_rfl⟩
set_option maxRecDepth 1000000 in
theorem lifted (os : Os) (started : os.Started) (H : Type) (enc : TypeId × Value → H) (F : Stop.Interp) :
    ReturnsInHanded {} Tryd.checked os 3 .any ((OpenSpec.ofChange Rows.utfReadsSpec).preRow enc Tryd.prog Tryd.f3 Rows.utfReadsRow.domain false Rows.utfReadsRow.laid) (((OpenSpec.ofChange Rows.utfReadsSpec).at F).post enc Tryd.prog Tryd.f3 false true false false) := by
  obtain ⟨places, hx⟩ := reads os enc
  refine returnsInHanded_of_row (C := Tryd.checked) (s := OpenSpec.ofChange Rows.utfReadsSpec) own started (by kernel_rfl) Tryd.func3
    (witness_row_at (enc := enc) (C := Tryd.checked) false (World.laidAll Tryd.prog os Rows.utfReadsRow.laid) #[.string ByteArray.empty] (World.laidAll_os _ _ _) (by kernel_rfl) (by kernel_rfl) (by kernel_rfl)
      (OpenSpec.preRow_of_cond 8 hx (by kernel_rfl) (fun k hk => by cases hk) (by kernel_rfl) (laid_met os))) ?_
  intro W base args ds gs before hval hW _ _ hsz hL _ _
  exact contract H enc W base args ds gs before hval hW hsz hL

theorem over : Rows.utfReadsRow.holds Tryd.pinned (OpenSpec.ofChange Rows.utfReadsSpec) :=
  OpenClaim.holds_of_cond 3 Tryd.f3 rfl rfl rfl rfl rfl rfl rfl ⟨rfl, rfl, rfl, rfl, rfl⟩ rfl rfl rfl rfl rfl (by kernel_rfl) Tryd.func3 (by kernel_rfl)
    (of_decide_eq_true (by kernel_rfl)) (by unfold Func.isWrapper; first | (rw [if_pos (by decide +kernel)]; kernel_rfl) | (rw [if_neg (by decide +kernel)]; exact ⟨rfl, rfl⟩))
    (fun os started H enc _ F => by rw [OpenClaim.pre_eq_preRow]; exact lifted os started H enc F)

theorem plain (f : FuncId) (fn : Func) (hf : Tryd.pinned.checked.prog.funcNamed "gong/gonglaw04.UtfReads" = some f) (hfn : Tryd.pinned.checked.prog.funcs[f]? = some fn) :
    false = Tryd.pinned.checked.prog.looks [] ∧ ∀ (j : Nat) t, fn.params[j]? = some t → Tryd.pinned.checked.prog.wantsStandIn t = false := by
  obtain rfl : f = 3 := Option.some.inj ((show Tryd.prog.funcNamed "gong/gonglaw04.UtfReads" = some 3 by kernel_rfl).symm.trans hf) |>.symm
  obtain rfl : fn = Tryd.f3 := (Option.some.inj (Tryd.func3.symm.trans hfn)).symm
  refine ⟨by kernel_rfl, fun j t ht => ?_⟩
  have hall : (Tryd.f3.params.toList.all fun u => !Tryd.prog.wantsStandIn u) = true := by kernel_rfl
  have hm : t ∈ Tryd.f3.params.toList := by simpa using Array.mem_of_getElem? ht
  exact (show Tryd.prog.wantsStandIn t = false by simpa using List.all_eq_true.1 hall t hm)

/-- The card. -/
theorem proved : Rows.UtfReadsCardSaid :=
  Claim7.holds_tied_plain_at .later [] _ _ _ _ over (fun _ h => by cases h) (by kernel_rfl) (fun _ h => by cases h) utfReads_row_tie rfl ⟨rfl, rfl⟩ (by kernel_rfl) rfl plain (by kernel_rfl)
#print axioms proved
end utfReads
end Go.Proofs.YthmnfffloioagaaDoor
