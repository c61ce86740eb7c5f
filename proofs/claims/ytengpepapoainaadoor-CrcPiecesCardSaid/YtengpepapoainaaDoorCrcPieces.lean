/- The sum of bytes is that of their pieces, one after the other, wherever they are cut; and that of two pieces' own sums, joined: gonglaw02.CrcPieces answers true at every input, and its arguments read as before. Its card ties the package's table of sixteen numbers to the program's text. No other condition. -/
import Derived.Test.YtengpepapoainaaDoorCrcC
import Derived.Test.YtengpepapoainaaDoorCrcW
import Derived.Test.YtengpepapoainaaDoorBook
namespace Go.Proofs.YtengpepapoainaaDoor
open Go.ChangeShapes Go.WideShapes Go.ChangeAt Go.RowKit K C2
open Go.ChangeMaps (open_string shut_string)
set_option linter.unusedVariables false

theorem crcPieces_big (l : List UInt8) (n : Int) (h : 3000 < l.length) (h2 : l.length ≤ 140737488351232) (w : World) (ht : Halves w) :
    Calls Tryd.prog 4 #[.string (bs l), .int .i64 n] w fun e w' => e = .returned (.bool true) ∧ Below w.heap.size w w' := by
  go_enter Tryd.func4, Tryd.ntmps4
  go_wp2_with fail
  refine (works_walk w ht).mono ?_
  rintro e w5 ⟨rfl, rfl⟩
  go_wp2
  go_ret
  exact ⟨rfl, Below.refl _ _⟩

set_option maxRecDepth 100000 in
set_option maxHeartbeats 1000000 in
theorem crcPieces_small (l : List UInt8) (n : Int) (h0 : -9223372036854775808 ≤ n) (h1 : n ≤ 9223372036854775807) (h : l.length ≤ 3000) (w : World) (ht : Halves w) :
    Calls Tryd.prog 4 #[.string (bs l), .int .i64 n] w fun e w' => e = .returned (.bool true) ∧ Below w.heap.size w w' := by
  obtain ⟨k, hk, hkb⟩ : ∃ k : Nat, belowN n ((l.length : Int) + 1) = (k : Int) ∧ k ≤ l.length := by
    have hb := belowN_bounds n ((l.length : Int) + 1) (by omega)
    exact ⟨(belowN n ((l.length : Int) + 1)).toNat, by omega, by omega⟩
  have hB := below_walk n ((l.length : Int) + 1) h0 h1 (by omega) (by omega) w
  rw [hk] at hB
  have e1 : C2.more (C2.sum (l.take k)) (l.drop k) = C2.sum l := by rw [← sum_append, List.take_append_drop]
  have e2 : Tn (8 * (l.length - k)) (C2.sum (l.take k)) ^^^ C2.sum (l.drop k) = C2.sum l := by
    have hj := join_eq (l.take k) (l.drop k)
    rw [List.take_append_drop, List.length_drop] at hj
    exact hj.symm
  have e3 : C2.more 0#32 l = C2.sum l := rfl
  have sa := sum_walk (l.take k) (by simp; omega)
  have sb := sum_walk (l.drop k) (by simp; omega)
  have m1 := moreOk_walk (C2.sum (l.take k)) (l.drop k) (by simp; omega)
  rw [e1] at m1
  have j1 := join_walk (C2.sum (l.take k)) (C2.sum (l.drop k)) (l.length - k) (by omega)
  rw [e2] at j1
  have m0 := moreOk_walk 0#32 l (by omega)
  rw [e3] at m0
  have s0 := sum_walk l (by omega)
  generalize C2.sum l = c at *
  generalize C2.sum (l.take k) = a at *
  generalize C2.sum (l.drop k) = b at *
  have hc := uu_bounds c
  have hk0 : (0 : Int) ≤ (k : Int) := by omega
  have hk1 : (k : Int) ≤ (l.length : Nat) := by omega
  have hcast : ((l.length : Nat) : Int) - (k : Int) = ((l.length - k : Nat) : Int) := by omega
  have hwr : IntKind.i64.wrap (((l.length : Nat) : Int) - (k : Int)) = ((l.length - k : Nat) : Int) := by rw [hcast]; exact IntWalk.i64_in _ (by omega)
  have HB := Lib.hid hB; have HK := Lib.hid hk; have SA := Lib.hid sa; have SB := Lib.hid sb; have M1 := Lib.hid m1; have J1 := Lib.hid j1; have M0 := Lib.hid m0; have S0 := Lib.hid s0
  clear hB hk sa sb m1 j1 m0 s0 e1 e2 e3 hcast
  go_enter Tryd.func4, Tryd.ntmps4
  go_wp2_with fail
  refine (works_walk w ht).mono ?_
  rintro e w5 ⟨rfl, rfl⟩
  go_wp2_with fail
  refine HB.out.mono ?_
  rintro e w5 ⟨rfl, rfl⟩
  go_wp2_with fail
  go_quiet ((first | (go_at_call 11; refine Calls.quiet_mk (SA.out _ ?_); exact ht) | (go_at_call 11; refine Calls.quiet_mk (SB.out _ ?_); exact ht)))
  go_wp2_with fail
  refine (M1.out _ ?_).mono ?_
  exact ht
  rintro e w5 ⟨rfl, rfl⟩
  go_wp2_with fail
  refine (J1.out _).mono ?_
  rintro e w5 ⟨rfl, rfl⟩
  go_wp2_with fail
  refine (M0.out _ ?_).mono ?_
  exact ht
  rintro e w5 ⟨rfl, rfl⟩
  go_wp2_with fail
  refine (S0.out _ ?_).mono ?_
  exact ht
  rintro e w5 ⟨rfl, rfl⟩
  have hlt : uu c < 4294967296 := by omega
  go_wp2
  go_ret
  exact ⟨rfl, Below_drewN (Below.refl _ _) _⟩

namespace crcPieces
theorem own : ownKnob Tryd.prog.godebug = none := by kernel_rfl
theorem walk (l : List UInt8) (hl : l.length ≤ reachBytes) (n : Int) (wn : (Lit.int .i64 n).wf = true) (w : World) (ht : Halves w) :
    Calls Tryd.prog 4 #[.string (bs l), .int .i64 n] w fun e w' => e = .returned (.bool true) ∧ Below w.heap.size w w' := by
  have hb := bounds_i64 wn
  by_cases h : l.length ≤ 3000
  · exact crcPieces_small l n hb.1 hb.2 h w ht
  · exact crcPieces_big l n (by omega) (by unfold reachBytes at hl; omega) w ht

/-! ### The row's step, over a listed table -/
theorem contract (H : Type) (enc : TypeId × Value → H) (W : World) (base : Nat) (args : Array Value) (ds gs : List (DataW H)) (before : List MemPlace)
    (hval0 : ∀ (j : Nat) t v, Tryd.f4.params[j]? = some t → args[j]? = some v → Value.okWide Tryd.prog W .any base t v)
    (hW : DataW.Whole enc Tryd.prog Tryd.f4.params.toList Rows.crcPiecesSpec.vars false W args.toList ds gs before)
    (hsz0 : (DataW.weightsEach Tryd.prog (Tryd.f4.params.toList ++ (OpenSpec.ofChange Rows.crcPiecesSpec).bare.plain.varTypes Tryd.prog) (ds ++ gs)).all (· ≤ reachBytes) = true)
    (hL : laidMetH Tryd.prog Rows.crcPiecesRow.laid W) :
    Calls Tryd.prog 4 args W fun e W' => ∃ v, e = .returned v ∧ Rows.crcPiecesSpec.post enc Tryd.prog Tryd.f4 false true false false W args v W' := by
  have hval : ∀ (j : Nat) t v, Tryd.f4.params[j]? = some t → args[j]? = some v → Value.okWide Tryd.prog W .any base t v := hval0
  have hW' := hW
  obtain ⟨p, q, hA0, hV, rfl, hfz, hnd⟩ := hW
  have hA : DataW.TrodAll enc Tryd.prog W 0 (fun _ => true) true Tryd.f4.params.toList args.toList ds p := hA0
  have hsz : (DataW.weightsEach Tryd.prog (Tryd.f4.params.toList ++ (OpenSpec.ofChange Rows.crcPiecesSpec).bare.plain.varTypes Tryd.prog) (ds ++ gs)).all (· ≤ reachBytes) = true := hsz0
  rw [Tryd.params4] at hA hval hsz
  obtain ⟨v0, vs0, d0, ds0, p0, q0, hargs, rfl, rfl, h0, r0⟩ := trodAll_cons hA
  obtain ⟨v1, vs1, d1, ds1, p1, q1, rfl, rfl, rfl, h1, r1⟩ := trodAll_cons r0
  obtain ⟨rfl, rfl, rfl⟩ := trodAll_nil r1
  obtain rfl : args = #[v0, v1] := by cases args; simp_all
  obtain ⟨rfl, rfl⟩ := trodVars_none hV
  have k0 := h0
  obtain ⟨a0, rfl, rfl, rfl, w0⟩ := open_string Tryd.underlying9 (hval 0 9 v0 rfl rfl) h0
  obtain ⟨l0, e0, b0⟩ := (Rdg.of k0 hsz (j := 0) rfl rfl).string Tryd.underlying9
  obtain rfl : a0 = bs l0 := by simpa [Value.cells] using e0
  obtain ⟨a1, rfl, rfl, rfl, w1⟩ := open_int Tryd.underlying3 (hval 1 3 v1 rfl rfl) h1
  clear hA0 hval0 hsz0
  refine (walk l0 b0 a1 w1 W (halvesOf hL)).mono fun e W' ⟨he, bel⟩ => ?_
  subst he
  simp only [List.append_nil] at hW'
  exact ⟨_, rfl, _, _, _, [], [], [], hW', trodAll_mk1 (shut_bool Tryd.underlying4 _), (trodAll_cons_mk (shut_string Tryd.underlying9 w0) (trodAll_cons_mk (shut_int Tryd.underlying3 w1) trodAll_mk0)), rfl, bel.frame _, fun h => by cases h⟩

theorem laid_met (os : Os) : laidMet Tryd.prog Rows.crcPiecesRow.laid ((laidWorld os).forCall (fun _ _ => 0) ⟨#[], #[.string ByteArray.empty, .int .i64 0], []⟩).memory :=
  laidMet_of_run' 8 (by kernel_rfl) (by kernel_rfl)
theorem reads (os : Os) {H : Type} (enc : TypeId × Value → H) : ∃ places, DataW.whole enc Tryd.prog ((laidWorld os).forCall (fun _ _ => 0) ⟨#[], #[.string ByteArray.empty, .int .i64 0], []⟩).memory Tryd.f4.params.toList Rows.crcPiecesSpec.vars false (#[.string ByteArray.empty, .int .i64 0] : Array Value).toList 8 = some ([.lit (.string []), .lit (.int .i64 0)], [], places) :=
  ⟨[], by kernel_rfl⟩
set_option maxRecDepth 100000 in
theorem lifted (os : Os) (started : os.Started) (H : Type) (enc : TypeId × Value → H) (F : Stop.Interp) :
    ReturnsInHanded {} Tryd.checked os 4 .any ((OpenSpec.ofChange Rows.crcPiecesSpec).preRow enc Tryd.prog Tryd.f4 Rows.crcPiecesRow.domain false Rows.crcPiecesRow.laid) (((OpenSpec.ofChange Rows.crcPiecesSpec).at F).post enc Tryd.prog Tryd.f4 false true false false) := by
  obtain ⟨places, hx⟩ := reads os enc
  refine returnsInHanded_of_row (C := Tryd.checked) (s := OpenSpec.ofChange Rows.crcPiecesSpec) own started (by kernel_rfl) Tryd.func4
    (witness_row_at (enc := enc) (C := Tryd.checked) false (laidWorld os) #[.string ByteArray.empty, .int .i64 0] rfl (by kernel_rfl) (by kernel_rfl) (by kernel_rfl)
      (OpenSpec.preRow_of_cond 8 hx (by kernel_rfl) (fun k hk => by cases hk) (by kernel_rfl) (laid_met os))) ?_
  intro W base args ds gs before hval hW _ _ hsz hL _ _
  exact contract H enc W base args ds gs before hval hW hsz hL

theorem over : Rows.crcPiecesRow.holds Tryd.pinned (OpenSpec.ofChange Rows.crcPiecesSpec) :=
  OpenClaim.holds_of_cond 4 Tryd.f4 rfl rfl rfl rfl rfl rfl rfl ⟨rfl, rfl, rfl, rfl, rfl⟩ rfl rfl rfl rfl rfl (by kernel_rfl) Tryd.func4 (by kernel_rfl)
    (of_decide_eq_true (by kernel_rfl)) (by unfold Func.isWrapper; first | (rw [if_pos (by decide +kernel)]; kernel_rfl) | (rw [if_neg (by decide +kernel)]; exact ⟨rfl, rfl⟩))
    (fun os started H enc _ F => by rw [OpenClaim.pre_eq_preRow]; exact lifted os started H enc F)

theorem plain (f : FuncId) (fn : Func) (hf : Tryd.pinned.checked.prog.funcNamed "gong/gonglaw02.CrcPieces" = some f) (hfn : Tryd.pinned.checked.prog.funcs[f]? = some fn) :
    false = Tryd.pinned.checked.prog.looks [] ∧ ∀ (j : Nat) t, fn.params[j]? = some t → Tryd.pinned.checked.prog.wantsStandIn t = false := by
  obtain rfl : f = 4 := Option.some.inj ((show Tryd.prog.funcNamed "gong/gonglaw02.CrcPieces" = some 4 by kernel_rfl).symm.trans hf) |>.symm
  obtain rfl : fn = Tryd.f4 := (Option.some.inj (Tryd.func4.symm.trans hfn)).symm
  refine ⟨by kernel_rfl, fun j t ht => ?_⟩
  have hall : (Tryd.f4.params.toList.all fun u => !Tryd.prog.wantsStandIn u) = true := by kernel_rfl
  have hm : t ∈ Tryd.f4.params.toList := by simpa using Array.mem_of_getElem? ht
  exact (show Tryd.prog.wantsStandIn t = false by simpa using List.all_eq_true.1 hall t hm)

/-- The card. -/
theorem proved : Rows.CrcPiecesCardSaid :=
  Claim7.holds_tied_plain_at .later [] _ _ _ _ over (fun _ h => by cases h) (by kernel_rfl) (fun _ h => by cases h) crcPieces_row_tie rfl ⟨rfl, rfl⟩ (by kernel_rfl) rfl plain (by kernel_rfl)
#print axioms proved
end crcPieces
end Go.Proofs.YtengpepapoainaaDoor
