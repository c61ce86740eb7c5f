/- The sum of any bytes, alone and behind any others' sum, and bytes with their sum behind them, are those of the document; what any bytes are as such is told as it does: gonglaw02.CrcSums answers true at every input, and its arguments read as before. Its card ties the package's table of sixteen numbers to the program's text. No other condition. -/
import Derived.Test.YtengpepapoainaaDoorCrcB
import Derived.Test.YtengpepapoainaaDoorCrcW
namespace Go.Proofs.YtengpepapoainaaDoor
open Go.ChangeShapes Go.WideShapes Go.ChangeAt Go.RowKit K C2
open Go.ChangeMaps (open_string shut_string)
set_option linter.unusedVariables false

/-- What More answers. -/
def moreV (n : Int) (l : List UInt8) : Int := if isS n = true then uu (C2.more (BitVec.ofNat 32 n.toNat) l) else 0
def moreE (n : Int) : Int := if isS n = true then 0 else 1
theorem moreAny_walk (n : Int) (l : List UInt8) (hl : l.length ≤ 140737488351232) (w : World) (ht : Halves w) :
    Calls Tryd.prog 7 #[.int .i64 n, .string (bs l)] w fun e w' => e = .returned (.tuple #[.int .i64 (moreV n l), .int .i64 (moreE n)]) ∧ w = w' := by
  unfold moreV moreE
  cases h : isS n
  · exact moreNo_walk n l h w
  · have hd := of_decide_eq_true h
    obtain ⟨s, rfl⟩ : ∃ s, n = uu s := ⟨_, uu_of n hd.1 hd.2⟩
    rw [if_pos rfl, if_pos rfl, show BitVec.ofNat 32 (uu s).toNat = s by unfold uu; simp]
    exact moreOk_walk s l hl w ht
theorem rMoreAny_walk (n : Int) (l : List UInt8) (hl : l.length ≤ 140737488351232) (w : World) :
    Calls Tryd.prog 8 #[.int .i64 n, .string (bs l)] w fun e w' => e = .returned (.tuple #[.int .i64 (moreV n l), .int .i64 (moreE n)]) ∧ w = w' := by
  unfold moreV moreE
  cases h : isS n
  · exact rMoreNo_walk n l h w
  · have hd := of_decide_eq_true h
    obtain ⟨s, rfl⟩ : ∃ s, n = uu s := ⟨_, uu_of n hd.1 hd.2⟩
    rw [if_pos rfl, if_pos rfl, show BitVec.ofNat 32 (uu s).toNat = s by unfold uu; simp]
    exact rMoreOk_walk s l hl w

set_option maxRecDepth 100000 in
set_option maxHeartbeats 1000000 in
theorem crcSums_small (l : List UInt8) (n : Int) (h : l.length ≤ 5000) (w : World) (ht : Halves w) :
    Calls Tryd.prog 3 #[.string (bs l), .int .i64 n] w fun e w' => e = .returned (.bool true) ∧ Below w.heap.size w w' := by
  have m1 := moreAny_walk n l (by omega)
  have m2 := rMoreAny_walk n l (by omega)
  have o1 := open_walk l (by omega)
  have o2 := rOpen_walk l (by omega)
  have s1 := sum_walk l (by omega)
  have s2 := rSum_walk l (by omega)
  have t1 := Tag_walk l (by omega)
  have t2 := rTag_walk l (by omega)
  generalize moreV n l = mv at m1 m2
  generalize moreE n = me at m1 m2
  generalize le4 (C2.sum l) = tg at t1 t2
  generalize C2.sum l = sm at s1 s2
  generalize opn l = o at o1 o2
  have M1 := Lib.hid m1; have M2 := Lib.hid m2; have O1 := Lib.hid o1; have O2 := Lib.hid o2
  have S1 := Lib.hid s1; have S2 := Lib.hid s2; have T1' := Lib.hid t1; have T2 := Lib.hid t2
  clear m1 m2 o1 o2 s1 s2 t1 t2
  rcases o with _ | op
  all_goals
    go_enter Tryd.func3, Tryd.ntmps3
    go_wp2_with fail
    refine (M1.out w ht).mono ?_
    rintro e w1 ⟨rfl, rfl⟩
    go_wp2_with fail
    refine (M2.out w).mono ?_
    rintro e w1 ⟨rfl, rfl⟩
    go_wp2_with fail
    refine (O1.out w ht).mono ?_
    rintro e w1 ⟨rfl, b1⟩
    have ht1 := ht.below b1
    unfold opV
    go_wp2_with fail
    refine (O2.out w1).mono ?_
    rintro e w2 ⟨rfl, b2⟩
    have ht2 := ht1.below b2
    unfold opV
    go_wp2_with fail
    refine (S1.out w2 ht2).mono ?_
    rintro e w3 ⟨rfl, rfl⟩
    go_wp2_with fail
    refine (S2.out w2).mono ?_
    rintro e w3 ⟨rfl, rfl⟩
    go_wp2_with fail
    refine (T1'.out w2 ht2).mono ?_
    rintro e w3 ⟨rfl, b3⟩
    have ht3 := ht2.below b3
    go_wp2_with fail
    refine (T2.out w3).mono ?_
    rintro e w4 ⟨rfl, b4⟩
    have ht4 := ht3.below b4
    go_wp2_with fail
    refine (works_walk w4 ht4).mono ?_
    rintro e w5 ⟨rfl, rfl⟩
    go_wp2
    go_ret
    exact ⟨rfl, Below_tr (Below_tr (Below_tr b1 b2) b3) b4⟩

theorem crcSums_big (l : List UInt8) (n : Int) (h : 5000 < l.length) (h2 : l.length ≤ 140737488351232) (w : World) (ht : Halves w) :
    Calls Tryd.prog 3 #[.string (bs l), .int .i64 n] w fun e w' => e = .returned (.bool true) ∧ Below w.heap.size w w' := by
  go_enter Tryd.func3, Tryd.ntmps3
  go_wp2_with fail
  refine (works_walk w ht).mono ?_
  rintro e w5 ⟨rfl, rfl⟩
  go_wp2
  go_ret
  exact ⟨rfl, Below.refl _ _⟩

namespace crcSums
theorem own : ownKnob Tryd.prog.godebug = none := by kernel_rfl
theorem walk (l : List UInt8) (hl : l.length ≤ reachBytes) (n : Int) (wn : (Lit.int .i64 n).wf = true) (w : World) (ht : Halves w) :
    Calls Tryd.prog 3 #[.string (bs l), .int .i64 n] w fun e w' => e = .returned (.bool true) ∧ Below w.heap.size w w' := by
  by_cases h : l.length ≤ 5000
  · exact crcSums_small l n h w ht
  · exact crcSums_big l n (by omega) (by unfold reachBytes at hl; omega) w ht

/-! ### The row's step, over a listed table -/
theorem contract (H : Type) (enc : TypeId × Value → H) (W : World) (base : Nat) (args : Array Value) (ds gs : List (DataW H)) (before : List MemPlace)
    (hval0 : ∀ (j : Nat) t v, Tryd.f3.params[j]? = some t → args[j]? = some v → Value.okWide Tryd.prog W .any base t v)
    (hW : DataW.Whole enc Tryd.prog Tryd.f3.params.toList Rows.crcSumsSpec.vars false W args.toList ds gs before)
    (hsz0 : (DataW.weightsEach Tryd.prog (Tryd.f3.params.toList ++ (OpenSpec.ofChange Rows.crcSumsSpec).bare.plain.varTypes Tryd.prog) (ds ++ gs)).all (· ≤ reachBytes) = true)
    (hL : laidMetH Tryd.prog Rows.crcSumsRow.laid W) :
    Calls Tryd.prog 3 args W fun e W' => ∃ v, e = .returned v ∧ Rows.crcSumsSpec.post enc Tryd.prog Tryd.f3 false true false false W args v W' := by
  have hval : ∀ (j : Nat) t v, Tryd.f3.params[j]? = some t → args[j]? = some v → Value.okWide Tryd.prog W .any base t v := hval0
  have hW' := hW
  obtain ⟨p, q, hA0, hV, rfl, hfz, hnd⟩ := hW
  have hA : DataW.TrodAll enc Tryd.prog W 0 (fun _ => true) true Tryd.f3.params.toList args.toList ds p := hA0
  have hsz : (DataW.weightsEach Tryd.prog (Tryd.f3.params.toList ++ (OpenSpec.ofChange Rows.crcSumsSpec).bare.plain.varTypes Tryd.prog) (ds ++ gs)).all (· ≤ reachBytes) = true := hsz0
  rw [Tryd.params3] at hA hval hsz
  obtain ⟨v0, vs0, d0, ds0, p0, q0, hargs, rfl, rfl, h0, r0⟩ := trodAll_cons hA
  obtain ⟨v1, vs1, d1, ds1, p1, q1, rfl, rfl, rfl, h1, r1⟩ := trodAll_cons r0
  obtain ⟨rfl, rfl, rfl⟩ := trodAll_nil r1
  obtain rfl : args = #[v0, v1] := by cases args; simp_all
  obtain ⟨rfl, rfl⟩ := trodVars_none hV
  have k0 := h0
  obtain ⟨a0, rfl, rfl, rfl, w0⟩ := open_string Tryd.underlying9 (hval 0 9 v0 rfl rfl) h0
  obtain ⟨l0, e0, b0⟩ := (Rdg.of k0 hsz (j := 0) rfl rfl).string Tryd.underlying9
  obtain rfl : a0 = bs l0 := by simpa [Value.cells] using e0
  obtain ⟨a1, rfl, rfl, rfl, w1⟩ := open_int Tryd.underlying3 (hval 1 3 v1 rfl rfl) h1
  clear hA0 hval0 hsz0
  refine (walk l0 b0 a1 w1 W (halvesOf hL)).mono fun e W' ⟨he, bel⟩ => ?_
  subst he
  simp only [List.append_nil] at hW'
  exact ⟨_, rfl, _, _, _, [], [], [], hW', trodAll_mk1 (shut_bool Tryd.underlying4 _), (trodAll_cons_mk (shut_string Tryd.underlying9 w0) (trodAll_cons_mk (shut_int Tryd.underlying3 w1) trodAll_mk0)), rfl, bel.frame _, fun h => by cases h⟩

theorem laid_met (os : Os) : laidMet Tryd.prog Rows.crcSumsRow.laid ((laidWorld os).forCall (fun _ _ => 0) ⟨#[], #[.string ByteArray.empty, .int .i64 0], []⟩).memory :=
  laidMet_of_run' 8 (by kernel_rfl) (by kernel_rfl)
theorem reads (os : Os) {H : Type} (enc : TypeId × Value → H) : ∃ places, DataW.whole enc Tryd.prog ((laidWorld os).forCall (fun _ _ => 0) ⟨#[], #[.string ByteArray.empty, .int .i64 0], []⟩).memory Tryd.f3.params.toList Rows.crcSumsSpec.vars false (#[.string ByteArray.empty, .int .i64 0] : Array Value).toList 8 = some ([.lit (.string []), .lit (.int .i64 0)], [], places) :=
  ⟨[], by kernel_rfl⟩
set_option maxRecDepth 100000 in
theorem lifted (os : Os) (started : os.Started) (H : Type) (enc : TypeId × Value → H) (F : Stop.Interp) :
    ReturnsInHanded {} Tryd.checked os 3 .any ((OpenSpec.ofChange Rows.crcSumsSpec).preRow enc Tryd.prog Tryd.f3 Rows.crcSumsRow.domain false Rows.crcSumsRow.laid) (((OpenSpec.ofChange Rows.crcSumsSpec).at F).post enc Tryd.prog Tryd.f3 false true false false) := by
  obtain ⟨places, hx⟩ := reads os enc
  refine returnsInHanded_of_row (C := Tryd.checked) (s := OpenSpec.ofChange Rows.crcSumsSpec) own started (by kernel_rfl) Tryd.func3
    (witness_row_at (enc := enc) (C := Tryd.checked) false (laidWorld os) #[.string ByteArray.empty, .int .i64 0] rfl (by kernel_rfl) (by kernel_rfl) (by kernel_rfl)
      (OpenSpec.preRow_of_cond 8 hx (by kernel_rfl) (fun k hk => by cases hk) (by kernel_rfl) (laid_met os))) ?_
  intro W base args ds gs before hval hW _ _ hsz hL _ _
  exact contract H enc W base args ds gs before hval hW hsz hL

theorem over : Rows.crcSumsRow.holds Tryd.pinned (OpenSpec.ofChange Rows.crcSumsSpec) :=
  OpenClaim.holds_of_cond 3 Tryd.f3 rfl rfl rfl rfl rfl rfl rfl ⟨rfl, rfl, rfl, rfl, rfl⟩ rfl rfl rfl rfl rfl (by kernel_rfl) Tryd.func3 (by kernel_rfl)
    (of_decide_eq_true (by kernel_rfl)) (by unfold Func.isWrapper; first | (rw [if_pos (by decide +kernel)]; kernel_rfl) | (rw [if_neg (by decide +kernel)]; exact ⟨rfl, rfl⟩))
    (fun os started H enc _ F => by rw [OpenClaim.pre_eq_preRow]; exact lifted os started H enc F)

theorem plain (f : FuncId) (fn : Func) (hf : Tryd.pinned.checked.prog.funcNamed "gong/gonglaw02.CrcSums" = some f) (hfn : Tryd.pinned.checked.prog.funcs[f]? = some fn) :
    false = Tryd.pinned.checked.prog.looks [] ∧ ∀ (j : Nat) t, fn.params[j]? = some t → Tryd.pinned.checked.prog.wantsStandIn t = false := by
  obtain rfl : f = 3 := Option.some.inj ((show Tryd.prog.funcNamed "gong/gonglaw02.CrcSums" = some 3 by kernel_rfl).symm.trans hf) |>.symm
  obtain rfl : fn = Tryd.f3 := (Option.some.inj (Tryd.func3.symm.trans hfn)).symm
  refine ⟨by kernel_rfl, fun j t ht => ?_⟩
  have hall : (Tryd.f3.params.toList.all fun u => !Tryd.prog.wantsStandIn u) = true := by kernel_rfl
  have hm : t ∈ Tryd.f3.params.toList := by simpa using Array.mem_of_getElem? ht
  exact (show Tryd.prog.wantsStandIn t = false by simpa using List.all_eq_true.1 hall t hm)

/-- The card. -/
theorem proved : Rows.CrcSumsCardSaid :=
  Claim7.holds_tied_plain_at .later [] _ _ _ _ over (fun _ h => by cases h) (by kernel_rfl) (fun _ h => by cases h) crcSums_row_tie rfl ⟨rfl, rfl⟩ (by kernel_rfl) rfl plain (by kernel_rfl)
#print axioms proved
end crcSums
end Go.Proofs.YtengpepapoainaaDoor
