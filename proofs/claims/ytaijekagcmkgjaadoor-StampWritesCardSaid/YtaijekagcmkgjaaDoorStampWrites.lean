/- The stamp of any time, by any clock, and the span that spells any number, are those of the document: gonglaw03.StampWrites answers true at every input, and its arguments read as before. Its card ties the listed tables (of package stamp and of Go's library) to the program's text. No other condition. -/
import Derived.Test.YtaijekagcmkgjaaDoorStpW
import Derived.Test.YtaijekagcmkgjaaDoorStpV
namespace Go.Proofs.YtaijekagcmkgjaaDoor
open Go.ChangeShapes Go.WideShapes Go.ChangeAt Go.RowKit K S3
open Go.ChangeMaps (open_string shut_string)
set_option linter.unusedVariables false

theorem pow_data : (Rows.laid_internal_strconv_uint64pow10 : DataW Unit) = Lib.tabData .u64 Lib.pow10Tab := rfl
theorem powsOf {W : World} {L : List (String × DataW Unit)} (h : laidMetH Tryd.prog L W) (hp : (L.all fun x => x.2.handleName?.isNone) = true) (hm : ("internal/strconv.uint64pow10", Rows.laid_internal_strconv_uint64pow10) ∈ L) : Pows W := by
  rw [pow_data] at hm
  exact laid_tab h hp hm (by kernel_rfl : Tryd.prog.globalNamed "internal/strconv.uint64pow10" = some 2) (by kernel_rfl) Tryd.underlying100 Tryd.underlying85 (by kernel_rfl) (by kernel_rfl)

/-- What Print, Shifted and Spell answer, program and document alike. -/
theorem printS (t : Int) : ∃ (X : List UInt8) (c : Int), X.length ≤ 40 ∧ (∀ w, Months w → Pows w → Calls Tryd.prog 13 #[.int .i64 t] w fun e w' => e = .returned (.tuple #[.string (bs X), .int .i64 c]) ∧ Below w.heap.size w w') ∧
    ∀ w, Calls Tryd.prog 14 #[.int .i64 t] w fun e w' => e = .returned (.tuple #[.string (bs X), .int .i64 c]) ∧ Below w.heap.size w w' := by
  by_cases h : 0 ≤ t ∧ t ≤ 2305843009213693952
  · obtain ⟨n, rfl⟩ := Int.eq_ofNat_of_zero_le h.1
    obtain ⟨y, m, d, hd⟩ := date_ex (n / 86400000000000) (by omega)
    refine ⟨_, _, ?_, fun w hM hP => print_yes n y m d (by omega) hd w hM hP, fun w => qprint_yes n y m d (by omega) hd w⟩
    have := txt_len y m d (n / 1000000000) (n % 1000000000)
    have := frc_len (n % 1000000000)
    rw [List.length_append, List.length_singleton]; omega
  · exact ⟨[], 1, by simp, fun w _ _ => (print_no t h w).mono fun _ _ ⟨a, b⟩ => ⟨a, b ▸ Below.refl _ _⟩, fun w => (qprint_no t h w).mono fun _ _ ⟨a, b⟩ => ⟨a, b ▸ Below.refl _ _⟩⟩
theorem shiftS (t z : Int) (h0 : -9223372036854775808 ≤ t) (h1 : t ≤ 9223372036854775807) (hz0 : -9223372036854775808 ≤ z) (hz1 : z ≤ 9223372036854775807) : ∃ (X : List UInt8) (c : Int), X.length ≤ 40 ∧ (∀ w, Months w → Pows w → Calls Tryd.prog 15 #[.int .i64 t, .int .i64 z] w fun e w' => e = .returned (.tuple #[.string (bs X), .int .i64 c]) ∧ Below w.heap.size w w') ∧
    ∀ w, Calls Tryd.prog 16 #[.int .i64 t, .int .i64 z] w fun e w' => e = .returned (.tuple #[.string (bs X), .int .i64 c]) ∧ Below w.heap.size w w' := by
  by_cases h : ¬ (0 ≤ t ∧ t ≤ 2305843009213693952) ∨ z < -1439 ∨ 1439 < z ∨ t + z * 60000000000 < 0
  · exact ⟨[], 1, by simp, fun w _ _ => (shifted_no t z h0 h1 hz0 hz1 h w).mono fun _ _ ⟨a, b⟩ => ⟨a, b ▸ Below.refl _ _⟩, fun w => (qshifted_no t z h0 h1 hz0 hz1 h w).mono fun _ _ ⟨a, b⟩ => ⟨a, b ▸ Below.refl _ _⟩⟩
  · have h2 : 0 ≤ t ∧ t ≤ 2305843009213693952 ∧ -1439 ≤ z ∧ z ≤ 1439 ∧ 0 ≤ t + z * 60000000000 := by omega
    obtain ⟨a, b, c, d, e⟩ := h2
    obtain ⟨n, rfl⟩ := Int.eq_ofNat_of_zero_le a
    obtain ⟨u, hu⟩ := Int.eq_ofNat_of_zero_le e
    obtain ⟨y, m, dd, hd⟩ := date_ex (u / 86400000000000) (by omega)
    refine ⟨_, _, ?_, fun w hM hP => shifted_yes n z u y m dd (by omega) c d hu hd w hM hP, fun w => qshifted_yes n z u y m dd (by omega) c d hu hd w⟩
    have := txt_len y m dd (u / 1000000000) (u % 1000000000)
    have := frc_len (u % 1000000000)
    rw [List.length_append, sgn_len]; omega
theorem slGo_len (n : Nat) : (slT n).length ≤ 40 := by
  unfold slT
  split
  · simp
  · have h : ∀ L : List (List UInt8 × Nat), (∀ u ∈ L, u.1.length ≤ 2) → (slGo L n).1.length ≤ 11 := by
      intro L
      induction L with
      | nil => intro _; simp [slGo]
      | cons u r ih =>
        intro hu
        obtain ⟨a, b⟩ := u
        unfold slGo
        split
        · split
          · simp
          · have h1 := dec_len (n / b) (by omega)
            have h2 := hu (a, b) (by simp)
            simp at h2
            simp; omega
        · exact ih fun v hv => hu v (by simp [hv])
    have := h unitL (by decide)
    omega
theorem spellS (t : Int) : ∃ (X : List UInt8) (c : Int), X.length ≤ 40 ∧ (∀ w, Units w → Pows w → Calls Tryd.prog 17 #[.int .i64 t] w fun e w' => e = .returned (.tuple #[.string (bs X), .int .i64 c]) ∧ Below w.heap.size w w') ∧
    ∀ w, Calls Tryd.prog 18 #[.int .i64 t] w fun e w' => e = .returned (.tuple #[.string (bs X), .int .i64 c]) ∧ Below w.heap.size w w' := by
  by_cases h : 0 ≤ t ∧ t ≤ 2305843009213693952
  · obtain ⟨n, rfl⟩ := Int.eq_ofNat_of_zero_le h.1
    exact ⟨slT n, slC n, slGo_len n, fun w hU hP => spell_yes n (by omega) w hU hP, fun w => qspell_yes n (by omega) w⟩
  · exact ⟨[], 1, by simp, fun w _ _ => (spell_no t h w).mono fun _ _ ⟨a, b⟩ => ⟨a, b ▸ Below.refl _ _⟩, fun w => (qspell_no t h w).mono fun _ _ ⟨a, b⟩ => ⟨a, b ▸ Below.refl _ _⟩⟩

namespace stampWrites
theorem own : ownKnob Tryd.prog.godebug = none := by kernel_rfl
theorem tabs {W : World} (h : laidMetH Tryd.prog Rows.stampWritesRow.laid W) : Months W ∧ Units W ∧ Pows W :=
  ⟨monthsOf h (by kernel_rfl) (by unfold Rows.stampWritesRow; simp only [List.mem_cons, true_or, or_true]), unitsOf h (by kernel_rfl) (by unfold Rows.stampWritesRow; simp only [List.mem_cons, true_or, or_true]), powsOf h (by kernel_rfl) (by unfold Rows.stampWritesRow; simp only [List.mem_cons, true_or, or_true])⟩
set_option maxRecDepth 100000 in
set_option maxHeartbeats 2000000 in
theorem walk (t : Int) (wt : (Lit.int .i64 t).wf = true) (z : Int) (wz : (Lit.int .i64 z).wf = true) (w : World) (ht : Months w ∧ Units w ∧ Pows w) :
    Calls Tryd.prog 4 #[.int .i64 t, .int .i64 z] w fun e w' => e = .returned (.bool true) ∧ Below w.heap.size w w' := by
  have hbt := bounds_i64 wt
  have hbz := bounds_i64 wz
  obtain ⟨hM, hU, hP⟩ := ht
  obtain ⟨X1, c1, l1, p1, q1⟩ := printS t
  obtain ⟨X2, c2, l2, p2, q2⟩ := shiftS t z hbt.1 hbt.2 hbz.1 hbz.2
  obtain ⟨X3, c3, l3, p3, q3⟩ := spellS t
  have P1 := Lib.hid p1; have Q1 := Lib.hid q1; have P2 := Lib.hid p2; have Q2 := Lib.hid q2; have P3 := Lib.hid p3; have Q3 := Lib.hid q3
  have HW := Lib.hid (fun w1 (h : Months w1) => works_walk w1 h)
  have s1 : (X1 == X1) = true := by simp
  have s2 : (X2 == X2) = true := by simp
  have s3 : (X3 == X3) = true := by simp
  clear p1 q1 p2 q2 p3 q3
  go_enter Tryd.func4, Tryd.ntmps4
  go_wp2_with fail
  refine (P1.out w hM hP).mono ?_
  rintro e w1 ⟨rfl, b1⟩
  go_wp2_with fail
  refine (Q1.out w1).mono ?_
  rintro e w2 ⟨rfl, c⟩
  replace b1 := b1.trans (c.mono b1.size); clear c
  go_wp2_with fail
  refine (P2.out w2 (hM.below b1) (hP.below b1)).mono ?_
  rintro e w3 ⟨rfl, c⟩
  replace b1 := b1.trans (c.mono b1.size); clear c
  go_wp2_with fail
  refine (Q2.out w3).mono ?_
  rintro e w4 ⟨rfl, c⟩
  replace b1 := b1.trans (c.mono b1.size); clear c
  go_wp2_with fail
  refine (P3.out w4 (hU.below b1) (hP.below b1)).mono ?_
  rintro e w5 ⟨rfl, c⟩
  replace b1 := b1.trans (c.mono b1.size); clear c
  go_wp2_with fail
  refine (Q3.out w5).mono ?_
  rintro e w6 ⟨rfl, c⟩
  replace b1 := b1.trans (c.mono b1.size); clear c
  go_wp2_with fail
  refine (HW.out w6 (hM.below b1)).mono ?_
  rintro e w7 ⟨rfl, c⟩
  replace b1 := b1.trans (c.mono b1.size); clear c
  go_wp2
  go_ret
  exact ⟨rfl, b1⟩

/-! ### The row's step, over a listed table -/
set_option maxRecDepth 1000000 in
theorem contract (H : Type) (enc : TypeId × Value → H) (W : World) (base : Nat) (args : Array Value) (ds gs : List (DataW H)) (before : List MemPlace)
    (hval0 : ∀ (j : Nat) t v, Tryd.f4.params[j]? = some t → args[j]? = some v → Value.okWide Tryd.prog W .any base t v)
    (hW : DataW.Whole enc Tryd.prog Tryd.f4.params.toList Rows.stampWritesSpec.vars false W args.toList ds gs before)
    (hsz0 : (DataW.weightsEach Tryd.prog (Tryd.f4.params.toList ++ (OpenSpec.ofChange Rows.stampWritesSpec).bare.plain.varTypes Tryd.prog) (ds ++ gs)).all (· ≤ reachBytes) = true)
    (hL : laidMetH Tryd.prog Rows.stampWritesRow.laid W) :
    Calls Tryd.prog 4 args W fun e W' => ∃ v, e = .returned v ∧ Rows.stampWritesSpec.post enc Tryd.prog Tryd.f4 false true false false W args v W' := by
  have hval : ∀ (j : Nat) t v, Tryd.f4.params[j]? = some t → args[j]? = some v → Value.okWide Tryd.prog W .any base t v := hval0
  have hW' := hW
  obtain ⟨p, q, hA0, hV, rfl, hfz, hnd⟩ := hW
  have hA : DataW.TrodAll enc Tryd.prog W 0 (fun _ => true) true Tryd.f4.params.toList args.toList ds p := hA0
  have hsz : (DataW.weightsEach Tryd.prog (Tryd.f4.params.toList ++ (OpenSpec.ofChange Rows.stampWritesSpec).bare.plain.varTypes Tryd.prog) (ds ++ gs)).all (· ≤ reachBytes) = true := hsz0
  rw [Tryd.params4] at hA hval hsz
  obtain ⟨v0, vs0, d0, ds0, p0, q0, hargs, rfl, rfl, h0, r0⟩ := trodAll_cons hA
  obtain ⟨v1, vs1, d1, ds1, p1, q1, rfl, rfl, rfl, h1, r1⟩ := trodAll_cons r0
  obtain ⟨rfl, rfl, rfl⟩ := trodAll_nil r1
  obtain rfl : args = #[v0, v1] := by cases args; simp_all
  obtain ⟨rfl, rfl⟩ := trodVars_none hV
  obtain ⟨a0, rfl, rfl, rfl, w0⟩ := open_int Tryd.underlying3 (hval 0 3 v0 rfl rfl) h0
  obtain ⟨a1, rfl, rfl, rfl, w1⟩ := open_int Tryd.underlying3 (hval 1 3 v1 rfl rfl) h1
  clear hA0 hval0 hsz0
  refine (walk a0 w0 a1 w1 W (tabs hL)).mono fun e W' ⟨he, bel⟩ => ?_
  subst he
  simp only [List.append_nil] at hW'
  exact ⟨_, rfl, _, _, _, [], [], [], hW', trodAll_mk1 (shut_bool Tryd.underlying4 _), (trodAll_cons_mk (shut_int Tryd.underlying3 w0) (trodAll_cons_mk (shut_int Tryd.underlying3 w1) trodAll_mk0)), rfl, bel.frame _, fun h => by cases h⟩

set_option maxRecDepth 1000000 in
theorem laid_met (os : Os) : laidMet Tryd.prog Rows.stampWritesRow.laid ((World.laidAll Tryd.prog os Rows.stampWritesRow.laid).forCall (fun _ _ => 0) ⟨#[], #[.int .i64 0, .int .i64 0], []⟩).memory :=
  laidMet_laidAll _ (by kernel_rfl) (by kernel_rfl)
set_option maxRecDepth 1000000 in
theorem reads (os : Os) {H : Type} (enc : TypeId × Value → H) : ∃ places, DataW.whole enc Tryd.prog ((World.laidAll Tryd.prog os Rows.stampWritesRow.laid).forCall (fun _ _ => 0) ⟨#[], #[.int .i64 0, .int .i64 0], []⟩).memory Tryd.f4.params.toList Rows.stampWritesSpec.vars false (#[.int .i64 0, .int .i64 0] : Array Value).toList 8 = some ([.lit (.int .i64 0), .lit (.int .i64 0)], [], places) :=
  ⟨[], by kernel_rfl⟩
set_option maxRecDepth 1000000 in
theorem lifted (os : Os) (started : os.Started) (H : Type) (enc : TypeId × Value → H) (F : Stop.Interp) :
    ReturnsInHanded {} Tryd.checked os 4 .any ((OpenSpec.ofChange Rows.stampWritesSpec).preRow enc Tryd.prog Tryd.f4 Rows.stampWritesRow.domain false Rows.stampWritesRow.laid) (((OpenSpec.ofChange Rows.stampWritesSpec).at F).post enc Tryd.prog Tryd.f4 false true false false) := by
  obtain ⟨places, hx⟩ := reads os enc
  refine returnsInHanded_of_row (C := Tryd.checked) (s := OpenSpec.ofChange Rows.stampWritesSpec) own started (by kernel_rfl) Tryd.func4
    (witness_row_at (enc := enc) (C := Tryd.checked) false (World.laidAll Tryd.prog os Rows.stampWritesRow.laid) #[.int .i64 0, .int .i64 0] (World.laidAll_os _ _ _) (by kernel_rfl) (by kernel_rfl) (by kernel_rfl)
      (OpenSpec.preRow_of_cond 8 hx (by kernel_rfl) (fun k hk => by cases hk) (by kernel_rfl) (laid_met os))) ?_
  intro W base args ds gs before hval hW _ _ hsz hL _ _
  exact contract H enc W base args ds gs before hval hW hsz hL

theorem over : Rows.stampWritesRow.holds Tryd.pinned (OpenSpec.ofChange Rows.stampWritesSpec) :=
  OpenClaim.holds_of_cond 4 Tryd.f4 rfl rfl rfl rfl rfl rfl rfl ⟨rfl, rfl, rfl, rfl, rfl⟩ rfl rfl rfl rfl rfl (by kernel_rfl) Tryd.func4 (by kernel_rfl)
    (of_decide_eq_true (by kernel_rfl)) (by unfold Func.isWrapper; first | (rw [if_pos (by decide +kernel)]; kernel_rfl) | (rw [if_neg (by decide +kernel)]; exact ⟨rfl, rfl⟩))
    (fun os started H enc _ F => by rw [OpenClaim.pre_eq_preRow]; exact lifted os started H enc F)

theorem plain (f : FuncId) (fn : Func) (hf : Tryd.pinned.checked.prog.funcNamed "gong/gonglaw03.StampWrites" = some f) (hfn : Tryd.pinned.checked.prog.funcs[f]? = some fn) :
    false = Tryd.pinned.checked.prog.looks [] ∧ ∀ (j : Nat) t, fn.params[j]? = some t → Tryd.pinned.checked.prog.wantsStandIn t = false := by
  obtain rfl : f = 4 := Option.some.inj ((show Tryd.prog.funcNamed "gong/gonglaw03.StampWrites" = some 4 by kernel_rfl).symm.trans hf) |>.symm
  obtain rfl : fn = Tryd.f4 := (Option.some.inj (Tryd.func4.symm.trans hfn)).symm
  refine ⟨by kernel_rfl, fun j t ht => ?_⟩
  have hall : (Tryd.f4.params.toList.all fun u => !Tryd.prog.wantsStandIn u) = true := by kernel_rfl
  have hm : t ∈ Tryd.f4.params.toList := by simpa using Array.mem_of_getElem? ht
  exact (show Tryd.prog.wantsStandIn t = false by simpa using List.all_eq_true.1 hall t hm)

/-- The card. -/
theorem proved : Rows.StampWritesCardSaid :=
  Claim7.holds_tied_plain_at .later [] _ _ _ _ over (fun _ h => by cases h) (by kernel_rfl) (fun _ h => by cases h) stampWrites_row_tie rfl ⟨rfl, rfl⟩ (by kernel_rfl) rfl plain (by kernel_rfl)
#print axioms proved
end stampWrites
end Go.Proofs.YtaijekagcmkgjaaDoor
