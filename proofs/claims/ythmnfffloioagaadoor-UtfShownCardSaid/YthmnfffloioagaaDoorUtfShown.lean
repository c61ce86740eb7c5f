/- What is shown of any bytes is UTF-8 without a control; of unlike bytes it is unlike; of bytes that are UTF-8 without a control or a backslash it is these: gonglaw04.UtfShown answers true at every input, and its arguments read as before. Its card ties the table of package utf to the program's text. No other condition. -/
import Derived.Test.YthmnfffloioagaaDoorUtfW
import Derived.Test.YthmnfffloioagaaDoorUtfS
import Derived.Test.YthmnfffloioagaaDoorInts
namespace Go.Proofs.YthmnfffloioagaaDoor
open Go.ChangeShapes Go.WideShapes Go.ChangeAt Go.RowKit K U4
open Go.ChangeMaps (open_string shut_string)
set_option linter.unusedVariables false

theorem idx_has : ∀ (l : List UInt8) (c : UInt8), decide (0 ≤ Lib.indexByte l c) = l.any (· == c)
  | [], _ => rfl
  | b :: l, c => by
    have ih := idx_has l c
    have hg := Lib.indexByte_ge l c
    unfold Lib.indexByte
    rw [List.any_cons]
    by_cases h : (b == c) = true
    · rw [if_pos h, h]; rfl
    · rw [if_neg h, ← ih, Bool.not_eq_true] at *
      rw [h, Bool.false_or, ← ih]
      by_cases h2 : Lib.indexByte l c = -1
      · rw [h2]; rfl
      · have h3 : (Lib.indexByte l c == -1) = false := beq_eq_false_iff_ne.2 h2
        rw [h3, Bool.eq_iff_iff]
        simp only [Bool.false_eq_true, if_false, decide_eq_true_eq]
        omega
def has92 (l : List UInt8) : Bool := l.any (· == 92)
theorem has_walk (l : List UInt8) (w : World) :
    Calls Tryd.prog 26 #[.string (bs l), .string { data := #[92] }] w fun e w' => e = .returned (.bool (has92 l)) ∧ w = w' := by
  have h := Tryd.strings_Contains_one (bs l) 92 w
  rw [bs_toList, idx_has] at h
  exact h.mono fun _ _ ⟨a, b⟩ => ⟨a, b.symm⟩
theorem has_not {l : List UInt8} (h : has92 l = false) : (92 : UInt8) ∉ l := by
  intro hm
  unfold has92 at h
  rw [List.any_eq_false] at h
  exact h 92 hm (by simp)
theorem good_take {cs : List Nat} {i : Nat} (h : i < cs.length) : (cs.take (i + 1)).all (fun c => !ctl c) = ((cs.take i).all (fun c => !ctl c) && !ctl (cs.getD i 0)) := by
  rw [List.take_succ_eq_append_getElem h, List.all_append]
  simp [List.getD, List.getElem?_eq_getElem h]
theorem good_of {cs : List Nat} (h : cs.all (fun c => !ctl c) = true) : U4.Good cs := by
  intro c hc
  have := List.all_eq_true.1 h c hc
  simpa using this
def pl (p : Bool) (ks : List Nat) (i : Nat) : Bool := p && (ks.take i).all (fun c => !ctl c)

def ShL1 (w : World) (n g : Nat) (v47 : Value) (wr : World) : Prop := ∃ i, i + g = n ∧ v47 = .int .i64 (i : Nat) ∧ wr = w
def ShL2 (w : World) (p : Bool) (ks : List Nat) (g : Nat) (v12 v72 : Value) (wr : World) : Prop := ∃ i, i + g = ks.length ∧ v12 = .bool (pl p ks i) ∧ v72 = .int .i64 (i : Nat) ∧ wr = w

namespace utfShown
theorem own : ownKnob Tryd.prog.godebug = none := by kernel_rfl
theorem tabs {W : World} (h : laidMetH Tryd.prog Rows.utfShownRow.laid W) : Leads W :=
  leadsOf h (by kernel_rfl) (List.Mem.head _)
set_option maxRecDepth 100000 in
set_option maxHeartbeats 4000000 in
theorem walk (a : List UInt8) (la : a.length ≤ reachBytes) (b : List UInt8) (lb : b.length ≤ reachBytes) (w : World) (ht : Leads w) :
    Calls Tryd.prog 6 #[.string (bs a), .string (bs b)] w fun e w' => e = .returned (.bool true) ∧ Below w.heap.size w w' := by
  have la2 : a.length ≤ 140737488351232 := by unfold reachBytes at la; omega
  have lb2 : b.length ≤ 140737488351232 := by unfold reachBytes at lb; omega
  have HW := Lib.hid (works_walk w ht)
  clear la lb
  by_cases h : 300 < a.length ∨ (a.length ≤ 300 ∧ 300 < b.length)
  · rcases h with h1 | ⟨h1, h2⟩
    · have h1' : (300 : Int) < ((a.length : Nat) : Int) := by omega
      go_enter Tryd.func6, Tryd.ntmps6
      go_wp2_with fail
      refine HW.out.mono ?_
      rintro e w1 ⟨rfl, b1⟩
      go_wp2
      go_ret
      exact ⟨rfl, b1⟩
    · have h1' : ((a.length : Nat) : Int) ≤ 300 := by omega
      have h2' : (300 : Int) < ((b.length : Nat) : Int) := by omega
      go_enter Tryd.func6, Tryd.ntmps6
      go_wp2_with fail
      refine HW.out.mono ?_
      rintro e w1 ⟨rfl, b1⟩
      go_wp2
      go_ret
      exact ⟨rfl, b1⟩
  · have h1 : ((a.length : Nat) : Int) ≤ 300 := by omega
    have h2 : ((b.length : Nat) : Int) ≤ 300 := by omega
    clear h
    have hsl := shown_len a.length a (Nat.le_refl _)
    have HA := Lib.hid (fun w1 (h : Leads w1) => shown_walk a (by omega) w1 h)
    have HB := Lib.hid (fun w1 (h : Leads w1) => shown_walk b (by omega) w1 h)
    obtain ⟨ks, k1, k2, k3⟩ := shown_flat a.length a (Nat.le_refl _)
    have hX := fun w1 (h : Leads w1) => chars_walk (shown a) (by omega) w1 h
    have hXE := chE_some (l := shown a) (cs := ks) (by rw [chars_iff]; exact ⟨k1, k2⟩)
    have hkl := flat_len ks
    rw [k2] at hkl
    have HX := Lib.hid hX
    have HXE := Lib.hid hXE
    have HK3 := Lib.hid k3
    have HKC := Lib.hid k1
    have HC := Lib.hid (fun w1 (h : Leads w1) => chars_walk a (by omega) w1 h)
    have HH := Lib.hid (fun w1 => has_walk a w1)
    have heq : ∃ q, (a == b) = q ∧ (shown a == shown b) = q := by
      by_cases hab : a = b
      · exact ⟨true, by rw [hab]; simp, by rw [hab]; simp⟩
      · exact ⟨false, beq_eq_false_iff_ne.2 hab, beq_eq_false_iff_ne.2 fun h => hab (shown_inj h)⟩
    obtain ⟨q, q1, q2⟩ := heq
    have hpl : ∀ cs, AllC cs → flat cs = a → has92 a = false → cs.all (fun c => !ctl c) = true → (shown a == a) = true := by
      intro cs c1 c2 c3 c4
      rw [beq_iff_eq, ← c2]
      exact shown_same cs c1 (good_of c4) (not92 (by rw [c2]; exact has_not c3))
    have HPL := Lib.hid hpl
    clear k1 k2 k3 hX hXE hpl
    generalize shown a = X at *
    generalize shown b = Y at *
    go_enter Tryd.func6, Tryd.ntmps6
    go_wp2_with fail
    refine HW.out.mono ?_
    rintro e w1 ⟨rfl, b1⟩
    go_wp2_with fail
    refine (HA.out w1 (ht.below b1)).mono ?_
    rintro e w2 ⟨rfl, d⟩
    have b2 := b1.trans (d.mono b1.size)
    clear d b1
    go_wp2_with fail
    refine (HB.out w2 (ht.below b2)).mono ?_
    rintro e w3 ⟨rfl, d⟩
    have b3 := b2.trans (d.mono b2.size)
    clear d b2
    go_wp2_with fail
    refine (HX.out w3 (ht.below b3)).mono ?_
    rintro e w4 ⟨v, rfl, o, d⟩
    rw [HXE.out.1]
    rw [HXE.out.2] at o
    have b4 := b3.trans (d.mono b3.size)
    have r := RdI.of o
    clear d b3 o
    obtain ⟨ao, cap, rfl, hc⟩ := r
    have HCC := Lib.hid hc
    clear hc
    have hqq : (q != q) = false := by simp
    go_wp2_with fail
    clear q1 q2 hqq
    go_loopg [47] ks.length (fun g v47 wr => ShL1 w4 ks.length g v47 wr)
    case atStart => exact ⟨0, by omega, rfl, rfl⟩
    case round =>
      obtain ⟨i, hig, rfl, rfl⟩ := hrel
      cases gk with
      | succ g =>
        have hil : i < ks.length := by omega
        rcases HCC.out with h0 | ⟨gb, rfl, _, hcells⟩
        · omega
        · have hcell := hcells i hil
          have hgd : ctl (ks.getD i 0) = false := HK3.out _ (by
            rw [List.getD, List.getElem?_eq_getElem hil]; exact List.getElem_mem hil)
          have hc32 : 32 ≤ ks.getD i 0 ∧ ks.getD i 0 ≠ 127 := by
            unfold ctl at hgd
            simp only [Bool.or_eq_false_iff, decide_eq_false_iff_not, beq_eq_false_iff_ne] at hgd
            omega
          obtain ⟨hc32, hc127⟩ := hc32
          have hb127 : (((ks.getD i 0 : Nat) : Int) == 127) = false := by rw [beq_eq_false_iff_ne]; omega
          clear hcells HCC hgd hc127
          generalize ks.getD i 0 = c at *
          go_wp2
          go_roundg g
          case measure => omega
          case rel => exact ⟨i + 1, by omega, by simp, rfl⟩
      | zero =>
        obtain rfl : i = ks.length := by omega
        clear hig HCC
        go_wp2_with fail
        refine (HC.out wr (ht.below b4)).mono ?_
        rintro e w5 ⟨v5, rfl, o5, d5⟩
        have b5 := b4.trans (d5.mono b4.size)
        clear d5 b4
        rcases chE_cases a with ⟨e1, cs, e2, e3, ha, e4⟩ | ⟨e1, e2, e3⟩
        · rw [e1]
          rw [e3] at o5
          have hcl := flat_len cs
          rw [e4] at hcl
          have r5 := RdI.of o5
          obtain ⟨ao5, cap5, rfl, hc5⟩ := r5
          have HC5 := Lib.hid hc5
          have HE4 := Lib.hid e4
          have HAC := Lib.hid ha
          clear hc5 o5 e1 e2 e3 e4 ha
          have HPL2 := Lib.hid (HPL.out cs HAC.out HE4.out)
          generalize has92 a = q9 at *
          go_wp2_with fail
          refine (HH.out _).mono ?_
          rintro e w6 ⟨rfl, rfl⟩
          go_wp2
          go_loopg [12, 72] cs.length (fun g v12 v72 wr => ShL2 w5 (!q9) cs g v12 v72 wr)
          case atStart => exact ⟨0, by omega, by simp [pl], rfl, rfl⟩
          case round =>
            obtain ⟨i, hig, rfl, rfl, rfl⟩ := hrel
            cases gk with
            | succ g =>
              have hil : i < cs.length := by omega
              rcases HC5.out with h0 | ⟨gb, rfl, _, hcells⟩
              · omega
              · have hcell := hcells i hil
                have hnx : pl (!q9) cs (i + 1) = (pl (!q9) cs i && !ctl (cs.getD i 0)) := by
                  unfold pl; rw [good_take hil, Bool.and_assoc]
                have HNX := Lib.hid hnx
                clear hcells HC5 hnx
                generalize pl (!q9) cs i = P at *
                generalize cs.getD i 0 = c at *
                cases P with
                | false =>
                  go_wp2
                  go_roundg g
                  case measure => omega
                  case rel => exact ⟨i + 1, by omega, by rw [show pl (!q9) cs (i + 1) = false from HNX.out], by simp, rfl⟩
                | true =>
                  by_cases hc1 : c < 32
                  · have HN2 := Lib.hid (show pl (!q9) cs (i + 1) = false by rw [HNX.out]; simp [ctl, hc1])
                    go_wp2
                    go_roundg g
                    case measure => omega
                    case rel => exact ⟨i + 1, by omega, by rw [HN2.out], by simp, rfl⟩
                  · by_cases hc2 : c = 127
                    · subst hc2
                      have HN2 := Lib.hid (show pl (!q9) cs (i + 1) = false by rw [HNX.out]; rfl)
                      clear hc1
                      go_wp2
                      go_roundg g
                      case measure => omega
                      case rel => exact ⟨i + 1, by omega, by rw [HN2.out], by simp, rfl⟩
                    · have HN2 := Lib.hid (show pl (!q9) cs (i + 1) = true by rw [HNX.out, ctl_f (by omega) hc2]; rfl)
                      have hc32 : 32 ≤ c := by omega
                      have hcb : (((c : Nat) : Int) != 127) = true := by rw [bne_iff_ne]; omega
                      clear hc1 hc2
                      go_wp2
                      go_roundg g
                      case measure => omega
                      case rel => exact ⟨i + 1, by omega, by rw [HN2.out], by simp, rfl⟩
            | zero =>
              obtain rfl : i = cs.length := by omega
              have hfin : pl (!q9) cs cs.length = true → (X == a) = true := by
                intro hp
                unfold pl at hp
                rw [Bool.and_eq_true, List.take_length] at hp
                exact HPL2.out (by simpa using hp.1) hp.2
              clear hig
              generalize pl (!q9) cs cs.length = P at *
              cases P with
              | false =>
                clear hfin
                go_wp2
                go_ret
                exact ⟨rfl, b5⟩
              | true =>
                have hxa := hfin rfl
                clear hfin
                go_wp2
                go_ret
                exact ⟨rfl, b5⟩
        · rw [e1]
          rw [e3] at o5
          have r5 := RdI.of o5
          obtain ⟨ao5, cap5, hv, _⟩ := r5
          obtain rfl : v5 = .slice ao5 0 cap5 := hv
          clear o5 e1 e2 e3
          go_wp2
          go_loopg [12, 72] 0 (fun g v12 v72 wr => ShL2 w5 false [] g v12 v72 wr)
          case atStart => exact ⟨0, rfl, rfl, rfl, rfl⟩
          case round =>
            obtain ⟨i, hig, rfl, rfl, rfl⟩ := hrel
            have hi0 : i + gk = 0 := hig
            obtain rfl : i = 0 := by omega
            clear hig hi0
            show Code.wp _ _ _ _ _
            have hpl0 : pl false [] 0 = false := rfl
            go_wp2
            go_ret
            exact ⟨rfl, b5⟩

/-! ### The row's step, over a listed table -/
set_option maxRecDepth 1000000 in
theorem contract (H : Type) (enc : TypeId × Value → H) (W : World) (base : Nat) (args : Array Value) (ds gs : List (DataW H)) (before : List MemPlace)
    (hval0 : ∀ (j : Nat) t v, Tryd.f6.params[j]? = some t → args[j]? = some v → Value.okWide Tryd.prog W .any base t v)
    (hW : DataW.Whole enc Tryd.prog Tryd.f6.params.toList Rows.utfShownSpec.vars false W args.toList ds gs before)
    (hsz0 : (DataW.weightsEach Tryd.prog (Tryd.f6.params.toList ++ (OpenSpec.ofChange Rows.utfShownSpec).bare.plain.varTypes Tryd.prog) (ds ++ gs)).all (· ≤ reachBytes) = true)
    (hL : laidMetH Tryd.prog Rows.utfShownRow.laid W) :
    Calls Tryd.prog 6 args W fun e W' => ∃ v, e = .returned v ∧ Rows.utfShownSpec.post enc Tryd.prog Tryd.f6 false true false false W args v W' := by
  have hval : ∀ (j : Nat) t v, Tryd.f6.params[j]? = some t → args[j]? = some v → Value.okWide Tryd.prog W .any base t v := hval0
  have hW' := hW
  obtain ⟨p, q, hA0, hV, rfl, hfz, hnd⟩ := hW
  have hA : DataW.TrodAll enc Tryd.prog W 0 (fun _ => true) true Tryd.f6.params.toList args.toList ds p := hA0
  have hsz : (DataW.weightsEach Tryd.prog (Tryd.f6.params.toList ++ (OpenSpec.ofChange Rows.utfShownSpec).bare.plain.varTypes Tryd.prog) (ds ++ gs)).all (· ≤ reachBytes) = true := hsz0
  rw [Tryd.params6] at hA hval hsz
  obtain ⟨v0, vs0, d0, ds0, p0, q0, hargs, rfl, rfl, h0, r0⟩ := trodAll_cons hA
  obtain ⟨v1, vs1, d1, ds1, p1, q1, rfl, rfl, rfl, h1, r1⟩ := trodAll_cons r0
  obtain ⟨rfl, rfl, rfl⟩ := trodAll_nil r1
  obtain rfl : args = #[v0, v1] := by cases args; simp_all
  obtain ⟨rfl, rfl⟩ := trodVars_none hV
  have k0 := h0
  obtain ⟨a0, rfl, rfl, rfl, w0⟩ := open_string Tryd.underlying9 (hval 0 9 v0 rfl rfl) h0
  obtain ⟨l0, e0, b0⟩ := (Rdg.of k0 hsz (j := 0) rfl rfl).string Tryd.underlying9
  obtain rfl : a0 = bs l0 := by simpa [Value.cells] using e0
  have k1 := h1
  obtain ⟨a1, rfl, rfl, rfl, w1⟩ := open_string Tryd.underlying9 (hval 1 9 v1 rfl rfl) h1
  obtain ⟨l1, e1, b1⟩ := (Rdg.of k1 hsz (j := 1) rfl rfl).string Tryd.underlying9
  obtain rfl : a1 = bs l1 := by simpa [Value.cells] using e1
  clear hA0 hval0 hsz0
  refine (walk l0 b0 l1 b1 W (tabs hL)).mono fun e W' ⟨he, bel⟩ => ?_
  subst he
  simp only [List.append_nil] at hW'
  exact ⟨_, rfl, _, _, _, [], [], [], hW', trodAll_mk1 (shut_bool Tryd.underlying4 _), (trodAll_cons_mk (shut_string Tryd.underlying9 w0) (trodAll_cons_mk (shut_string Tryd.underlying9 w1) trodAll_mk0)), rfl, bel.frame _, fun h => by cases h⟩

set_option maxRecDepth 1000000 in
theorem laid_met (os : Os) : laidMet Tryd.prog Rows.utfShownRow.laid ((World.laidAll Tryd.prog os Rows.utfShownRow.laid).forCall (fun _ _ => 0) ⟨#[], #[.string ByteArray.empty, .string ByteArray.empty], []⟩).memory :=
  laidMet_laidAll _ (by kernel_rfl) (by kernel_rfl)
set_option maxRecDepth 1000000 in
theorem reads (os : Os) {H : Type} (enc : TypeId × Value → H) : ∃ places, DataW.whole enc Tryd.prog ((World.laidAll Tryd.prog os Rows.utfShownRow.laid).forCall (fun _ _ => 0) ⟨#[], #[.string ByteArray.empty, .string ByteArray.empty], []⟩).memory Tryd.f6.params.toList Rows.utfShownSpec.vars false (#[.string ByteArray.empty, .string ByteArray.empty] : Array Value).toList 8 = some ([.lit (.string []), .lit (.string [])], [], places) :=
  ⟨[], by kernel_rfl⟩
set_option maxRecDepth 1000000 in
theorem lifted (os : Os) (started : os.Started) (H : Type) (enc : TypeId × Value → H) (F : Stop.Interp) :
    ReturnsInHanded {} Tryd.checked os 6 .any ((OpenSpec.ofChange Rows.utfShownSpec).preRow enc Tryd.prog Tryd.f6 Rows.utfShownRow.domain false Rows.utfShownRow.laid) (((OpenSpec.ofChange Rows.utfShownSpec).at F).post enc Tryd.prog Tryd.f6 false true false false) := by
  obtain ⟨places, hx⟩ := reads os enc
  refine returnsInHanded_of_row (C := Tryd.checked) (s := OpenSpec.ofChange Rows.utfShownSpec) own started (by kernel_rfl) Tryd.func6
    (witness_row_at (enc := enc) (C := Tryd.checked) false (World.laidAll Tryd.prog os Rows.utfShownRow.laid) #[.string ByteArray.empty, .string ByteArray.empty] (World.laidAll_os _ _ _) (by kernel_rfl) (by kernel_rfl) (by kernel_rfl)
      (OpenSpec.preRow_of_cond 8 hx (by kernel_rfl) (fun k hk => by cases hk) (by kernel_rfl) (laid_met os))) ?_
  intro W base args ds gs before hval hW _ _ hsz hL _ _
  exact contract H enc W base args ds gs before hval hW hsz hL

theorem over : Rows.utfShownRow.holds Tryd.pinned (OpenSpec.ofChange Rows.utfShownSpec) :=
  OpenClaim.holds_of_cond 6 Tryd.f6 rfl rfl rfl rfl rfl rfl rfl ⟨rfl, rfl, rfl, rfl, rfl⟩ rfl rfl rfl rfl rfl (by kernel_rfl) Tryd.func6 (by kernel_rfl)
    (of_decide_eq_true (by kernel_rfl)) (by unfold Func.isWrapper; first | (rw [if_pos (by decide +kernel)]; kernel_rfl) | (rw [if_neg (by decide +kernel)]; exact ⟨rfl, rfl⟩))
    (fun os started H enc _ F => by rw [OpenClaim.pre_eq_preRow]; exact lifted os started H enc F)

theorem plain (f : FuncId) (fn : Func) (hf : Tryd.pinned.checked.prog.funcNamed "gong/gonglaw04.UtfShown" = some f) (hfn : Tryd.pinned.checked.prog.funcs[f]? = some fn) :
    false = Tryd.pinned.checked.prog.looks [] ∧ ∀ (j : Nat) t, fn.params[j]? = some t → Tryd.pinned.checked.prog.wantsStandIn t = false := by
  obtain rfl : f = 6 := Option.some.inj ((show Tryd.prog.funcNamed "gong/gonglaw04.UtfShown" = some 6 by kernel_rfl).symm.trans hf) |>.symm
  obtain rfl : fn = Tryd.f6 := (Option.some.inj (Tryd.func6.symm.trans hfn)).symm
  refine ⟨by kernel_rfl, fun j t ht => ?_⟩
  have hall : (Tryd.f6.params.toList.all fun u => !Tryd.prog.wantsStandIn u) = true := by kernel_rfl
  have hm : t ∈ Tryd.f6.params.toList := by simpa using Array.mem_of_getElem? ht
  exact (show Tryd.prog.wantsStandIn t = false by simpa using List.all_eq_true.1 hall t hm)

/-- The card. -/
theorem proved : Rows.UtfShownCardSaid :=
  Claim7.holds_tied_plain_at .later [] _ _ _ _ over (fun _ h => by cases h) (by kernel_rfl) (fun _ h => by cases h) utfShown_row_tie rfl ⟨rfl, rfl⟩ (by kernel_rfl) rfl plain (by kernel_rfl)
#print axioms proved
end utfShown
end Go.Proofs.YthmnfffloioagaaDoor
