/- OidOrder, walked on calls that keep their word. -/
import Derived.Test.YtanainpapcblfaaDoorOidK
namespace Go.Proofs.YtanainpapcblfaaDoor
open Go.ChangeShapes Go.WideShapes Go.ChangeAt Go.RowKit K O6
set_option linter.unusedVariables false

theorem ls_put {a b : List Nat} (ha : isArcs a = true) (hb : isArcs b = true) : lsZ (put a) (put b) = O6.lt a b := by
  unfold lsZ; rw [arcs_put ha, arcs_put hb, (arL_put ha).1, (arL_put hb).1]; rfl
theorem wi_put {a b : List Nat} (ha : isArcs a = true) (hb : isArcs b = true) : wi (put a) (put b) = O6.within a b := by
  unfold wi; rw [arcs_put ha, arcs_put hb, (arL_put ha).1, (arL_put hb).1]; rfl
theorem OidOk.lessOf {I : World → Prop} (K : OidOk I) {a b : List Nat} (ha : isArcs a = true) (hb : isArcs b = true) (w : World) (hw : I w) :
    Calls Tryd.prog 25 #[.string (bs (put a)), .string (bs (put b))] w fun e w' => e = .returned (.bool (O6.lt a b)) ∧ Below w.heap.size w w' := by
  have h := K.less (put a) (put b) w (by have := putL_len ha; omega) (by have := putL_len hb; omega) hw
  rw [ls_put ha hb] at h
  exact h
theorem OidOk.withinOf {I : World → Prop} (K : OidOk I) {a b : List Nat} (ha : isArcs a = true) (hb : isArcs b = true) (w : World) (hw : I w) :
    Calls Tryd.prog 23 #[.string (bs (put a)), .string (bs (put b))] w fun e w' => e = .returned (.bool (O6.within a b)) ∧ Below w.heap.size w w' := by
  have h := K.within (put a) (put b) w (by have := putL_len ha; omega) (by have := putL_len hb; omega) hw
  rw [wi_put ha hb] at h
  exact h
/-- What holds of three in order, as the law asks it one after the other. -/
theorem order_ways (A B C : List Nat) (ha : isArcs A = true) (hb : isArcs B = true) :
    (O6.lt A B = false ∧ O6.lt B A = false ∧ (put A == put B) = true ∧ (O6.within A B = false ∨ O6.within A C = true ∨ O6.lt A C = false ∨ O6.lt B C = true)) ∨
    (O6.lt A B = true ∧ O6.lt B A = false ∧ (put A == put B) = false ∧ (O6.lt B C = false ∨ O6.lt A C = true) ∧ (O6.within A B = false ∨ O6.within A C = true ∨ O6.lt A C = false ∨ O6.lt B C = true)) ∨
    (O6.lt A B = false ∧ O6.lt B A = true ∧ (put A == put B) = false ∧ O6.within A B = false) := by
  by_cases he : A = B
  · subst he
    left
    refine ⟨lt_self A, lt_self A, by simp, ?_⟩
    cases h1 : O6.lt A C
    · exact .inr (.inr (.inl rfl))
    · exact .inr (.inr (.inr rfl))
  · have hne : (put A == put B) = false := by
      rw [beq_eq_false_iff_ne]; exact fun h => he (put_inj ha hb h)
    rcases lt_total A B he with h | h
    · right; left
      refine ⟨h, lt_not A B h, hne, ?_, ?_⟩
      · cases h1 : O6.lt B C
        · exact .inl rfl
        · exact .inr (lt_trans A B C h h1)
      · cases h1 : O6.within A B
        · exact .inl rfl
        · right
          cases h2 : O6.within A C
          · right
            cases h3 : O6.lt A C
            · exact .inl rfl
            · right
              obtain ⟨t, rfl⟩ := (O6.within_iff A B).1 h1
              exact O6.within_ahead A t C h2 h3
          · exact .inl rfl
    · right; right
      have hn := lt_not B A h
      refine ⟨hn, h, hne, ?_⟩
      cases h1 : O6.within A B
      · rfl
      · rw [O6.within_lt h1 he] at hn; cases hn
theorem excl : ∀ (x y z t : Bool), (x = false ∨ y = true ∨ z = false ∨ t = true) → x = false ∨ (x = true ∧ y = true) ∨ (x = true ∧ y = false ∧ z = false) ∨ (x = true ∧ y = false ∧ z = true ∧ t = true) := by decide
theorem excl2 : ∀ (x y : Bool), (x = false ∨ y = true) → x = false ∨ (x = true ∧ y = true) := by decide
theorem excl3 : ∀ (x y z : Bool), (x = false ∨ y = true ∨ z = false ∨ false = true) → x = false ∨ (x = true ∧ y = true) ∨ (x = true ∧ y = false ∧ z = false) := by decide
theorem excl4 : ∀ (x y : Bool), x = false ∨ (x = true ∧ y = true) ∨ (x = true ∧ y = false) := by decide
/-- A contract that carries on what is known of the world. -/
theorem carry {P : Program} {f : FuncId} {args : Array Value} {v : Value} {I : World → Prop} (keep : ∀ a b, I a → Below a.heap.size a b → I b) {w : World}
    (h : ∀ w1, I w1 → Calls P f args w1 fun e w' => e = .returned v ∧ Below w1.heap.size w1 w') :
    ∀ w1, (I w1 ∧ Below w.heap.size w w1) → Calls P f args w1 fun e w' => e = .returned v ∧ (I w' ∧ Below w.heap.size w w') :=
  fun w1 hj => (h w1 hj.1).mono fun _ _ ⟨he, d⟩ => ⟨he, keep _ _ hj.1 d, hj.2.trans (d.mono hj.2.size)⟩
set_option maxRecDepth 100000 in
set_option maxHeartbeats 16000000 in
theorem oidOrder_walk (I : World → Prop) (K : OidOk I) (ao bo co : Option Addr) (la lb lc ca cb cc : Nat) (na nb nc : Nat → Int) (ha : ∀ i, (Lit.int .i64 (na i)).wf = true) (hb : ∀ i, (Lit.int .i64 (nb i)).wf = true) (hc : ∀ i, (Lit.int .i64 (nc i)).wf = true)
    (hla : la ≤ 140737488351232) (hlb : lb ≤ 140737488351232) (hlc : lc ≤ 140737488351232) (w : World) (za : RdZ w ao la na) (zb : RdZ w bo lb nb) (zc : RdZ w co lc nc) (hw : I w) :
    Calls Tryd.prog 6 #[.slice ao la ca, .slice bo lb cb, .slice co lc cc] w fun e w' => e = .returned (.bool true) ∧ Below w.heap.size w w' := by
  have HW := Lib.hid (K.works w hw)
  have HK := Lib.hid K.keep
  have ia := nmd_arcs na (min la 60) (by omega)
  have ib := nmd_arcs nb (min lb 60) (by omega)
  have ic := nmd_arcs nc (min lc 60) (by omega)
  have HNa := Lib.hid (fun w1 (h : RdZ w1 ao la na) => named_walk ao la ca na ha hla w1 h)
  have HNb := Lib.hid (fun w1 (h : RdZ w1 bo lb nb) => named_walk bo lb cb nb hb hlb w1 h)
  have HNc := Lib.hid (fun w1 (h : RdZ w1 co lc nc) => named_walk co lc cc nc hc hlc w1 h)
  unfold NdPost at HNa HNb HNc
  generalize nmd na (min la 60) = A at *
  generalize nmd nb (min lb 60) = B at *
  generalize nmd nc (min lc 60) = C at *
  have HTa := Lib.hid (fun a c w1 BB (ho : OwnI w1 BB 3 (.slice a A.length c) A) (h : I w1) => K.textOf ia w1 ho h)
  have HTb := Lib.hid (fun a c w1 BB (ho : OwnI w1 BB 3 (.slice a B.length c) B) (h : I w1) => K.textOf ib w1 ho h)
  have HTc := Lib.hid (fun a c w1 BB (ho : OwnI w1 BB 3 (.slice a C.length c) C) (h : I w1) => K.textOf ic w1 ho h)
  have hAB := fun w1 (h : I w1) => K.lessOf ia ib w1 h
  have hBA := fun w1 (h : I w1) => K.lessOf ib ia w1 h
  have hAA := fun w1 (h : I w1) => K.lessOf ia ia w1 h
  have hBC := fun w1 (h : I w1) => K.lessOf ib ic w1 h
  have hAC := fun w1 (h : I w1) => K.lessOf ia ic w1 h
  have wAA := fun w1 (h : I w1) => K.withinOf ia ia w1 h
  have wAB := fun w1 (h : I w1) => K.withinOf ia ib w1 h
  have wAC := fun w1 (h : I w1) => K.withinOf ia ic w1 h
  rw [lt_self] at hAA
  rw [O6.within_self] at wAA
  have hwy := order_ways A B C ia ib
  have HZB := Lib.hid zb
  have HZC := Lib.hid zc
  have HZA := Lib.hid za
  generalize put A = PA at *
  generalize put B = PB at *
  generalize put C = PC at *
  have HAA := Lib.hid hAA; have HwAA := Lib.hid wAA
  clear K ia ib ic ha hb hc zb zc za hAA wAA
  generalize hlab : O6.lt A B = lAB at *
  generalize hlba : O6.lt B A = lBA at *
  generalize hlbc : O6.lt B C = lBC at *
  generalize hlac : O6.lt A C = lAC at *
  generalize hwab : O6.within A B = vAB at *
  generalize hwac : O6.within A C = vAC at *
  have HAB := Lib.hid hAB; have HBA := Lib.hid hBA; have HBC := Lib.hid hBC; have HAC := Lib.hid hAC; have HwAB := Lib.hid wAB; have HwAC := Lib.hid wAC
  clear hAB hBA hBC hAC wAB wAC hlab hlba hlbc hlac hwab hwac
  go_enter Tryd.func6, Tryd.ntmps6
  go_wp2_with fail
  refine HW.out.mono ?_
  rintro e w1 ⟨rfl, b1⟩
  go_wp2_with fail
  refine (HNa.out w1 (HZA.out.below b1)).mono ?_
  rintro e w2 ⟨va, rfl, oa, d⟩
  have b2 := b1.trans (d.mono b1.size)
  obtain ⟨aq, cq, rfl, _⟩ := oa.form
  clear d b1
  go_wp2_with fail
  refine (HTa.out _ _ w2 _ oa (HK.out _ _ hw b2)).mono ?_
  rintro e w3 ⟨rfl, d⟩
  have b3 := b2.trans (d.mono b2.size)
  clear d b2 oa
  go_wp2_with fail
  refine (HNb.out w3 (HZB.out.below b3)).mono ?_
  rintro e w4 ⟨vb, rfl, ob, d⟩
  have b4 := b3.trans (d.mono b3.size)
  obtain ⟨bq, dq, rfl, _⟩ := ob.form
  clear d b3
  go_wp2_with fail
  refine (HTb.out _ _ w4 _ ob (HK.out _ _ hw b4)).mono ?_
  rintro e w5 ⟨rfl, d⟩
  have b5 := b4.trans (d.mono b4.size)
  clear d b4 ob
  go_wp2_with fail
  refine (HNc.out w5 (HZC.out.below b5)).mono ?_
  rintro e w6 ⟨vc, rfl, oc, d⟩
  have b6 := b5.trans (d.mono b5.size)
  obtain ⟨eq, fq, rfl, _⟩ := oc.form
  clear d b5
  go_wp2_with fail
  refine (HTc.out _ _ w6 _ oc (HK.out _ _ hw b6)).mono ?_
  rintro e w7 ⟨rfl, d⟩
  have b7 := b6.trans (d.mono b6.size)
  clear d b6 oc
  go_wp2_with fail
  refine (HAB.out w7 (HK.out _ _ hw b7)).mono ?_
  rintro e w8 ⟨rfl, d⟩
  have b8 := b7.trans (d.mono b7.size)
  clear d b7
  go_wp2_with fail
  refine (HBA.out w8 (HK.out _ _ hw b8)).mono ?_
  rintro e w9 ⟨rfl, d⟩
  have hj : I w9 ∧ Below w.heap.size w w9 := ⟨HK.out _ _ hw (b8.trans (d.mono b8.size)), b8.trans (d.mono b8.size)⟩
  have JAA := Lib.hid (carry (w := w) HK.out HAA.out); have JBC := Lib.hid (carry (w := w) HK.out HBC.out); have JAC := Lib.hid (carry (w := w) HK.out HAC.out)
  have JwAA := Lib.hid (carry (w := w) HK.out HwAA.out); have JwAB := Lib.hid (carry (w := w) HK.out HwAB.out); have JwAC := Lib.hid (carry (w := w) HK.out HwAC.out)
  clear d b8 HAA HBC HAC HwAA HwAB HwAC HAB HBA HTa HTb HTc HNa HNb HNc HW HZA HZB HZC HK
  rcases hwy with ⟨rfl, rfl, hpe, hq⟩ | ⟨rfl, rfl, hpe, hq1, hq⟩ | ⟨rfl, rfl, hpe, rfl⟩
  · have hpn : (PA != PB) = false := by rw [bne, hpe]; rfl
    go_wp2_with fail
    refine (JAA.out _ hj).mono ?_
    rintro e wn ⟨rfl, hj⟩
    go_wp2_with fail
    refine (JwAA.out _ hj).mono ?_
    rintro e wn ⟨rfl, hj⟩
    rcases excl _ _ _ _ hq with rfl | ⟨rfl, rfl⟩ | ⟨rfl, rfl, rfl⟩ | ⟨rfl, rfl, rfl, rfl⟩
    · go_wp2_with fail
      refine (JwAB.out _ hj).mono ?_
      rintro e wn ⟨rfl, hj⟩
      go_wp2_with fail
      refine (JwAB.out _ hj).mono ?_
      rintro e wn ⟨rfl, hj⟩
      go_wp2
      go_ret
      exact ⟨rfl, hj.2⟩
    · go_wp2_with fail
      refine (JwAB.out _ hj).mono ?_
      rintro e wn ⟨rfl, hj⟩
      go_wp2_with fail
      refine (JwAB.out _ hj).mono ?_
      rintro e wn ⟨rfl, hj⟩
      go_wp2_with fail
      refine (JwAC.out _ hj).mono ?_
      rintro e wn ⟨rfl, hj⟩
      go_wp2
      go_ret
      exact ⟨rfl, hj.2⟩
    · go_wp2_with fail
      refine (JwAB.out _ hj).mono ?_
      rintro e wn ⟨rfl, hj⟩
      go_wp2_with fail
      refine (JwAB.out _ hj).mono ?_
      rintro e wn ⟨rfl, hj⟩
      go_wp2_with fail
      refine (JwAC.out _ hj).mono ?_
      rintro e wn ⟨rfl, hj⟩
      go_wp2_with fail
      refine (JAC.out _ hj).mono ?_
      rintro e wn ⟨rfl, hj⟩
      go_wp2
      go_ret
      exact ⟨rfl, hj.2⟩
    · go_wp2_with fail
      refine (JwAB.out _ hj).mono ?_
      rintro e wn ⟨rfl, hj⟩
      go_wp2_with fail
      refine (JwAB.out _ hj).mono ?_
      rintro e wn ⟨rfl, hj⟩
      go_wp2_with fail
      refine (JwAC.out _ hj).mono ?_
      rintro e wn ⟨rfl, hj⟩
      go_wp2_with fail
      refine (JAC.out _ hj).mono ?_
      rintro e wn ⟨rfl, hj⟩
      go_wp2_with fail
      refine (JBC.out _ hj).mono ?_
      rintro e wn ⟨rfl, hj⟩
      go_wp2
      go_ret
      exact ⟨rfl, hj.2⟩
  · have hpn : (PA != PB) = true := by rw [bne, hpe]; rfl
    go_wp2_with fail
    refine (JAA.out _ hj).mono ?_
    rintro e wn ⟨rfl, hj⟩
    go_wp2_with fail
    refine (JwAA.out _ hj).mono ?_
    rintro e wn ⟨rfl, hj⟩
    rcases excl2 _ _ hq1 with rfl | ⟨rfl, rfl⟩
    · go_wp2_with fail
      refine (JBC.out _ hj).mono ?_
      rintro e wn ⟨rfl, hj⟩
      rcases excl3 _ _ _ hq with rfl | ⟨rfl, rfl⟩ | ⟨rfl, rfl, rfl⟩
      · go_wp2_with fail
        refine (JwAB.out _ hj).mono ?_
        rintro e wn ⟨rfl, hj⟩
        go_wp2_with fail
        refine (JwAB.out _ hj).mono ?_
        rintro e wn ⟨rfl, hj⟩
        go_wp2
        go_ret
        exact ⟨rfl, hj.2⟩
      · go_wp2_with fail
        refine (JwAB.out _ hj).mono ?_
        rintro e wn ⟨rfl, hj⟩
        go_wp2_with fail
        refine (JwAB.out _ hj).mono ?_
        rintro e wn ⟨rfl, hj⟩
        go_wp2_with fail
        refine (JwAC.out _ hj).mono ?_
        rintro e wn ⟨rfl, hj⟩
        go_wp2
        go_ret
        exact ⟨rfl, hj.2⟩
      · go_wp2_with fail
        refine (JwAB.out _ hj).mono ?_
        rintro e wn ⟨rfl, hj⟩
        go_wp2_with fail
        refine (JwAB.out _ hj).mono ?_
        rintro e wn ⟨rfl, hj⟩
        go_wp2_with fail
        refine (JwAC.out _ hj).mono ?_
        rintro e wn ⟨rfl, hj⟩
        go_wp2_with fail
        refine (JAC.out _ hj).mono ?_
        rintro e wn ⟨rfl, hj⟩
        go_wp2
        go_ret
        exact ⟨rfl, hj.2⟩
    · go_wp2_with fail
      refine (JBC.out _ hj).mono ?_
      rintro e wn ⟨rfl, hj⟩
      go_wp2_with fail
      refine (JAC.out _ hj).mono ?_
      rintro e wn ⟨rfl, hj⟩
      rcases excl4 vAB vAC with rfl | ⟨rfl, rfl⟩ | ⟨rfl, rfl⟩
      · go_wp2_with fail
        refine (JwAB.out _ hj).mono ?_
        rintro e wn ⟨rfl, hj⟩
        go_wp2_with fail
        refine (JwAB.out _ hj).mono ?_
        rintro e wn ⟨rfl, hj⟩
        go_wp2
        go_ret
        exact ⟨rfl, hj.2⟩
      · go_wp2_with fail
        refine (JwAB.out _ hj).mono ?_
        rintro e wn ⟨rfl, hj⟩
        go_wp2_with fail
        refine (JwAB.out _ hj).mono ?_
        rintro e wn ⟨rfl, hj⟩
        go_wp2_with fail
        refine (JwAC.out _ hj).mono ?_
        rintro e wn ⟨rfl, hj⟩
        go_wp2
        go_ret
        exact ⟨rfl, hj.2⟩
      · go_wp2_with fail
        refine (JwAB.out _ hj).mono ?_
        rintro e wn ⟨rfl, hj⟩
        go_wp2_with fail
        refine (JwAB.out _ hj).mono ?_
        rintro e wn ⟨rfl, hj⟩
        go_wp2_with fail
        refine (JwAC.out _ hj).mono ?_
        rintro e wn ⟨rfl, hj⟩
        go_wp2_with fail
        refine (JAC.out _ hj).mono ?_
        rintro e wn ⟨rfl, hj⟩
        go_wp2_with fail
        refine (JBC.out _ hj).mono ?_
        rintro e wn ⟨rfl, hj⟩
        go_wp2
        go_ret
        exact ⟨rfl, hj.2⟩
  · have hpn : (PA != PB) = true := by rw [bne, hpe]; rfl
    go_wp2_with fail
    refine (JAA.out _ hj).mono ?_
    rintro e wn ⟨rfl, hj⟩
    go_wp2_with fail
    refine (JwAA.out _ hj).mono ?_
    rintro e wn ⟨rfl, hj⟩
    go_wp2_with fail
    refine (JwAB.out _ hj).mono ?_
    rintro e wn ⟨rfl, hj⟩
    go_wp2_with fail
    refine (JwAB.out _ hj).mono ?_
    rintro e wn ⟨rfl, hj⟩
    go_wp2
    go_ret
    exact ⟨rfl, hj.2⟩
end Go.Proofs.YtanainpapcblfaaDoor
