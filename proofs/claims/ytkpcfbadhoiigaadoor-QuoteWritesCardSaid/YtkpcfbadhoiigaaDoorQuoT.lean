/- QuoteWrites, on calls that keep their word. -/
import Derived.Test.YtkpcfbadhoiigaaDoorQuoZ
import Derived.Test.YtkpcfbadhoiigaaDoorQuoY
namespace Go.Proofs.YtkpcfbadhoiigaaDoor
open Go.ChangeShapes Go.WideShapes Go.ChangeAt Go.RowKit K Q10 U4
set_option linter.unusedVariables false

theorem bnds_len {l : List El} (h : Bnds l) : l.length ≤ 140737488351232 ∧ ∀ x ∈ l, x.ps.length ≤ 140737488351232 := ⟨by have := h.1; omega, fun x hx => by have := (h.2 x hx).2.1; omega⟩
set_option maxRecDepth 100000 in
set_option maxHeartbeats 8000000 in
theorem quoteWrites_walk (I : World → Prop) (KK : Keeps I) (KP : HParse I) (KS : HSame I) (KPr : HPrint I) (KC : HCheck I) (KG : HGet I) (l k : List El) (ao bo : Option Addr) (ca cb : Nat) (hB : Bnds l) (hB2 : Bnds k) (n0 n1 : List UInt8) (hn0 : n0.length ≤ 140737488351232) (hn1 : n1.length ≤ 140737488351232) (w : World) (hw : I w) (hr : RdE w ao l) (hr2 : RdE w bo k) :
    Calls Tryd.prog 4 #[.slice ao l.length ca, .slice bo k.length cb, .agg #[.string (bs n0), .string (bs n1)]] w fun e w' => e = .returned (.bool true) ∧ Below w.heap.size w w' := by
  have HW := Lib.hid (fun w1 (h : I w1) => works10_walk I KK KP KS w1 h)
  have HSM := Lib.hid (fun w1 h => small10_walk l ao ca hB w1 h)
  have HSM2 := Lib.hid (fun w1 h => small10_walk k bo cb hB2 w1 h)
  have HR := Lib.hid (fun w1 (b : Below w.heap.size w w1) => hr.below b)
  have HR2 := Lib.hid (fun w1 (b : Below w.heap.size w w1) => hr2.below b)
  have HK := Lib.hid (fun w1 (b : Below w.heap.size w w1) => KK w w1 hw b)
  obtain ⟨w0, hw0⟩ : ∃ w0, w.alloc (.cells #[.string (bs n0), .string (bs n1)] 30) = w0 := ⟨_, rfl⟩
  have HN0 := Lib.hid (show w0.heap[w.heap.size]? = some (.cells #[.string (bs n0), .string (bs n1)] 30 (0, 0)) by rw [← hw0]; exact rowNew w _)
  have b0 : Below w.heap.size w w0 := by rw [← hw0]; exact alloc_in' w _
  have HW0 := Lib.hid hw0
  clear hw0
  cases hs : smQ l
  · rw [hs] at HSM
    clear hs hr hr2
    go_enter Tryd.func4, Tryd.ntmps4
    go_wp2_with fail
    rw [HW0.out]
    refine (HSM.out _ (HR.out _ b0)).mono ?_
    rintro e w2 ⟨rfl, m2, rfl⟩
    have b2 := bdr b0 m2
    generalize w0.drewN m2 = w2 at *
    go_wp2_with fail
    refine (HW.out _ (HK.out _ b2)).mono ?_
    rintro e w3 ⟨rfl, d3⟩
    have b3 := b2.trans (d3.mono b2.size)
    go_wp2
    go_ret
    exact ⟨rfl, b3⟩
  rw [hs] at HSM
  cases hs2 : smQ k
  · rw [hs2] at HSM2
    clear hs hs2 hr hr2
    go_enter Tryd.func4, Tryd.ntmps4
    go_wp2_with fail
    rw [HW0.out]
    refine (HSM.out _ (HR.out _ b0)).mono ?_
    rintro e w2 ⟨rfl, m2, rfl⟩
    have b2 := bdr b0 m2
    generalize w0.drewN m2 = w2 at *
    go_wp2_with fail
    refine (HSM2.out _ (HR2.out _ b2)).mono ?_
    rintro e w3 ⟨rfl, m3, rfl⟩
    have b3 := bdr b2 m3
    clear b2
    generalize w2.drewN m3 = w3 at *
    go_wp2_with fail
    refine (HW.out _ (HK.out _ b3)).mono ?_
    rintro e w4 ⟨rfl, d4⟩
    have b4 := b3.trans (d4.mono b3.size)
    go_wp2
    go_ret
    exact ⟨rfl, b4⟩
  rw [hs2] at HSM2
  obtain ⟨hlim, hput⟩ := sm_what hs
  obtain ⟨hn, hps⟩ := bnds_len hB
  obtain ⟨hn2, hps2⟩ := bnds_len hB2
  have HCO := Lib.hid (fun w1 (h : RdE w1 ao l) => copied10_walk l ao ca hB w1 h)
  have HPR := Lib.hid (fun oo oc w1 (h : I w1) (h2 : RdE w1 oo l) => KPr l oo oc w1 hB hlim hput h h2)
  have HQP := Lib.hid (fun w1 (h2 : RdE w1 ao l) => qprint10_walk l ao ca hn hlim (fun h => by have := hput h; omega) w1 h2)
  have HG := Lib.hid (fun oo oc w1 (h : I w1) (h2 : RdE w1 oo l) => KG l oo oc n0 n1 w1 hB h h2)
  have HQG := Lib.hid (fun w1 (h2 : RdE w1 ao l) => qget10_walk l ao ca n0 n1 hn hps w1 h2)
  have HC := Lib.hid (fun oo oc w1 (h : I w1) (h2 : RdE w1 oo l) => KC l oo oc w1 hB hlim h h2)
  have HQC := Lib.hid (fun w1 (h2 : RdE w1 ao l) => qcheck10_walk l ao ca hn hlim w1 h2)
  have HS := Lib.hid (fun oo oc w1 (h : I w1) (h2 : RdE w1 oo l) (h3 : RdE w1 bo k) => KS l k oo bo oc cb w1 hB hB2 h h2 h3)
  have HQS := Lib.hid (fun w1 (h2 : RdE w1 ao l) (h3 : RdE w1 bo k) => qsame10_walk l k ao bo ca cb hn hn2 hps hps2 w1 h2 h3)
  have HQS2 := Lib.hid (fun oo oc w1 (h2 : RdE w1 oo l) (h3 : RdE w1 ao l) => qsame10_walk l l oo ao oc ca hn hn hps hps w1 h2 h3)
  have hll : saE l l = true := saE_yes rfl
  rw [hll] at HQS2
  clear hs hs2 hr hr2 hll hlim hput hps hps2 KK KP KS KPr KC KG
  generalize prS l = PS at *
  generalize prE l = PE at *
  generalize ckE l = CE at *
  generalize gtS l n0 n1 = GS at *
  generalize gtB l n0 n1 = GB at *
  generalize saE l k = SB at *
  go_enter Tryd.func4, Tryd.ntmps4
  go_wp2_with fail
  rw [HW0.out]
  refine (HSM.out _ (HR.out _ b0)).mono ?_
  rintro e w2 ⟨rfl, m2, rfl⟩
  have b2 := bdr b0 m2
  have N2 : (w0.drewN m2).heap[w.heap.size]? = _ := HN0.out
  generalize w0.drewN m2 = w2 at *
  go_wp2_with fail
  refine (HSM2.out _ (HR2.out _ b2)).mono ?_
  rintro e w3 ⟨rfl, m3, rfl⟩
  have b3 := bdr b2 m3
  have N3 : (w2.drewN m3).heap[w.heap.size]? = _ := N2
  clear b2 N2
  generalize w2.drewN m3 = w3 at *
  go_wp2_with fail
  refine (HCO.out _ (HR.out _ b3)).mono ?_
  rintro e w4 ⟨v, rfl, o4, d4⟩
  have b4 := b3.trans (d4.mono b3.size)
  have N4 := (d4.block _ (lt_of_block N3)).trans N3
  obtain ⟨oo, oc, rfl, ro4, -, -, -⟩ := o4.form
  clear d4 b3 o4 N3
  go_wp2_with fail
  refine (HPR.out oo oc _ (HK.out _ b4) ro4).mono ?_
  rintro e w5 ⟨rfl, d5⟩
  have b5 := b4.trans (d5.mono b4.size)
  have ro5 := ro4.below d5
  have N5 := (d5.block _ (lt_of_block N4)).trans N4
  clear d5 b4 ro4 N4
  go_wp2_with fail
  refine (HQP.out _ (HR.out _ b5)).mono ?_
  rintro e w6 ⟨rfl, d6⟩
  have b6 := b5.trans (d6.mono b5.size)
  have ro6 := ro5.below d6
  have N6 := (d6.block _ (lt_of_block N5)).trans N5
  clear d6 b5 ro5 N5
  have y0 := cellRow N6 0
  have y1 := cellRow N6 1
  simp only [List.getElem?_toArray, List.getElem?_cons_zero, List.getElem?_cons_succ] at y0 y1
  go_wp2_with fail
  refine (HG.out oo oc _ (HK.out _ b6) ro6).mono ?_
  rintro e w7 ⟨rfl, d7⟩
  have b7 := b6.trans (d7.mono b6.size)
  have ro7 := ro6.below d7
  have N7 := (d7.block _ (lt_of_block N6)).trans N6
  clear d7 b6 ro6 N6 y0 y1
  have y0 := cellRow N7 0
  have y1 := cellRow N7 1
  simp only [List.getElem?_toArray, List.getElem?_cons_zero, List.getElem?_cons_succ] at y0 y1
  go_wp2_with fail
  refine (HQG.out _ (HR.out _ b7)).mono ?_
  rintro e w8 ⟨rfl, m8, rfl⟩
  have b8 := bdr b7 m8
  have ro8 : RdE (w7.drewN m8) oo l := ro7
  clear b7 ro7 N7 y0 y1
  generalize w7.drewN m8 = w8 at *
  have hpe : (((PE : Nat) : Int) == ((PE : Nat) : Int)) = true := beq_self_eq_true _
  have hgb : (GB == GB) = true := beq_self_eq_true _
  go_wp2_with fail
  refine (HC.out oo oc _ (HK.out _ b8) ro8).mono ?_
  rintro e w9 ⟨rfl, d9⟩
  have b9 := b8.trans (d9.mono b8.size)
  have ro9 := ro8.below d9
  clear d9 b8 ro8
  go_wp2_with fail
  refine (HQC.out _ (HR.out _ b9)).mono ?_
  rintro e w10 ⟨rfl, d10⟩
  have b10 := b9.trans (d10.mono b9.size)
  have ro10 := ro9.below d10
  clear d10 b9 ro9
  have hce : (((CE : Nat) : Int) == ((CE : Nat) : Int)) = true := beq_self_eq_true _
  go_wp2_with fail
  refine (HS.out oo oc _ (HK.out _ b10) ro10 (HR2.out _ b10)).mono ?_
  rintro e w11 ⟨rfl, d11⟩
  have b11 := b10.trans (d11.mono b10.size)
  have ro11 := ro10.below d11
  clear d11 b10 ro10
  go_wp2_with fail
  refine (HQS.out _ (HR.out _ b11) (HR2.out _ b11)).mono ?_
  rintro e w12 ⟨rfl, m12, rfl⟩
  have b12 := bdr b11 m12
  have ro12 : RdE (w11.drewN m12) oo l := ro11
  clear b11 ro11
  generalize w11.drewN m12 = w12 at *
  have hsb : (SB == SB) = true := beq_self_eq_true _
  go_wp2_with fail
  refine (HQS2.out oo oc _ ro12 (HR.out _ b12)).mono ?_
  rintro e w13 ⟨rfl, m13, rfl⟩
  have b13 := bdr b12 m13
  clear b12 ro12
  generalize w12.drewN m13 = w13 at *
  go_wp2_with fail
  refine (HW.out _ (HK.out _ b13)).mono ?_
  rintro e w14 ⟨rfl, d14⟩
  have b14 := b13.trans (d14.mono b13.size)
  clear d14 b13
  go_wp2
  go_ret
  exact ⟨rfl, b14⟩
end Go.Proofs.YtkpcfbadhoiigaaDoor
