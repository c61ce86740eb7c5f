/- Texts on the program and on the document, joined: Pss. -/
import Derived.Test.YtaeglmgpoboihaaGreatDoorMa38
/- ParseSame, on calls that keep their word. gen_pss.py writes it. -/
namespace Go.Proofs.YtaeglmgpoboihaaGreatDoor
open Go.ChangeShapes Go.WideShapes Go.ChangeAt Go.RowKit K L15
set_option linter.unusedVariables false
set_option linter.unusedSimpArgs false
def zrV : List Value := [.string (bs []), .int .i64 0, .int .i64 0, .string (bs []), .bool false, .slice none 0 0, .slice none 0 0, .bool false]
def zrR : Ru := ⟨[], 0, 0, [], false, [], [], false⟩
theorem cpd_app {W w5 : World} {b : Bk} {bu B : Nat} {rt rr : List (List Value)} {xa ya za : Option Addr} {xc yc zc : Nat} (hcl : w5.heap[bu]? = some (.cells #[.slice xa b.tb.length xc, .slice ya b.ru.length yc, .slice za b.wt.length zc] 27 (0, 0)))
    (o1 : OwnR w5 B 34 4 (.slice xa b.tb.length xc) rt) (o2 : OwnR w5 B 38 8 (.slice ya b.ru.length yc) rr) (o3 : OwnR w5 B 40 10 (.slice za b.wt.length zc) (b.wt.map wtRow))
    (h2 : RlR (TbR0 W) rt b.tb) (h4 : RlR (RuR0 W) rr b.ru) (kb : Below W.heap.size W w5) (hB : W.heap.size ≤ B) (hbu : W.heap.size ≤ bu) (hM : BkM b) (hR : b.ru.length < 300) {v' : Value} {x : World} (hn : OwnR x B 38 8 v' (rr ++ [zrV])) (k : w5.grownBy x (Value.ownBlock (.slice ya b.ru.length yc))) :
    ∃ ya' yc', v' = .slice ya' (b.ru.length + 1) yc' ∧ x.cell? ⟨bu, 1, none⟩ = some (.slice ya b.ru.length yc) ∧ x.frozen? ⟨bu, 1, none⟩ = false ∧ CpD W b bu (x.setCell ⟨bu, 1, none⟩ (.slice ya' (b.ru.length + 1) yc')) := by
  have ho := o2.1
  have hc3 := blk_grown hcl k ho (by decide)
  obtain ⟨ya', yc', hv, -, -, -⟩ := hn.form (by decide)
  rw [List.length_append, List.length_singleton, RlR.len h4] at hv
  subst hv
  refine ⟨ya', yc', rfl, cellRow hc3 1, freeRow hc3 1, ?_⟩
  have kX : Below W.heap.size W (x.setCell ⟨bu, 1, none⟩ (.slice ya' (b.ru.length + 1) yc')) := (kb.grown k kb.size (fun g e => Nat.le_trans hB (World.ownsRow.lt ho g e).1)).setCell hbu _
  have p1 := (o1.grown k ho (by decide)).set hc3 (by decide) 1 (.slice ya' (b.ru.length + 1) yc')
  have p2 := hn.set hc3 (by decide) 1 (.slice ya' (b.ru.length + 1) yc')
  have p3 := (o3.grown k ho (by decide)).set hc3 (by decide) 1 (.slice ya' (b.ru.length + 1) yc')
  obtain ⟨a0, d0, e0, -, m0, -⟩ := p1.form (by decide)
  injection e0 with f0 _ g0
  subst f0 g0
  obtain ⟨a1, d1, e1, -, m1, -⟩ := p2.form (by decide)
  injection e1 with f1 _ g1
  subst f1 g1
  obtain ⟨a2, d2, e2, -, m2, -⟩ := p3.form (by decide)
  injection e2 with f2 _ g2
  subst f2 g2
  have hlen : ({ b with ru := b.ru ++ [zrR] } : Bk).ru.length = b.ru.length + 1 := by simp
  have hz : RuR0 (x.setCell ⟨bu, 1, none⟩ (.slice ya' (b.ru.length + 1) yc')) zrV zrR := ⟨none, 0, none, 0, [], rfl, .inl rfl, .inl rfl, trivial⟩
  refine ⟨xa, ya', za, xc, yc', zc, { b with ru := b.ru ++ [zrR] }, fun e => ?_, ⟨⟨hM.1.1, by rw [hlen]; omega, hM.1.2.2⟩, hM.2.1, fun t ht => ?_⟩, ?_, ?_, kX⟩
  · have := congrArg (fun t => t.ru.length) e
    simp at this
  · rcases List.mem_append.1 ht with ht | ht
    · exact hM.2.2 t ht
    · rw [List.mem_singleton.1 ht]
      exact ⟨by decide, by decide, fun s hs => by simp [zrR] at hs⟩
  · rw [hlen]
    exact row_to (rowSet hc3 1 _) rfl
  · rw [hlen]
    exact ⟨_, _, _, _, _, _, _, _, by rw [hlen], rdr_read m0, RlR.imp (fun r s ⟨po, pc, e, h⟩ => ⟨po, pc, e, h.below kX⟩) h2, rdr_read m1, RlR.snoc (RlR.imp (fun r s ⟨po, pc, qo, qc, rs, e, h1, h2, h3⟩ => ⟨po, pc, qo, qc, rs, e, h1.below kX, h2.below kX, RlR.imp (fun r s ⟨po, pc, e, h⟩ => ⟨po, pc, e, h.below kX⟩) h3⟩) h4) hz, rdr_read m2⟩
theorem xor_ne (x : Int) : bits .xor .i64 x 1 ≠ x := by
  intro e
  have e' : IntKind.i64.wrap ((BitVec.ofInt 64 x ^^^ BitVec.ofInt 64 1).toNat : Int) = x := e
  have h : BitVec.ofInt 64 (IntKind.i64.wrap ((BitVec.ofInt 64 x ^^^ BitVec.ofInt 64 1).toNat : Int)) = (BitVec.ofInt 64 x ^^^ BitVec.ofInt 64 1) := by
    generalize BitVec.ofInt 64 x ^^^ BitVec.ofInt 64 1 = r
    have hr := r.isLt
    rw [IntWalk.i64_left]
    unfold wrap64
    apply BitVec.eq_of_toNat_eq
    rw [BitVec.toNat_ofInt]
    omega
  rw [e'] at h
  have := congrArg (fun b => b.getLsbD 0) h
  simp at this
set_option maxRecDepth 100000 in
set_option maxHeartbeats 1000000 in
theorem parseSame_walk (I : World → Prop) (F : POkS I) (b : Bk) (hM : BkM b) (hN : BkN b) (ta ra wa : Option Addr) (tc rc wc : Nat) (rt rr : List (List Value)) (wh : Int) (hw0 : -9223372036854775808 ≤ wh) (hw1 : wh ≤ 9223372036854775807) (w : World) (hw : I w)
    (h1 : RdR0 w 4 ta rt) (h2 : RlR (TbR0 w) rt b.tb) (h3 : RdR0 w 8 ra rr) (h4 : RlR (RuR0 w) rr b.ru) (h5 : RdR0 w 10 wa (b.wt.map wtRow))
    (st : (ta = none ∧ b.tb.length = 0 ∧ tc = 0) ∨ ∃ a, ta = some a) (sr : (ra = none ∧ b.ru.length = 0 ∧ rc = 0) ∨ ∃ a, ra = some a) (sw : (wa = none ∧ b.wt.length = 0 ∧ wc = 0) ∨ ∃ a, wa = some a) :
    Calls Tryz.prog 4 #[(.agg #[.slice ta b.tb.length tc, .slice ra b.ru.length rc, .slice wa b.wt.length wc]), .int .i64 wh] w fun e w' => e = .returned (.bool true) ∧ Below w.heap.size w w' := by
  have HBR := Lib.hid (show BkR w (.agg #[.slice ta b.tb.length tc, .slice ra b.ru.length rc, .slice wa b.wt.length wc]) b from ⟨ta, tc, ra, rc, wa, wc, rt, rr, rfl, h1, h2, h3, h4, h5⟩)
  have HI := Lib.hid (fun wx (b : Below w.heap.size w wx) => F.keepI w wx hw b)
  have HWK := Lib.hid (fun wx (b : Below w.heap.size w wx) => works15_walk I F.toPOk wx (F.keepI w wx hw b))
  have HS := Lib.hid F.sameM
  have HM := Lib.hid hM
  have HSMW := Lib.hid (fun wx (k : Below w.heap.size w wx) => small15_walk b hM (.agg #[.slice ta b.tb.length tc, .slice ra b.ru.length rc, .slice wa b.wt.length wc]) wx (HBR.out.below k))
  have bA := alloc_below w (.cells #[.slice ta b.tb.length tc, .slice ra b.ru.length rc, .slice wa b.wt.length wc] 27)
  obtain ⟨W, hW⟩ : ∃ W, w.alloc (.cells #[.slice ta b.tb.length tc, .slice ra b.ru.length rc, .slice wa b.wt.length wc] 27) = W := ⟨_, rfl⟩
  have r0 := rowNew w (.cells #[.slice ta b.tb.length tc, .slice ra b.ru.length rc, .slice wa b.wt.length wc] 27)
  rw [hW] at bA r0
  have HBA := Lib.hid bA
  have HR := Lib.hid r0
  have HCL := Lib.hid (fun wx (k : Below W.heap.size W wx) => (show (wx.cell? ⟨w.heap.size, 0, none⟩ = some (.slice ta b.tb.length tc) ∧ wx.cell? ⟨w.heap.size, 1, none⟩ = some (.slice ra b.ru.length rc)) ∧ wx.cell? ⟨w.heap.size, 2, none⟩ = some (.slice wa b.wt.length wc) from
    ⟨⟨cellRow ((k.block _ (lt_of_block HR.out)).trans HR.out) 0, cellRow ((k.block _ (lt_of_block HR.out)).trans HR.out) 1⟩, cellRow ((k.block _ (lt_of_block HR.out)).trans HR.out) 2⟩))
  have HBL := Lib.hid (fun wx (k : Below W.heap.size W wx) => (HBA.out.trans (k.mono HBA.out.size) : Below w.heap.size w wx))
  have H1 := Lib.hid h1
  have H2 := Lib.hid h2
  have H3 := Lib.hid h3
  have H4 := Lib.hid h4
  have H5 := Lib.hid h5
  have HST := Lib.hid st
  have HSR := Lib.hid sr
  have HSW := Lib.hid sw
  have HNN := Lib.hid hN
  have HW0 := Lib.hid hw0
  have HW1 := Lib.hid hw1
  cases hsm : smB b with
  | false =>
    rw [hsm] at HSMW
    clear F hM hw bA r0 h1 h2 h3 h4 h5 st sr sw hN hw0 hw1 hsm
    go_enter Tryz.func4, Tryz.ntmps4
    go_wp2_with fail
    refine (HWK.out _ HBA.out).mono ?_
    rintro e w1 ⟨rfl, b1⟩
    obtain ⟨⟨u0, u1⟩, u2⟩ := HCL.out _ b1
    have HB1 := Lib.hid b1
    clear b1
    go_wp2_with fail
    refine (HSMW.out _ (HBL.out _ HB1.out)).mono ?_
    rintro e w2 ⟨rfl, b2⟩
    have HB2 := Lib.hid (HB1.out.trans (b2.mono HB1.out.size))
    obtain ⟨⟨t0, t1⟩, t2⟩ := HCL.out _ HB2.out
    clear u0 u1 u2 b2
    go_wp2_with fail
    refine (HSMW.out _ (HBL.out _ HB2.out)).mono ?_
    rintro e w3 ⟨rfl, b3⟩
    have HB3 := Lib.hid (HB2.out.trans (b3.mono HB2.out.size))
    clear b3 t0 t1 t2
    go_wp2
    go_ret
    exact ⟨rfl, HBL.out _ HB3.out⟩
  | true =>
    have HLN := Lib.hid (smB_len hsm)
    rw [hsm] at HSMW
    clear F hM hw bA r0 h1 h2 h3 h4 h5 st sr sw hN hw0 hw1 hsm
    go_enter Tryz.func4, Tryz.ntmps4
    go_wp2_with fail
    refine (HWK.out _ HBA.out).mono ?_
    rintro e w1 ⟨rfl, b1⟩
    obtain ⟨⟨u0, u1⟩, u2⟩ := HCL.out _ b1
    have HB1 := Lib.hid b1
    clear b1
    go_wp2_with fail
    refine (HSMW.out _ (HBL.out _ HB1.out)).mono ?_
    rintro e w2 ⟨rfl, b2⟩
    have HB2 := Lib.hid (HB1.out.trans (b2.mono HB1.out.size))
    obtain ⟨⟨t0, t1⟩, t2⟩ := HCL.out _ HB2.out
    clear u0 u1 u2 b2
    go_wp2_with fail
    refine (HS.out b b _ _ w2 HM.out HM.out (HBR.out.below (HBL.out _ HB2.out)) (HBR.out.below (HBL.out _ HB2.out)) (HI.out _ (HBL.out _ HB2.out))).mono ?_
    rintro e w3 ⟨rfl, b3⟩
    rw [decide_eq_true (show b = b from rfl)]
    have HB3 := Lib.hid (HB2.out.trans (b3.mono HB2.out.size))
    clear b3 t0 t1 t2
    go_wp2_with fail
    go_cut [5] (fun v5 wx => CpB w3 b rt rr v5 wx)
    case first =>
      refine copy_region (w := w3) (g0 := w.heap.size) (rt := rt) (rr := rr) (rw := b.wt.map wtRow) ⟨rfl, by kernel_rfl,
        ⟨_, rfl, rfl, rfl, rfl⟩,
        ⟨_, rfl, rfl, rfl, rfl⟩,
        ⟨_, rfl, rfl, rfl, rfl, by kernel_rfl⟩,
        ⟨_, rfl, rfl, rfl, rfl, by kernel_rfl, by kernel_rfl⟩,
        ⟨_, rfl, rfl, rfl, rfl⟩,
        ⟨_, rfl, rfl, rfl, rfl⟩,
        ⟨_, rfl, rfl, rfl, rfl, by kernel_rfl⟩,
        ⟨_, rfl, rfl, rfl, rfl, by kernel_rfl, by kernel_rfl⟩,
        ⟨_, rfl, rfl, rfl, rfl⟩,
        ⟨_, rfl, rfl, rfl, rfl⟩,
        ⟨_, rfl, rfl, rfl, rfl, by kernel_rfl⟩,
        ⟨_, rfl, rfl, rfl, rfl, by kernel_rfl, by kernel_rfl⟩,
        ⟨_, rfl, rfl, rfl, rfl, by kernel_rfl, by kernel_rfl, by kernel_rfl⟩,
        ⟨_, rfl, rfl, rfl, rfl⟩,
        ⟨_, rfl, rfl, rfl, rfl, by kernel_rfl, by kernel_rfl⟩⟩ (by simp) rfl ((HB3.out.block _ (lt_of_block HR.out)).trans HR.out) (H1.out.below (HBL.out _ HB3.out)) (H3.out.below (HBL.out _ HB3.out)) (H5.out.below (HBL.out _ HB3.out)) (RlR.len H2.out) (RlR.len H4.out) (List.length_map _) (fun r hr => (rl_rows (fun r s h => tb_ok h) H2.out r hr).1) (fun r hr => (rl_rows (fun r s h => ru_ok h) H4.out r hr).1) (fun r hr => by obtain ⟨x, -, rfl⟩ := List.mem_map.1 hr; exact (wt_ok x).1)
        (by rw [RlR.len H2.out]; exact HST.out) (by rw [RlR.len H4.out]; exact HSR.out) (by rw [List.length_map]; exact HSW.out) (fun r hr => (rl_rows (fun r s h => tb_ok h) H2.out r hr).2) (fun r hr => (rl_rows (fun r s h => ru_ok h) H4.out r hr).2) (fun r hr => by obtain ⟨x, -, rfl⟩ := List.mem_map.1 hr; exact (wt_ok x).2) (by have := HLN.out; omega) (by have := HLN.out; omega) (by have := HLN.out; omega) ?_
      intro f X bu e5 eb er o1 o2 o3 kb
      have HQ := Lib.hid (show CpB w3 b rt rr (.pointer (some ⟨bu, 0, none⟩)) X from ⟨bu, _, _, _, rfl, eb, er, o1, o2, o3, kb⟩)
      clear eb er o1 o2 o3 kb
      simp only [puts, KS5, List.foldl, Act.put, List.setIfInBounds_toArray, List.set_cons_zero, List.set_cons_succ]
      rw [e5]
      go_wp2_with fail
      go_meet
      exact HQ.out
    case rest =>
      obtain ⟨bu, vt, vr, vw, rfl, hbu, hcl, o1, o2, o3, kb⟩ := hcut
      obtain ⟨w4, rfl⟩ : ∃ x : World, x = wc := ⟨_, rfl⟩
      obtain ⟨xa, xc, e1, -, m1, -⟩ := o1.form (by decide)
      obtain ⟨ya, yc, e2, -, m2, -⟩ := o2.form (by decide)
      obtain ⟨za, zc, e3, -, m3, -⟩ := o3.form (by decide)
      rw [RlR.len H2.out] at e1
      rw [RlR.len H4.out] at e2
      rw [List.length_map] at e3
      subst e1 e2 e3
      have HB4 := Lib.hid (HB3.out.trans (kb.mono HB3.out.size))
      have hbc : BkR w4 (.agg #[.slice xa b.tb.length xc, .slice ya b.ru.length yc, .slice za b.wt.length zc]) b := by
        have k := HBL.out _ HB4.out
        exact ⟨xa, xc, ya, yc, za, zc, rt, rr, rfl, rdr_read m1, RlR.imp (fun r s ⟨po, pc, e, h⟩ => ⟨po, pc, e, h.below k⟩) H2.out, rdr_read m2, RlR.imp (fun r s ⟨po, pc, qo, qc, rs, e, h1, h2, h3⟩ => ⟨po, pc, qo, qc, rs, e, h1.below k, h2.below k, RlR.imp (fun r s ⟨po, pc, e, h⟩ => ⟨po, pc, e, h.below k⟩) h3⟩) H4.out, rdr_read m3⟩
      obtain ⟨⟨t0, t1⟩, t2⟩ := HCL.out _ HB4.out
      obtain ⟨y0, y1, y2⟩ : _ ∧ _ ∧ _ := ⟨cellRow hcl 0, cellRow hcl 1, cellRow hcl 2⟩
      have HC4 := Lib.hid hcl
      have HO1 := Lib.hid o1
      have HO2 := Lib.hid o2
      have HO3 := Lib.hid o3
      have HBC := Lib.hid hbc
      have HBU := Lib.hid hbu
      have HKB := Lib.hid kb
      clear hcl o1 o2 o3 m1 m2 m3 hbc hbu kb
      go_wp2_with fail
      refine (HS.out b b _ _ w4 HM.out HM.out (HBR.out.below (HBL.out _ HB4.out)) HBC.out (HI.out _ (HBL.out _ HB4.out))).mono ?_
      rintro e w5 ⟨rfl, b5⟩
      rw [decide_eq_true (show b = b from rfl)]
      have HB5 := Lib.hid b5
      clear b5 t0 t1 t2 y0 y1 y2
      have hq : IntKind.i64.wrap (wh.tdiv 9) = wh.tdiv 9 := by
        have := tdiv9 HW0.out HW1.out
        exact IntWalk.i64_in _ this
      have HTD := Lib.hid (tdiv9 HW0.out HW1.out)
      have h90 : ((9 : Int) == 0) = false := by decide
      go_wp2_with fail
      refine (below_walk (wh.tdiv 9) 1048576 HTD.out.1 HTD.out.2 (by omega) (by omega) _).mono ?_
      rintro e w6 ⟨rfl, rfl⟩
      have hat := belowN_bounds (wh.tdiv 9) 1048576 (by omega)
      generalize belowN (wh.tdiv 9) 1048576 = at_ at *
      go_wp2_with fail
      refine (below_walk wh 9 HW0.out HW1.out (by omega) (by omega) _).mono ?_
      rintro e w6 ⟨rfl, rfl⟩
      have hnn := belowN_bounds wh 9 (by omega)
      generalize belowN wh 9 = n at *
      have HCC := Lib.hid ((HB5.out.block _ (lt_of_block HC4.out)).trans HC4.out)
      have HKW := Lib.hid (HKB.out.trans (HB5.out.mono HKB.out.size))
      obtain ⟨y0, y1, y2⟩ : _ ∧ _ ∧ _ := ⟨cellRow HCC.out 0, cellRow HCC.out 1, cellRow HCC.out 2⟩
      obtain ⟨a, rfl⟩ := Int.eq_ofNat_of_zero_le hat.1
      by_cases n3 : n < 3
      · by_cases hL0 : 0 < b.tb.length
        · have hLN := HLN.out
          have hL : 0 < b.tb.length := by omega
          have L9 : (0 : Int) < ((b.tb.length : Nat) : Int) := by omega
          obtain ⟨ao, cap, e, -, -, hsh⟩ := HO1.out.form (by decide)
          injection e with e e' e''
          clear e' e''
          subst e
          rcases hsh with ⟨-, hz, -⟩ | ⟨g, rfl, hg⟩
          · rw [RlR.len H2.out] at hz; omega
          obtain ⟨N, hNd⟩ : ∃ N, b.tb.length = N := ⟨_, rfl⟩
          rw [hNd] at y0 L9 hL
          have hN3 : N < 300 := by rw [← hNd]; exact hLN.1
          obtain ⟨j, hjd⟩ : ∃ j, a % N = j := ⟨_, rfl⟩
          have hj : j < N := by rw [← hjd]; exact Nat.mod_lt _ hL
          have zr : ((a : Nat) : Int).tmod ((N : Nat) : Int) = ((j : Nat) : Int) := by rw [← hjd]; exact (Int.ofNat_tmod a N).symm
          have hji : ((j : Nat) : Int) < ((N : Nat) : Int) := by omega
          have hne1 : ¬ ((N : Nat) : Int) = 0 := by omega
          have hne2 : ¬ N = 0 := by omega
          have HND := Lib.hid hNd
          have HJ := Lib.hid hj
          clear hNd hLN hjd hj hL
          go_wp2_with fail
          go_region_held3 (fun z => z.cell? ⟨bu, 0, none⟩ = some (.slice (some ⟨g, 0, none⟩) N xc)) (first | exact y0) (fail)
          have hjb : j < b.tb.length := by rw [HND.out]; exact HJ.out
          have HK6 := Lib.hid (below_dq (HKB.out.trans (HB5.out.mono HKB.out.size)))
          have HK7 := Lib.hid (HBL.out _ (HB3.out.trans (HK6.out.mono HB3.out.size)))
          have d1 := HO1.out.below (below_dq HB5.out)
          have d2 := HO2.out.below (below_dq HB5.out)
          have d3 := HO3.out.below (below_dq HB5.out)
          have hcl6 : w5.drew.heap[bu]? = some (.cells #[.slice (some ⟨g, 0, none⟩) b.tb.length xc, .slice ya b.ru.length yc, .slice za b.wt.length zc] 27 (0, 0)) := HCC.out
          obtain ⟨ao, cap, e, -, m1, -⟩ := d1.form (by decide)
          injection e with e e' e''
          clear e' e''
          subst e
          obtain ⟨q, o, e, c⟩ := rdrw_at m1 (i := j) (by rw [RlR.len H2.out]; exact hjb)
          injection e with e
          injection e with e e' e''
          subst e e'
          clear e''
          obtain ⟨po, pc, e, -⟩ := rl_at H2.out hjb
          simp only [e] at c
          obtain ⟨a0, a1, a2, a3⟩ : _ ∧ _ ∧ _ ∧ _ := ⟨c 0 (by omega), c 1 (by omega), c 2 (by omega), c 3 (by omega)⟩
          simp only [List.getElem?_cons_zero, List.getElem?_cons_succ, Nat.add_zero, Nat.zero_add] at a0 a1 a2 a3
          obtain ⟨nn, ne⟩ := HNN.out _ (List.getElem_mem hjb)
          have f0 := own_free d1 (j * 4)
          have f1 := own_free d1 (j * 4 + 1)
          have f3 := own_free d1 (j * 4 + 3)
          have hsz : w.heap.size ≤ w3.heap.size := (HBL.out _ HB3.out).size
          have HWAY := Lib.hid (fun (k : Nat) (u : Value) (y : Tb) (hk : k < 4) (hrow : (∀ r, TbR0 w r b.tb[j] → TbR0 w (r.set k u) y)) (hks : y.ks = b.tb[j].ks) (hne : y ≠ b.tb[j]) => cpd_tb (W := w) hcl6 d1 d2 d3 H2.out H4.out HK7.out hsz HM.out hjb hk hrow hks hne)
          generalize hyd : b.tb[j] = y at *
          clear c m1 d1 d2 d3 hcl6 hsz hyd e a2
          have hcs : n = 0 ∨ n = 1 ∨ n = 2 := by omega
          rcases hcs with hn | hn | hn
          · subst hn
            have hl : (9223372036854775807 < y.n.length + 1) = False := by rw [eq_iff_iff]; simp; omega
            have hcat : bs y.n ++ ({ data := #[120] } : ByteArray) = bs (y.n ++ [120]) := bs_append y.n [120]
            have HD := HWAY.out 0 (.string (bs (y.n ++ [120]))) { y with n := y.n ++ [120] } (by omega) (fun r ⟨po, pc, e, h⟩ => ⟨po, pc, by rw [e]; rfl, h⟩)  rfl (fun e => by have := congrArg (fun t => t.n.length) e; simp at this)
            obtain ⟨X, hX⟩ : ∃ X, w5.drew.setCell ⟨g, j * 4, none⟩ (.string (bs (y.n ++ [120]))) = X := ⟨_, rfl⟩
            have HD' : CpD w b bu X := by rw [← hX]; exact HD
            clear HD
            obtain ⟨qa, ra', wa', qc, rc', wc', c, hne, hMc, hcx, hBc, kX⟩ := HD'
            have HXB := Lib.hid kX
            have hXW : Below W.heap.size W X := (by rw [← hX]; exact (HB3.out.trans (HK6.out.mono HB3.out.size)).setCell (Nat.le_trans HB3.out.size hg) _)
            obtain ⟨⟨t0, t1⟩, t2⟩ := HCL.out _ hXW
            obtain ⟨v0, v1, v2⟩ : _ ∧ _ ∧ _ := ⟨cellRow hcx 0, cellRow hcx 1, cellRow hcx 2⟩
            have HXW := Lib.hid hXW
            have HCX := Lib.hid hcx
            have HBX := Lib.hid hBc
            have HMC := Lib.hid hMc
            have HNE := Lib.hid hne
            clear hXW hcx hBc hMc hne kX
            go_wp2_with fail
            refine (HS.out b c _ _ X HM.out HMC.out (HBR.out.below HXB.out) HBX.out (HI.out _ HXB.out)).mono ?_
            rintro e X2 ⟨rfl, b7⟩
            rw [decide_eq_false (fun e => HNE.out e.symm)]
            have HX2 := Lib.hid (HXB.out.trans (b7.mono HXB.out.size))
            obtain ⟨⟨t0', t1'⟩, t2'⟩ := HCL.out _ (HXW.out.trans (b7.mono HXW.out.size))
            have hcx2 := (b7.block _ (lt_of_block HCX.out)).trans HCX.out
            obtain ⟨v0', v1', v2'⟩ : _ ∧ _ ∧ _ := ⟨cellRow hcx2 0, cellRow hcx2 1, cellRow hcx2 2⟩
            have HBX2 := Lib.hid (HBX.out.below b7)
            clear t0 t1 t2 v0 v1 v2 hcx2 b7
            go_wp2_with fail
            refine (HS.out c b _ _ X2 HMC.out HM.out HBX2.out (HBR.out.below HX2.out) (HI.out _ HX2.out)).mono ?_
            rintro e X3 ⟨rfl, b8⟩
            rw [decide_eq_false HNE.out]
            have HX3 := Lib.hid (HX2.out.trans (b8.mono HX2.out.size))
            clear b8 t0' t1' t2' v0' v1' v2'
            go_wp2
            go_ret
            exact ⟨rfl, HX3.out⟩
          · subst hn
            have HD := HWAY.out 1 (.int .i64 (bits .xor .i64 y.l 1)) { y with l := bits .xor .i64 y.l 1 } (by omega) (fun r ⟨po, pc, e, h⟩ => ⟨po, pc, by rw [e]; rfl, h⟩)  rfl (fun e => xor_ne y.l (congrArg (fun t => t.l) e))
            obtain ⟨X, hX⟩ : ∃ X, w5.drew.setCell ⟨g, j * 4 + 1, none⟩ (.int .i64 (bits .xor .i64 y.l 1)) = X := ⟨_, rfl⟩
            have HD' : CpD w b bu X := by rw [← hX]; exact HD
            clear HD
            obtain ⟨qa, ra', wa', qc, rc', wc', c, hne, hMc, hcx, hBc, kX⟩ := HD'
            have HXB := Lib.hid kX
            have hXW : Below W.heap.size W X := (by rw [← hX]; exact (HB3.out.trans (HK6.out.mono HB3.out.size)).setCell (Nat.le_trans HB3.out.size hg) _)
            obtain ⟨⟨t0, t1⟩, t2⟩ := HCL.out _ hXW
            obtain ⟨v0, v1, v2⟩ : _ ∧ _ ∧ _ := ⟨cellRow hcx 0, cellRow hcx 1, cellRow hcx 2⟩
            have HXW := Lib.hid hXW
            have HCX := Lib.hid hcx
            have HBX := Lib.hid hBc
            have HMC := Lib.hid hMc
            have HNE := Lib.hid hne
            clear hXW hcx hBc hMc hne kX
            go_wp2_with fail
            refine (HS.out b c _ _ X HM.out HMC.out (HBR.out.below HXB.out) HBX.out (HI.out _ HXB.out)).mono ?_
            rintro e X2 ⟨rfl, b7⟩
            rw [decide_eq_false (fun e => HNE.out e.symm)]
            have HX2 := Lib.hid (HXB.out.trans (b7.mono HXB.out.size))
            obtain ⟨⟨t0', t1'⟩, t2'⟩ := HCL.out _ (HXW.out.trans (b7.mono HXW.out.size))
            have hcx2 := (b7.block _ (lt_of_block HCX.out)).trans HCX.out
            obtain ⟨v0', v1', v2'⟩ : _ ∧ _ ∧ _ := ⟨cellRow hcx2 0, cellRow hcx2 1, cellRow hcx2 2⟩
            have HBX2 := Lib.hid (HBX.out.below b7)
            clear t0 t1 t2 v0 v1 v2 hcx2 b7
            go_wp2_with fail
            refine (HS.out c b _ _ X2 HMC.out HM.out HBX2.out (HBR.out.below HX2.out) (HI.out _ HX2.out)).mono ?_
            rintro e X3 ⟨rfl, b8⟩
            rw [decide_eq_false HNE.out]
            have HX3 := Lib.hid (HX2.out.trans (b8.mono HX2.out.size))
            clear b8 t0' t1' t2' v0' v1' v2'
            go_wp2
            go_ret
            exact ⟨rfl, HX3.out⟩
          · subst hn
            have hl : (9223372036854775807 < y.e.length + 1) = False := by rw [eq_iff_iff]; simp; omega
            have hcat : bs y.e ++ ({ data := #[120] } : ByteArray) = bs (y.e ++ [120]) := bs_append y.e [120]
            have HD := HWAY.out 3 (.string (bs (y.e ++ [120]))) { y with e := y.e ++ [120] } (by omega) (fun r ⟨po, pc, e, h⟩ => ⟨po, pc, by rw [e]; rfl, h⟩)  rfl (fun e => by have := congrArg (fun t => t.e.length) e; simp at this)
            obtain ⟨X, hX⟩ : ∃ X, w5.drew.setCell ⟨g, j * 4 + 3, none⟩ (.string (bs (y.e ++ [120]))) = X := ⟨_, rfl⟩
            have HD' : CpD w b bu X := by rw [← hX]; exact HD
            clear HD
            obtain ⟨qa, ra', wa', qc, rc', wc', c, hne, hMc, hcx, hBc, kX⟩ := HD'
            have HXB := Lib.hid kX
            have hXW : Below W.heap.size W X := (by rw [← hX]; exact (HB3.out.trans (HK6.out.mono HB3.out.size)).setCell (Nat.le_trans HB3.out.size hg) _)
            obtain ⟨⟨t0, t1⟩, t2⟩ := HCL.out _ hXW
            obtain ⟨v0, v1, v2⟩ : _ ∧ _ ∧ _ := ⟨cellRow hcx 0, cellRow hcx 1, cellRow hcx 2⟩
            have HXW := Lib.hid hXW
            have HCX := Lib.hid hcx
            have HBX := Lib.hid hBc
            have HMC := Lib.hid hMc
            have HNE := Lib.hid hne
            clear hXW hcx hBc hMc hne kX
            go_wp2_with fail
            refine (HS.out b c _ _ X HM.out HMC.out (HBR.out.below HXB.out) HBX.out (HI.out _ HXB.out)).mono ?_
            rintro e X2 ⟨rfl, b7⟩
            rw [decide_eq_false (fun e => HNE.out e.symm)]
            have HX2 := Lib.hid (HXB.out.trans (b7.mono HXB.out.size))
            obtain ⟨⟨t0', t1'⟩, t2'⟩ := HCL.out _ (HXW.out.trans (b7.mono HXW.out.size))
            have hcx2 := (b7.block _ (lt_of_block HCX.out)).trans HCX.out
            obtain ⟨v0', v1', v2'⟩ : _ ∧ _ ∧ _ := ⟨cellRow hcx2 0, cellRow hcx2 1, cellRow hcx2 2⟩
            have HBX2 := Lib.hid (HBX.out.below b7)
            clear t0 t1 t2 v0 v1 v2 hcx2 b7
            go_wp2_with fail
            refine (HS.out c b _ _ X2 HMC.out HM.out HBX2.out (HBR.out.below HX2.out) (HI.out _ HX2.out)).mono ?_
            rintro e X3 ⟨rfl, b8⟩
            rw [decide_eq_false HNE.out]
            have HX3 := Lib.hid (HX2.out.trans (b8.mono HX2.out.size))
            clear b8 t0' t1' t2' v0' v1' v2'
            go_wp2
            go_ret
            exact ⟨rfl, HX3.out⟩
        · have L0 : ¬ (0 : Int) < ((b.tb.length : Nat) : Int) := by omega
          have n6 : n < 6 := by omega
          by_cases hL1 : 0 < b.ru.length
          · have hLN := HLN.out
            have hL : 0 < b.ru.length := by omega
            have L9 : (0 : Int) < ((b.ru.length : Nat) : Int) := by omega
            obtain ⟨ao, cap, e, -, -, hsh⟩ := HO2.out.form (by decide)
            injection e with e e' e''
            clear e' e''
            subst e
            rcases hsh with ⟨-, hz, -⟩ | ⟨g, rfl, hg⟩
            · rw [RlR.len H4.out] at hz; omega
            obtain ⟨N, hNd⟩ : ∃ N, b.ru.length = N := ⟨_, rfl⟩
            rw [hNd] at y1 L9 hL
            have hN3 : N < 300 := by rw [← hNd]; exact hLN.2.1
            obtain ⟨j, hjd⟩ : ∃ j, a % N = j := ⟨_, rfl⟩
            have hj : j < N := by rw [← hjd]; exact Nat.mod_lt _ hL
            have zr : ((a : Nat) : Int).tmod ((N : Nat) : Int) = ((j : Nat) : Int) := by rw [← hjd]; exact (Int.ofNat_tmod a N).symm
            have hji : ((j : Nat) : Int) < ((N : Nat) : Int) := by omega
            have hne1 : ¬ ((N : Nat) : Int) = 0 := by omega
            have hne2 : ¬ N = 0 := by omega
            have HND := Lib.hid hNd
            have HJ := Lib.hid hj
            clear hNd hLN hjd hj hL
            go_wp2_with fail
            go_region_held3 (fun z => z.cell? ⟨bu, 1, none⟩ = some (.slice (some ⟨g, 0, none⟩) N yc)) (first | exact y1) (fail)
            have hjb : j < b.ru.length := by rw [HND.out]; exact HJ.out
            have HK6 := Lib.hid (below_dq (HKB.out.trans (HB5.out.mono HKB.out.size)))
            have HK7 := Lib.hid (HBL.out _ (HB3.out.trans (HK6.out.mono HB3.out.size)))
            have d1 := HO1.out.below (below_dq HB5.out)
            have d2 := HO2.out.below (below_dq HB5.out)
            have d3 := HO3.out.below (below_dq HB5.out)
            have hcl6 : w5.drew.heap[bu]? = some (.cells #[.slice xa b.tb.length xc, .slice (some ⟨g, 0, none⟩) b.ru.length yc, .slice za b.wt.length zc] 27 (0, 0)) := HCC.out
            obtain ⟨ao, cap, e, -, m1, -⟩ := d2.form (by decide)
            injection e with e e' e''
            clear e' e''
            subst e
            obtain ⟨q, o, e, c⟩ := rdrw_at m1 (i := j) (by rw [RlR.len H4.out]; exact hjb)
            injection e with e
            injection e with e e' e''
            subst e e'
            clear e''
            obtain ⟨po, pc, qo, qc, rs, e, -, -, -⟩ := rl_at H4.out hjb
            simp only [e] at c
            obtain ⟨a0, a1, a2, a3, a4, a5, a6, a7⟩ : _ ∧ _ ∧ _ ∧ _ ∧ _ ∧ _ ∧ _ ∧ _ := ⟨c 0 (by omega), c 1 (by omega), c 2 (by omega), c 3 (by omega), c 4 (by omega), c 5 (by omega), c 6 (by omega), c 7 (by omega)⟩
            simp only [List.getElem?_cons_zero, List.getElem?_cons_succ, Nat.add_zero, Nat.zero_add] at a0 a1 a2 a3 a4 a5 a6 a7
            have f2 := own_free d2 (j * 8 + 2)
            have f4 := own_free d2 (j * 8 + 4)
            have f7 := own_free d2 (j * 8 + 7)
            have hsz : w.heap.size ≤ w3.heap.size := (HBL.out _ HB3.out).size
            have HWAY := Lib.hid (fun (k : Nat) (u : Value) (y : Ru) (hk : k < 8) (hrow : (∀ r, RuR0 w r b.ru[j] → RuR0 w (r.set k u) y)) (hks : y.ts = b.ru[j].ts ∧ y.ss = b.ru[j].ss) (hne : y ≠ b.ru[j]) => cpd_ru (W := w) hcl6 d1 d2 d3 H2.out H4.out HK7.out hsz HM.out hjb hk hrow hks hne)
            generalize hyd : b.ru[j] = y at *
            clear c m1 d1 d2 d3 hcl6 hsz hyd e a0 a1 a3 a5 a6
            have hcs : n = 0 ∨ n = 1 ∨ n = 2 := by omega
            rcases hcs with hn | hn | hn
            · subst hn
              have HD := HWAY.out 2 (.int .i64 (bits .xor .i64 y.fr 1)) { y with fr := bits .xor .i64 y.fr 1 } (by omega) (fun r ⟨po, pc, qo, qc, rs, e, h1, h2, h3⟩ => ⟨po, pc, qo, qc, rs, by rw [e]; rfl, h1, h2, h3⟩)  ⟨rfl, rfl⟩ (fun e => xor_ne y.fr (congrArg (fun t => t.fr) e))
              obtain ⟨X, hX⟩ : ∃ X, w5.drew.setCell ⟨g, j * 8 + 2, none⟩ (.int .i64 (bits .xor .i64 y.fr 1)) = X := ⟨_, rfl⟩
              have HD' : CpD w b bu X := by rw [← hX]; exact HD
              clear HD
              obtain ⟨qa, ra', wa', qc, rc', wc', c, hne, hMc, hcx, hBc, kX⟩ := HD'
              have HXB := Lib.hid kX
              have hXW : Below W.heap.size W X := (by rw [← hX]; exact (HB3.out.trans (HK6.out.mono HB3.out.size)).setCell (Nat.le_trans HB3.out.size hg) _)
              obtain ⟨⟨t0, t1⟩, t2⟩ := HCL.out _ hXW
              obtain ⟨v0, v1, v2⟩ : _ ∧ _ ∧ _ := ⟨cellRow hcx 0, cellRow hcx 1, cellRow hcx 2⟩
              have HXW := Lib.hid hXW
              have HCX := Lib.hid hcx
              have HBX := Lib.hid hBc
              have HMC := Lib.hid hMc
              have HNE := Lib.hid hne
              clear hXW hcx hBc hMc hne kX
              go_wp2_with fail
              refine (HS.out b c _ _ X HM.out HMC.out (HBR.out.below HXB.out) HBX.out (HI.out _ HXB.out)).mono ?_
              rintro e X2 ⟨rfl, b7⟩
              rw [decide_eq_false (fun e => HNE.out e.symm)]
              have HX2 := Lib.hid (HXB.out.trans (b7.mono HXB.out.size))
              obtain ⟨⟨t0', t1'⟩, t2'⟩ := HCL.out _ (HXW.out.trans (b7.mono HXW.out.size))
              have hcx2 := (b7.block _ (lt_of_block HCX.out)).trans HCX.out
              obtain ⟨v0', v1', v2'⟩ : _ ∧ _ ∧ _ := ⟨cellRow hcx2 0, cellRow hcx2 1, cellRow hcx2 2⟩
              have HBX2 := Lib.hid (HBX.out.below b7)
              clear t0 t1 t2 v0 v1 v2 hcx2 b7
              go_wp2_with fail
              refine (HS.out c b _ _ X2 HMC.out HM.out HBX2.out (HBR.out.below HX2.out) (HI.out _ HX2.out)).mono ?_
              rintro e X3 ⟨rfl, b8⟩
              rw [decide_eq_false HNE.out]
              have HX3 := Lib.hid (HX2.out.trans (b8.mono HX2.out.size))
              clear b8 t0' t1' t2' v0' v1' v2'
              go_wp2
              go_ret
              exact ⟨rfl, HX3.out⟩
            · subst hn
              have HD := HWAY.out 2 (.int .i64 (bits .xor .i64 y.fr 1)) { y with fr := bits .xor .i64 y.fr 1 } (by omega) (fun r ⟨po, pc, qo, qc, rs, e, h1, h2, h3⟩ => ⟨po, pc, qo, qc, rs, by rw [e]; rfl, h1, h2, h3⟩)  ⟨rfl, rfl⟩ (fun e => xor_ne y.fr (congrArg (fun t => t.fr) e))
              obtain ⟨X, hX⟩ : ∃ X, w5.drew.setCell ⟨g, j * 8 + 2, none⟩ (.int .i64 (bits .xor .i64 y.fr 1)) = X := ⟨_, rfl⟩
              have HD' : CpD w b bu X := by rw [← hX]; exact HD
              clear HD
              obtain ⟨qa, ra', wa', qc, rc', wc', c, hne, hMc, hcx, hBc, kX⟩ := HD'
              have HXB := Lib.hid kX
              have hXW : Below W.heap.size W X := (by rw [← hX]; exact (HB3.out.trans (HK6.out.mono HB3.out.size)).setCell (Nat.le_trans HB3.out.size hg) _)
              obtain ⟨⟨t0, t1⟩, t2⟩ := HCL.out _ hXW
              obtain ⟨v0, v1, v2⟩ : _ ∧ _ ∧ _ := ⟨cellRow hcx 0, cellRow hcx 1, cellRow hcx 2⟩
              have HXW := Lib.hid hXW
              have HCX := Lib.hid hcx
              have HBX := Lib.hid hBc
              have HMC := Lib.hid hMc
              have HNE := Lib.hid hne
              clear hXW hcx hBc hMc hne kX
              go_wp2_with fail
              refine (HS.out b c _ _ X HM.out HMC.out (HBR.out.below HXB.out) HBX.out (HI.out _ HXB.out)).mono ?_
              rintro e X2 ⟨rfl, b7⟩
              rw [decide_eq_false (fun e => HNE.out e.symm)]
              have HX2 := Lib.hid (HXB.out.trans (b7.mono HXB.out.size))
              obtain ⟨⟨t0', t1'⟩, t2'⟩ := HCL.out _ (HXW.out.trans (b7.mono HXW.out.size))
              have hcx2 := (b7.block _ (lt_of_block HCX.out)).trans HCX.out
              obtain ⟨v0', v1', v2'⟩ : _ ∧ _ ∧ _ := ⟨cellRow hcx2 0, cellRow hcx2 1, cellRow hcx2 2⟩
              have HBX2 := Lib.hid (HBX.out.below b7)
              clear t0 t1 t2 v0 v1 v2 hcx2 b7
              go_wp2_with fail
              refine (HS.out c b _ _ X2 HMC.out HM.out HBX2.out (HBR.out.below HX2.out) (HI.out _ HX2.out)).mono ?_
              rintro e X3 ⟨rfl, b8⟩
              rw [decide_eq_false HNE.out]
              have HX3 := Lib.hid (HX2.out.trans (b8.mono HX2.out.size))
              clear b8 t0' t1' t2' v0' v1' v2'
              go_wp2
              go_ret
              exact ⟨rfl, HX3.out⟩
            · subst hn
              have HD := HWAY.out 2 (.int .i64 (bits .xor .i64 y.fr 1)) { y with fr := bits .xor .i64 y.fr 1 } (by omega) (fun r ⟨po, pc, qo, qc, rs, e, h1, h2, h3⟩ => ⟨po, pc, qo, qc, rs, by rw [e]; rfl, h1, h2, h3⟩)  ⟨rfl, rfl⟩ (fun e => xor_ne y.fr (congrArg (fun t => t.fr) e))
              obtain ⟨X, hX⟩ : ∃ X, w5.drew.setCell ⟨g, j * 8 + 2, none⟩ (.int .i64 (bits .xor .i64 y.fr 1)) = X := ⟨_, rfl⟩
              have HD' : CpD w b bu X := by rw [← hX]; exact HD
              clear HD
              obtain ⟨qa, ra', wa', qc, rc', wc', c, hne, hMc, hcx, hBc, kX⟩ := HD'
              have HXB := Lib.hid kX
              have hXW : Below W.heap.size W X := (by rw [← hX]; exact (HB3.out.trans (HK6.out.mono HB3.out.size)).setCell (Nat.le_trans HB3.out.size hg) _)
              obtain ⟨⟨t0, t1⟩, t2⟩ := HCL.out _ hXW
              obtain ⟨v0, v1, v2⟩ : _ ∧ _ ∧ _ := ⟨cellRow hcx 0, cellRow hcx 1, cellRow hcx 2⟩
              have HXW := Lib.hid hXW
              have HCX := Lib.hid hcx
              have HBX := Lib.hid hBc
              have HMC := Lib.hid hMc
              have HNE := Lib.hid hne
              clear hXW hcx hBc hMc hne kX
              go_wp2_with fail
              refine (HS.out b c _ _ X HM.out HMC.out (HBR.out.below HXB.out) HBX.out (HI.out _ HXB.out)).mono ?_
              rintro e X2 ⟨rfl, b7⟩
              rw [decide_eq_false (fun e => HNE.out e.symm)]
              have HX2 := Lib.hid (HXB.out.trans (b7.mono HXB.out.size))
              obtain ⟨⟨t0', t1'⟩, t2'⟩ := HCL.out _ (HXW.out.trans (b7.mono HXW.out.size))
              have hcx2 := (b7.block _ (lt_of_block HCX.out)).trans HCX.out
              obtain ⟨v0', v1', v2'⟩ : _ ∧ _ ∧ _ := ⟨cellRow hcx2 0, cellRow hcx2 1, cellRow hcx2 2⟩
              have HBX2 := Lib.hid (HBX.out.below b7)
              clear t0 t1 t2 v0 v1 v2 hcx2 b7
              go_wp2_with fail
              refine (HS.out c b _ _ X2 HMC.out HM.out HBX2.out (HBR.out.below HX2.out) (HI.out _ HX2.out)).mono ?_
              rintro e X3 ⟨rfl, b8⟩
              rw [decide_eq_false HNE.out]
              have HX3 := Lib.hid (HX2.out.trans (b8.mono HX2.out.size))
              clear b8 t0' t1' t2' v0' v1' v2'
              go_wp2
              go_ret
              exact ⟨rfl, HX3.out⟩
          · have L1 : ¬ (0 : Int) < ((b.ru.length : Nat) : Int) := by omega
            by_cases hW : 0 < b.wt.length
            · have hLN := HLN.out
              have hL : 0 < b.wt.length := by omega
              have L9 : (0 : Int) < ((b.wt.length : Nat) : Int) := by omega
              obtain ⟨ao, cap, e, -, -, hsh⟩ := HO3.out.form (by decide)
              injection e with e e' e''
              clear e' e''
              subst e
              rcases hsh with ⟨-, hz, -⟩ | ⟨g, rfl, hg⟩
              · rw [List.length_map] at hz; omega
              obtain ⟨N, hNd⟩ : ∃ N, b.wt.length = N := ⟨_, rfl⟩
              rw [hNd] at y2 L9 hL
              have hN3 : N < 100 := by rw [← hNd]; exact hLN.2.2
              obtain ⟨j, hjd⟩ : ∃ j, a % N = j := ⟨_, rfl⟩
              have hj : j < N := by rw [← hjd]; exact Nat.mod_lt _ hL
              have zr : ((a : Nat) : Int).tmod ((N : Nat) : Int) = ((j : Nat) : Int) := by rw [← hjd]; exact (Int.ofNat_tmod a N).symm
              have hji : ((j : Nat) : Int) < ((N : Nat) : Int) := by omega
              have hne1 : ¬ ((N : Nat) : Int) = 0 := by omega
              have hne2 : ¬ N = 0 := by omega
              have HND := Lib.hid hNd
              have HJ := Lib.hid hj
              clear hNd hLN hjd hj hL
              go_wp2_with fail
              go_region_held3 (fun z => z.cell? ⟨bu, 2, none⟩ = some (.slice (some ⟨g, 0, none⟩) N zc)) (first | exact y2) (fail)
              have hjb : j < b.wt.length := by rw [HND.out]; exact HJ.out
              have HK6 := Lib.hid (below_dq (HKB.out.trans (HB5.out.mono HKB.out.size)))
              have HK7 := Lib.hid (HBL.out _ (HB3.out.trans (HK6.out.mono HB3.out.size)))
              have d1 := HO1.out.below (below_dq HB5.out)
              have d2 := HO2.out.below (below_dq HB5.out)
              have d3 := HO3.out.below (below_dq HB5.out)
              have hcl6 : w5.drew.heap[bu]? = some (.cells #[.slice xa b.tb.length xc, .slice ya b.ru.length yc, .slice (some ⟨g, 0, none⟩) b.wt.length zc] 27 (0, 0)) := HCC.out
              obtain ⟨ao, cap, e, -, m1, -⟩ := d3.form (by decide)
              injection e with e e' e''
              clear e' e''
              subst e
              obtain ⟨q, o, e, c⟩ := rdrw_at m1 (i := j) (by rw [List.length_map]; exact hjb)
              injection e with e
              injection e with e e' e''
              subst e e'
              clear e''
              simp only [map_at hjb] at c
              unfold wtRow at c
              obtain ⟨a0, a1, a2, a3, a4, a5, a6, a7, a8, a9⟩ : _ ∧ _ ∧ _ ∧ _ ∧ _ ∧ _ ∧ _ ∧ _ ∧ _ ∧ _ := ⟨c 0 (by omega), c 1 (by omega), c 2 (by omega), c 3 (by omega), c 4 (by omega), c 5 (by omega), c 6 (by omega), c 7 (by omega), c 8 (by omega), c 9 (by omega)⟩
              simp only [List.getElem?_cons_zero, List.getElem?_cons_succ, Nat.add_zero, Nat.zero_add] at a0 a1 a2 a3 a4 a5 a6 a7 a8 a9
              have f5 := own_free d3 (j * 10 + 5)
              have hsz : w.heap.size ≤ w3.heap.size := (HBL.out _ HB3.out).size
              have HWAY := Lib.hid (fun (k : Nat) (u : Value) (y : Wt) (hk : k < 10) (hrow : (wtRow y = (wtRow b.wt[j]).set k u)) (hne : y ≠ b.wt[j]) => cpd_wt (W := w) hcl6 d1 d2 d3 H2.out H4.out HK7.out hsz HM.out hjb hk hrow hne)
              generalize hyd : b.wt[j] = y at *
              clear c m1 d1 d2 d3 hcl6 hsz hyd a0 a1 a2 a3 a4 a6 a7 a8 a9
              have HD := HWAY.out 5 (.int .i64 (bits .xor .i64 y.ct 1)) { y with ct := bits .xor .i64 y.ct 1 } (by omega) rfl  (fun e => xor_ne y.ct (congrArg (fun t => t.ct) e))
              obtain ⟨X, hX⟩ : ∃ X, w5.drew.setCell ⟨g, j * 10 + 5, none⟩ (.int .i64 (bits .xor .i64 y.ct 1)) = X := ⟨_, rfl⟩
              have HD' : CpD w b bu X := by rw [← hX]; exact HD
              clear HD
              obtain ⟨qa, ra', wa', qc, rc', wc', c, hne, hMc, hcx, hBc, kX⟩ := HD'
              have HXB := Lib.hid kX
              have hXW : Below W.heap.size W X := (by rw [← hX]; exact (HB3.out.trans (HK6.out.mono HB3.out.size)).setCell (Nat.le_trans HB3.out.size hg) _)
              obtain ⟨⟨t0, t1⟩, t2⟩ := HCL.out _ hXW
              obtain ⟨v0, v1, v2⟩ : _ ∧ _ ∧ _ := ⟨cellRow hcx 0, cellRow hcx 1, cellRow hcx 2⟩
              have HXW := Lib.hid hXW
              have HCX := Lib.hid hcx
              have HBX := Lib.hid hBc
              have HMC := Lib.hid hMc
              have HNE := Lib.hid hne
              clear hXW hcx hBc hMc hne kX
              go_wp2_with fail
              refine (HS.out b c _ _ X HM.out HMC.out (HBR.out.below HXB.out) HBX.out (HI.out _ HXB.out)).mono ?_
              rintro e X2 ⟨rfl, b7⟩
              rw [decide_eq_false (fun e => HNE.out e.symm)]
              have HX2 := Lib.hid (HXB.out.trans (b7.mono HXB.out.size))
              obtain ⟨⟨t0', t1'⟩, t2'⟩ := HCL.out _ (HXW.out.trans (b7.mono HXW.out.size))
              have hcx2 := (b7.block _ (lt_of_block HCX.out)).trans HCX.out
              obtain ⟨v0', v1', v2'⟩ : _ ∧ _ ∧ _ := ⟨cellRow hcx2 0, cellRow hcx2 1, cellRow hcx2 2⟩
              have HBX2 := Lib.hid (HBX.out.below b7)
              clear t0 t1 t2 v0 v1 v2 hcx2 b7
              go_wp2_with fail
              refine (HS.out c b _ _ X2 HMC.out HM.out HBX2.out (HBR.out.below HX2.out) (HI.out _ HX2.out)).mono ?_
              rintro e X3 ⟨rfl, b8⟩
              rw [decide_eq_false HNE.out]
              have HX3 := Lib.hid (HX2.out.trans (b8.mono HX2.out.size))
              clear b8 t0' t1' t2' v0' v1' v2'
              go_wp2
              go_ret
              exact ⟨rfl, HX3.out⟩
            · have L8 : ¬ (0 : Int) < ((b.wt.length : Nat) : Int) := by omega
              have bN := alloc_below w5 (.cells #[.string (bs []), .int .i64 0, .int .i64 0, .string (bs []), .bool false, .slice none 0 0, .slice none 0 0, .bool false] 38)
              have HK6 := Lib.hid ((HKB.out.trans (HB5.out.mono HKB.out.size)).trans (bN.mono (HKB.out.trans (HB5.out.mono HKB.out.size)).size))
              have HK7 := Lib.hid (HBL.out _ (HB3.out.trans (HK6.out.mono HB3.out.size)))
              have HK8 := Lib.hid (HB3.out.trans (HK6.out.mono HB3.out.size))
              have d1 := (HO1.out.below HB5.out).below bN
              have d2 := (HO2.out.below HB5.out).below bN
              have d3 := (HO3.out.below HB5.out).below bN
              have hcl7 := (bN.block _ (lt_of_block HCC.out)).trans HCC.out
              have hsz : w.heap.size ≤ w3.heap.size := (HBL.out _ HB3.out).size
              have HX2 := Lib.hid (rowNew w5 (.cells #[.string (bs []), .int .i64 0, .int .i64 0, .string (bs []), .bool false, .slice none 0 0, .slice none 0 0, .bool false] 38))
              have HOA := Lib.hid d2
              have HLA := Lib.hid (show rr.length ≤ 1000000 by rw [RlR.len H4.out]; have := HLN.out; omega)
              have HSA := Lib.hid HK6.out.size
              have AFT := Lib.hid (fun (v' : Value) (x : World) (hn : OwnR x w3.heap.size 38 8 v' (rr ++ [zrV])) (k : (w5.alloc (.cells #[.string (bs []), .int .i64 0, .int .i64 0, .string (bs []), .bool false, .slice none 0 0, .slice none 0 0, .bool false] 38)).grownBy x (Value.ownBlock (.slice ya b.ru.length yc))) => (show (∃ ya' yc', v' = .slice ya' (b.ru.length + 1) yc' ∧ x.cell? ⟨bu, 1, none⟩ = some (.slice ya b.ru.length yc) ∧ x.frozen? ⟨bu, 1, none⟩ = false ∧ CpD w b bu (x.setCell ⟨bu, 1, none⟩ (.slice ya' (b.ru.length + 1) yc'))) ∧ ∀ u, Below W.heap.size W (x.setCell ⟨bu, 1, none⟩ u) from
                ⟨cpd_app (W := w) hcl7 d1 d2 d3 H2.out H4.out HK7.out hsz (Nat.le_trans hsz HBU.out) HM.out HLN.out.2.1 hn k, fun u => (HK8.out.grown k HK8.out.size (fun g e => Nat.le_trans HB3.out.size (World.ownsRow.lt d2.1 g e).1)).setCell (Nat.le_trans HB3.out.size HBU.out) u⟩))
              clear bN d1 d2 d3 hcl7 hsz
              go_wp2_with (refine appRwX rfl rfl Tryz.underlying24 ruinfo rfl (by decide) (by decide) _ rfl HOA.out w5.heap.size zrV rfl HX2.out rfl rfl (by intro u hu; simp [zrV] at hu; rcases hu with rfl | rfl | rfl | rfl | rfl | rfl | rfl | rfl <;> rfl) HLA.out HSA.out ?_; intro v3 x3 m3 g3 l3; obtain ⟨⟨ya', yc', rfl, z3, f3, HD'⟩, kW⟩ := AFT.out _ _ m3 g3; have KW := Lib.hid (kW (.slice ya' (b.ru.length + 1) yc')); obtain ⟨X, hX⟩ : ∃ X, x3.setCell ⟨bu, 1, none⟩ (.slice ya' (b.ru.length + 1) yc') = X := ⟨_, rfl⟩; rw [hX] at HD' KW; obtain ⟨qa, ra', wa', qc, rc', wc', c, hne, hMc, hcx, hBc, kX⟩ := HD'; have HXB := Lib.hid kX; have hXW : Below W.heap.size W X := KW.out; obtain ⟨⟨t0, t1⟩, t2⟩ := HCL.out _ hXW; obtain ⟨v0, v1, v2⟩ : _ ∧ _ ∧ _ := ⟨cellRow hcx 0, cellRow hcx 1, cellRow hcx 2⟩; have HXW := Lib.hid hXW; have HCX := Lib.hid hcx; have HBX := Lib.hid hBc; have HMC := Lib.hid hMc; have HNE := Lib.hid hne; clear hXW hcx hBc hMc hne kX; clear m3 g3 l3 kW)
              refine (HS.out b c _ _ X HM.out HMC.out (HBR.out.below HXB.out) HBX.out (HI.out _ HXB.out)).mono ?_
              rintro e X2 ⟨rfl, b7⟩
              rw [decide_eq_false (fun e => HNE.out e.symm)]
              have HX2 := Lib.hid (HXB.out.trans (b7.mono HXB.out.size))
              obtain ⟨⟨t0', t1'⟩, t2'⟩ := HCL.out _ (HXW.out.trans (b7.mono HXW.out.size))
              have hcx2 := (b7.block _ (lt_of_block HCX.out)).trans HCX.out
              obtain ⟨v0', v1', v2'⟩ : _ ∧ _ ∧ _ := ⟨cellRow hcx2 0, cellRow hcx2 1, cellRow hcx2 2⟩
              have HBX2 := Lib.hid (HBX.out.below b7)
              clear t0 t1 t2 v0 v1 v2 hcx2 b7
              go_wp2_with fail
              refine (HS.out c b _ _ X2 HMC.out HM.out HBX2.out (HBR.out.below HX2.out) (HI.out _ HX2.out)).mono ?_
              rintro e X3 ⟨rfl, b8⟩
              rw [decide_eq_false HNE.out]
              have HX3 := Lib.hid (HX2.out.trans (b8.mono HX2.out.size))
              clear b8 t0' t1' t2' v0' v1' v2'
              go_wp2
              go_ret
              exact ⟨rfl, HX3.out⟩
      · by_cases n6 : n < 6
        · by_cases hL1 : 0 < b.ru.length
          · have hLN := HLN.out
            have hL : 0 < b.ru.length := by omega
            have L9 : (0 : Int) < ((b.ru.length : Nat) : Int) := by omega
            obtain ⟨ao, cap, e, -, -, hsh⟩ := HO2.out.form (by decide)
            injection e with e e' e''
            clear e' e''
            subst e
            rcases hsh with ⟨-, hz, -⟩ | ⟨g, rfl, hg⟩
            · rw [RlR.len H4.out] at hz; omega
            obtain ⟨N, hNd⟩ : ∃ N, b.ru.length = N := ⟨_, rfl⟩
            rw [hNd] at y1 L9 hL
            have hN3 : N < 300 := by rw [← hNd]; exact hLN.2.1
            obtain ⟨j, hjd⟩ : ∃ j, a % N = j := ⟨_, rfl⟩
            have hj : j < N := by rw [← hjd]; exact Nat.mod_lt _ hL
            have zr : ((a : Nat) : Int).tmod ((N : Nat) : Int) = ((j : Nat) : Int) := by rw [← hjd]; exact (Int.ofNat_tmod a N).symm
            have hji : ((j : Nat) : Int) < ((N : Nat) : Int) := by omega
            have hne1 : ¬ ((N : Nat) : Int) = 0 := by omega
            have hne2 : ¬ N = 0 := by omega
            have HND := Lib.hid hNd
            have HJ := Lib.hid hj
            clear hNd hLN hjd hj hL
            go_wp2_with fail
            go_region_held3 (fun z => z.cell? ⟨bu, 1, none⟩ = some (.slice (some ⟨g, 0, none⟩) N yc)) (first | exact y1) (fail)
            have hjb : j < b.ru.length := by rw [HND.out]; exact HJ.out
            have HK6 := Lib.hid (below_dq (HKB.out.trans (HB5.out.mono HKB.out.size)))
            have HK7 := Lib.hid (HBL.out _ (HB3.out.trans (HK6.out.mono HB3.out.size)))
            have d1 := HO1.out.below (below_dq HB5.out)
            have d2 := HO2.out.below (below_dq HB5.out)
            have d3 := HO3.out.below (below_dq HB5.out)
            have hcl6 : w5.drew.heap[bu]? = some (.cells #[.slice xa b.tb.length xc, .slice (some ⟨g, 0, none⟩) b.ru.length yc, .slice za b.wt.length zc] 27 (0, 0)) := HCC.out
            obtain ⟨ao, cap, e, -, m1, -⟩ := d2.form (by decide)
            injection e with e e' e''
            clear e' e''
            subst e
            obtain ⟨q, o, e, c⟩ := rdrw_at m1 (i := j) (by rw [RlR.len H4.out]; exact hjb)
            injection e with e
            injection e with e e' e''
            subst e e'
            clear e''
            obtain ⟨po, pc, qo, qc, rs, e, -, -, -⟩ := rl_at H4.out hjb
            simp only [e] at c
            obtain ⟨a0, a1, a2, a3, a4, a5, a6, a7⟩ : _ ∧ _ ∧ _ ∧ _ ∧ _ ∧ _ ∧ _ ∧ _ := ⟨c 0 (by omega), c 1 (by omega), c 2 (by omega), c 3 (by omega), c 4 (by omega), c 5 (by omega), c 6 (by omega), c 7 (by omega)⟩
            simp only [List.getElem?_cons_zero, List.getElem?_cons_succ, Nat.add_zero, Nat.zero_add] at a0 a1 a2 a3 a4 a5 a6 a7
            have f2 := own_free d2 (j * 8 + 2)
            have f4 := own_free d2 (j * 8 + 4)
            have f7 := own_free d2 (j * 8 + 7)
            have hsz : w.heap.size ≤ w3.heap.size := (HBL.out _ HB3.out).size
            have HWAY := Lib.hid (fun (k : Nat) (u : Value) (y : Ru) (hk : k < 8) (hrow : (∀ r, RuR0 w r b.ru[j] → RuR0 w (r.set k u) y)) (hks : y.ts = b.ru[j].ts ∧ y.ss = b.ru[j].ss) (hne : y ≠ b.ru[j]) => cpd_ru (W := w) hcl6 d1 d2 d3 H2.out H4.out HK7.out hsz HM.out hjb hk hrow hks hne)
            generalize hyd : b.ru[j] = y at *
            clear c m1 d1 d2 d3 hcl6 hsz hyd e a0 a1 a3 a5 a6
            have hcs : n = 3 ∨ n = 4 ∨ n = 5 := by omega
            rcases hcs with hn | hn | hn
            · subst hn
              have HD := HWAY.out 4 (.bool (!y.wi)) { y with wi := !y.wi } (by omega) (fun r ⟨po, pc, qo, qc, rs, e, h1, h2, h3⟩ => ⟨po, pc, qo, qc, rs, by rw [e]; rfl, h1, h2, h3⟩)  ⟨rfl, rfl⟩ (fun e => by have := congrArg (fun t => t.wi) e; simp at this)
              obtain ⟨X, hX⟩ : ∃ X, w5.drew.setCell ⟨g, j * 8 + 4, none⟩ (.bool (!y.wi)) = X := ⟨_, rfl⟩
              have HD' : CpD w b bu X := by rw [← hX]; exact HD
              clear HD
              obtain ⟨qa, ra', wa', qc, rc', wc', c, hne, hMc, hcx, hBc, kX⟩ := HD'
              have HXB := Lib.hid kX
              have hXW : Below W.heap.size W X := (by rw [← hX]; exact (HB3.out.trans (HK6.out.mono HB3.out.size)).setCell (Nat.le_trans HB3.out.size hg) _)
              obtain ⟨⟨t0, t1⟩, t2⟩ := HCL.out _ hXW
              obtain ⟨v0, v1, v2⟩ : _ ∧ _ ∧ _ := ⟨cellRow hcx 0, cellRow hcx 1, cellRow hcx 2⟩
              have HXW := Lib.hid hXW
              have HCX := Lib.hid hcx
              have HBX := Lib.hid hBc
              have HMC := Lib.hid hMc
              have HNE := Lib.hid hne
              clear hXW hcx hBc hMc hne kX
              go_wp2_with fail
              refine (HS.out b c _ _ X HM.out HMC.out (HBR.out.below HXB.out) HBX.out (HI.out _ HXB.out)).mono ?_
              rintro e X2 ⟨rfl, b7⟩
              rw [decide_eq_false (fun e => HNE.out e.symm)]
              have HX2 := Lib.hid (HXB.out.trans (b7.mono HXB.out.size))
              obtain ⟨⟨t0', t1'⟩, t2'⟩ := HCL.out _ (HXW.out.trans (b7.mono HXW.out.size))
              have hcx2 := (b7.block _ (lt_of_block HCX.out)).trans HCX.out
              obtain ⟨v0', v1', v2'⟩ : _ ∧ _ ∧ _ := ⟨cellRow hcx2 0, cellRow hcx2 1, cellRow hcx2 2⟩
              have HBX2 := Lib.hid (HBX.out.below b7)
              clear t0 t1 t2 v0 v1 v2 hcx2 b7
              go_wp2_with fail
              refine (HS.out c b _ _ X2 HMC.out HM.out HBX2.out (HBR.out.below HX2.out) (HI.out _ HX2.out)).mono ?_
              rintro e X3 ⟨rfl, b8⟩
              rw [decide_eq_false HNE.out]
              have HX3 := Lib.hid (HX2.out.trans (b8.mono HX2.out.size))
              clear b8 t0' t1' t2' v0' v1' v2'
              go_wp2
              go_ret
              exact ⟨rfl, HX3.out⟩
            · subst hn
              have HD := HWAY.out 7 (.bool (!y.dr)) { y with dr := !y.dr } (by omega) (fun r ⟨po, pc, qo, qc, rs, e, h1, h2, h3⟩ => ⟨po, pc, qo, qc, rs, by rw [e]; rfl, h1, h2, h3⟩)  ⟨rfl, rfl⟩ (fun e => by have := congrArg (fun t => t.dr) e; simp at this)
              obtain ⟨X, hX⟩ : ∃ X, w5.drew.setCell ⟨g, j * 8 + 7, none⟩ (.bool (!y.dr)) = X := ⟨_, rfl⟩
              have HD' : CpD w b bu X := by rw [← hX]; exact HD
              clear HD
              obtain ⟨qa, ra', wa', qc, rc', wc', c, hne, hMc, hcx, hBc, kX⟩ := HD'
              have HXB := Lib.hid kX
              have hXW : Below W.heap.size W X := (by rw [← hX]; exact (HB3.out.trans (HK6.out.mono HB3.out.size)).setCell (Nat.le_trans HB3.out.size hg) _)
              obtain ⟨⟨t0, t1⟩, t2⟩ := HCL.out _ hXW
              obtain ⟨v0, v1, v2⟩ : _ ∧ _ ∧ _ := ⟨cellRow hcx 0, cellRow hcx 1, cellRow hcx 2⟩
              have HXW := Lib.hid hXW
              have HCX := Lib.hid hcx
              have HBX := Lib.hid hBc
              have HMC := Lib.hid hMc
              have HNE := Lib.hid hne
              clear hXW hcx hBc hMc hne kX
              go_wp2_with fail
              refine (HS.out b c _ _ X HM.out HMC.out (HBR.out.below HXB.out) HBX.out (HI.out _ HXB.out)).mono ?_
              rintro e X2 ⟨rfl, b7⟩
              rw [decide_eq_false (fun e => HNE.out e.symm)]
              have HX2 := Lib.hid (HXB.out.trans (b7.mono HXB.out.size))
              obtain ⟨⟨t0', t1'⟩, t2'⟩ := HCL.out _ (HXW.out.trans (b7.mono HXW.out.size))
              have hcx2 := (b7.block _ (lt_of_block HCX.out)).trans HCX.out
              obtain ⟨v0', v1', v2'⟩ : _ ∧ _ ∧ _ := ⟨cellRow hcx2 0, cellRow hcx2 1, cellRow hcx2 2⟩
              have HBX2 := Lib.hid (HBX.out.below b7)
              clear t0 t1 t2 v0 v1 v2 hcx2 b7
              go_wp2_with fail
              refine (HS.out c b _ _ X2 HMC.out HM.out HBX2.out (HBR.out.below HX2.out) (HI.out _ HX2.out)).mono ?_
              rintro e X3 ⟨rfl, b8⟩
              rw [decide_eq_false HNE.out]
              have HX3 := Lib.hid (HX2.out.trans (b8.mono HX2.out.size))
              clear b8 t0' t1' t2' v0' v1' v2'
              go_wp2
              go_ret
              exact ⟨rfl, HX3.out⟩
            · subst hn
              have HD := HWAY.out 2 (.int .i64 (bits .xor .i64 y.fr 1)) { y with fr := bits .xor .i64 y.fr 1 } (by omega) (fun r ⟨po, pc, qo, qc, rs, e, h1, h2, h3⟩ => ⟨po, pc, qo, qc, rs, by rw [e]; rfl, h1, h2, h3⟩)  ⟨rfl, rfl⟩ (fun e => xor_ne y.fr (congrArg (fun t => t.fr) e))
              obtain ⟨X, hX⟩ : ∃ X, w5.drew.setCell ⟨g, j * 8 + 2, none⟩ (.int .i64 (bits .xor .i64 y.fr 1)) = X := ⟨_, rfl⟩
              have HD' : CpD w b bu X := by rw [← hX]; exact HD
              clear HD
              obtain ⟨qa, ra', wa', qc, rc', wc', c, hne, hMc, hcx, hBc, kX⟩ := HD'
              have HXB := Lib.hid kX
              have hXW : Below W.heap.size W X := (by rw [← hX]; exact (HB3.out.trans (HK6.out.mono HB3.out.size)).setCell (Nat.le_trans HB3.out.size hg) _)
              obtain ⟨⟨t0, t1⟩, t2⟩ := HCL.out _ hXW
              obtain ⟨v0, v1, v2⟩ : _ ∧ _ ∧ _ := ⟨cellRow hcx 0, cellRow hcx 1, cellRow hcx 2⟩
              have HXW := Lib.hid hXW
              have HCX := Lib.hid hcx
              have HBX := Lib.hid hBc
              have HMC := Lib.hid hMc
              have HNE := Lib.hid hne
              clear hXW hcx hBc hMc hne kX
              go_wp2_with fail
              refine (HS.out b c _ _ X HM.out HMC.out (HBR.out.below HXB.out) HBX.out (HI.out _ HXB.out)).mono ?_
              rintro e X2 ⟨rfl, b7⟩
              rw [decide_eq_false (fun e => HNE.out e.symm)]
              have HX2 := Lib.hid (HXB.out.trans (b7.mono HXB.out.size))
              obtain ⟨⟨t0', t1'⟩, t2'⟩ := HCL.out _ (HXW.out.trans (b7.mono HXW.out.size))
              have hcx2 := (b7.block _ (lt_of_block HCX.out)).trans HCX.out
              obtain ⟨v0', v1', v2'⟩ : _ ∧ _ ∧ _ := ⟨cellRow hcx2 0, cellRow hcx2 1, cellRow hcx2 2⟩
              have HBX2 := Lib.hid (HBX.out.below b7)
              clear t0 t1 t2 v0 v1 v2 hcx2 b7
              go_wp2_with fail
              refine (HS.out c b _ _ X2 HMC.out HM.out HBX2.out (HBR.out.below HX2.out) (HI.out _ HX2.out)).mono ?_
              rintro e X3 ⟨rfl, b8⟩
              rw [decide_eq_false HNE.out]
              have HX3 := Lib.hid (HX2.out.trans (b8.mono HX2.out.size))
              clear b8 t0' t1' t2' v0' v1' v2'
              go_wp2
              go_ret
              exact ⟨rfl, HX3.out⟩
          · have L1 : ¬ (0 : Int) < ((b.ru.length : Nat) : Int) := by omega
            by_cases hW : 0 < b.wt.length
            · have hLN := HLN.out
              have hL : 0 < b.wt.length := by omega
              have L9 : (0 : Int) < ((b.wt.length : Nat) : Int) := by omega
              obtain ⟨ao, cap, e, -, -, hsh⟩ := HO3.out.form (by decide)
              injection e with e e' e''
              clear e' e''
              subst e
              rcases hsh with ⟨-, hz, -⟩ | ⟨g, rfl, hg⟩
              · rw [List.length_map] at hz; omega
              obtain ⟨N, hNd⟩ : ∃ N, b.wt.length = N := ⟨_, rfl⟩
              rw [hNd] at y2 L9 hL
              have hN3 : N < 100 := by rw [← hNd]; exact hLN.2.2
              obtain ⟨j, hjd⟩ : ∃ j, a % N = j := ⟨_, rfl⟩
              have hj : j < N := by rw [← hjd]; exact Nat.mod_lt _ hL
              have zr : ((a : Nat) : Int).tmod ((N : Nat) : Int) = ((j : Nat) : Int) := by rw [← hjd]; exact (Int.ofNat_tmod a N).symm
              have hji : ((j : Nat) : Int) < ((N : Nat) : Int) := by omega
              have hne1 : ¬ ((N : Nat) : Int) = 0 := by omega
              have hne2 : ¬ N = 0 := by omega
              have HND := Lib.hid hNd
              have HJ := Lib.hid hj
              clear hNd hLN hjd hj hL
              go_wp2_with fail
              go_region_held3 (fun z => z.cell? ⟨bu, 2, none⟩ = some (.slice (some ⟨g, 0, none⟩) N zc)) (first | exact y2) (fail)
              have hjb : j < b.wt.length := by rw [HND.out]; exact HJ.out
              have HK6 := Lib.hid (below_dq (HKB.out.trans (HB5.out.mono HKB.out.size)))
              have HK7 := Lib.hid (HBL.out _ (HB3.out.trans (HK6.out.mono HB3.out.size)))
              have d1 := HO1.out.below (below_dq HB5.out)
              have d2 := HO2.out.below (below_dq HB5.out)
              have d3 := HO3.out.below (below_dq HB5.out)
              have hcl6 : w5.drew.heap[bu]? = some (.cells #[.slice xa b.tb.length xc, .slice ya b.ru.length yc, .slice (some ⟨g, 0, none⟩) b.wt.length zc] 27 (0, 0)) := HCC.out
              obtain ⟨ao, cap, e, -, m1, -⟩ := d3.form (by decide)
              injection e with e e' e''
              clear e' e''
              subst e
              obtain ⟨q, o, e, c⟩ := rdrw_at m1 (i := j) (by rw [List.length_map]; exact hjb)
              injection e with e
              injection e with e e' e''
              subst e e'
              clear e''
              simp only [map_at hjb] at c
              unfold wtRow at c
              obtain ⟨a0, a1, a2, a3, a4, a5, a6, a7, a8, a9⟩ : _ ∧ _ ∧ _ ∧ _ ∧ _ ∧ _ ∧ _ ∧ _ ∧ _ ∧ _ := ⟨c 0 (by omega), c 1 (by omega), c 2 (by omega), c 3 (by omega), c 4 (by omega), c 5 (by omega), c 6 (by omega), c 7 (by omega), c 8 (by omega), c 9 (by omega)⟩
              simp only [List.getElem?_cons_zero, List.getElem?_cons_succ, Nat.add_zero, Nat.zero_add] at a0 a1 a2 a3 a4 a5 a6 a7 a8 a9
              have f5 := own_free d3 (j * 10 + 5)
              have hsz : w.heap.size ≤ w3.heap.size := (HBL.out _ HB3.out).size
              have HWAY := Lib.hid (fun (k : Nat) (u : Value) (y : Wt) (hk : k < 10) (hrow : (wtRow y = (wtRow b.wt[j]).set k u)) (hne : y ≠ b.wt[j]) => cpd_wt (W := w) hcl6 d1 d2 d3 H2.out H4.out HK7.out hsz HM.out hjb hk hrow hne)
              generalize hyd : b.wt[j] = y at *
              clear c m1 d1 d2 d3 hcl6 hsz hyd a0 a1 a2 a3 a4 a6 a7 a8 a9
              have HD := HWAY.out 5 (.int .i64 (bits .xor .i64 y.ct 1)) { y with ct := bits .xor .i64 y.ct 1 } (by omega) rfl  (fun e => xor_ne y.ct (congrArg (fun t => t.ct) e))
              obtain ⟨X, hX⟩ : ∃ X, w5.drew.setCell ⟨g, j * 10 + 5, none⟩ (.int .i64 (bits .xor .i64 y.ct 1)) = X := ⟨_, rfl⟩
              have HD' : CpD w b bu X := by rw [← hX]; exact HD
              clear HD
              obtain ⟨qa, ra', wa', qc, rc', wc', c, hne, hMc, hcx, hBc, kX⟩ := HD'
              have HXB := Lib.hid kX
              have hXW : Below W.heap.size W X := (by rw [← hX]; exact (HB3.out.trans (HK6.out.mono HB3.out.size)).setCell (Nat.le_trans HB3.out.size hg) _)
              obtain ⟨⟨t0, t1⟩, t2⟩ := HCL.out _ hXW
              obtain ⟨v0, v1, v2⟩ : _ ∧ _ ∧ _ := ⟨cellRow hcx 0, cellRow hcx 1, cellRow hcx 2⟩
              have HXW := Lib.hid hXW
              have HCX := Lib.hid hcx
              have HBX := Lib.hid hBc
              have HMC := Lib.hid hMc
              have HNE := Lib.hid hne
              clear hXW hcx hBc hMc hne kX
              go_wp2_with fail
              refine (HS.out b c _ _ X HM.out HMC.out (HBR.out.below HXB.out) HBX.out (HI.out _ HXB.out)).mono ?_
              rintro e X2 ⟨rfl, b7⟩
              rw [decide_eq_false (fun e => HNE.out e.symm)]
              have HX2 := Lib.hid (HXB.out.trans (b7.mono HXB.out.size))
              obtain ⟨⟨t0', t1'⟩, t2'⟩ := HCL.out _ (HXW.out.trans (b7.mono HXW.out.size))
              have hcx2 := (b7.block _ (lt_of_block HCX.out)).trans HCX.out
              obtain ⟨v0', v1', v2'⟩ : _ ∧ _ ∧ _ := ⟨cellRow hcx2 0, cellRow hcx2 1, cellRow hcx2 2⟩
              have HBX2 := Lib.hid (HBX.out.below b7)
              clear t0 t1 t2 v0 v1 v2 hcx2 b7
              go_wp2_with fail
              refine (HS.out c b _ _ X2 HMC.out HM.out HBX2.out (HBR.out.below HX2.out) (HI.out _ HX2.out)).mono ?_
              rintro e X3 ⟨rfl, b8⟩
              rw [decide_eq_false HNE.out]
              have HX3 := Lib.hid (HX2.out.trans (b8.mono HX2.out.size))
              clear b8 t0' t1' t2' v0' v1' v2'
              go_wp2
              go_ret
              exact ⟨rfl, HX3.out⟩
            · have L8 : ¬ (0 : Int) < ((b.wt.length : Nat) : Int) := by omega
              have bN := alloc_below w5 (.cells #[.string (bs []), .int .i64 0, .int .i64 0, .string (bs []), .bool false, .slice none 0 0, .slice none 0 0, .bool false] 38)
              have HK6 := Lib.hid ((HKB.out.trans (HB5.out.mono HKB.out.size)).trans (bN.mono (HKB.out.trans (HB5.out.mono HKB.out.size)).size))
              have HK7 := Lib.hid (HBL.out _ (HB3.out.trans (HK6.out.mono HB3.out.size)))
              have HK8 := Lib.hid (HB3.out.trans (HK6.out.mono HB3.out.size))
              have d1 := (HO1.out.below HB5.out).below bN
              have d2 := (HO2.out.below HB5.out).below bN
              have d3 := (HO3.out.below HB5.out).below bN
              have hcl7 := (bN.block _ (lt_of_block HCC.out)).trans HCC.out
              have hsz : w.heap.size ≤ w3.heap.size := (HBL.out _ HB3.out).size
              have HX2 := Lib.hid (rowNew w5 (.cells #[.string (bs []), .int .i64 0, .int .i64 0, .string (bs []), .bool false, .slice none 0 0, .slice none 0 0, .bool false] 38))
              have HOA := Lib.hid d2
              have HLA := Lib.hid (show rr.length ≤ 1000000 by rw [RlR.len H4.out]; have := HLN.out; omega)
              have HSA := Lib.hid HK6.out.size
              have AFT := Lib.hid (fun (v' : Value) (x : World) (hn : OwnR x w3.heap.size 38 8 v' (rr ++ [zrV])) (k : (w5.alloc (.cells #[.string (bs []), .int .i64 0, .int .i64 0, .string (bs []), .bool false, .slice none 0 0, .slice none 0 0, .bool false] 38)).grownBy x (Value.ownBlock (.slice ya b.ru.length yc))) => (show (∃ ya' yc', v' = .slice ya' (b.ru.length + 1) yc' ∧ x.cell? ⟨bu, 1, none⟩ = some (.slice ya b.ru.length yc) ∧ x.frozen? ⟨bu, 1, none⟩ = false ∧ CpD w b bu (x.setCell ⟨bu, 1, none⟩ (.slice ya' (b.ru.length + 1) yc'))) ∧ ∀ u, Below W.heap.size W (x.setCell ⟨bu, 1, none⟩ u) from
                ⟨cpd_app (W := w) hcl7 d1 d2 d3 H2.out H4.out HK7.out hsz (Nat.le_trans hsz HBU.out) HM.out HLN.out.2.1 hn k, fun u => (HK8.out.grown k HK8.out.size (fun g e => Nat.le_trans HB3.out.size (World.ownsRow.lt d2.1 g e).1)).setCell (Nat.le_trans HB3.out.size HBU.out) u⟩))
              clear bN d1 d2 d3 hcl7 hsz
              go_wp2_with (refine appRwX rfl rfl Tryz.underlying24 ruinfo rfl (by decide) (by decide) _ rfl HOA.out w5.heap.size zrV rfl HX2.out rfl rfl (by intro u hu; simp [zrV] at hu; rcases hu with rfl | rfl | rfl | rfl | rfl | rfl | rfl | rfl <;> rfl) HLA.out HSA.out ?_; intro v3 x3 m3 g3 l3; obtain ⟨⟨ya', yc', rfl, z3, f3, HD'⟩, kW⟩ := AFT.out _ _ m3 g3; have KW := Lib.hid (kW (.slice ya' (b.ru.length + 1) yc')); obtain ⟨X, hX⟩ : ∃ X, x3.setCell ⟨bu, 1, none⟩ (.slice ya' (b.ru.length + 1) yc') = X := ⟨_, rfl⟩; rw [hX] at HD' KW; obtain ⟨qa, ra', wa', qc, rc', wc', c, hne, hMc, hcx, hBc, kX⟩ := HD'; have HXB := Lib.hid kX; have hXW : Below W.heap.size W X := KW.out; obtain ⟨⟨t0, t1⟩, t2⟩ := HCL.out _ hXW; obtain ⟨v0, v1, v2⟩ : _ ∧ _ ∧ _ := ⟨cellRow hcx 0, cellRow hcx 1, cellRow hcx 2⟩; have HXW := Lib.hid hXW; have HCX := Lib.hid hcx; have HBX := Lib.hid hBc; have HMC := Lib.hid hMc; have HNE := Lib.hid hne; clear hXW hcx hBc hMc hne kX; clear m3 g3 l3 kW)
              refine (HS.out b c _ _ X HM.out HMC.out (HBR.out.below HXB.out) HBX.out (HI.out _ HXB.out)).mono ?_
              rintro e X2 ⟨rfl, b7⟩
              rw [decide_eq_false (fun e => HNE.out e.symm)]
              have HX2 := Lib.hid (HXB.out.trans (b7.mono HXB.out.size))
              obtain ⟨⟨t0', t1'⟩, t2'⟩ := HCL.out _ (HXW.out.trans (b7.mono HXW.out.size))
              have hcx2 := (b7.block _ (lt_of_block HCX.out)).trans HCX.out
              obtain ⟨v0', v1', v2'⟩ : _ ∧ _ ∧ _ := ⟨cellRow hcx2 0, cellRow hcx2 1, cellRow hcx2 2⟩
              have HBX2 := Lib.hid (HBX.out.below b7)
              clear t0 t1 t2 v0 v1 v2 hcx2 b7
              go_wp2_with fail
              refine (HS.out c b _ _ X2 HMC.out HM.out HBX2.out (HBR.out.below HX2.out) (HI.out _ HX2.out)).mono ?_
              rintro e X3 ⟨rfl, b8⟩
              rw [decide_eq_false HNE.out]
              have HX3 := Lib.hid (HX2.out.trans (b8.mono HX2.out.size))
              clear b8 t0' t1' t2' v0' v1' v2'
              go_wp2
              go_ret
              exact ⟨rfl, HX3.out⟩
        · by_cases hW : 0 < b.wt.length
          · have hLN := HLN.out
            have hL : 0 < b.wt.length := by omega
            have L9 : (0 : Int) < ((b.wt.length : Nat) : Int) := by omega
            obtain ⟨ao, cap, e, -, -, hsh⟩ := HO3.out.form (by decide)
            injection e with e e' e''
            clear e' e''
            subst e
            rcases hsh with ⟨-, hz, -⟩ | ⟨g, rfl, hg⟩
            · rw [List.length_map] at hz; omega
            obtain ⟨N, hNd⟩ : ∃ N, b.wt.length = N := ⟨_, rfl⟩
            rw [hNd] at y2 L9 hL
            have hN3 : N < 100 := by rw [← hNd]; exact hLN.2.2
            obtain ⟨j, hjd⟩ : ∃ j, a % N = j := ⟨_, rfl⟩
            have hj : j < N := by rw [← hjd]; exact Nat.mod_lt _ hL
            have zr : ((a : Nat) : Int).tmod ((N : Nat) : Int) = ((j : Nat) : Int) := by rw [← hjd]; exact (Int.ofNat_tmod a N).symm
            have hji : ((j : Nat) : Int) < ((N : Nat) : Int) := by omega
            have hne1 : ¬ ((N : Nat) : Int) = 0 := by omega
            have hne2 : ¬ N = 0 := by omega
            have HND := Lib.hid hNd
            have HJ := Lib.hid hj
            clear hNd hLN hjd hj hL
            go_wp2_with fail
            go_region_held3 (fun z => z.cell? ⟨bu, 2, none⟩ = some (.slice (some ⟨g, 0, none⟩) N zc)) (first | exact y2) (fail)
            have hjb : j < b.wt.length := by rw [HND.out]; exact HJ.out
            have HK6 := Lib.hid (below_dq (HKB.out.trans (HB5.out.mono HKB.out.size)))
            have HK7 := Lib.hid (HBL.out _ (HB3.out.trans (HK6.out.mono HB3.out.size)))
            have d1 := HO1.out.below (below_dq HB5.out)
            have d2 := HO2.out.below (below_dq HB5.out)
            have d3 := HO3.out.below (below_dq HB5.out)
            have hcl6 : w5.drew.heap[bu]? = some (.cells #[.slice xa b.tb.length xc, .slice ya b.ru.length yc, .slice (some ⟨g, 0, none⟩) b.wt.length zc] 27 (0, 0)) := HCC.out
            obtain ⟨ao, cap, e, -, m1, -⟩ := d3.form (by decide)
            injection e with e e' e''
            clear e' e''
            subst e
            obtain ⟨q, o, e, c⟩ := rdrw_at m1 (i := j) (by rw [List.length_map]; exact hjb)
            injection e with e
            injection e with e e' e''
            subst e e'
            clear e''
            simp only [map_at hjb] at c
            unfold wtRow at c
            obtain ⟨a0, a1, a2, a3, a4, a5, a6, a7, a8, a9⟩ : _ ∧ _ ∧ _ ∧ _ ∧ _ ∧ _ ∧ _ ∧ _ ∧ _ ∧ _ := ⟨c 0 (by omega), c 1 (by omega), c 2 (by omega), c 3 (by omega), c 4 (by omega), c 5 (by omega), c 6 (by omega), c 7 (by omega), c 8 (by omega), c 9 (by omega)⟩
            simp only [List.getElem?_cons_zero, List.getElem?_cons_succ, Nat.add_zero, Nat.zero_add] at a0 a1 a2 a3 a4 a5 a6 a7 a8 a9
            have f5 := own_free d3 (j * 10 + 5)
            have hsz : w.heap.size ≤ w3.heap.size := (HBL.out _ HB3.out).size
            have HWAY := Lib.hid (fun (k : Nat) (u : Value) (y : Wt) (hk : k < 10) (hrow : (wtRow y = (wtRow b.wt[j]).set k u)) (hne : y ≠ b.wt[j]) => cpd_wt (W := w) hcl6 d1 d2 d3 H2.out H4.out HK7.out hsz HM.out hjb hk hrow hne)
            generalize hyd : b.wt[j] = y at *
            clear c m1 d1 d2 d3 hcl6 hsz hyd a0 a1 a2 a3 a4 a6 a7 a8 a9
            have HD := HWAY.out 5 (.int .i64 (bits .xor .i64 y.ct 1)) { y with ct := bits .xor .i64 y.ct 1 } (by omega) rfl  (fun e => xor_ne y.ct (congrArg (fun t => t.ct) e))
            obtain ⟨X, hX⟩ : ∃ X, w5.drew.setCell ⟨g, j * 10 + 5, none⟩ (.int .i64 (bits .xor .i64 y.ct 1)) = X := ⟨_, rfl⟩
            have HD' : CpD w b bu X := by rw [← hX]; exact HD
            clear HD
            obtain ⟨qa, ra', wa', qc, rc', wc', c, hne, hMc, hcx, hBc, kX⟩ := HD'
            have HXB := Lib.hid kX
            have hXW : Below W.heap.size W X := (by rw [← hX]; exact (HB3.out.trans (HK6.out.mono HB3.out.size)).setCell (Nat.le_trans HB3.out.size hg) _)
            obtain ⟨⟨t0, t1⟩, t2⟩ := HCL.out _ hXW
            obtain ⟨v0, v1, v2⟩ : _ ∧ _ ∧ _ := ⟨cellRow hcx 0, cellRow hcx 1, cellRow hcx 2⟩
            have HXW := Lib.hid hXW
            have HCX := Lib.hid hcx
            have HBX := Lib.hid hBc
            have HMC := Lib.hid hMc
            have HNE := Lib.hid hne
            clear hXW hcx hBc hMc hne kX
            go_wp2_with fail
            refine (HS.out b c _ _ X HM.out HMC.out (HBR.out.below HXB.out) HBX.out (HI.out _ HXB.out)).mono ?_
            rintro e X2 ⟨rfl, b7⟩
            rw [decide_eq_false (fun e => HNE.out e.symm)]
            have HX2 := Lib.hid (HXB.out.trans (b7.mono HXB.out.size))
            obtain ⟨⟨t0', t1'⟩, t2'⟩ := HCL.out _ (HXW.out.trans (b7.mono HXW.out.size))
            have hcx2 := (b7.block _ (lt_of_block HCX.out)).trans HCX.out
            obtain ⟨v0', v1', v2'⟩ : _ ∧ _ ∧ _ := ⟨cellRow hcx2 0, cellRow hcx2 1, cellRow hcx2 2⟩
            have HBX2 := Lib.hid (HBX.out.below b7)
            clear t0 t1 t2 v0 v1 v2 hcx2 b7
            go_wp2_with fail
            refine (HS.out c b _ _ X2 HMC.out HM.out HBX2.out (HBR.out.below HX2.out) (HI.out _ HX2.out)).mono ?_
            rintro e X3 ⟨rfl, b8⟩
            rw [decide_eq_false HNE.out]
            have HX3 := Lib.hid (HX2.out.trans (b8.mono HX2.out.size))
            clear b8 t0' t1' t2' v0' v1' v2'
            go_wp2
            go_ret
            exact ⟨rfl, HX3.out⟩
          · have L8 : ¬ (0 : Int) < ((b.wt.length : Nat) : Int) := by omega
            have bN := alloc_below w5 (.cells #[.string (bs []), .int .i64 0, .int .i64 0, .string (bs []), .bool false, .slice none 0 0, .slice none 0 0, .bool false] 38)
            have HK6 := Lib.hid ((HKB.out.trans (HB5.out.mono HKB.out.size)).trans (bN.mono (HKB.out.trans (HB5.out.mono HKB.out.size)).size))
            have HK7 := Lib.hid (HBL.out _ (HB3.out.trans (HK6.out.mono HB3.out.size)))
            have HK8 := Lib.hid (HB3.out.trans (HK6.out.mono HB3.out.size))
            have d1 := (HO1.out.below HB5.out).below bN
            have d2 := (HO2.out.below HB5.out).below bN
            have d3 := (HO3.out.below HB5.out).below bN
            have hcl7 := (bN.block _ (lt_of_block HCC.out)).trans HCC.out
            have hsz : w.heap.size ≤ w3.heap.size := (HBL.out _ HB3.out).size
            have HX2 := Lib.hid (rowNew w5 (.cells #[.string (bs []), .int .i64 0, .int .i64 0, .string (bs []), .bool false, .slice none 0 0, .slice none 0 0, .bool false] 38))
            have HOA := Lib.hid d2
            have HLA := Lib.hid (show rr.length ≤ 1000000 by rw [RlR.len H4.out]; have := HLN.out; omega)
            have HSA := Lib.hid HK6.out.size
            have AFT := Lib.hid (fun (v' : Value) (x : World) (hn : OwnR x w3.heap.size 38 8 v' (rr ++ [zrV])) (k : (w5.alloc (.cells #[.string (bs []), .int .i64 0, .int .i64 0, .string (bs []), .bool false, .slice none 0 0, .slice none 0 0, .bool false] 38)).grownBy x (Value.ownBlock (.slice ya b.ru.length yc))) => (show (∃ ya' yc', v' = .slice ya' (b.ru.length + 1) yc' ∧ x.cell? ⟨bu, 1, none⟩ = some (.slice ya b.ru.length yc) ∧ x.frozen? ⟨bu, 1, none⟩ = false ∧ CpD w b bu (x.setCell ⟨bu, 1, none⟩ (.slice ya' (b.ru.length + 1) yc'))) ∧ ∀ u, Below W.heap.size W (x.setCell ⟨bu, 1, none⟩ u) from
              ⟨cpd_app (W := w) hcl7 d1 d2 d3 H2.out H4.out HK7.out hsz (Nat.le_trans hsz HBU.out) HM.out HLN.out.2.1 hn k, fun u => (HK8.out.grown k HK8.out.size (fun g e => Nat.le_trans HB3.out.size (World.ownsRow.lt d2.1 g e).1)).setCell (Nat.le_trans HB3.out.size HBU.out) u⟩))
            clear bN d1 d2 d3 hcl7 hsz
            go_wp2_with (refine appRwX rfl rfl Tryz.underlying24 ruinfo rfl (by decide) (by decide) _ rfl HOA.out w5.heap.size zrV rfl HX2.out rfl rfl (by intro u hu; simp [zrV] at hu; rcases hu with rfl | rfl | rfl | rfl | rfl | rfl | rfl | rfl <;> rfl) HLA.out HSA.out ?_; intro v3 x3 m3 g3 l3; obtain ⟨⟨ya', yc', rfl, z3, f3, HD'⟩, kW⟩ := AFT.out _ _ m3 g3; have KW := Lib.hid (kW (.slice ya' (b.ru.length + 1) yc')); obtain ⟨X, hX⟩ : ∃ X, x3.setCell ⟨bu, 1, none⟩ (.slice ya' (b.ru.length + 1) yc') = X := ⟨_, rfl⟩; rw [hX] at HD' KW; obtain ⟨qa, ra', wa', qc, rc', wc', c, hne, hMc, hcx, hBc, kX⟩ := HD'; have HXB := Lib.hid kX; have hXW : Below W.heap.size W X := KW.out; obtain ⟨⟨t0, t1⟩, t2⟩ := HCL.out _ hXW; obtain ⟨v0, v1, v2⟩ : _ ∧ _ ∧ _ := ⟨cellRow hcx 0, cellRow hcx 1, cellRow hcx 2⟩; have HXW := Lib.hid hXW; have HCX := Lib.hid hcx; have HBX := Lib.hid hBc; have HMC := Lib.hid hMc; have HNE := Lib.hid hne; clear hXW hcx hBc hMc hne kX; clear m3 g3 l3 kW)
            refine (HS.out b c _ _ X HM.out HMC.out (HBR.out.below HXB.out) HBX.out (HI.out _ HXB.out)).mono ?_
            rintro e X2 ⟨rfl, b7⟩
            rw [decide_eq_false (fun e => HNE.out e.symm)]
            have HX2 := Lib.hid (HXB.out.trans (b7.mono HXB.out.size))
            obtain ⟨⟨t0', t1'⟩, t2'⟩ := HCL.out _ (HXW.out.trans (b7.mono HXW.out.size))
            have hcx2 := (b7.block _ (lt_of_block HCX.out)).trans HCX.out
            obtain ⟨v0', v1', v2'⟩ : _ ∧ _ ∧ _ := ⟨cellRow hcx2 0, cellRow hcx2 1, cellRow hcx2 2⟩
            have HBX2 := Lib.hid (HBX.out.below b7)
            clear t0 t1 t2 v0 v1 v2 hcx2 b7
            go_wp2_with fail
            refine (HS.out c b _ _ X2 HMC.out HM.out HBX2.out (HBR.out.below HX2.out) (HI.out _ HX2.out)).mono ?_
            rintro e X3 ⟨rfl, b8⟩
            rw [decide_eq_false HNE.out]
            have HX3 := Lib.hid (HX2.out.trans (b8.mono HX2.out.size))
            clear b8 t0' t1' t2' v0' v1' v2'
            go_wp2
            go_ret
            exact ⟨rfl, HX3.out⟩
end Go.Proofs.YtaeglmgpoboihaaGreatDoor
