/- Texts on the program and on the document, joined: PaqS. -/
import Derived.Test.YtaeglmgpoboihaaGreatDoorMa24
import Derived.Test.YtaeglmgpoboihaaGreatDoorMa17
/- The program's reader of rules: book, walked. gen_paqs.py writes it. -/
namespace Go.Proofs.YtaeglmgpoboihaaGreatDoor
open Go.ChangeShapes Go.WideShapes Go.ChangeAt Go.RowKit K L15 S3
open L14 (Tk)
set_option linter.unusedVariables false
namespace PQ
theorem jtbs_b {w w' : World} {b : Nat} {T : List Tk} {ao : Option Addr} {cap last : Nat} {s : Pi} {rs : List (List Value)} {l : List Tb} (h : TbsR w rs l) (hi : JnR w b T ao cap last s) (hU : 68 ≠ 58) (k : Kp [b] w w') : TbsR w' rs l := h.keep fun _ _ x => jrd_b x hi hU k
theorem jrus_b {w w' : World} {b : Nat} {T : List Tk} {ao : Option Addr} {cap last : Nat} {s : Pi} {rs : List (List Value)} {l : List Ru} (h : RusR w rs l) (hi : JnR w b T ao cap last s) (hU : 83 ≠ 58 ∧ 53 ≠ 58 ∧ 50 ≠ 58) (k : Kp [b] w w') : RusR w' rs l := h.keep (fun _ _ x => jrd_b x hi hU.1 k) (fun _ _ x => jrd_b x hi hU.2.1 k) (fun _ _ x => jrd_b x hi hU.2.2 k)
theorem more_rest {T : List Tk} {s : Pi} (h : rest T s = []) : more T s = false := by
  cases hb : s.bad with
  | some l => exact more_bad (by rw [hb]; simp)
  | none =>
    rw [rest_ok hb] at h
    exact more_end (by have := List.drop_eq_nil_iff.1 h; omega)
/-- The rounds: bk the document's book, pk the program's (the same, until it is wrong). -/
def ByRel (w : World) (b : Nat) (T : List Tk) (ao : Option Addr) (cap last : Nat) (s : Pi) (g : Nat) (wr : World) : Prop :=
  ∃ (sx : Pi) (bk pk : Bk) (ta : Option Addr) (tc : Nat) (ra : Option Addr) (rc : Nat) (wa : Option Addr) (wc : Nat) (rt rr : List (List Value)), books T last (T.length + 2) noBk s = books T last g bk sx ∧ (sx.bad = none → T.length + 2 ≤ g + sx.p) ∧ (sx.bad = none → pk = bk) ∧ (pk.tb.length ≤ sx.p ∧ pk.ru.length ≤ sx.p ∧ pk.wt.length ≤ sx.p ∧ rt.length = pk.tb.length ∧ rr.length = pk.ru.length) ∧ JnP w b T ao cap last sx wr ∧ wr.heap[w.heap.size]? = some (.cells #[.slice none 0 0, .slice none 0 0, .slice none 0 0] 27 (0, 0)) ∧ wr.heap[w.heap.size + 1]? = some (.cells #[.slice ta pk.tb.length tc, .slice ra pk.ru.length rc, .slice wa pk.wt.length wc] 27 (0, 0)) ∧ OwnR wr w.heap.size 34 4 (.slice ta pk.tb.length tc) rt ∧ TbsR wr rt pk.tb ∧ OwnR wr w.heap.size 38 8 (.slice ra pk.ru.length rc) rr ∧ RusR wr rr pk.ru ∧ OwnR wr w.heap.size 40 10 (.slice wa pk.wt.length wc) (pk.wt.map wtRow)
set_option maxRecDepth 100000 in
set_option maxHeartbeats 4000000 in
theorem pbook_walk (b : Nat) (T : List Tk) (ao : Option Addr) (cap last : Nat) (s : Pi) (hs0 : s.p = 0) (w : World) (h : JnR w b T ao cap last s) :
    Calls Tryz.prog 12 #[.pointer (some ⟨b, 0, none⟩)] w fun e w' => ∃ p : Bv, e = .returned p.v ∧ BkO w' w.heap.size p ∧ JnP w b T ao cap last (books T last (T.length + 2) noBk s).2 w' ∧ ((books T last (T.length + 2) noBk s).2.bad = none → p.b = (books T last (T.length + 2) noBk s).1) := by
  have hlt := h.lt
  have hTL := h.few.1
  have a1 : Below w.heap.size w (w.alloc (.cells #[.slice none 0 0, .slice none 0 0, .slice none 0 0] 27)) := (Below.refl _ _).alloc (Nat.le_refl _) _
  have a2 : Below w.heap.size w ((w.alloc (.cells #[.slice none 0 0, .slice none 0 0, .slice none 0 0] 27)).alloc (.cells #[.slice none 0 0, .slice none 0 0, .slice none 0 0] 27)) := a1.alloc a1.size _
  have r1 := rowNew w (.cells #[.slice none 0 0, .slice none 0 0, .slice none 0 0] 27)
  have hsz : (w.alloc (.cells #[.slice none 0 0, .slice none 0 0, .slice none 0 0] 27)).heap.size = w.heap.size + 1 := World.size_alloc w _
  have r2 := rowNew (w.alloc (.cells #[.slice none 0 0, .slice none 0 0, .slice none 0 0] 27)) (.cells #[.slice none 0 0, .slice none 0 0, .slice none 0 0] 27)
  rw [hsz] at r2
  have HRr := Lib.hid ((((Below.refl (w.alloc (.cells #[.slice none 0 0, .slice none 0 0, .slice none 0 0] 27)).heap.size (w.alloc (.cells #[.slice none 0 0, .slice none 0 0, .slice none 0 0] 27))).alloc (Nat.le_refl _) (.cells #[.slice none 0 0, .slice none 0 0, .slice none 0 0] 27)).block w.heap.size (by rw [hsz]; omega)).trans r1)
  have HRv := Lib.hid r2
  have HP := Lib.hid (show JnP w b T ao cap last s ((w.alloc (.cells #[.slice none 0 0, .slice none 0 0, .slice none 0 0] 27)).alloc (.cells #[.slice none 0 0, .slice none 0 0, .slice none 0 0] 27)) from ⟨h.below a2, Kp.ofBelow a2 [b]⟩)
  have Nr : w.heap.size ≠ b := by omega
  have Lr : w.heap.size ≤ w.heap.size := Nat.le_refl _
  have Nv : w.heap.size + 1 ≠ b := by omega
  have Lv : w.heap.size ≤ w.heap.size + 1 := by omega
  have Mv : b < w.heap.size + 1 := by omega
  have Drv : w.heap.size ≠ w.heap.size + 1 := by omega
  clear h a1 a2 r1 r2 hsz
  go_enter Tryz.func12, Tryz.ntmps12
  go_wp2
  go_loopg [] (T.length + 2) (fun g wr => ByRel w b T ao cap last s g wr)
  case atStart => exact ⟨s, noBk, noBk, none, 0, none, 0, none, 0, [], [], rfl, fun _ => by omega, fun _ => rfl, ⟨by simp [noBk], by simp [noBk], by simp [noBk], rfl, rfl⟩, HP.out, HRr.out, HRv.out, OwnR.nil _ _ _ _, trivial, OwnR.nil _ _ _ _, trivial, OwnR.nil _ _ _ _⟩
  case round =>
    obtain ⟨sx, bk, pk, ta, tc, ra, rc, wa, wc, rt, rr, hk, hg, heq, ⟨ha1, ha2, ha3, ha4, ha5⟩, P5, Rr5, Rv5, Ot5, Otx5, Oq5, Orx5, Oz5⟩ := hrel
    have HK := Lib.hid hk
    have hpl : sx.p ≤ T.length := P5.1.few.2
    clear hk HP HRv HRr
    rcases P5.1.view with ⟨hr0, -, v0, cc, hb0⟩ | ⟨hbad, hpT, g0, o0, cc, hb0, -, -, -, -, -, -, -⟩
    · have hmo := more_rest hr0
      rw [bo_stop hmo] at HK
      have HEQ := Lib.hid heq
      have c0 := cellRow hb0 0
      simp at c0
      have hpz := ha1
      clear hmo hr0 hb0 hg heq
      have yv0_30 : World.cell? _ ⟨(w.heap.size + 1), 0, none⟩ = some (.slice ta pk.tb.length tc) := cellRow Rv5 0
      have fv0_30 := freeRow Rv5 0
      have yv1_30 : World.cell? _ ⟨(w.heap.size + 1), 1, none⟩ = some (.slice ra pk.ru.length rc) := cellRow Rv5 1
      have fv1_30 := freeRow Rv5 1
      have yv2_30 : World.cell? _ ⟨(w.heap.size + 1), 2, none⟩ = some (.slice wa pk.wt.length wc) := cellRow Rv5 2
      have fv2_30 := freeRow Rv5 2
      have yr0_30 : World.cell? _ ⟨w.heap.size, 0, none⟩ = some (.slice none 0 0) := cellRow Rr5 0
      have fr0_30 := freeRow Rr5 0
      have yr1_30 : World.cell? _ ⟨w.heap.size, 1, none⟩ = some (.slice none 0 0) := cellRow Rr5 1
      have fr1_30 := freeRow Rr5 1
      have yr2_30 : World.cell? _ ⟨w.heap.size, 2, none⟩ = some (.slice none 0 0) := cellRow Rr5 2
      have fr2_30 := freeRow Rr5 2
      have QP := Lib.hid (jnp_new (jnp_new (jnp_new P5 Lr hlt 0 (.slice ta pk.tb.length tc)) Lr hlt 1 (.slice ra pk.ru.length rc)) Lr hlt 2 (.slice wa pk.wt.length wc))
      have QOt := Lib.hid (((Ot5.set Rr5 (by decide) 0 (.slice ta pk.tb.length tc)).set (rowSet Rr5 0 (.slice ta pk.tb.length tc)) (by decide) 1 (.slice ra pk.ru.length rc)).set (rowSet (rowSet Rr5 0 (.slice ta pk.tb.length tc)) 1 (.slice ra pk.ru.length rc)) (by decide) 2 (.slice wa pk.wt.length wc))
      have QOtx := Lib.hid (((Otx5.set Rr5 (by decide) 0 (.slice ta pk.tb.length tc)).set (rowSet Rr5 0 (.slice ta pk.tb.length tc)) (by decide) 1 (.slice ra pk.ru.length rc)).set (rowSet (rowSet Rr5 0 (.slice ta pk.tb.length tc)) 1 (.slice ra pk.ru.length rc)) (by decide) 2 (.slice wa pk.wt.length wc))
      have QOq := Lib.hid (((Oq5.set Rr5 (by decide) 0 (.slice ta pk.tb.length tc)).set (rowSet Rr5 0 (.slice ta pk.tb.length tc)) (by decide) 1 (.slice ra pk.ru.length rc)).set (rowSet (rowSet Rr5 0 (.slice ta pk.tb.length tc)) 1 (.slice ra pk.ru.length rc)) (by decide) 2 (.slice wa pk.wt.length wc))
      have QOrx := Lib.hid (((Orx5.set Rr5 (by decide) 0 (.slice ta pk.tb.length tc)).set (rowSet Rr5 0 (.slice ta pk.tb.length tc)) (by decide) 1 (.slice ra pk.ru.length rc)).set (rowSet (rowSet Rr5 0 (.slice ta pk.tb.length tc)) 1 (.slice ra pk.ru.length rc)) (by decide) 2 (.slice wa pk.wt.length wc))
      have QOz := Lib.hid (((Oz5.set Rr5 (by decide) 0 (.slice ta pk.tb.length tc)).set (rowSet Rr5 0 (.slice ta pk.tb.length tc)) (by decide) 1 (.slice ra pk.ru.length rc)).set (rowSet (rowSet Rr5 0 (.slice ta pk.tb.length tc)) 1 (.slice ra pk.ru.length rc)) (by decide) 2 (.slice wa pk.wt.length wc))
      have PX := row_to (B := #[.slice ta pk.tb.length tc, .slice ra pk.ru.length rc, .slice wa pk.wt.length wc]) (rowSet (rowSet (rowSet Rr5 0 (.slice ta pk.tb.length tc)) 1 (.slice ra pk.ru.length rc)) 2 (.slice wa pk.wt.length wc)) rfl
      clear P5 Rv5 Rr5 Ot5 Otx5 Oq5 Orx5 Oz5
      go_wp2
      refine bodyPost_ret (results_cell_row rfl _ _ (w.heap.size) _ _ _ _ rfl PX Tryz.underlying27 rfl (by kernel_rfl)) rfl ?_
      obtain ⟨ao8, cap8, hv8, -, -, -⟩ := QOt.out.form (by decide)
      refine ⟨⟨.slice ta pk.tb.length tc, rt, .slice ra pk.ru.length rc, rr, .slice wa pk.wt.length wc, pk⟩, rfl, ⟨QOt.out, QOtx.out, QOq.out, QOrx.out, QOz.out⟩, ?_, ?_⟩
      · rw [HK.out]; exact QP.out
      · rw [HK.out]; exact HEQ.out
    · have hmo := more_yes hbad hpT
      obtain rfl : pk = bk := heq hbad
      have c0 := cellRow hb0 0
      simp at c0
      obtain ⟨nn, hnn⟩ : ∃ n, T.length - sx.p = n + 1 := ⟨T.length - sx.p - 1, by omega⟩
      rw [hnn] at c0
      have hpi : (0 : Int) < ((nn + 1 : Nat) : Int) := by omega
      obtain ⟨G, rfl⟩ : ∃ G, gk = G + 1 := ⟨gk - 1, by have := hg hbad; omega⟩
      have hgG := hg hbad
      have G1 := Lib.hid (fun w1 h1 => pword_walk b T ao cap last sx wTable (by decide) w1 h1)
      rw [show bs wTable = ({ data := #[116, 97, 98, 108, 101] } : ByteArray) from rfl] at G1
      have hnx : (nx sx).p = sx.p + 1 := rfl
      have hln : lnO T (nx sx) = lineAt T sx := lnO_nx hbad
      clear hg heq hb0 hnn
      cases ht : at_ T sx 1 wTable with
      | true =>
        rw [word_yes ht] at G1
        rw [bo_table hmo ht] at HK
        have htp := table_p T last (lineAt T sx : Nat) (nx sx)
        have G3 := Lib.hid (fun w1 h1 => ptable_walk b T ao cap last (nx sx) w1 h1)
        rw [hln] at G3
        generalize (table T last (lineAt T sx : Nat) (nx sx)).1 = x at *
        generalize (table T last (lineAt T sx : Nat) (nx sx)).2 = s4 at *
        clear ht hmo hln
        go_wp2_with fail
        refine (G1.out _ P5.1).mono ?_
        rintro e w30 ⟨rfl, p30⟩
        have Rr30 := kp_row16 p30.2 Rr5 Nr
        have Rv30 := kp_row16 p30.2 Rv5 Nv
        have Ot30 := jown_b Ot5 P5.1 (by decide) p30.2
        have Otx30 := jtbs_b Otx5 P5.1 (by decide) p30.2
        have Oq30 := jown_b Oq5 P5.1 (by decide) p30.2
        have Orx30 := jrus_b Orx5 P5.1 (by decide) p30.2
        have Oz30 := jown_b Oz5 P5.1 (by decide) p30.2
        have P30 := JnP.then P5.2 p30
        clear p30 P5 Rr5 Rv5 Ot5 Otx5 Oq5 Orx5 Oz5 c0
        go_wp2_with fail
        refine wp_region_any (by kernel_rfl) ?_
        change wpAny _ _ _ _ _ _ _ (World.drew _)
        have Pd : JnP w b T _ cap last _ (World.drew _) := JnP.drew P30
        have Rrd : (World.drew _).heap[w.heap.size]? = _ := Rr30
        have Rvd : (World.drew _).heap[(w.heap.size + 1)]? = _ := Rv30
        have Otd := Ot30.below (show Below _ _ (World.drew _) from ⟨rfl, rfl, rfl, Nat.le_refl _, fun _ _ => rfl⟩)
        have Otxd := Otx30.below (show Below _ _ (World.drew _) from ⟨rfl, rfl, rfl, Nat.le_refl _, fun _ _ => rfl⟩)
        have Oqd := Oq30.below (show Below _ _ (World.drew _) from ⟨rfl, rfl, rfl, Nat.le_refl _, fun _ _ => rfl⟩)
        have Orxd := Orx30.below (show Below _ _ (World.drew _) from ⟨rfl, rfl, rfl, Nat.le_refl _, fun _ _ => rfl⟩)
        have Ozd := Oz30.below (show Below _ _ (World.drew _) from ⟨rfl, rfl, rfl, Nat.le_refl _, fun _ _ => rfl⟩)
        have zS : World.cell? (World.drew _) ⟨(w.heap.size + 1), 0, none⟩ = some (.slice ta pk.tb.length tc) := cellRow Rvd 0
        refine wpAny_take (i := 0) (v := .pointer (some ⟨(w.heap.size + 1), 0, none⟩)) rfl (by kernel_rfl) (by kernel_rfl) (by kernel_rfl) (fun _ _ _ h => h) (Or.inl ⟨by rfl, ?_⟩) ?_
        · intro w9
          go_simp
        refine wpAny_take (i := 2) (v := .pointer (some ⟨b, 0, none⟩)) rfl (by kernel_rfl) (by kernel_rfl) (by kernel_rfl) (fun _ _ _ h => h) (Or.inl ⟨by rfl, ?_⟩) ?_
        · intro w9
          go_simp
        refine wpAny_ready (rs := [1, 3]) (by kernel_rfl) (by simp) (AllReady.cons rfl (fun K hK => ?_) (AllReady.cons rfl (fun K hK => ?_) AllReady.nil))
        · go_simp
          refine hK _ _ ?_
          clear hK K
          refine wpAny_ready (rs := [3]) (by kernel_rfl) (by simp) (AllReady.cons rfl (fun K hK => ?_) AllReady.nil)
          go_simp
          go_wp2_with (go_at_call 24; refine (G3.out _ Pd.1).mono ?_; rintro e x1 ⟨po9, pc9, rfl, rd, p9⟩)
          have P1 := JnP.then Pd.2 p9
          have Rr1 := kp_row16 p9.2 Rrd Nr
          have Rv1 := kp_row16 p9.2 Rvd Nv
          have Ot1 := jown_b Otd Pd.1 (by decide) p9.2
          have Otx1 := jtbs_b Otxd Pd.1 (by decide) p9.2
          have Oq1 := jown_b Oqd Pd.1 (by decide) p9.2
          have Orx1 := jrus_b Orxd Pd.1 (by decide) p9.2
          have Oz1 := jown_b Ozd Pd.1 (by decide) p9.2
          have zS1 : World.cell? x1 ⟨(w.heap.size + 1), 0, none⟩ = some (.slice ta pk.tb.length tc) := cellRow Rv1 0
          have a2 : Below x1.heap.size x1 (x1.alloc (.cells #[.string (bs x.n), .int .i64 x.l, .slice po9 x.ks.length pc9, .string (bs x.e)] 34)) := (Below.refl _ _).alloc (Nat.le_refl _) _
          have P2 := P1.alloc (.cells #[.string (bs x.n), .int .i64 x.l, .slice po9 x.ks.length pc9, .string (bs x.e)] 34)
          have B2 : w.heap.size ≤ (x1.alloc (.cells #[.string (bs x.n), .int .i64 x.l, .slice po9 x.ks.length pc9, .string (bs x.e)] 34)).heap.size := P2.2.size
          have X2 := rowNew x1 (.cells #[.string (bs x.n), .int .i64 x.l, .slice po9 x.ks.length pc9, .string (bs x.e)] 34)
          have Rr2 := (a2.block (w.heap.size) (lt_of_block Rr1)).trans Rr1
          have Rv2 := (a2.block ((w.heap.size + 1)) (lt_of_block Rv1)).trans Rv1
          have Ot2 := Ot1.below a2
          have Otx2 := Otx1.below a2
          have Oq2 := Oq1.below a2
          have Orx2 := Orx1.below a2
          have Oz2 := Oz1.below a2
          have rd2 := rd.below a2
          have zS2 : World.cell? (x1.alloc (.cells #[.string (bs x.n), .int .i64 x.l, .slice po9 x.ks.length pc9, .string (bs x.e)] 34)) ⟨(w.heap.size + 1), 0, none⟩ = some (.slice ta pk.tb.length tc) := cellRow Rv2 0
          refine wpAny_ready (rs := [4]) (by kernel_rfl) (by simp) (AllReady.cons rfl (fun K hK => ?_) AllReady.nil)
          go_simp
          refine hK _ _ ?_
          clear hK K
          refine wpAny_ready (rs := [5]) (by kernel_rfl) (by simp) (AllReady.cons rfl (fun K hK => ?_) AllReady.nil)
          refine appRw (fr := (0, 0)) rfl Tryz.underlying23 tbinfo rfl (by decide) (by decide) _ rfl Ot2 x1.heap.size [.string (bs x.n), .int .i64 x.l, .slice po9 x.ks.length pc9, .string (bs x.e)] rfl X2 rfl rfl (by intro u hu; simp at hu; rcases hu with rfl | rfl | rfl | rfl <;> rfl) (by omega) B2 ?_
          intro v3 x3 m3 g3
          have P3 := JnP.grown P2 g3 Ot2.1 (Nat.le_refl _) hlt
          have Rr3 := row_grown Rr2 g3 Ot2.1 (by decide)
          have Rv3 := row_grown Rv2 g3 Ot2.1 (by decide)
          have Otx3 := Otx2.grown g3 Ot2.1 (by decide)
          have Oq3 := Oq2.grown g3 Ot2.1 (by decide)
          have Orx3 := Orx2.grown g3 Ot2.1 (by decide)
          have Oz3 := Oz2.grown g3 Ot2.1 (by decide)
          have rd3 := rd2.grown g3 Ot2.1 (by decide)
          obtain ⟨ao3, cap3, hv3, -⟩ := m3.form (by decide)
          rw [show (rt ++ [[Value.string (bs x.n), Value.int .i64 x.l, Value.slice po9 x.ks.length pc9, Value.string (bs x.e)]]).length = pk.tb.length + 1 by simp; exact ha4] at hv3
          subst hv3
          refine hK _ _ ?_
          clear hK K
          refine wpAny_take (i := 6) (v := .pointer (some ⟨(w.heap.size + 1), 0, none⟩)) rfl (by kernel_rfl) (by kernel_rfl) (by kernel_rfl) (fun _ _ _ h => h) (Or.inl ⟨by rfl, ?_⟩) ?_
          · intro w9
            go_simp
          have z3 : World.cell? x3 ⟨(w.heap.size + 1), 0, none⟩ = some (.slice ta pk.tb.length tc) := cellRow Rv3 0
          have f3 := freeRow Rv3 0
          refine wpAny_ready (rs := [7]) (by kernel_rfl) (by simp) (AllReady.cons rfl (fun K hK => ?_) AllReady.nil)
          go_simp
          refine hK _ _ ?_
          clear hK K
          refine wpAny_done (by kernel_rfl) ?_ _
          have Q4 := Lib.hid (jnp_new P3 Lv Mv 0 (.slice ao3 (pk.tb.length + 1) cap3))
          have Sr := Lib.hid ((Below.heap_setCell _ ⟨(w.heap.size + 1), 0, none⟩ (.slice ao3 (pk.tb.length + 1) cap3) _ (Drv)).trans Rr3)
          have Sv := Lib.hid (row_to (B := #[.slice ao3 (pk.tb.length + 1) cap3, .slice ra pk.ru.length rc, .slice wa pk.wt.length wc]) (rowSet Rv3 0 (.slice ao3 (pk.tb.length + 1) cap3)) rfl)
          have SO := Lib.hid (m3.set Rv3 (by decide) 0 (.slice ao3 (pk.tb.length + 1) cap3))
          have SOtx := Lib.hid (Otx3.set Rv3 (by decide) 0 (.slice ao3 (pk.tb.length + 1) cap3))
          have SOq := Lib.hid (Oq3.set Rv3 (by decide) 0 (.slice ao3 (pk.tb.length + 1) cap3))
          have SOrx := Lib.hid (Orx3.set Rv3 (by decide) 0 (.slice ao3 (pk.tb.length + 1) cap3))
          have SOz := Lib.hid (Oz3.set Rv3 (by decide) 0 (.slice ao3 (pk.tb.length + 1) cap3))
          have Srd := Lib.hid (rd3.set Rv3 (by decide) 0 (.slice ao3 (pk.tb.length + 1) cap3))
          clear P3 m3 g3 z3 f3 Rr3 Rv3 Otx3 Oq3 Orx3 Oz3 rd3
          go_wp2
          go_roundg G
          case measure => omega
          case rel => exact ⟨s4, ⟨pk.tb ++ [x], pk.ru, pk.wt⟩, ⟨pk.tb ++ [x], pk.ru, pk.wt⟩, _, _, ra, rc, wa, wc, rt ++ [[Value.string (bs x.n), Value.int .i64 x.l, Value.slice po9 x.ks.length pc9, Value.string (bs x.e)]], rr, HK.out, fun _ => by omega, fun _ => rfl, ⟨by simp only [List.length_append, List.length_singleton]; omega, by show pk.ru.length ≤ s4.p; omega, by show pk.wt.length ≤ s4.p; omega, by simp only [List.length_append, List.length_singleton]; omega, ha5⟩, Q4.out, Sr.out, (by have := Sv.out; simp only [List.length_append, List.length_singleton]; exact this), (by have := SO.out; simp only [List.length_append, List.length_singleton]; exact this), RlR.snoc SOtx.out ⟨po9, pc9, rfl, Srd.out⟩, SOq.out, SOrx.out, SOz.out⟩
        · go_simp
          go_wp2_with (go_at_call 24; refine (G3.out _ Pd.1).mono ?_; rintro e x1 ⟨po9, pc9, rfl, rd, p9⟩)
          have P1 := JnP.then Pd.2 p9
          have Rr1 := kp_row16 p9.2 Rrd Nr
          have Rv1 := kp_row16 p9.2 Rvd Nv
          have Ot1 := jown_b Otd Pd.1 (by decide) p9.2
          have Otx1 := jtbs_b Otxd Pd.1 (by decide) p9.2
          have Oq1 := jown_b Oqd Pd.1 (by decide) p9.2
          have Orx1 := jrus_b Orxd Pd.1 (by decide) p9.2
          have Oz1 := jown_b Ozd Pd.1 (by decide) p9.2
          have zS1 : World.cell? x1 ⟨(w.heap.size + 1), 0, none⟩ = some (.slice ta pk.tb.length tc) := cellRow Rv1 0
          have a2 : Below x1.heap.size x1 (x1.alloc (.cells #[.string (bs x.n), .int .i64 x.l, .slice po9 x.ks.length pc9, .string (bs x.e)] 34)) := (Below.refl _ _).alloc (Nat.le_refl _) _
          have P2 := P1.alloc (.cells #[.string (bs x.n), .int .i64 x.l, .slice po9 x.ks.length pc9, .string (bs x.e)] 34)
          have B2 : w.heap.size ≤ (x1.alloc (.cells #[.string (bs x.n), .int .i64 x.l, .slice po9 x.ks.length pc9, .string (bs x.e)] 34)).heap.size := P2.2.size
          have X2 := rowNew x1 (.cells #[.string (bs x.n), .int .i64 x.l, .slice po9 x.ks.length pc9, .string (bs x.e)] 34)
          have Rr2 := (a2.block (w.heap.size) (lt_of_block Rr1)).trans Rr1
          have Rv2 := (a2.block ((w.heap.size + 1)) (lt_of_block Rv1)).trans Rv1
          have Ot2 := Ot1.below a2
          have Otx2 := Otx1.below a2
          have Oq2 := Oq1.below a2
          have Orx2 := Orx1.below a2
          have Oz2 := Oz1.below a2
          have rd2 := rd.below a2
          have zS2 : World.cell? (x1.alloc (.cells #[.string (bs x.n), .int .i64 x.l, .slice po9 x.ks.length pc9, .string (bs x.e)] 34)) ⟨(w.heap.size + 1), 0, none⟩ = some (.slice ta pk.tb.length tc) := cellRow Rv2 0
          refine wpAny_ready (rs := [1, 4]) (by kernel_rfl) (by simp) (AllReady.cons rfl (fun K hK => ?_) (AllReady.cons rfl (fun K hK => ?_) AllReady.nil))
          · go_simp
            refine hK _ _ ?_
            clear hK K
            refine wpAny_ready (rs := [4]) (by kernel_rfl) (by simp) (AllReady.cons rfl (fun K hK => ?_) AllReady.nil)
            go_simp
            refine hK _ _ ?_
            clear hK K
            refine wpAny_ready (rs := [5]) (by kernel_rfl) (by simp) (AllReady.cons rfl (fun K hK => ?_) AllReady.nil)
            refine appRw (fr := (0, 0)) rfl Tryz.underlying23 tbinfo rfl (by decide) (by decide) _ rfl Ot2 x1.heap.size [.string (bs x.n), .int .i64 x.l, .slice po9 x.ks.length pc9, .string (bs x.e)] rfl X2 rfl rfl (by intro u hu; simp at hu; rcases hu with rfl | rfl | rfl | rfl <;> rfl) (by omega) B2 ?_
            intro v3 x3 m3 g3
            have P3 := JnP.grown P2 g3 Ot2.1 (Nat.le_refl _) hlt
            have Rr3 := row_grown Rr2 g3 Ot2.1 (by decide)
            have Rv3 := row_grown Rv2 g3 Ot2.1 (by decide)
            have Otx3 := Otx2.grown g3 Ot2.1 (by decide)
            have Oq3 := Oq2.grown g3 Ot2.1 (by decide)
            have Orx3 := Orx2.grown g3 Ot2.1 (by decide)
            have Oz3 := Oz2.grown g3 Ot2.1 (by decide)
            have rd3 := rd2.grown g3 Ot2.1 (by decide)
            obtain ⟨ao3, cap3, hv3, -⟩ := m3.form (by decide)
            rw [show (rt ++ [[Value.string (bs x.n), Value.int .i64 x.l, Value.slice po9 x.ks.length pc9, Value.string (bs x.e)]]).length = pk.tb.length + 1 by simp; exact ha4] at hv3
            subst hv3
            refine hK _ _ ?_
            clear hK K
            refine wpAny_take (i := 6) (v := .pointer (some ⟨(w.heap.size + 1), 0, none⟩)) rfl (by kernel_rfl) (by kernel_rfl) (by kernel_rfl) (fun _ _ _ h => h) (Or.inl ⟨by rfl, ?_⟩) ?_
            · intro w9
              go_simp
            have z3 : World.cell? x3 ⟨(w.heap.size + 1), 0, none⟩ = some (.slice ta pk.tb.length tc) := cellRow Rv3 0
            have f3 := freeRow Rv3 0
            refine wpAny_ready (rs := [7]) (by kernel_rfl) (by simp) (AllReady.cons rfl (fun K hK => ?_) AllReady.nil)
            go_simp
            refine hK _ _ ?_
            clear hK K
            refine wpAny_done (by kernel_rfl) ?_ _
            have Q4 := Lib.hid (jnp_new P3 Lv Mv 0 (.slice ao3 (pk.tb.length + 1) cap3))
            have Sr := Lib.hid ((Below.heap_setCell _ ⟨(w.heap.size + 1), 0, none⟩ (.slice ao3 (pk.tb.length + 1) cap3) _ (Drv)).trans Rr3)
            have Sv := Lib.hid (row_to (B := #[.slice ao3 (pk.tb.length + 1) cap3, .slice ra pk.ru.length rc, .slice wa pk.wt.length wc]) (rowSet Rv3 0 (.slice ao3 (pk.tb.length + 1) cap3)) rfl)
            have SO := Lib.hid (m3.set Rv3 (by decide) 0 (.slice ao3 (pk.tb.length + 1) cap3))
            have SOtx := Lib.hid (Otx3.set Rv3 (by decide) 0 (.slice ao3 (pk.tb.length + 1) cap3))
            have SOq := Lib.hid (Oq3.set Rv3 (by decide) 0 (.slice ao3 (pk.tb.length + 1) cap3))
            have SOrx := Lib.hid (Orx3.set Rv3 (by decide) 0 (.slice ao3 (pk.tb.length + 1) cap3))
            have SOz := Lib.hid (Oz3.set Rv3 (by decide) 0 (.slice ao3 (pk.tb.length + 1) cap3))
            have Srd := Lib.hid (rd3.set Rv3 (by decide) 0 (.slice ao3 (pk.tb.length + 1) cap3))
            clear P3 m3 g3 z3 f3 Rr3 Rv3 Otx3 Oq3 Orx3 Oz3 rd3
            go_wp2
            go_roundg G
            case measure => omega
            case rel => exact ⟨s4, ⟨pk.tb ++ [x], pk.ru, pk.wt⟩, ⟨pk.tb ++ [x], pk.ru, pk.wt⟩, _, _, ra, rc, wa, wc, rt ++ [[Value.string (bs x.n), Value.int .i64 x.l, Value.slice po9 x.ks.length pc9, Value.string (bs x.e)]], rr, HK.out, fun _ => by omega, fun _ => rfl, ⟨by simp only [List.length_append, List.length_singleton]; omega, by show pk.ru.length ≤ s4.p; omega, by show pk.wt.length ≤ s4.p; omega, by simp only [List.length_append, List.length_singleton]; omega, ha5⟩, Q4.out, Sr.out, (by have := Sv.out; simp only [List.length_append, List.length_singleton]; exact this), (by have := SO.out; simp only [List.length_append, List.length_singleton]; exact this), RlR.snoc SOtx.out ⟨po9, pc9, rfl, Srd.out⟩, SOq.out, SOrx.out, SOz.out⟩
          · go_simp
            refine hK _ _ ?_
            clear hK K
            refine wpAny_ready (rs := [1]) (by kernel_rfl) (by simp) (AllReady.cons rfl (fun K hK => ?_) AllReady.nil)
            go_simp
            refine hK _ _ ?_
            clear hK K
            refine wpAny_ready (rs := [5]) (by kernel_rfl) (by simp) (AllReady.cons rfl (fun K hK => ?_) AllReady.nil)
            refine appRw (fr := (0, 0)) rfl Tryz.underlying23 tbinfo rfl (by decide) (by decide) _ rfl Ot2 x1.heap.size [.string (bs x.n), .int .i64 x.l, .slice po9 x.ks.length pc9, .string (bs x.e)] rfl X2 rfl rfl (by intro u hu; simp at hu; rcases hu with rfl | rfl | rfl | rfl <;> rfl) (by omega) B2 ?_
            intro v3 x3 m3 g3
            have P3 := JnP.grown P2 g3 Ot2.1 (Nat.le_refl _) hlt
            have Rr3 := row_grown Rr2 g3 Ot2.1 (by decide)
            have Rv3 := row_grown Rv2 g3 Ot2.1 (by decide)
            have Otx3 := Otx2.grown g3 Ot2.1 (by decide)
            have Oq3 := Oq2.grown g3 Ot2.1 (by decide)
            have Orx3 := Orx2.grown g3 Ot2.1 (by decide)
            have Oz3 := Oz2.grown g3 Ot2.1 (by decide)
            have rd3 := rd2.grown g3 Ot2.1 (by decide)
            obtain ⟨ao3, cap3, hv3, -⟩ := m3.form (by decide)
            rw [show (rt ++ [[Value.string (bs x.n), Value.int .i64 x.l, Value.slice po9 x.ks.length pc9, Value.string (bs x.e)]]).length = pk.tb.length + 1 by simp; exact ha4] at hv3
            subst hv3
            refine hK _ _ ?_
            clear hK K
            refine wpAny_take (i := 6) (v := .pointer (some ⟨(w.heap.size + 1), 0, none⟩)) rfl (by kernel_rfl) (by kernel_rfl) (by kernel_rfl) (fun _ _ _ h => h) (Or.inl ⟨by rfl, ?_⟩) ?_
            · intro w9
              go_simp
            have z3 : World.cell? x3 ⟨(w.heap.size + 1), 0, none⟩ = some (.slice ta pk.tb.length tc) := cellRow Rv3 0
            have f3 := freeRow Rv3 0
            refine wpAny_ready (rs := [7]) (by kernel_rfl) (by simp) (AllReady.cons rfl (fun K hK => ?_) AllReady.nil)
            go_simp
            refine hK _ _ ?_
            clear hK K
            refine wpAny_done (by kernel_rfl) ?_ _
            have Q4 := Lib.hid (jnp_new P3 Lv Mv 0 (.slice ao3 (pk.tb.length + 1) cap3))
            have Sr := Lib.hid ((Below.heap_setCell _ ⟨(w.heap.size + 1), 0, none⟩ (.slice ao3 (pk.tb.length + 1) cap3) _ (Drv)).trans Rr3)
            have Sv := Lib.hid (row_to (B := #[.slice ao3 (pk.tb.length + 1) cap3, .slice ra pk.ru.length rc, .slice wa pk.wt.length wc]) (rowSet Rv3 0 (.slice ao3 (pk.tb.length + 1) cap3)) rfl)
            have SO := Lib.hid (m3.set Rv3 (by decide) 0 (.slice ao3 (pk.tb.length + 1) cap3))
            have SOtx := Lib.hid (Otx3.set Rv3 (by decide) 0 (.slice ao3 (pk.tb.length + 1) cap3))
            have SOq := Lib.hid (Oq3.set Rv3 (by decide) 0 (.slice ao3 (pk.tb.length + 1) cap3))
            have SOrx := Lib.hid (Orx3.set Rv3 (by decide) 0 (.slice ao3 (pk.tb.length + 1) cap3))
            have SOz := Lib.hid (Oz3.set Rv3 (by decide) 0 (.slice ao3 (pk.tb.length + 1) cap3))
            have Srd := Lib.hid (rd3.set Rv3 (by decide) 0 (.slice ao3 (pk.tb.length + 1) cap3))
            clear P3 m3 g3 z3 f3 Rr3 Rv3 Otx3 Oq3 Orx3 Oz3 rd3
            go_wp2
            go_roundg G
            case measure => omega
            case rel => exact ⟨s4, ⟨pk.tb ++ [x], pk.ru, pk.wt⟩, ⟨pk.tb ++ [x], pk.ru, pk.wt⟩, _, _, ra, rc, wa, wc, rt ++ [[Value.string (bs x.n), Value.int .i64 x.l, Value.slice po9 x.ks.length pc9, Value.string (bs x.e)]], rr, HK.out, fun _ => by omega, fun _ => rfl, ⟨by simp only [List.length_append, List.length_singleton]; omega, by show pk.ru.length ≤ s4.p; omega, by show pk.wt.length ≤ s4.p; omega, by simp only [List.length_append, List.length_singleton]; omega, ha5⟩, Q4.out, Sr.out, (by have := Sv.out; simp only [List.length_append, List.length_singleton]; exact this), (by have := SO.out; simp only [List.length_append, List.length_singleton]; exact this), RlR.snoc SOtx.out ⟨po9, pc9, rfl, Srd.out⟩, SOq.out, SOrx.out, SOz.out⟩
      | false =>
        rw [word_no ht] at G1
        have G4 := Lib.hid (fun w1 h1 => pword_walk b T ao cap last sx wRule (by decide) w1 h1)
        rw [show bs wRule = ({ data := #[114, 117, 108, 101] } : ByteArray) from rfl] at G4
        cases hr : at_ T sx 1 wRule with
        | true =>
          rw [word_yes hr] at G4
          rw [bo_rule hmo ht hr] at HK
          have htp := rule_p T last (lineAt T sx : Nat) (nx sx)
          have G3 := Lib.hid (fun w1 h1 => prule_walk b T ao cap last (nx sx) w1 h1)
          rw [hln] at G3
          generalize (rule T last (lineAt T sx : Nat) (nx sx)).1 = x at *
          generalize (rule T last (lineAt T sx : Nat) (nx sx)).2 = s4 at *
          clear ht hr hmo hln
          go_wp2_with fail
          refine (G1.out _ P5.1).mono ?_
          rintro e w30 ⟨rfl, p30⟩
          have Rr30 := kp_row16 p30.2 Rr5 Nr
          have Rv30 := kp_row16 p30.2 Rv5 Nv
          have Ot30 := jown_b Ot5 P5.1 (by decide) p30.2
          have Otx30 := jtbs_b Otx5 P5.1 (by decide) p30.2
          have Oq30 := jown_b Oq5 P5.1 (by decide) p30.2
          have Orx30 := jrus_b Orx5 P5.1 (by decide) p30.2
          have Oz30 := jown_b Oz5 P5.1 (by decide) p30.2
          have P30 := JnP.then P5.2 p30
          clear p30 P5 Rr5 Rv5 Ot5 Otx5 Oq5 Orx5 Oz5 c0
          go_wp2_with fail
          refine (G4.out _ P30.1).mono ?_
          rintro e w31 ⟨rfl, p31⟩
          have Rr31 := kp_row16 p31.2 Rr30 Nr
          have Rv31 := kp_row16 p31.2 Rv30 Nv
          have Ot31 := jown_b Ot30 P30.1 (by decide) p31.2
          have Otx31 := jtbs_b Otx30 P30.1 (by decide) p31.2
          have Oq31 := jown_b Oq30 P30.1 (by decide) p31.2
          have Orx31 := jrus_b Orx30 P30.1 (by decide) p31.2
          have Oz31 := jown_b Oz30 P30.1 (by decide) p31.2
          have P31 := JnP.then P30.2 p31
          clear p31 P30 Rr30 Rv30 Ot30 Otx30 Oq30 Orx30 Oz30
          go_wp2_with fail
          refine wp_region_any (by kernel_rfl) ?_
          change wpAny _ _ _ _ _ _ _ (World.drew _)
          have Pd : JnP w b T _ cap last _ (World.drew _) := JnP.drew P31
          have Rrd : (World.drew _).heap[w.heap.size]? = _ := Rr31
          have Rvd : (World.drew _).heap[(w.heap.size + 1)]? = _ := Rv31
          have Otd := Ot31.below (show Below _ _ (World.drew _) from ⟨rfl, rfl, rfl, Nat.le_refl _, fun _ _ => rfl⟩)
          have Otxd := Otx31.below (show Below _ _ (World.drew _) from ⟨rfl, rfl, rfl, Nat.le_refl _, fun _ _ => rfl⟩)
          have Oqd := Oq31.below (show Below _ _ (World.drew _) from ⟨rfl, rfl, rfl, Nat.le_refl _, fun _ _ => rfl⟩)
          have Orxd := Orx31.below (show Below _ _ (World.drew _) from ⟨rfl, rfl, rfl, Nat.le_refl _, fun _ _ => rfl⟩)
          have Ozd := Oz31.below (show Below _ _ (World.drew _) from ⟨rfl, rfl, rfl, Nat.le_refl _, fun _ _ => rfl⟩)
          have zS : World.cell? (World.drew _) ⟨(w.heap.size + 1), 1, none⟩ = some (.slice ra pk.ru.length rc) := cellRow Rvd 1
          refine wpAny_take (i := 0) (v := .pointer (some ⟨(w.heap.size + 1), 1, none⟩)) rfl (by kernel_rfl) (by kernel_rfl) (by kernel_rfl) (fun _ _ _ h => h) (Or.inl ⟨by rfl, ?_⟩) ?_
          · intro w9
            go_simp
          refine wpAny_take (i := 2) (v := .pointer (some ⟨b, 0, none⟩)) rfl (by kernel_rfl) (by kernel_rfl) (by kernel_rfl) (fun _ _ _ h => h) (Or.inl ⟨by rfl, ?_⟩) ?_
          · intro w9
            go_simp
          refine wpAny_ready (rs := [1, 3]) (by kernel_rfl) (by simp) (AllReady.cons rfl (fun K hK => ?_) (AllReady.cons rfl (fun K hK => ?_) AllReady.nil))
          · go_simp
            refine hK _ _ ?_
            clear hK K
            refine wpAny_ready (rs := [3]) (by kernel_rfl) (by simp) (AllReady.cons rfl (fun K hK => ?_) AllReady.nil)
            go_simp
            go_wp2_with (go_at_call 25; refine (G3.out _ Pd.1).mono ?_; rintro e x1 ⟨po9, pc9, qo9, qc9, rs9, fr9, rfl, rd, re, rz, p9, hf9⟩)
            have P1 := JnP.then Pd.2 p9
            have Rr1 := kp_row16 p9.2 Rrd Nr
            have Rv1 := kp_row16 p9.2 Rvd Nv
            have Ot1 := jown_b Otd Pd.1 (by decide) p9.2
            have Otx1 := jtbs_b Otxd Pd.1 (by decide) p9.2
            have Oq1 := jown_b Oqd Pd.1 (by decide) p9.2
            have Orx1 := jrus_b Orxd Pd.1 (by decide) p9.2
            have Oz1 := jown_b Ozd Pd.1 (by decide) p9.2
            have zS1 : World.cell? x1 ⟨(w.heap.size + 1), 1, none⟩ = some (.slice ra pk.ru.length rc) := cellRow Rv1 1
            have a2 : Below x1.heap.size x1 (x1.alloc (.cells #[.string (bs x.n), .int .i64 x.l, .int .i64 fr9, .string (bs x.oid), .bool x.wi, .slice po9 x.ts.length pc9, .slice qo9 x.ss.length qc9, .bool x.dr] 38)) := (Below.refl _ _).alloc (Nat.le_refl _) _
            have P2 := P1.alloc (.cells #[.string (bs x.n), .int .i64 x.l, .int .i64 fr9, .string (bs x.oid), .bool x.wi, .slice po9 x.ts.length pc9, .slice qo9 x.ss.length qc9, .bool x.dr] 38)
            have B2 : w.heap.size ≤ (x1.alloc (.cells #[.string (bs x.n), .int .i64 x.l, .int .i64 fr9, .string (bs x.oid), .bool x.wi, .slice po9 x.ts.length pc9, .slice qo9 x.ss.length qc9, .bool x.dr] 38)).heap.size := P2.2.size
            have X2 := rowNew x1 (.cells #[.string (bs x.n), .int .i64 x.l, .int .i64 fr9, .string (bs x.oid), .bool x.wi, .slice po9 x.ts.length pc9, .slice qo9 x.ss.length qc9, .bool x.dr] 38)
            have Rr2 := (a2.block (w.heap.size) (lt_of_block Rr1)).trans Rr1
            have Rv2 := (a2.block ((w.heap.size + 1)) (lt_of_block Rv1)).trans Rv1
            have Ot2 := Ot1.below a2
            have Otx2 := Otx1.below a2
            have Oq2 := Oq1.below a2
            have Orx2 := Orx1.below a2
            have Oz2 := Oz1.below a2
            have rd2 := rd.below a2
            have re2 := re.below a2
            have rz2 := rz.below a2
            have zS2 : World.cell? (x1.alloc (.cells #[.string (bs x.n), .int .i64 x.l, .int .i64 fr9, .string (bs x.oid), .bool x.wi, .slice po9 x.ts.length pc9, .slice qo9 x.ss.length qc9, .bool x.dr] 38)) ⟨(w.heap.size + 1), 1, none⟩ = some (.slice ra pk.ru.length rc) := cellRow Rv2 1
            refine wpAny_ready (rs := [4]) (by kernel_rfl) (by simp) (AllReady.cons rfl (fun K hK => ?_) AllReady.nil)
            go_simp
            refine hK _ _ ?_
            clear hK K
            refine wpAny_ready (rs := [5]) (by kernel_rfl) (by simp) (AllReady.cons rfl (fun K hK => ?_) AllReady.nil)
            refine appRw (fr := (0, 0)) rfl Tryz.underlying24 ruinfo rfl (by decide) (by decide) _ rfl Oq2 x1.heap.size [.string (bs x.n), .int .i64 x.l, .int .i64 fr9, .string (bs x.oid), .bool x.wi, .slice po9 x.ts.length pc9, .slice qo9 x.ss.length qc9, .bool x.dr] rfl X2 rfl rfl (by intro u hu; simp at hu; rcases hu with rfl | rfl | rfl | rfl | rfl | rfl | rfl | rfl <;> rfl) (by omega) B2 ?_
            intro v3 x3 m3 g3
            have P3 := JnP.grown P2 g3 Oq2.1 (Nat.le_refl _) hlt
            have Rr3 := row_grown Rr2 g3 Oq2.1 (by decide)
            have Rv3 := row_grown Rv2 g3 Oq2.1 (by decide)
            have Ot3 := Ot2.grown g3 Oq2.1 (by decide)
            have Otx3 := Otx2.grown g3 Oq2.1 (by decide)
            have Orx3 := Orx2.grown g3 Oq2.1 (by decide)
            have Oz3 := Oz2.grown g3 Oq2.1 (by decide)
            have rd3 := rd2.grown g3 Oq2.1 (by decide)
            have re3 := re2.grown g3 Oq2.1 (by decide)
            have rz3 := rz2.grown g3 Oq2.1 (by decide)
            obtain ⟨ao3, cap3, hv3, -⟩ := m3.form (by decide)
            rw [show (rr ++ [[Value.string (bs x.n), Value.int .i64 x.l, Value.int .i64 fr9, Value.string (bs x.oid), Value.bool x.wi, Value.slice po9 x.ts.length pc9, Value.slice qo9 x.ss.length qc9, Value.bool x.dr]]).length = pk.ru.length + 1 by simp; exact ha5] at hv3
            subst hv3
            refine hK _ _ ?_
            clear hK K
            refine wpAny_take (i := 6) (v := .pointer (some ⟨(w.heap.size + 1), 1, none⟩)) rfl (by kernel_rfl) (by kernel_rfl) (by kernel_rfl) (fun _ _ _ h => h) (Or.inl ⟨by rfl, ?_⟩) ?_
            · intro w9
              go_simp
            have z3 : World.cell? x3 ⟨(w.heap.size + 1), 1, none⟩ = some (.slice ra pk.ru.length rc) := cellRow Rv3 1
            have f3 := freeRow Rv3 1
            refine wpAny_ready (rs := [7]) (by kernel_rfl) (by simp) (AllReady.cons rfl (fun K hK => ?_) AllReady.nil)
            go_simp
            refine hK _ _ ?_
            clear hK K
            refine wpAny_done (by kernel_rfl) ?_ _
            have Q4 := Lib.hid (jnp_new P3 Lv Mv 1 (.slice ao3 (pk.ru.length + 1) cap3))
            have Sr := Lib.hid ((Below.heap_setCell _ ⟨(w.heap.size + 1), 1, none⟩ (.slice ao3 (pk.ru.length + 1) cap3) _ (Drv)).trans Rr3)
            have Sv := Lib.hid (row_to (B := #[.slice ta pk.tb.length tc, .slice ao3 (pk.ru.length + 1) cap3, .slice wa pk.wt.length wc]) (rowSet Rv3 1 (.slice ao3 (pk.ru.length + 1) cap3)) rfl)
            have SO := Lib.hid (m3.set Rv3 (by decide) 1 (.slice ao3 (pk.ru.length + 1) cap3))
            have SOt := Lib.hid (Ot3.set Rv3 (by decide) 1 (.slice ao3 (pk.ru.length + 1) cap3))
            have SOtx := Lib.hid (Otx3.set Rv3 (by decide) 1 (.slice ao3 (pk.ru.length + 1) cap3))
            have SOrx := Lib.hid (Orx3.set Rv3 (by decide) 1 (.slice ao3 (pk.ru.length + 1) cap3))
            have SOz := Lib.hid (Oz3.set Rv3 (by decide) 1 (.slice ao3 (pk.ru.length + 1) cap3))
            have Srd := Lib.hid (rd3.set Rv3 (by decide) 1 (.slice ao3 (pk.ru.length + 1) cap3))
            have Sre := Lib.hid (re3.set Rv3 (by decide) 1 (.slice ao3 (pk.ru.length + 1) cap3))
            have Srz := Lib.hid (rz3.set Rv3 (by decide) 1 (.slice ao3 (pk.ru.length + 1) cap3))
            clear P3 m3 g3 z3 f3 Rr3 Rv3 Ot3 Otx3 Orx3 Oz3 rd3 re3 rz3
            go_wp2
            go_roundg G
            case measure => omega
            case rel => exact ⟨s4, ⟨pk.tb, pk.ru ++ [x], pk.wt⟩, ⟨pk.tb, pk.ru ++ [{ x with fr := fr9 }], pk.wt⟩, ta, tc, _, _, wa, wc, rt, rr ++ [[Value.string (bs x.n), Value.int .i64 x.l, Value.int .i64 fr9, Value.string (bs x.oid), Value.bool x.wi, Value.slice po9 x.ts.length pc9, Value.slice qo9 x.ss.length qc9, Value.bool x.dr]], HK.out, fun _ => by omega, fun e => by rw [hf9 e], ⟨by show pk.tb.length ≤ s4.p; omega, by simp only [List.length_append, List.length_singleton]; omega, by show pk.wt.length ≤ s4.p; omega, ha4, by simp only [List.length_append, List.length_singleton]; omega⟩, Q4.out, Sr.out, (by have := Sv.out; simp only [List.length_append, List.length_singleton]; exact this), SOt.out, SOtx.out, (by have := SO.out; simp only [List.length_append, List.length_singleton]; exact this), RlR.snoc SOrx.out ⟨po9, pc9, qo9, qc9, rs9, rfl, Srd.out, Sre.out, Srz.out⟩, SOz.out⟩
          · go_simp
            go_wp2_with (go_at_call 25; refine (G3.out _ Pd.1).mono ?_; rintro e x1 ⟨po9, pc9, qo9, qc9, rs9, fr9, rfl, rd, re, rz, p9, hf9⟩)
            have P1 := JnP.then Pd.2 p9
            have Rr1 := kp_row16 p9.2 Rrd Nr
            have Rv1 := kp_row16 p9.2 Rvd Nv
            have Ot1 := jown_b Otd Pd.1 (by decide) p9.2
            have Otx1 := jtbs_b Otxd Pd.1 (by decide) p9.2
            have Oq1 := jown_b Oqd Pd.1 (by decide) p9.2
            have Orx1 := jrus_b Orxd Pd.1 (by decide) p9.2
            have Oz1 := jown_b Ozd Pd.1 (by decide) p9.2
            have zS1 : World.cell? x1 ⟨(w.heap.size + 1), 1, none⟩ = some (.slice ra pk.ru.length rc) := cellRow Rv1 1
            have a2 : Below x1.heap.size x1 (x1.alloc (.cells #[.string (bs x.n), .int .i64 x.l, .int .i64 fr9, .string (bs x.oid), .bool x.wi, .slice po9 x.ts.length pc9, .slice qo9 x.ss.length qc9, .bool x.dr] 38)) := (Below.refl _ _).alloc (Nat.le_refl _) _
            have P2 := P1.alloc (.cells #[.string (bs x.n), .int .i64 x.l, .int .i64 fr9, .string (bs x.oid), .bool x.wi, .slice po9 x.ts.length pc9, .slice qo9 x.ss.length qc9, .bool x.dr] 38)
            have B2 : w.heap.size ≤ (x1.alloc (.cells #[.string (bs x.n), .int .i64 x.l, .int .i64 fr9, .string (bs x.oid), .bool x.wi, .slice po9 x.ts.length pc9, .slice qo9 x.ss.length qc9, .bool x.dr] 38)).heap.size := P2.2.size
            have X2 := rowNew x1 (.cells #[.string (bs x.n), .int .i64 x.l, .int .i64 fr9, .string (bs x.oid), .bool x.wi, .slice po9 x.ts.length pc9, .slice qo9 x.ss.length qc9, .bool x.dr] 38)
            have Rr2 := (a2.block (w.heap.size) (lt_of_block Rr1)).trans Rr1
            have Rv2 := (a2.block ((w.heap.size + 1)) (lt_of_block Rv1)).trans Rv1
            have Ot2 := Ot1.below a2
            have Otx2 := Otx1.below a2
            have Oq2 := Oq1.below a2
            have Orx2 := Orx1.below a2
            have Oz2 := Oz1.below a2
            have rd2 := rd.below a2
            have re2 := re.below a2
            have rz2 := rz.below a2
            have zS2 : World.cell? (x1.alloc (.cells #[.string (bs x.n), .int .i64 x.l, .int .i64 fr9, .string (bs x.oid), .bool x.wi, .slice po9 x.ts.length pc9, .slice qo9 x.ss.length qc9, .bool x.dr] 38)) ⟨(w.heap.size + 1), 1, none⟩ = some (.slice ra pk.ru.length rc) := cellRow Rv2 1
            refine wpAny_ready (rs := [1, 4]) (by kernel_rfl) (by simp) (AllReady.cons rfl (fun K hK => ?_) (AllReady.cons rfl (fun K hK => ?_) AllReady.nil))
            · go_simp
              refine hK _ _ ?_
              clear hK K
              refine wpAny_ready (rs := [4]) (by kernel_rfl) (by simp) (AllReady.cons rfl (fun K hK => ?_) AllReady.nil)
              go_simp
              refine hK _ _ ?_
              clear hK K
              refine wpAny_ready (rs := [5]) (by kernel_rfl) (by simp) (AllReady.cons rfl (fun K hK => ?_) AllReady.nil)
              refine appRw (fr := (0, 0)) rfl Tryz.underlying24 ruinfo rfl (by decide) (by decide) _ rfl Oq2 x1.heap.size [.string (bs x.n), .int .i64 x.l, .int .i64 fr9, .string (bs x.oid), .bool x.wi, .slice po9 x.ts.length pc9, .slice qo9 x.ss.length qc9, .bool x.dr] rfl X2 rfl rfl (by intro u hu; simp at hu; rcases hu with rfl | rfl | rfl | rfl | rfl | rfl | rfl | rfl <;> rfl) (by omega) B2 ?_
              intro v3 x3 m3 g3
              have P3 := JnP.grown P2 g3 Oq2.1 (Nat.le_refl _) hlt
              have Rr3 := row_grown Rr2 g3 Oq2.1 (by decide)
              have Rv3 := row_grown Rv2 g3 Oq2.1 (by decide)
              have Ot3 := Ot2.grown g3 Oq2.1 (by decide)
              have Otx3 := Otx2.grown g3 Oq2.1 (by decide)
              have Orx3 := Orx2.grown g3 Oq2.1 (by decide)
              have Oz3 := Oz2.grown g3 Oq2.1 (by decide)
              have rd3 := rd2.grown g3 Oq2.1 (by decide)
              have re3 := re2.grown g3 Oq2.1 (by decide)
              have rz3 := rz2.grown g3 Oq2.1 (by decide)
              obtain ⟨ao3, cap3, hv3, -⟩ := m3.form (by decide)
              rw [show (rr ++ [[Value.string (bs x.n), Value.int .i64 x.l, Value.int .i64 fr9, Value.string (bs x.oid), Value.bool x.wi, Value.slice po9 x.ts.length pc9, Value.slice qo9 x.ss.length qc9, Value.bool x.dr]]).length = pk.ru.length + 1 by simp; exact ha5] at hv3
              subst hv3
              refine hK _ _ ?_
              clear hK K
              refine wpAny_take (i := 6) (v := .pointer (some ⟨(w.heap.size + 1), 1, none⟩)) rfl (by kernel_rfl) (by kernel_rfl) (by kernel_rfl) (fun _ _ _ h => h) (Or.inl ⟨by rfl, ?_⟩) ?_
              · intro w9
                go_simp
              have z3 : World.cell? x3 ⟨(w.heap.size + 1), 1, none⟩ = some (.slice ra pk.ru.length rc) := cellRow Rv3 1
              have f3 := freeRow Rv3 1
              refine wpAny_ready (rs := [7]) (by kernel_rfl) (by simp) (AllReady.cons rfl (fun K hK => ?_) AllReady.nil)
              go_simp
              refine hK _ _ ?_
              clear hK K
              refine wpAny_done (by kernel_rfl) ?_ _
              have Q4 := Lib.hid (jnp_new P3 Lv Mv 1 (.slice ao3 (pk.ru.length + 1) cap3))
              have Sr := Lib.hid ((Below.heap_setCell _ ⟨(w.heap.size + 1), 1, none⟩ (.slice ao3 (pk.ru.length + 1) cap3) _ (Drv)).trans Rr3)
              have Sv := Lib.hid (row_to (B := #[.slice ta pk.tb.length tc, .slice ao3 (pk.ru.length + 1) cap3, .slice wa pk.wt.length wc]) (rowSet Rv3 1 (.slice ao3 (pk.ru.length + 1) cap3)) rfl)
              have SO := Lib.hid (m3.set Rv3 (by decide) 1 (.slice ao3 (pk.ru.length + 1) cap3))
              have SOt := Lib.hid (Ot3.set Rv3 (by decide) 1 (.slice ao3 (pk.ru.length + 1) cap3))
              have SOtx := Lib.hid (Otx3.set Rv3 (by decide) 1 (.slice ao3 (pk.ru.length + 1) cap3))
              have SOrx := Lib.hid (Orx3.set Rv3 (by decide) 1 (.slice ao3 (pk.ru.length + 1) cap3))
              have SOz := Lib.hid (Oz3.set Rv3 (by decide) 1 (.slice ao3 (pk.ru.length + 1) cap3))
              have Srd := Lib.hid (rd3.set Rv3 (by decide) 1 (.slice ao3 (pk.ru.length + 1) cap3))
              have Sre := Lib.hid (re3.set Rv3 (by decide) 1 (.slice ao3 (pk.ru.length + 1) cap3))
              have Srz := Lib.hid (rz3.set Rv3 (by decide) 1 (.slice ao3 (pk.ru.length + 1) cap3))
              clear P3 m3 g3 z3 f3 Rr3 Rv3 Ot3 Otx3 Orx3 Oz3 rd3 re3 rz3
              go_wp2
              go_roundg G
              case measure => omega
              case rel => exact ⟨s4, ⟨pk.tb, pk.ru ++ [x], pk.wt⟩, ⟨pk.tb, pk.ru ++ [{ x with fr := fr9 }], pk.wt⟩, ta, tc, _, _, wa, wc, rt, rr ++ [[Value.string (bs x.n), Value.int .i64 x.l, Value.int .i64 fr9, Value.string (bs x.oid), Value.bool x.wi, Value.slice po9 x.ts.length pc9, Value.slice qo9 x.ss.length qc9, Value.bool x.dr]], HK.out, fun _ => by omega, fun e => by rw [hf9 e], ⟨by show pk.tb.length ≤ s4.p; omega, by simp only [List.length_append, List.length_singleton]; omega, by show pk.wt.length ≤ s4.p; omega, ha4, by simp only [List.length_append, List.length_singleton]; omega⟩, Q4.out, Sr.out, (by have := Sv.out; simp only [List.length_append, List.length_singleton]; exact this), SOt.out, SOtx.out, (by have := SO.out; simp only [List.length_append, List.length_singleton]; exact this), RlR.snoc SOrx.out ⟨po9, pc9, qo9, qc9, rs9, rfl, Srd.out, Sre.out, Srz.out⟩, SOz.out⟩
            · go_simp
              refine hK _ _ ?_
              clear hK K
              refine wpAny_ready (rs := [1]) (by kernel_rfl) (by simp) (AllReady.cons rfl (fun K hK => ?_) AllReady.nil)
              go_simp
              refine hK _ _ ?_
              clear hK K
              refine wpAny_ready (rs := [5]) (by kernel_rfl) (by simp) (AllReady.cons rfl (fun K hK => ?_) AllReady.nil)
              refine appRw (fr := (0, 0)) rfl Tryz.underlying24 ruinfo rfl (by decide) (by decide) _ rfl Oq2 x1.heap.size [.string (bs x.n), .int .i64 x.l, .int .i64 fr9, .string (bs x.oid), .bool x.wi, .slice po9 x.ts.length pc9, .slice qo9 x.ss.length qc9, .bool x.dr] rfl X2 rfl rfl (by intro u hu; simp at hu; rcases hu with rfl | rfl | rfl | rfl | rfl | rfl | rfl | rfl <;> rfl) (by omega) B2 ?_
              intro v3 x3 m3 g3
              have P3 := JnP.grown P2 g3 Oq2.1 (Nat.le_refl _) hlt
              have Rr3 := row_grown Rr2 g3 Oq2.1 (by decide)
              have Rv3 := row_grown Rv2 g3 Oq2.1 (by decide)
              have Ot3 := Ot2.grown g3 Oq2.1 (by decide)
              have Otx3 := Otx2.grown g3 Oq2.1 (by decide)
              have Orx3 := Orx2.grown g3 Oq2.1 (by decide)
              have Oz3 := Oz2.grown g3 Oq2.1 (by decide)
              have rd3 := rd2.grown g3 Oq2.1 (by decide)
              have re3 := re2.grown g3 Oq2.1 (by decide)
              have rz3 := rz2.grown g3 Oq2.1 (by decide)
              obtain ⟨ao3, cap3, hv3, -⟩ := m3.form (by decide)
              rw [show (rr ++ [[Value.string (bs x.n), Value.int .i64 x.l, Value.int .i64 fr9, Value.string (bs x.oid), Value.bool x.wi, Value.slice po9 x.ts.length pc9, Value.slice qo9 x.ss.length qc9, Value.bool x.dr]]).length = pk.ru.length + 1 by simp; exact ha5] at hv3
              subst hv3
              refine hK _ _ ?_
              clear hK K
              refine wpAny_take (i := 6) (v := .pointer (some ⟨(w.heap.size + 1), 1, none⟩)) rfl (by kernel_rfl) (by kernel_rfl) (by kernel_rfl) (fun _ _ _ h => h) (Or.inl ⟨by rfl, ?_⟩) ?_
              · intro w9
                go_simp
              have z3 : World.cell? x3 ⟨(w.heap.size + 1), 1, none⟩ = some (.slice ra pk.ru.length rc) := cellRow Rv3 1
              have f3 := freeRow Rv3 1
              refine wpAny_ready (rs := [7]) (by kernel_rfl) (by simp) (AllReady.cons rfl (fun K hK => ?_) AllReady.nil)
              go_simp
              refine hK _ _ ?_
              clear hK K
              refine wpAny_done (by kernel_rfl) ?_ _
              have Q4 := Lib.hid (jnp_new P3 Lv Mv 1 (.slice ao3 (pk.ru.length + 1) cap3))
              have Sr := Lib.hid ((Below.heap_setCell _ ⟨(w.heap.size + 1), 1, none⟩ (.slice ao3 (pk.ru.length + 1) cap3) _ (Drv)).trans Rr3)
              have Sv := Lib.hid (row_to (B := #[.slice ta pk.tb.length tc, .slice ao3 (pk.ru.length + 1) cap3, .slice wa pk.wt.length wc]) (rowSet Rv3 1 (.slice ao3 (pk.ru.length + 1) cap3)) rfl)
              have SO := Lib.hid (m3.set Rv3 (by decide) 1 (.slice ao3 (pk.ru.length + 1) cap3))
              have SOt := Lib.hid (Ot3.set Rv3 (by decide) 1 (.slice ao3 (pk.ru.length + 1) cap3))
              have SOtx := Lib.hid (Otx3.set Rv3 (by decide) 1 (.slice ao3 (pk.ru.length + 1) cap3))
              have SOrx := Lib.hid (Orx3.set Rv3 (by decide) 1 (.slice ao3 (pk.ru.length + 1) cap3))
              have SOz := Lib.hid (Oz3.set Rv3 (by decide) 1 (.slice ao3 (pk.ru.length + 1) cap3))
              have Srd := Lib.hid (rd3.set Rv3 (by decide) 1 (.slice ao3 (pk.ru.length + 1) cap3))
              have Sre := Lib.hid (re3.set Rv3 (by decide) 1 (.slice ao3 (pk.ru.length + 1) cap3))
              have Srz := Lib.hid (rz3.set Rv3 (by decide) 1 (.slice ao3 (pk.ru.length + 1) cap3))
              clear P3 m3 g3 z3 f3 Rr3 Rv3 Ot3 Otx3 Orx3 Oz3 rd3 re3 rz3
              go_wp2
              go_roundg G
              case measure => omega
              case rel => exact ⟨s4, ⟨pk.tb, pk.ru ++ [x], pk.wt⟩, ⟨pk.tb, pk.ru ++ [{ x with fr := fr9 }], pk.wt⟩, ta, tc, _, _, wa, wc, rt, rr ++ [[Value.string (bs x.n), Value.int .i64 x.l, Value.int .i64 fr9, Value.string (bs x.oid), Value.bool x.wi, Value.slice po9 x.ts.length pc9, Value.slice qo9 x.ss.length qc9, Value.bool x.dr]], HK.out, fun _ => by omega, fun e => by rw [hf9 e], ⟨by show pk.tb.length ≤ s4.p; omega, by simp only [List.length_append, List.length_singleton]; omega, by show pk.wt.length ≤ s4.p; omega, ha4, by simp only [List.length_append, List.length_singleton]; omega⟩, Q4.out, Sr.out, (by have := Sv.out; simp only [List.length_append, List.length_singleton]; exact this), SOt.out, SOtx.out, (by have := SO.out; simp only [List.length_append, List.length_singleton]; exact this), RlR.snoc SOrx.out ⟨po9, pc9, qo9, qc9, rs9, rfl, Srd.out, Sre.out, Srz.out⟩, SOz.out⟩
        | false =>
          rw [word_no hr] at G4
          have G5 := Lib.hid (fun w1 h1 => pword_walk b T ao cap last sx wWatch (by decide) w1 h1)
          rw [show bs wWatch = ({ data := #[119, 97, 116, 99, 104] } : ByteArray) from rfl] at G5
          cases hwt : at_ T sx 1 wWatch with
          | true =>
            rw [word_yes hwt] at G5
            rw [bo_watch hmo ht hr hwt] at HK
            have htp := watch_p T last (lineAt T sx : Nat) (nx sx)
            have G3 := Lib.hid (fun w1 h1 => pwatch_walk b T ao cap last (nx sx) w1 h1)
            rw [hln] at G3
            unfold wtC at G3
            generalize (watch T last (lineAt T sx : Nat) (nx sx)).1 = x at *
            generalize (watch T last (lineAt T sx : Nat) (nx sx)).2 = s4 at *
            clear ht hr hwt hmo hln
            go_wp2_with fail
            refine (G1.out _ P5.1).mono ?_
            rintro e w30 ⟨rfl, p30⟩
            have Rr30 := kp_row16 p30.2 Rr5 Nr
            have Rv30 := kp_row16 p30.2 Rv5 Nv
            have Ot30 := jown_b Ot5 P5.1 (by decide) p30.2
            have Otx30 := jtbs_b Otx5 P5.1 (by decide) p30.2
            have Oq30 := jown_b Oq5 P5.1 (by decide) p30.2
            have Orx30 := jrus_b Orx5 P5.1 (by decide) p30.2
            have Oz30 := jown_b Oz5 P5.1 (by decide) p30.2
            have P30 := JnP.then P5.2 p30
            clear p30 P5 Rr5 Rv5 Ot5 Otx5 Oq5 Orx5 Oz5 c0
            go_wp2_with fail
            refine (G4.out _ P30.1).mono ?_
            rintro e w31 ⟨rfl, p31⟩
            have Rr31 := kp_row16 p31.2 Rr30 Nr
            have Rv31 := kp_row16 p31.2 Rv30 Nv
            have Ot31 := jown_b Ot30 P30.1 (by decide) p31.2
            have Otx31 := jtbs_b Otx30 P30.1 (by decide) p31.2
            have Oq31 := jown_b Oq30 P30.1 (by decide) p31.2
            have Orx31 := jrus_b Orx30 P30.1 (by decide) p31.2
            have Oz31 := jown_b Oz30 P30.1 (by decide) p31.2
            have P31 := JnP.then P30.2 p31
            clear p31 P30 Rr30 Rv30 Ot30 Otx30 Oq30 Orx30 Oz30
            go_wp2_with fail
            refine (G5.out _ P31.1).mono ?_
            rintro e w32 ⟨rfl, p32⟩
            have Rr32 := kp_row16 p32.2 Rr31 Nr
            have Rv32 := kp_row16 p32.2 Rv31 Nv
            have Ot32 := jown_b Ot31 P31.1 (by decide) p32.2
            have Otx32 := jtbs_b Otx31 P31.1 (by decide) p32.2
            have Oq32 := jown_b Oq31 P31.1 (by decide) p32.2
            have Orx32 := jrus_b Orx31 P31.1 (by decide) p32.2
            have Oz32 := jown_b Oz31 P31.1 (by decide) p32.2
            have P32 := JnP.then P31.2 p32
            clear p32 P31 Rr31 Rv31 Ot31 Otx31 Oq31 Orx31 Oz31
            go_wp2_with fail
            refine wp_region_any (by kernel_rfl) ?_
            change wpAny _ _ _ _ _ _ _ (World.drew _)
            have Pd : JnP w b T _ cap last _ (World.drew _) := JnP.drew P32
            have Rrd : (World.drew _).heap[w.heap.size]? = _ := Rr32
            have Rvd : (World.drew _).heap[(w.heap.size + 1)]? = _ := Rv32
            have Otd := Ot32.below (show Below _ _ (World.drew _) from ⟨rfl, rfl, rfl, Nat.le_refl _, fun _ _ => rfl⟩)
            have Otxd := Otx32.below (show Below _ _ (World.drew _) from ⟨rfl, rfl, rfl, Nat.le_refl _, fun _ _ => rfl⟩)
            have Oqd := Oq32.below (show Below _ _ (World.drew _) from ⟨rfl, rfl, rfl, Nat.le_refl _, fun _ _ => rfl⟩)
            have Orxd := Orx32.below (show Below _ _ (World.drew _) from ⟨rfl, rfl, rfl, Nat.le_refl _, fun _ _ => rfl⟩)
            have Ozd := Oz32.below (show Below _ _ (World.drew _) from ⟨rfl, rfl, rfl, Nat.le_refl _, fun _ _ => rfl⟩)
            have zS : World.cell? (World.drew _) ⟨(w.heap.size + 1), 2, none⟩ = some (.slice wa pk.wt.length wc) := cellRow Rvd 2
            refine wpAny_take (i := 0) (v := .pointer (some ⟨(w.heap.size + 1), 2, none⟩)) rfl (by kernel_rfl) (by kernel_rfl) (by kernel_rfl) (fun _ _ _ h => h) (Or.inl ⟨by rfl, ?_⟩) ?_
            · intro w9
              go_simp
            refine wpAny_take (i := 2) (v := .pointer (some ⟨b, 0, none⟩)) rfl (by kernel_rfl) (by kernel_rfl) (by kernel_rfl) (fun _ _ _ h => h) (Or.inl ⟨by rfl, ?_⟩) ?_
            · intro w9
              go_simp
            refine wpAny_ready (rs := [1, 3]) (by kernel_rfl) (by simp) (AllReady.cons rfl (fun K hK => ?_) (AllReady.cons rfl (fun K hK => ?_) AllReady.nil))
            · go_simp
              refine hK _ _ ?_
              clear hK K
              refine wpAny_ready (rs := [3]) (by kernel_rfl) (by simp) (AllReady.cons rfl (fun K hK => ?_) AllReady.nil)
              go_simp
              go_wp2_with (go_at_call 26; refine (G3.out _ Pd.1).mono ?_; rintro e x1 ⟨rfl, p9⟩)
              have P1 := JnP.then Pd.2 p9
              have Rr1 := kp_row16 p9.2 Rrd Nr
              have Rv1 := kp_row16 p9.2 Rvd Nv
              have Ot1 := jown_b Otd Pd.1 (by decide) p9.2
              have Otx1 := jtbs_b Otxd Pd.1 (by decide) p9.2
              have Oq1 := jown_b Oqd Pd.1 (by decide) p9.2
              have Orx1 := jrus_b Orxd Pd.1 (by decide) p9.2
              have Oz1 := jown_b Ozd Pd.1 (by decide) p9.2
              have zS1 : World.cell? x1 ⟨(w.heap.size + 1), 2, none⟩ = some (.slice wa pk.wt.length wc) := cellRow Rv1 2
              have a2 : Below x1.heap.size x1 (x1.alloc (.cells #[.string (bs x.n), .int .i64 x.l, .int .i64 x.k, .string (bs x.cl), .string (bs x.ot), .int .i64 x.ct, .int .i64 x.wn, .string (bs x.ra), .int .i64 x.lv, .string (bs x.tx)] 40)) := (Below.refl _ _).alloc (Nat.le_refl _) _
              have P2 := P1.alloc (.cells #[.string (bs x.n), .int .i64 x.l, .int .i64 x.k, .string (bs x.cl), .string (bs x.ot), .int .i64 x.ct, .int .i64 x.wn, .string (bs x.ra), .int .i64 x.lv, .string (bs x.tx)] 40)
              have B2 : w.heap.size ≤ (x1.alloc (.cells #[.string (bs x.n), .int .i64 x.l, .int .i64 x.k, .string (bs x.cl), .string (bs x.ot), .int .i64 x.ct, .int .i64 x.wn, .string (bs x.ra), .int .i64 x.lv, .string (bs x.tx)] 40)).heap.size := P2.2.size
              have X2 := rowNew x1 (.cells #[.string (bs x.n), .int .i64 x.l, .int .i64 x.k, .string (bs x.cl), .string (bs x.ot), .int .i64 x.ct, .int .i64 x.wn, .string (bs x.ra), .int .i64 x.lv, .string (bs x.tx)] 40)
              have Rr2 := (a2.block (w.heap.size) (lt_of_block Rr1)).trans Rr1
              have Rv2 := (a2.block ((w.heap.size + 1)) (lt_of_block Rv1)).trans Rv1
              have Ot2 := Ot1.below a2
              have Otx2 := Otx1.below a2
              have Oq2 := Oq1.below a2
              have Orx2 := Orx1.below a2
              have Oz2 := Oz1.below a2
              have zS2 : World.cell? (x1.alloc (.cells #[.string (bs x.n), .int .i64 x.l, .int .i64 x.k, .string (bs x.cl), .string (bs x.ot), .int .i64 x.ct, .int .i64 x.wn, .string (bs x.ra), .int .i64 x.lv, .string (bs x.tx)] 40)) ⟨(w.heap.size + 1), 2, none⟩ = some (.slice wa pk.wt.length wc) := cellRow Rv2 2
              refine wpAny_ready (rs := [4]) (by kernel_rfl) (by simp) (AllReady.cons rfl (fun K hK => ?_) AllReady.nil)
              go_simp
              refine hK _ _ ?_
              clear hK K
              refine wpAny_ready (rs := [5]) (by kernel_rfl) (by simp) (AllReady.cons rfl (fun K hK => ?_) AllReady.nil)
              refine appRw (fr := (0, 0)) rfl Tryz.underlying25 wtinfo rfl (by decide) (by decide) _ rfl Oz2 x1.heap.size [.string (bs x.n), .int .i64 x.l, .int .i64 x.k, .string (bs x.cl), .string (bs x.ot), .int .i64 x.ct, .int .i64 x.wn, .string (bs x.ra), .int .i64 x.lv, .string (bs x.tx)] rfl X2 rfl rfl (by intro u hu; simp at hu; rcases hu with rfl | rfl | rfl | rfl | rfl | rfl | rfl | rfl | rfl | rfl <;> rfl) (by simp; omega) B2 ?_
              intro v3 x3 m3 g3
              have P3 := JnP.grown P2 g3 Oz2.1 (Nat.le_refl _) hlt
              have Rr3 := row_grown Rr2 g3 Oz2.1 (by decide)
              have Rv3 := row_grown Rv2 g3 Oz2.1 (by decide)
              have Ot3 := Ot2.grown g3 Oz2.1 (by decide)
              have Otx3 := Otx2.grown g3 Oz2.1 (by decide)
              have Oq3 := Oq2.grown g3 Oz2.1 (by decide)
              have Orx3 := Orx2.grown g3 Oz2.1 (by decide)
              obtain ⟨ao3, cap3, hv3, -⟩ := m3.form (by decide)
              rw [show (pk.wt.map wtRow ++ [[Value.string (bs x.n), Value.int .i64 x.l, Value.int .i64 x.k, Value.string (bs x.cl), Value.string (bs x.ot), Value.int .i64 x.ct, Value.int .i64 x.wn, Value.string (bs x.ra), Value.int .i64 x.lv, Value.string (bs x.tx)]]).length = pk.wt.length + 1 by simp] at hv3
              subst hv3
              refine hK _ _ ?_
              clear hK K
              refine wpAny_take (i := 6) (v := .pointer (some ⟨(w.heap.size + 1), 2, none⟩)) rfl (by kernel_rfl) (by kernel_rfl) (by kernel_rfl) (fun _ _ _ h => h) (Or.inl ⟨by rfl, ?_⟩) ?_
              · intro w9
                go_simp
              have z3 : World.cell? x3 ⟨(w.heap.size + 1), 2, none⟩ = some (.slice wa pk.wt.length wc) := cellRow Rv3 2
              have f3 := freeRow Rv3 2
              refine wpAny_ready (rs := [7]) (by kernel_rfl) (by simp) (AllReady.cons rfl (fun K hK => ?_) AllReady.nil)
              go_simp
              refine hK _ _ ?_
              clear hK K
              refine wpAny_done (by kernel_rfl) ?_ _
              have Q4 := Lib.hid (jnp_new P3 Lv Mv 2 (.slice ao3 (pk.wt.length + 1) cap3))
              have Sr := Lib.hid ((Below.heap_setCell _ ⟨(w.heap.size + 1), 2, none⟩ (.slice ao3 (pk.wt.length + 1) cap3) _ (Drv)).trans Rr3)
              have Sv := Lib.hid (row_to (B := #[.slice ta pk.tb.length tc, .slice ra pk.ru.length rc, .slice ao3 (pk.wt.length + 1) cap3]) (rowSet Rv3 2 (.slice ao3 (pk.wt.length + 1) cap3)) rfl)
              have SO := Lib.hid (m3.set Rv3 (by decide) 2 (.slice ao3 (pk.wt.length + 1) cap3))
              have SOt := Lib.hid (Ot3.set Rv3 (by decide) 2 (.slice ao3 (pk.wt.length + 1) cap3))
              have SOtx := Lib.hid (Otx3.set Rv3 (by decide) 2 (.slice ao3 (pk.wt.length + 1) cap3))
              have SOq := Lib.hid (Oq3.set Rv3 (by decide) 2 (.slice ao3 (pk.wt.length + 1) cap3))
              have SOrx := Lib.hid (Orx3.set Rv3 (by decide) 2 (.slice ao3 (pk.wt.length + 1) cap3))
              clear P3 m3 g3 z3 f3 Rr3 Rv3 Ot3 Otx3 Oq3 Orx3 
              go_wp2
              go_roundg G
              case measure => omega
              case rel => exact ⟨s4, ⟨pk.tb, pk.ru, pk.wt ++ [x]⟩, ⟨pk.tb, pk.ru, pk.wt ++ [x]⟩, ta, tc, ra, rc, _, _, rt, rr, HK.out, fun _ => by omega, fun _ => rfl, ⟨by show pk.tb.length ≤ s4.p; omega, by show pk.ru.length ≤ s4.p; omega, by simp only [List.length_append, List.length_singleton]; omega, ha4, ha5⟩, Q4.out, Sr.out, (by have := Sv.out; simp only [List.length_append, List.length_singleton]; exact this), SOt.out, SOtx.out, SOq.out, SOrx.out, (by have := SO.out; simp only [List.length_append, List.length_singleton, List.map_append, List.map_cons, List.map_nil]; exact this)⟩
            · go_simp
              go_wp2_with (go_at_call 26; refine (G3.out _ Pd.1).mono ?_; rintro e x1 ⟨rfl, p9⟩)
              have P1 := JnP.then Pd.2 p9
              have Rr1 := kp_row16 p9.2 Rrd Nr
              have Rv1 := kp_row16 p9.2 Rvd Nv
              have Ot1 := jown_b Otd Pd.1 (by decide) p9.2
              have Otx1 := jtbs_b Otxd Pd.1 (by decide) p9.2
              have Oq1 := jown_b Oqd Pd.1 (by decide) p9.2
              have Orx1 := jrus_b Orxd Pd.1 (by decide) p9.2
              have Oz1 := jown_b Ozd Pd.1 (by decide) p9.2
              have zS1 : World.cell? x1 ⟨(w.heap.size + 1), 2, none⟩ = some (.slice wa pk.wt.length wc) := cellRow Rv1 2
              have a2 : Below x1.heap.size x1 (x1.alloc (.cells #[.string (bs x.n), .int .i64 x.l, .int .i64 x.k, .string (bs x.cl), .string (bs x.ot), .int .i64 x.ct, .int .i64 x.wn, .string (bs x.ra), .int .i64 x.lv, .string (bs x.tx)] 40)) := (Below.refl _ _).alloc (Nat.le_refl _) _
              have P2 := P1.alloc (.cells #[.string (bs x.n), .int .i64 x.l, .int .i64 x.k, .string (bs x.cl), .string (bs x.ot), .int .i64 x.ct, .int .i64 x.wn, .string (bs x.ra), .int .i64 x.lv, .string (bs x.tx)] 40)
              have B2 : w.heap.size ≤ (x1.alloc (.cells #[.string (bs x.n), .int .i64 x.l, .int .i64 x.k, .string (bs x.cl), .string (bs x.ot), .int .i64 x.ct, .int .i64 x.wn, .string (bs x.ra), .int .i64 x.lv, .string (bs x.tx)] 40)).heap.size := P2.2.size
              have X2 := rowNew x1 (.cells #[.string (bs x.n), .int .i64 x.l, .int .i64 x.k, .string (bs x.cl), .string (bs x.ot), .int .i64 x.ct, .int .i64 x.wn, .string (bs x.ra), .int .i64 x.lv, .string (bs x.tx)] 40)
              have Rr2 := (a2.block (w.heap.size) (lt_of_block Rr1)).trans Rr1
              have Rv2 := (a2.block ((w.heap.size + 1)) (lt_of_block Rv1)).trans Rv1
              have Ot2 := Ot1.below a2
              have Otx2 := Otx1.below a2
              have Oq2 := Oq1.below a2
              have Orx2 := Orx1.below a2
              have Oz2 := Oz1.below a2
              have zS2 : World.cell? (x1.alloc (.cells #[.string (bs x.n), .int .i64 x.l, .int .i64 x.k, .string (bs x.cl), .string (bs x.ot), .int .i64 x.ct, .int .i64 x.wn, .string (bs x.ra), .int .i64 x.lv, .string (bs x.tx)] 40)) ⟨(w.heap.size + 1), 2, none⟩ = some (.slice wa pk.wt.length wc) := cellRow Rv2 2
              refine wpAny_ready (rs := [1, 4]) (by kernel_rfl) (by simp) (AllReady.cons rfl (fun K hK => ?_) (AllReady.cons rfl (fun K hK => ?_) AllReady.nil))
              · go_simp
                refine hK _ _ ?_
                clear hK K
                refine wpAny_ready (rs := [4]) (by kernel_rfl) (by simp) (AllReady.cons rfl (fun K hK => ?_) AllReady.nil)
                go_simp
                refine hK _ _ ?_
                clear hK K
                refine wpAny_ready (rs := [5]) (by kernel_rfl) (by simp) (AllReady.cons rfl (fun K hK => ?_) AllReady.nil)
                refine appRw (fr := (0, 0)) rfl Tryz.underlying25 wtinfo rfl (by decide) (by decide) _ rfl Oz2 x1.heap.size [.string (bs x.n), .int .i64 x.l, .int .i64 x.k, .string (bs x.cl), .string (bs x.ot), .int .i64 x.ct, .int .i64 x.wn, .string (bs x.ra), .int .i64 x.lv, .string (bs x.tx)] rfl X2 rfl rfl (by intro u hu; simp at hu; rcases hu with rfl | rfl | rfl | rfl | rfl | rfl | rfl | rfl | rfl | rfl <;> rfl) (by simp; omega) B2 ?_
                intro v3 x3 m3 g3
                have P3 := JnP.grown P2 g3 Oz2.1 (Nat.le_refl _) hlt
                have Rr3 := row_grown Rr2 g3 Oz2.1 (by decide)
                have Rv3 := row_grown Rv2 g3 Oz2.1 (by decide)
                have Ot3 := Ot2.grown g3 Oz2.1 (by decide)
                have Otx3 := Otx2.grown g3 Oz2.1 (by decide)
                have Oq3 := Oq2.grown g3 Oz2.1 (by decide)
                have Orx3 := Orx2.grown g3 Oz2.1 (by decide)
                obtain ⟨ao3, cap3, hv3, -⟩ := m3.form (by decide)
                rw [show (pk.wt.map wtRow ++ [[Value.string (bs x.n), Value.int .i64 x.l, Value.int .i64 x.k, Value.string (bs x.cl), Value.string (bs x.ot), Value.int .i64 x.ct, Value.int .i64 x.wn, Value.string (bs x.ra), Value.int .i64 x.lv, Value.string (bs x.tx)]]).length = pk.wt.length + 1 by simp] at hv3
                subst hv3
                refine hK _ _ ?_
                clear hK K
                refine wpAny_take (i := 6) (v := .pointer (some ⟨(w.heap.size + 1), 2, none⟩)) rfl (by kernel_rfl) (by kernel_rfl) (by kernel_rfl) (fun _ _ _ h => h) (Or.inl ⟨by rfl, ?_⟩) ?_
                · intro w9
                  go_simp
                have z3 : World.cell? x3 ⟨(w.heap.size + 1), 2, none⟩ = some (.slice wa pk.wt.length wc) := cellRow Rv3 2
                have f3 := freeRow Rv3 2
                refine wpAny_ready (rs := [7]) (by kernel_rfl) (by simp) (AllReady.cons rfl (fun K hK => ?_) AllReady.nil)
                go_simp
                refine hK _ _ ?_
                clear hK K
                refine wpAny_done (by kernel_rfl) ?_ _
                have Q4 := Lib.hid (jnp_new P3 Lv Mv 2 (.slice ao3 (pk.wt.length + 1) cap3))
                have Sr := Lib.hid ((Below.heap_setCell _ ⟨(w.heap.size + 1), 2, none⟩ (.slice ao3 (pk.wt.length + 1) cap3) _ (Drv)).trans Rr3)
                have Sv := Lib.hid (row_to (B := #[.slice ta pk.tb.length tc, .slice ra pk.ru.length rc, .slice ao3 (pk.wt.length + 1) cap3]) (rowSet Rv3 2 (.slice ao3 (pk.wt.length + 1) cap3)) rfl)
                have SO := Lib.hid (m3.set Rv3 (by decide) 2 (.slice ao3 (pk.wt.length + 1) cap3))
                have SOt := Lib.hid (Ot3.set Rv3 (by decide) 2 (.slice ao3 (pk.wt.length + 1) cap3))
                have SOtx := Lib.hid (Otx3.set Rv3 (by decide) 2 (.slice ao3 (pk.wt.length + 1) cap3))
                have SOq := Lib.hid (Oq3.set Rv3 (by decide) 2 (.slice ao3 (pk.wt.length + 1) cap3))
                have SOrx := Lib.hid (Orx3.set Rv3 (by decide) 2 (.slice ao3 (pk.wt.length + 1) cap3))
                clear P3 m3 g3 z3 f3 Rr3 Rv3 Ot3 Otx3 Oq3 Orx3 
                go_wp2
                go_roundg G
                case measure => omega
                case rel => exact ⟨s4, ⟨pk.tb, pk.ru, pk.wt ++ [x]⟩, ⟨pk.tb, pk.ru, pk.wt ++ [x]⟩, ta, tc, ra, rc, _, _, rt, rr, HK.out, fun _ => by omega, fun _ => rfl, ⟨by show pk.tb.length ≤ s4.p; omega, by show pk.ru.length ≤ s4.p; omega, by simp only [List.length_append, List.length_singleton]; omega, ha4, ha5⟩, Q4.out, Sr.out, (by have := Sv.out; simp only [List.length_append, List.length_singleton]; exact this), SOt.out, SOtx.out, SOq.out, SOrx.out, (by have := SO.out; simp only [List.length_append, List.length_singleton, List.map_append, List.map_cons, List.map_nil]; exact this)⟩
              · go_simp
                refine hK _ _ ?_
                clear hK K
                refine wpAny_ready (rs := [1]) (by kernel_rfl) (by simp) (AllReady.cons rfl (fun K hK => ?_) AllReady.nil)
                go_simp
                refine hK _ _ ?_
                clear hK K
                refine wpAny_ready (rs := [5]) (by kernel_rfl) (by simp) (AllReady.cons rfl (fun K hK => ?_) AllReady.nil)
                refine appRw (fr := (0, 0)) rfl Tryz.underlying25 wtinfo rfl (by decide) (by decide) _ rfl Oz2 x1.heap.size [.string (bs x.n), .int .i64 x.l, .int .i64 x.k, .string (bs x.cl), .string (bs x.ot), .int .i64 x.ct, .int .i64 x.wn, .string (bs x.ra), .int .i64 x.lv, .string (bs x.tx)] rfl X2 rfl rfl (by intro u hu; simp at hu; rcases hu with rfl | rfl | rfl | rfl | rfl | rfl | rfl | rfl | rfl | rfl <;> rfl) (by simp; omega) B2 ?_
                intro v3 x3 m3 g3
                have P3 := JnP.grown P2 g3 Oz2.1 (Nat.le_refl _) hlt
                have Rr3 := row_grown Rr2 g3 Oz2.1 (by decide)
                have Rv3 := row_grown Rv2 g3 Oz2.1 (by decide)
                have Ot3 := Ot2.grown g3 Oz2.1 (by decide)
                have Otx3 := Otx2.grown g3 Oz2.1 (by decide)
                have Oq3 := Oq2.grown g3 Oz2.1 (by decide)
                have Orx3 := Orx2.grown g3 Oz2.1 (by decide)
                obtain ⟨ao3, cap3, hv3, -⟩ := m3.form (by decide)
                rw [show (pk.wt.map wtRow ++ [[Value.string (bs x.n), Value.int .i64 x.l, Value.int .i64 x.k, Value.string (bs x.cl), Value.string (bs x.ot), Value.int .i64 x.ct, Value.int .i64 x.wn, Value.string (bs x.ra), Value.int .i64 x.lv, Value.string (bs x.tx)]]).length = pk.wt.length + 1 by simp] at hv3
                subst hv3
                refine hK _ _ ?_
                clear hK K
                refine wpAny_take (i := 6) (v := .pointer (some ⟨(w.heap.size + 1), 2, none⟩)) rfl (by kernel_rfl) (by kernel_rfl) (by kernel_rfl) (fun _ _ _ h => h) (Or.inl ⟨by rfl, ?_⟩) ?_
                · intro w9
                  go_simp
                have z3 : World.cell? x3 ⟨(w.heap.size + 1), 2, none⟩ = some (.slice wa pk.wt.length wc) := cellRow Rv3 2
                have f3 := freeRow Rv3 2
                refine wpAny_ready (rs := [7]) (by kernel_rfl) (by simp) (AllReady.cons rfl (fun K hK => ?_) AllReady.nil)
                go_simp
                refine hK _ _ ?_
                clear hK K
                refine wpAny_done (by kernel_rfl) ?_ _
                have Q4 := Lib.hid (jnp_new P3 Lv Mv 2 (.slice ao3 (pk.wt.length + 1) cap3))
                have Sr := Lib.hid ((Below.heap_setCell _ ⟨(w.heap.size + 1), 2, none⟩ (.slice ao3 (pk.wt.length + 1) cap3) _ (Drv)).trans Rr3)
                have Sv := Lib.hid (row_to (B := #[.slice ta pk.tb.length tc, .slice ra pk.ru.length rc, .slice ao3 (pk.wt.length + 1) cap3]) (rowSet Rv3 2 (.slice ao3 (pk.wt.length + 1) cap3)) rfl)
                have SO := Lib.hid (m3.set Rv3 (by decide) 2 (.slice ao3 (pk.wt.length + 1) cap3))
                have SOt := Lib.hid (Ot3.set Rv3 (by decide) 2 (.slice ao3 (pk.wt.length + 1) cap3))
                have SOtx := Lib.hid (Otx3.set Rv3 (by decide) 2 (.slice ao3 (pk.wt.length + 1) cap3))
                have SOq := Lib.hid (Oq3.set Rv3 (by decide) 2 (.slice ao3 (pk.wt.length + 1) cap3))
                have SOrx := Lib.hid (Orx3.set Rv3 (by decide) 2 (.slice ao3 (pk.wt.length + 1) cap3))
                clear P3 m3 g3 z3 f3 Rr3 Rv3 Ot3 Otx3 Oq3 Orx3 
                go_wp2
                go_roundg G
                case measure => omega
                case rel => exact ⟨s4, ⟨pk.tb, pk.ru, pk.wt ++ [x]⟩, ⟨pk.tb, pk.ru, pk.wt ++ [x]⟩, ta, tc, ra, rc, _, _, rt, rr, HK.out, fun _ => by omega, fun _ => rfl, ⟨by show pk.tb.length ≤ s4.p; omega, by show pk.ru.length ≤ s4.p; omega, by simp only [List.length_append, List.length_singleton]; omega, ha4, ha5⟩, Q4.out, Sr.out, (by have := Sv.out; simp only [List.length_append, List.length_singleton]; exact this), SOt.out, SOtx.out, SOq.out, SOrx.out, (by have := SO.out; simp only [List.length_append, List.length_singleton, List.map_append, List.map_cons, List.map_nil]; exact this)⟩
          | false =>
            rw [word_no hwt] at G5
            rw [bo_none hmo ht hr hwt] at HK
            have G6 := Lib.hid (fun w1 h1 => prefuse_walk b T ao cap last sx w1 h1)
            have hfb := fail_bad T last sx
            have hfp := fail_p T last sx
            clear ht hr hwt hmo hln
            go_wp2_with fail
            refine (G1.out _ P5.1).mono ?_
            rintro e w30 ⟨rfl, p30⟩
            have Rr30 := kp_row16 p30.2 Rr5 Nr
            have Rv30 := kp_row16 p30.2 Rv5 Nv
            have Ot30 := jown_b Ot5 P5.1 (by decide) p30.2
            have Otx30 := jtbs_b Otx5 P5.1 (by decide) p30.2
            have Oq30 := jown_b Oq5 P5.1 (by decide) p30.2
            have Orx30 := jrus_b Orx5 P5.1 (by decide) p30.2
            have Oz30 := jown_b Oz5 P5.1 (by decide) p30.2
            have P30 := JnP.then P5.2 p30
            clear p30 P5 Rr5 Rv5 Ot5 Otx5 Oq5 Orx5 Oz5 c0
            go_wp2_with fail
            refine (G4.out _ P30.1).mono ?_
            rintro e w31 ⟨rfl, p31⟩
            have Rr31 := kp_row16 p31.2 Rr30 Nr
            have Rv31 := kp_row16 p31.2 Rv30 Nv
            have Ot31 := jown_b Ot30 P30.1 (by decide) p31.2
            have Otx31 := jtbs_b Otx30 P30.1 (by decide) p31.2
            have Oq31 := jown_b Oq30 P30.1 (by decide) p31.2
            have Orx31 := jrus_b Orx30 P30.1 (by decide) p31.2
            have Oz31 := jown_b Oz30 P30.1 (by decide) p31.2
            have P31 := JnP.then P30.2 p31
            clear p31 P30 Rr30 Rv30 Ot30 Otx30 Oq30 Orx30 Oz30
            go_wp2_with fail
            refine (G5.out _ P31.1).mono ?_
            rintro e w32 ⟨rfl, p32⟩
            have Rr32 := kp_row16 p32.2 Rr31 Nr
            have Rv32 := kp_row16 p32.2 Rv31 Nv
            have Ot32 := jown_b Ot31 P31.1 (by decide) p32.2
            have Otx32 := jtbs_b Otx31 P31.1 (by decide) p32.2
            have Oq32 := jown_b Oq31 P31.1 (by decide) p32.2
            have Orx32 := jrus_b Orx31 P31.1 (by decide) p32.2
            have Oz32 := jown_b Oz31 P31.1 (by decide) p32.2
            have P32 := JnP.then P31.2 p32
            clear p32 P31 Rr31 Rv31 Ot31 Otx31 Oq31 Orx31 Oz31
            go_wp2_with fail
            refine (G6.out _ P32.1).mono ?_
            rintro e w33 ⟨rfl, p33⟩
            have Rr33 := kp_row16 p33.2 Rr32 Nr
            have Rv33 := kp_row16 p33.2 Rv32 Nv
            have Ot33 := jown_b Ot32 P32.1 (by decide) p33.2
            have Otx33 := jtbs_b Otx32 P32.1 (by decide) p33.2
            have Oq33 := jown_b Oq32 P32.1 (by decide) p33.2
            have Orx33 := jrus_b Orx32 P32.1 (by decide) p33.2
            have Oz33 := jown_b Oz32 P32.1 (by decide) p33.2
            have P33 := JnP.then P32.2 p33
            clear p33 P32 Rr32 Rv32 Ot32 Otx32 Oq32 Orx32 Oz32
            have Q4 := Lib.hid P33
            have Sr := Lib.hid Rr33
            have Sv := Lib.hid Rv33
            have SOt := Lib.hid Ot33
            have SOtx := Lib.hid Otx33
            have SOq := Lib.hid Oq33
            have SOrx := Lib.hid Orx33
            have SOz := Lib.hid Oz33
            clear P33 Rr33 Rv33 Ot33 Otx33 Oq33 Orx33 Oz33
            go_wp2
            go_roundg G
            case measure => omega
            case rel => exact ⟨_, pk, pk, ta, tc, ra, rc, wa, wc, rt, rr, HK.out, fun e => absurd e hfb, fun _ => rfl, ⟨by omega, by omega, by omega, ha4, ha5⟩, Q4.out, Sr.out, Sv.out, SOt.out, SOtx.out, SOq.out, SOrx.out, SOz.out⟩
end PQ
end Go.Proofs.YtaeglmgpoboihaaGreatDoor
