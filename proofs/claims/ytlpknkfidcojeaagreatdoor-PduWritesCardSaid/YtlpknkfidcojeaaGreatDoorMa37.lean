/- Texts on the program and on the document, joined: PduX, PduE. -/
import Derived.Test.YtlpknkfidcojeaaGreatDoorMa36
import Derived.Test.YtlpknkfidcojeaaGreatDoorMa20
/- pdu's Decode, walked. -/
namespace Go.Proofs.YtlpknkfidcojeaaGreatDoor
open Go.ChangeShapes Go.WideShapes Go.ChangeAt Go.RowKit K P1 B5
open D8 (Bd Un lst deB deL deU)
set_option linter.unusedVariables false

def tg (t : Int) : Bool := t == 162 || (t == 166 || t == 167)
theorem deL_ok : ∀ (ps : List Pt) (l : List Bd), deL ps = some l → ∀ x ∈ l, x.ok = true
  | [], l, h, x, hx => by
    have h' : some [] = some l := h
    obtain rfl := Option.some.inj h'; cases hx
  | q :: a, xs, h, x, hx => by
    have h' : (match deB q with | none => none | some x => match deL a with | none => none | some l => some (x :: l)) = some xs := h
    cases h1 : deB q with
    | none => rw [h1] at h'; cases h'
    | some y =>
      rw [h1] at h'
      cases h2 : deL a with
      | none => rw [h2] at h'; cases h'
      | some l =>
        rw [h2] at h'
        obtain rfl := Option.some.inj h'
        rcases List.mem_cons.1 hx with rfl | hx
        · exact (D8.bind_told h1).2.1
        · exact deL_ok a l h2 x hx
theorem tg_iff (t : Int) : tg t = true ↔ t = 162 ∨ t = 166 ∨ t = 167 := by
  unfold tg; simp only [Bool.or_eq_true, beq_iff_eq]
theorem deU_four {t : Int} {b : List UInt8} {u : Un} {ps : List Pt} (h : prt 0 b = .ok ps) (hd : deU t b = some u) : tg t = true ∧ ∃ p1 p2 p3 p4, ps = [p1, p2, p3, p4] ∧ rnO p1 p2 p3 = true ∧ nb (nuV p1.2) (nuV p2.2) (nuV p3.2) = true ∧ rbL p4.1 p4.2 = some u.l := by
  obtain ⟨p1, p2, p3, p4, qs, hp, ⟨t1, t2, t3, t4, n1, n2, n3⟩, hq, hl, hu, hok⟩ := D8.deU_inv hd
  rw [h] at hp
  injection hp with hp
  have hk := (D8.Un.ok_iff u).1 hok
  rw [hu] at hk
  simp only [] at hk
  refine ⟨(tg_iff t).2 hk.1, p1, p2, p3, p4, hp, ?_, ?_, ?_⟩
  · unfold rnO; rw [t1, t2, t3, n1, n2, n3]; rfl
  · rw [(nu_yes n1).1, (nu_yes n2).1, (nu_yes n3).1]
    exact (nb_iff _ _ _).2 ⟨hk.2.1, hk.2.2.1, hk.2.2.2.1⟩
  · unfold rbL; rw [if_pos t4, hq]; exact hl
theorem deU_from {t : Int} {b : List UInt8} {p1 p2 p3 p4 : Pt} {xs : List Bd} (h : prt 0 b = .ok [p1, p2, p3, p4]) (ht : tg t = true) (hr : rnO p1 p2 p3 = true) (hn : nb (nuV p1.2) (nuV p2.2) (nuV p3.2) = true) (hb : rbL p4.1 p4.2 = some xs) : deU t b = some ⟨t, nuV p1.2, nuV p2.2, nuV p3.2, xs⟩ := by
  unfold rnO at hr
  simp only [Bool.and_eq_true, decide_eq_true_eq] at hr
  obtain ⟨⟨t1, n1⟩, ⟨t2, n2⟩, ⟨t3, n3⟩⟩ := hr
  unfold rbL at hb
  by_cases t4 : p4.1 = 48
  · rw [if_pos t4] at hb
    cases hq : prt 0 p4.2 with
    | error c => rw [hq] at hb; cases hb
    | ok qs =>
      rw [hq] at hb
      have hb' : deL qs = some xs := hb
      rw [deU_go h t1 t2 t3 t4 n1 n2 n3 hq hb', ← (nu_yes n1).1, ← (nu_yes n2).1, ← (nu_yes n3).1]
      rw [if_pos]
      have hn' := (nb_iff _ _ _).1 hn
      refine (D8.Un.ok_iff _).2 ⟨(tg_iff t).1 ht, hn'.1, hn'.2.1, hn'.2.2, ?_, deL_ok qs xs hb'⟩
      show xs.length ≤ 4096
      rw [deL_len qs xs hb']; exact prt_most hq
  · rw [if_neg t4] at hb; cases hb
theorem RdB.far {w : World} {ao : Option Addr} {xs : List Bd} (h : RdB w ao xs) {R : Nat} (hne : ∀ a, ao = some a → R ≠ a.block) (i : Nat) (v : Value) : RdB (w.setCell ⟨R, i, none⟩ v) ao xs := by
  rcases h with h0 | ⟨b, off, ha, hb, hc⟩
  · exact .inl h0
  · have hR : R ≠ b := hne _ ha
    refine .inr ⟨b, off, ha, by simpa using hb, fun k hk => ?_⟩
    obtain ⟨c0, c1, c2, c3⟩ := hc k hk
    exact ⟨(World.cell?_setCell_far _ _ _ _ hR).trans c0, (World.cell?_setCell_far _ _ _ _ hR).trans c1, (World.cell?_setCell_far _ _ _ _ hR).trans c2, (World.cell?_setCell_far _ _ _ _ hR).trans c3⟩
set_option maxRecDepth 100000 in
set_option maxHeartbeats 2000000 in
theorem decode8_walk (t : Int) (b : List UInt8) (hp : b.length ≤ 1000000) (w : World) (T : Tp w) :
    Calls Tryz.prog 7 #[.agg #[.int .i64 t, .string (bs b)]] w (DuPost t b w) := by
  have HQ := Lib.hid (fun w1 => partsof_walk t b (by omega) w1)
  unfold PoPost at HQ
  have HNo := Lib.hid (fun (e : deU t b = none) (w' : World) (k : Below w.heap.size w w') => DuPost.no e k)
  have HT := Lib.hid T
  have hI := fun w1 => istag8_walk t w1
  rw [show (t == 162 || (t == 166 || t == 167)) = tg t from rfl] at hI
  obtain ⟨w2, hw2, hq, hpt, bw⟩ := two_blocksU 30 25 w t b
  have HW := Lib.hid hw2
  clear hw2 T
  cases hpr : prt 0 b with
  | error c =>
    have HE := Lib.hid (show deU t b = none by unfold D8.deU; simp only [hpr])
    clear hI
    go_enter Tryz.func7, Tryz.ntmps7
    go_wp2_with fail
    rw [HW.out]
    refine (HQ.out _).mono ?_
    rintro e w1 (⟨c', h', rfl, b1⟩ | ⟨ps', v, h', rfl, ho, b1⟩)
    rotate_left
    · rw [hpr] at h'; cases h'
    clear h' hpr
    replace hq := hq.below b1
    replace bw := bw.trans (b1.mono bw.size)
    clear HQ HW b1 hpt
    obtain ⟨c0, c1, c2, c3, c4⟩ := hq.cells
    obtain ⟨f0, f1, f2, f3, f4⟩ := hq.free
    have PX := hq.set nou none 0
    have bb := below_set5 bw (b := w.heap.size + 1) (Nat.le_succ _) (.int .i64 0) (.int .i64 0) (.int .i64 0) (.int .i64 0) (.slice none 0 0)
    go_wp2
    refine bodyPost_ret (results_cell_row2 rfl _ _ (w.heap.size + 1) _ _ _ _ rfl PX Tryz.underlying25 rfl (by kernel_rfl)) rfl ?_
    exact HNo.out HE.out _ bb
  | ok ps =>
    have HH := Lib.hid hpr
    have HF := Lib.hid (fun u hd => deU_four (t := t) (u := u) hpr hd)
    cases ht : tg t
    · rw [ht] at hI
      have HI := Lib.hid hI
      have HE := Lib.hid (show deU t b = none by
        cases hd : deU t b with
        | none => rfl
        | some u => have h := (HF.out u hd).1; rw [ht] at h; cases h)
      clear hI ht hpr HF
      go_enter Tryz.func7, Tryz.ntmps7
      go_wp2_with fail
      rw [HW.out]
      refine (HQ.out _).mono ?_
      rintro e w1 (⟨c', h', rfl, b1⟩ | ⟨ps', v, h', rfl, ho, b1⟩)
      · have h := HH.out; rw [h'] at h; cases h
      have hh2 := HH.out
      rw [h'] at hh2
      injection hh2 with hh2
      subst hh2
      replace hq := hq.below b1
      replace hpt := hpt.keep b1
      replace bw := bw.trans (b1.mono bw.size)
      obtain ⟨ao, cap, rfl, hf⟩ := ho.form
      obtain ⟨d0, d1, _, _⟩ := hpt.cells
      clear HQ HW b1 h'
      go_wp2_with fail
      refine (HI.out _).mono ?_
      rintro e w9 ⟨rfl, rfl⟩
      obtain ⟨c0, c1, c2, c3, c4⟩ := hq.cells
      obtain ⟨f0, f1, f2, f3, f4⟩ := hq.free
      have PX := hq.set nou none 0
      have bb := below_set5 bw (b := w.heap.size + 1) (Nat.le_succ _) (.int .i64 0) (.int .i64 0) (.int .i64 0) (.int .i64 0) (.slice none 0 0)
      go_wp2
      refine bodyPost_ret (results_cell_row2 rfl _ _ (w.heap.size + 1) _ _ _ _ rfl PX Tryz.underlying25 rfl (by kernel_rfl)) rfl ?_
      exact HNo.out HE.out _ bb
    rw [ht] at hI
    have HI := Lib.hid hI
    clear hI
    by_cases hlen : ps.length = 4
    rotate_left
    · have hl : (((ps.length : Nat) : Int) != 4) = true := by rw [bne_iff_ne]; omega
      have HE := Lib.hid (show deU t b = none by
        cases hd : deU t b with
        | none => rfl
        | some u => obtain ⟨_, p1, p2, p3, p4, h, _⟩ := HF.out u hd; rw [h] at hlen; exact absurd rfl hlen)
      clear ht hpr HF hlen
      go_enter Tryz.func7, Tryz.ntmps7
      go_wp2_with fail
      rw [HW.out]
      refine (HQ.out _).mono ?_
      rintro e w1 (⟨c', h', rfl, b1⟩ | ⟨ps', v, h', rfl, ho, b1⟩)
      · have h := HH.out; rw [h'] at h; cases h
      have hh2 := HH.out
      rw [h'] at hh2
      injection hh2 with hh2
      subst hh2
      replace hq := hq.below b1
      replace hpt := hpt.keep b1
      replace bw := bw.trans (b1.mono bw.size)
      obtain ⟨ao, cap, rfl, hf⟩ := ho.form
      obtain ⟨d0, d1, _, _⟩ := hpt.cells
      clear HQ HW b1 h'
      go_wp2_with fail
      refine (HI.out _).mono ?_
      rintro e w9 ⟨rfl, rfl⟩
      obtain ⟨c0, c1, c2, c3, c4⟩ := hq.cells
      obtain ⟨f0, f1, f2, f3, f4⟩ := hq.free
      have PX := hq.set nou none 0
      have bb := below_set5 bw (b := w.heap.size + 1) (Nat.le_succ _) (.int .i64 0) (.int .i64 0) (.int .i64 0) (.int .i64 0) (.slice none 0 0)
      go_wp2
      refine bodyPost_ret (results_cell_row2 rfl _ _ (w.heap.size + 1) _ _ _ _ rfl PX Tryz.underlying25 rfl (by kernel_rfl)) rfl ?_
      exact HNo.out HE.out _ bb
    obtain ⟨p1, p2, p3, p4, rfl⟩ := four_of hlen
    have hm := prt_mem _ _ b _ (Nat.le_refl _) hpr
    have m1 := (hm p1 (by simp)).2
    have m2 := (hm p2 (by simp)).2
    have m3 := (hm p3 (by simp)).2
    have m4 := (hm p4 (by simp)).2
    have hRN := fun (v : Value) (B : Nat) (w1 : World) (h : OwnP w1 B 30 v [p1, p2, p3, p4]) => readnumbers_walk p1 p2 p3 p4 v B w1 h (by omega) (by omega) (by omega)
    have hFF : ∀ u, deU t b = some u → rnO p1 p2 p3 = true ∧ nb (nuV p1.2) (nuV p2.2) (nuV p3.2) = true ∧ rbL p4.1 p4.2 = some u.l := by
      intro u hd
      obtain ⟨_, q1, q2, q3, q4, h, r1, r2, r3⟩ := HF.out u hd
      simp only [List.cons.injEq, and_true] at h
      obtain ⟨rfl, rfl, rfl, rfl⟩ := h
      exact ⟨r1, r2, r3⟩
    clear hm hlen HF
    cases hr : rnO p1 p2 p3
    · have HE := Lib.hid (show deU t b = none by
        cases hd : deU t b with
        | none => rfl
        | some u => have h := (hFF u hd).1; rw [hr] at h; cases h)
      rw [hr] at hRN
      have HRN := Lib.hid hRN
      clear ht hpr hRN hFF hr m1 m2 m3 m4
      generalize rnV p1 p2 p3 p1 = X1 at *
      generalize rnV p1 p2 p3 p2 = X2 at *
      generalize rnV p1 p2 p3 p3 = X3 at *
      go_enter Tryz.func7, Tryz.ntmps7
      go_wp2_with fail
      rw [HW.out]
      refine (HQ.out _).mono ?_
      rintro e w1 (⟨c', h', rfl, b1⟩ | ⟨ps', v, h', rfl, ho, b1⟩)
      · have h := HH.out; rw [h'] at h; cases h
      have hh2 := HH.out
      rw [h'] at hh2
      injection hh2 with hh2
      subst hh2
      replace hq := hq.below b1
      replace hpt := hpt.keep b1
      replace bw := bw.trans (b1.mono bw.size)
      obtain ⟨ao, cap, rfl, hf⟩ := ho.form
      obtain ⟨d0, d1, _, _⟩ := hpt.cells
      clear HQ HW b1 h'
      go_wp2_with fail
      refine (HI.out _).mono ?_
      rintro e w9 ⟨rfl, rfl⟩
      go_wp2_with fail
      refine (HRN.out _ _ _ ho).mono ?_
      rintro e w3 ⟨rfl, d3⟩
      have a3 := alloc_in w3 (.cells #[.int .i64 X1, .int .i64 X2, .int .i64 X3] 62)
      have hq3 := (hq.below d3).below a3
      have hpt3 := (hpt.keep d3).keep a3
      have bw3 := (bw.trans (d3.mono bw.size)).trans (a3.mono (bw.trans (d3.mono bw.size)).size)
      have ho3 := (ho.below d3).below a3
      have hn3 := Nm.new w3 X1 X2 X3
      have HT3 := Lib.hid (HT.out.below bw3)
      clear d0 d1
      obtain ⟨d0, d1, _, _⟩ := hpt3.cells
      clear d3 a3 hq hpt bw ho
      obtain ⟨c0, c1, c2, c3, c4⟩ := hq3.cells
      obtain ⟨f0, f1, f2, f3, f4⟩ := hq3.free
      have PX := hq3.set nou none 0
      have bb := below_set5 bw3 (b := w.heap.size + 1) (Nat.le_succ _) (.int .i64 0) (.int .i64 0) (.int .i64 0) (.int .i64 0) (.slice none 0 0)
      go_wp2
      refine bodyPost_ret (results_cell_row2 rfl _ _ (w.heap.size + 1) _ _ _ _ rfl PX Tryz.underlying25 rfl (by kernel_rfl)) rfl ?_
      exact HNo.out HE.out _ bb
    have hx : rnV p1 p2 p3 p1 = nuV p1.2 ∧ rnV p1 p2 p3 p2 = nuV p2.2 ∧ rnV p1 p2 p3 p3 = nuV p3.2 := by
      have hr' := hr
      unfold rnO at hr'
      simp only [Bool.and_eq_true, decide_eq_true_eq] at hr'
      exact (rn_yes hr'.1 hr'.2.1 hr'.2.2).2
    rw [hr, hx.1, hx.2.1, hx.2.2] at hRN
    have HRN := Lib.hid hRN
    have hM := fun w1 (h : Least w1) => maybe8_walk (nuV p1.2) (nuV p2.2) (nuV p3.2) w1 h
    cases hn : nb (nuV p1.2) (nuV p2.2) (nuV p3.2)
    · have HE := Lib.hid (show deU t b = none by
        cases hd : deU t b with
        | none => rfl
        | some u => have h := (hFF u hd).2.1; rw [hn] at h; cases h)
      rw [hn] at hM
      have HM := Lib.hid hM
      clear ht hpr hRN hFF hr hx hM hn m1 m2 m3 m4
      generalize nuV p1.2 = X1 at *
      generalize nuV p2.2 = X2 at *
      generalize nuV p3.2 = X3 at *
      go_enter Tryz.func7, Tryz.ntmps7
      go_wp2_with fail
      rw [HW.out]
      refine (HQ.out _).mono ?_
      rintro e w1 (⟨c', h', rfl, b1⟩ | ⟨ps', v, h', rfl, ho, b1⟩)
      · have h := HH.out; rw [h'] at h; cases h
      have hh2 := HH.out
      rw [h'] at hh2
      injection hh2 with hh2
      subst hh2
      replace hq := hq.below b1
      replace hpt := hpt.keep b1
      replace bw := bw.trans (b1.mono bw.size)
      obtain ⟨ao, cap, rfl, hf⟩ := ho.form
      obtain ⟨d0, d1, _, _⟩ := hpt.cells
      clear HQ HW b1 h'
      go_wp2_with fail
      refine (HI.out _).mono ?_
      rintro e w9 ⟨rfl, rfl⟩
      go_wp2_with fail
      refine (HRN.out _ _ _ ho).mono ?_
      rintro e w3 ⟨rfl, d3⟩
      have a3 := alloc_in w3 (.cells #[.int .i64 X1, .int .i64 X2, .int .i64 X3] 62)
      have hq3 := (hq.below d3).below a3
      have hpt3 := (hpt.keep d3).keep a3
      have bw3 := (bw.trans (d3.mono bw.size)).trans (a3.mono (bw.trans (d3.mono bw.size)).size)
      have ho3 := (ho.below d3).below a3
      have hn3 := Nm.new w3 X1 X2 X3
      have HT3 := Lib.hid (HT.out.below bw3)
      clear d0 d1
      obtain ⟨d0, d1, _, _⟩ := hpt3.cells
      clear d3 a3 hq hpt bw ho
      go_wp2_with fail
      refine (HM.out _ HT3.out.2).mono ?_
      rintro e w4 ⟨rfl, d4⟩
      have hq4 := hq3.below d4
      have hpt4 := hpt3.keep d4
      have bw4 := bw3.trans (d4.mono bw3.size)
      have ho4 := ho3.below d4
      have hn4 := hn3.below d4
      have HT4 := Lib.hid (HT3.out.below d4)
      clear d0 d1
      obtain ⟨d0, d1, _, _⟩ := hpt4.cells
      obtain ⟨n0, n1, n2⟩ := hn4.cells
      clear d4 hq3 hpt3 bw3 ho3 hn3
      obtain ⟨c0, c1, c2, c3, c4⟩ := hq4.cells
      obtain ⟨f0, f1, f2, f3, f4⟩ := hq4.free
      have PX := hq4.set nou none 0
      have bb := below_set5 bw4 (b := w.heap.size + 1) (Nat.le_succ _) (.int .i64 0) (.int .i64 0) (.int .i64 0) (.int .i64 0) (.slice none 0 0)
      go_wp2
      refine bodyPost_ret (results_cell_row2 rfl _ _ (w.heap.size + 1) _ _ _ _ rfl PX Tryz.underlying25 rfl (by kernel_rfl)) rfl ?_
      exact HNo.out HE.out _ bb
    rw [hn] at hM
    have HM := Lib.hid hM
    have hRB := fun w1 (h : Tabs w1) => readbinds_walk p4.1 p4.2 (by omega) w1 h
    unfold RbPost at hRB
    have HRB := Lib.hid hRB
    have HFR := Lib.hid (fun xs hb => deU_from (t := t) (b := b) (xs := xs) hpr ht hr hn hb)
    have HFN := Lib.hid (fun (hb : rbL p4.1 p4.2 = none) => (show deU t b = none by
        cases hd : deU t b with
        | none => rfl
        | some u => have h := (hFF u hd).2.2; rw [hb] at h; cases h))
    clear ht hpr hRN hFF hr hx hM hn hRB m1 m2 m3 m4
    obtain ⟨a4, l4⟩ := p4
    simp only [] at HRB HFR HFN
    generalize nuV p1.2 = X1 at *
    generalize nuV p2.2 = X2 at *
    generalize nuV p3.2 = X3 at *
    go_enter Tryz.func7, Tryz.ntmps7
    go_wp2_with fail
    rw [HW.out]
    refine (HQ.out _).mono ?_
    rintro e w1 (⟨c', h', rfl, b1⟩ | ⟨ps', v, h', rfl, ho, b1⟩)
    · have h := HH.out; rw [h'] at h; cases h
    have hh2 := HH.out
    rw [h'] at hh2
    injection hh2 with hh2
    subst hh2
    replace hq := hq.below b1
    replace hpt := hpt.keep b1
    replace bw := bw.trans (b1.mono bw.size)
    obtain ⟨ao, cap, rfl, hf⟩ := ho.form
    obtain ⟨d0, d1, _, _⟩ := hpt.cells
    clear HQ HW b1 h'
    go_wp2_with fail
    refine (HI.out _).mono ?_
    rintro e w9 ⟨rfl, rfl⟩
    go_wp2_with fail
    refine (HRN.out _ _ _ ho).mono ?_
    rintro e w3 ⟨rfl, d3⟩
    have a3 := alloc_in w3 (.cells #[.int .i64 X1, .int .i64 X2, .int .i64 X3] 62)
    have hq3 := (hq.below d3).below a3
    have hpt3 := (hpt.keep d3).keep a3
    have bw3 := (bw.trans (d3.mono bw.size)).trans (a3.mono (bw.trans (d3.mono bw.size)).size)
    have ho3 := (ho.below d3).below a3
    have hn3 := Nm.new w3 X1 X2 X3
    have HT3 := Lib.hid (HT.out.below bw3)
    clear d0 d1
    obtain ⟨d0, d1, _, _⟩ := hpt3.cells
    clear d3 a3 hq hpt bw ho
    go_wp2_with fail
    refine (HM.out _ HT3.out.2).mono ?_
    rintro e w4 ⟨rfl, d4⟩
    have hq4 := hq3.below d4
    have hpt4 := hpt3.keep d4
    have bw4 := bw3.trans (d4.mono bw3.size)
    have ho4 := ho3.below d4
    have hn4 := hn3.below d4
    have HT4 := Lib.hid (HT3.out.below d4)
    clear d0 d1
    obtain ⟨d0, d1, _, _⟩ := hpt4.cells
    obtain ⟨n0, n1, n2⟩ := hn4.cells
    clear d4 hq3 hpt3 bw3 ho3 hn3
    obtain ⟨ao5, cap5, hv5, hf5⟩ := ho4.form
    simp only [Value.slice.injEq, true_and] at hv5
    obtain ⟨rfl, rfl⟩ := hv5
    rcases hf5 with h0 | ⟨g, rfl, hg1, hg2, hg⟩
    · simp at h0
    obtain ⟨g6, g7⟩ := hg 3 (by simp)
    simp only [List.getD_cons_zero, List.getD_cons_succ, Nat.reduceMul, Nat.reduceAdd] at g6 g7
    clear hg
    go_wp2_with fail
    refine (HRB.out _ HT4.out.1).mono ?_
    rintro e w5 (⟨hb0, rfl, d5⟩ | ⟨xs, aob, capb, hb0, rfl, hrd, hnew, d5⟩)
    · have HE := Lib.hid (HFN.out hb0)
      have hq5 := hq4.below d5
      have bw5 := bw4.trans (d5.mono bw4.size)
      clear hb0 d0 d1 n0 n1 n2 g6 g7 hq4 hpt4 bw4 ho4 hn4 d5
      obtain ⟨c0, c1, c2, c3, c4⟩ := hq5.cells
      obtain ⟨f0, f1, f2, f3, f4⟩ := hq5.free
      have PX := hq5.set nou none 0
      have bb := below_set5 bw5 (b := w.heap.size + 1) (Nat.le_succ _) (.int .i64 0) (.int .i64 0) (.int .i64 0) (.int .i64 0) (.slice none 0 0)
      go_wp2
      refine bodyPost_ret (results_cell_row2 rfl _ _ (w.heap.size + 1) _ _ _ _ rfl PX Tryz.underlying25 rfl (by kernel_rfl)) rfl ?_
      exact HNo.out HE.out _ bb
    · have HE := Lib.hid (du_some (HFR.out xs hb0))
      have hq5 := hq4.below d5
      have bw5 := bw4.trans (d5.mono bw4.size)
      have hR : ∀ a, aob = some a → w.heap.size + 1 ≠ a.block := fun a ha => by
        have h1 := hnew a ha
        have h2 := lt_of_block hq4
        omega
      have HRD := Lib.hid (((((hrd.far hR 0 (.int .i64 t)).far hR 1 (.int .i64 X1)).far hR 2 (.int .i64 X2)).far hR 3 (.int .i64 X3)).far hR 4 (.slice aob xs.length capb))
      clear d0 d1 n0 n1 n2
      obtain ⟨d0, d1, _, _⟩ := (hpt4.keep d5).cells
      obtain ⟨n0, n1, n2⟩ := (hn4.below d5).cells
      obtain ⟨c0, c1, c2, c3, c4⟩ := hq5.cells
      obtain ⟨f0, f1, f2, f3, f4⟩ := hq5.free
      have PX := hq5.set ⟨t, X1, X2, X3, xs⟩ aob capb
      have bb := below_set5 bw5 (b := w.heap.size + 1) (Nat.le_succ _) (.int .i64 t) (.int .i64 X1) (.int .i64 X2) (.int .i64 X3) (.slice aob xs.length capb)
      simp only [] at PX
      clear hb0 g6 g7 hq4 hpt4 bw4 ho4 hn4 d5 hrd hnew hR hq5 bw5
      go_wp2
      refine bodyPost_ret (results_cell_row2 rfl _ _ (w.heap.size + 1) _ _ _ _ rfl PX Tryz.underlying25 rfl (by kernel_rfl)) rfl ?_
      exact ⟨aob, capb, by rw [HE.out.1, HE.out.2]; rfl, by rw [HE.out.1]; exact HRD.out, bb⟩
theorem qdecode8_walk (t : Int) (b : List UInt8) (hp : b.length ≤ 140737488351232) (w : World) :
    Calls Tryz.prog 8 #[.agg #[.int .i64 t, .string (bs b)]] w (DuPost t b w) := by
  have hd := du_all t b
  by_cases h : ∃ p1 p2 p3 p4, prt 0 b = .ok [p1, p2, p3, p4] ∧ (p1.1 = 2 ∧ p2.1 = 2 ∧ p3.1 = 2 ∧ p4.1 = 48)
  · obtain ⟨p1, p2, p3, p4, h, h1, h2, h3, h4⟩ := h
    exact qdecode8_go t b hp w p1 p2 p3 p4 h h1 h2 h3 h4
  · exact qdecode8_early t b hp w hd (fun p1 p2 p3 p4 hp hc => h ⟨p1, p2, p3, p4, hp, hc⟩)
end Go.Proofs.YtlpknkfidcojeaaGreatDoor
/- The document's Encode of units, walked. -/
namespace Go.Proofs.YtlpknkfidcojeaaGreatDoor
open Go.ChangeShapes Go.WideShapes Go.ChangeAt Go.RowKit K P1 B5
open D8 (Bd Un lst)
set_option linter.unusedVariables false

def eS (u : Un) : List UInt8 := if u.ok then (if u.el.length ≤ 65536 then u.el else []) else []
def eE (u : Un) : Nat := if u.ok then (if u.el.length ≤ 65536 then 0 else 2) else 80
theorem el_len {u : Un} (h : u.ok = true) : u.el.length ≤ 271700100 := by
  have h1 := (D8.un_parts h).2.2
  have h2 := D8.short_le8 u.body.length
  unfold Un.el
  rw [put_len]
  omega
set_option maxRecDepth 100000 in
set_option maxHeartbeats 1000000 in
theorem qencode8_walk (u : Un) (ao : Option Addr) (cap : Nat) (hl : u.l.length ≤ 140737488351232) (hx : Lim u.l) (w : World) (hr : RdB w ao u.l) :
    Calls Tryz.prog 13 #[.agg #[.int .i64 u.t, .int .i64 u.r, .int .i64 u.a, .int .i64 u.i, .slice ao u.l.length cap]] w fun e w' => e = .returned (.tuple #[.string (bs (eS u)), .int .i64 (eE u : Nat)]) ∧ Below w.heap.size w w' := by
  have hba := alloc_in w (.cells #[.int .i64 u.t, .int .i64 u.r, .int .i64 u.a, .int .i64 u.i, .slice ao u.l.length cap] 31)
  have huq := Uq.new 31 w u ao cap
  have hC := qcheck8_walk u ao cap hl hx _ (hr.below hba)
  have HP := Lib.hid (fun h w1 (hr : RdB w1 ao u.l) => qput8_walk u ao cap h hx w1 hr)
  have hr0 := hr.below hba
  have HRr := Lib.hid hr0
  clear hr hr0
  cases hk : u.ok
  · rw [show eS u = [] by unfold eS; rw [hk]; rfl, show eE u = 80 by unfold eE; rw [hk]; rfl]
    rw [show ckU u = 80 by unfold ckU; rw [hk]; rfl] at hC
    have HC := Lib.hid hC
    clear hC hk HP
    go_enter Tryz.func13, Tryz.ntmps13
    go_wp2_with fail
    refine HC.out.mono ?_
    rintro e w1 ⟨rfl, b1⟩
    go_wp2
    go_ret2
    exact ⟨rfl, Below_in b1⟩
  · rw [show ckU u = 0 by unfold ckU; rw [hk]; rfl] at hC
    have HC := Lib.hid hC
    have hle := el_len hk
    have HPk := Lib.hid (HP.out hk)
    clear hC HP
    by_cases h5 : u.el.length ≤ 65536
    · rw [show eS u = u.el by unfold eS; rw [hk, if_pos h5]; rfl, show eE u = 0 by unfold eE; rw [hk, if_pos h5]; rfl]
      have h5' : ((u.el.length : Nat) : Int) ≤ 65536 := by omega
      clear hk h5
      generalize u.el = EL at *
      go_enter Tryz.func13, Tryz.ntmps13
      go_wp2_with fail
      refine HC.out.mono ?_
      rintro e w1 ⟨rfl, b1⟩
      obtain ⟨z0, z1, z2, z3, z4⟩ := (huq.below b1).cells
      have r1 := HRr.out.below b1
      go_wp2_with fail
      refine (HPk.out _ r1).mono ?_
      rintro e w2 ⟨rfl, b2⟩
      go_wp2
      go_ret2
      exact ⟨rfl, (Below_in b1).trans (b2.mono (Below_in b1).size)⟩
    · rw [show eS u = [] by unfold eS; rw [hk, if_neg h5]; rfl, show eE u = 2 by unfold eE; rw [hk, if_neg h5]; rfl]
      have h5' : (65536 : Int) < ((u.el.length : Nat) : Int) := by omega
      clear hk h5
      generalize u.el = EL at *
      go_enter Tryz.func13, Tryz.ntmps13
      go_wp2_with fail
      refine HC.out.mono ?_
      rintro e w1 ⟨rfl, b1⟩
      obtain ⟨z0, z1, z2, z3, z4⟩ := (huq.below b1).cells
      have r1 := HRr.out.below b1
      go_wp2_with fail
      refine (HPk.out _ r1).mono ?_
      rintro e w2 ⟨rfl, b2⟩
      go_wp2
      go_ret2
      exact ⟨rfl, (Below_in b1).trans (b2.mono (Below_in b1).size)⟩
end Go.Proofs.YtlpknkfidcojeaaGreatDoor
