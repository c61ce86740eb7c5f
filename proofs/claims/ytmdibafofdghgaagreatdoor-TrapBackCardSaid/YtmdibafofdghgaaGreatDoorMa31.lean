/- Texts on the program and on the document, joined: PduX, Txt. -/
import Derived.Test.YtmdibafofdghgaaGreatDoorMa30
import Derived.Test.YtmdibafofdghgaaGreatDoorMa13
import Derived.Laws.OwnMore
import Derived.Laws.AppendOwn
import Derived.Below
import Derived.Deep.AppendLies
import Derived.Deep.Onto
/- pdu's Decode, walked. -/
namespace Go.Proofs.YtmdibafofdghgaaGreatDoor
open Go.ChangeShapes Go.WideShapes Go.ChangeAt Go.RowKit K P1 B5
open D8 (Bd Un lst deB deL deU)
set_option linter.unusedVariables false

def tg (t : Int) : Bool := t == 162 || (t == 166 || t == 167)
theorem deL_ok : ∀ (ps : List Pt) (l : List Bd), deL ps = some l → ∀ x ∈ l, x.ok = true
  | [], l, h, x, hx => by
    have h' : some [] = some l := h
    obtain rfl := Option.some.inj h'; cases hx
  | q :: a, xs, h, x, hx => by
    have h' : (match deB q with | none => none | some x => match deL a with | none => none | some l => some (x :: l)) = some xs := h
    cases h1 : deB q with
    | none => rw [h1] at h'; cases h'
    | some y =>
      rw [h1] at h'
      cases h2 : deL a with
      | none => rw [h2] at h'; cases h'
      | some l =>
        rw [h2] at h'
        obtain rfl := Option.some.inj h'
        rcases List.mem_cons.1 hx with rfl | hx
        · exact (D8.bind_told h1).2.1
        · exact deL_ok a l h2 x hx
theorem tg_iff (t : Int) : tg t = true ↔ t = 162 ∨ t = 166 ∨ t = 167 := by
  unfold tg; simp only [Bool.or_eq_true, beq_iff_eq]
theorem deU_four {t : Int} {b : List UInt8} {u : Un} {ps : List Pt} (h : prt 0 b = .ok ps) (hd : deU t b = some u) : tg t = true ∧ ∃ p1 p2 p3 p4, ps = [p1, p2, p3, p4] ∧ rnO p1 p2 p3 = true ∧ nb (nuV p1.2) (nuV p2.2) (nuV p3.2) = true ∧ rbL p4.1 p4.2 = some u.l := by
  obtain ⟨p1, p2, p3, p4, qs, hp, ⟨t1, t2, t3, t4, n1, n2, n3⟩, hq, hl, hu, hok⟩ := D8.deU_inv hd
  rw [h] at hp
  injection hp with hp
  have hk := (D8.Un.ok_iff u).1 hok
  rw [hu] at hk
  simp only [] at hk
  refine ⟨(tg_iff t).2 hk.1, p1, p2, p3, p4, hp, ?_, ?_, ?_⟩
  · unfold rnO; rw [t1, t2, t3, n1, n2, n3]; rfl
  · rw [(nu_yes n1).1, (nu_yes n2).1, (nu_yes n3).1]
    exact (nb_iff _ _ _).2 ⟨hk.2.1, hk.2.2.1, hk.2.2.2.1⟩
  · unfold rbL; rw [if_pos t4, hq]; exact hl
theorem deU_from {t : Int} {b : List UInt8} {p1 p2 p3 p4 : Pt} {xs : List Bd} (h : prt 0 b = .ok [p1, p2, p3, p4]) (ht : tg t = true) (hr : rnO p1 p2 p3 = true) (hn : nb (nuV p1.2) (nuV p2.2) (nuV p3.2) = true) (hb : rbL p4.1 p4.2 = some xs) : deU t b = some ⟨t, nuV p1.2, nuV p2.2, nuV p3.2, xs⟩ := by
  unfold rnO at hr
  simp only [Bool.and_eq_true, decide_eq_true_eq] at hr
  obtain ⟨⟨t1, n1⟩, ⟨t2, n2⟩, ⟨t3, n3⟩⟩ := hr
  unfold rbL at hb
  by_cases t4 : p4.1 = 48
  · rw [if_pos t4] at hb
    cases hq : prt 0 p4.2 with
    | error c => rw [hq] at hb; cases hb
    | ok qs =>
      rw [hq] at hb
      have hb' : deL qs = some xs := hb
      rw [deU_go h t1 t2 t3 t4 n1 n2 n3 hq hb', ← (nu_yes n1).1, ← (nu_yes n2).1, ← (nu_yes n3).1]
      rw [if_pos]
      have hn' := (nb_iff _ _ _).1 hn
      refine (D8.Un.ok_iff _).2 ⟨(tg_iff t).1 ht, hn'.1, hn'.2.1, hn'.2.2, ?_, deL_ok qs xs hb'⟩
      show xs.length ≤ 4096
      rw [deL_len qs xs hb']; exact prt_most hq
  · rw [if_neg t4] at hb; cases hb
theorem RdB.far {w : World} {ao : Option Addr} {xs : List Bd} (h : RdB w ao xs) {R : Nat} (hne : ∀ a, ao = some a → R ≠ a.block) (i : Nat) (v : Value) : RdB (w.setCell ⟨R, i, none⟩ v) ao xs := by
  rcases h with h0 | ⟨b, off, ha, hb, hc⟩
  · exact .inl h0
  · have hR : R ≠ b := hne _ ha
    refine .inr ⟨b, off, ha, by simpa using hb, fun k hk => ?_⟩
    obtain ⟨c0, c1, c2, c3⟩ := hc k hk
    exact ⟨(World.cell?_setCell_far _ _ _ _ hR).trans c0, (World.cell?_setCell_far _ _ _ _ hR).trans c1, (World.cell?_setCell_far _ _ _ _ hR).trans c2, (World.cell?_setCell_far _ _ _ _ hR).trans c3⟩
set_option maxRecDepth 100000 in
set_option maxHeartbeats 2000000 in
theorem decode8_walkc (t : Int) (b : List UInt8) (hp : b.length ≤ 1000000) (w : World) (T : Tp w) :
    Calls Tryz.prog 42 #[.agg #[.int .i64 t, .string (bs b)]] w (DuPc t b w) := by
  have HQ := Lib.hid (fun w1 => partsof_walk t b (by omega) w1)
  unfold PoPost at HQ
  have HNo := Lib.hid (fun (e : deU t b = none) (w' : World) (k : Below w.heap.size w w') => DuPc.no e k)
  have HT := Lib.hid T
  have hI := fun w1 => istag8_walk t w1
  rw [show (t == 162 || (t == 166 || t == 167)) = tg t from rfl] at hI
  obtain ⟨w2, hw2, hq, hpt, bw⟩ := two_blocksU 72 41 w t b
  have HW := Lib.hid hw2
  clear hw2 T
  cases hpr : prt 0 b with
  | error c =>
    have HE := Lib.hid (show deU t b = none by unfold D8.deU; simp only [hpr])
    clear hI
    go_enter Tryz.func42, Tryz.ntmps42
    go_wp2_with fail
    rw [HW.out]
    refine (HQ.out _).mono ?_
    rintro e w1 (⟨c', h', rfl, b1⟩ | ⟨ps', v, h', rfl, ho, b1⟩)
    rotate_left
    · rw [hpr] at h'; cases h'
    clear h' hpr
    replace hq := hq.below b1
    replace bw := bw.trans (b1.mono bw.size)
    clear HQ HW b1 hpt
    obtain ⟨c0, c1, c2, c3, c4⟩ := hq.cells
    obtain ⟨f0, f1, f2, f3, f4⟩ := hq.free
    have PX := hq.set nou none 0
    have bb := below_set5 bw (b := w.heap.size + 1) (Nat.le_succ _) (.int .i64 0) (.int .i64 0) (.int .i64 0) (.int .i64 0) (.slice none 0 0)
    go_wp2
    refine bodyPost_ret (results_cell_row2 rfl _ _ (w.heap.size + 1) _ _ _ _ rfl PX Tryz.underlying41 rfl (by kernel_rfl)) rfl ?_
    exact HNo.out HE.out _ bb
  | ok ps =>
    have HH := Lib.hid hpr
    have HF := Lib.hid (fun u hd => deU_four (t := t) (u := u) hpr hd)
    cases ht : tg t
    · rw [ht] at hI
      have HI := Lib.hid hI
      have HE := Lib.hid (show deU t b = none by
        cases hd : deU t b with
        | none => rfl
        | some u => have h := (HF.out u hd).1; rw [ht] at h; cases h)
      clear hI ht hpr HF
      go_enter Tryz.func42, Tryz.ntmps42
      go_wp2_with fail
      rw [HW.out]
      refine (HQ.out _).mono ?_
      rintro e w1 (⟨c', h', rfl, b1⟩ | ⟨ps', v, h', rfl, ho, b1⟩)
      · have h := HH.out; rw [h'] at h; cases h
      have hh2 := HH.out
      rw [h'] at hh2
      injection hh2 with hh2
      subst hh2
      replace hq := hq.below b1
      replace hpt := hpt.keep b1
      replace bw := bw.trans (b1.mono bw.size)
      obtain ⟨ao, cap, rfl, hf⟩ := ho.form
      obtain ⟨d0, d1, _, _⟩ := hpt.cells
      clear HQ HW b1 h'
      go_wp2_with fail
      refine (HI.out _).mono ?_
      rintro e w9 ⟨rfl, rfl⟩
      obtain ⟨c0, c1, c2, c3, c4⟩ := hq.cells
      obtain ⟨f0, f1, f2, f3, f4⟩ := hq.free
      have PX := hq.set nou none 0
      have bb := below_set5 bw (b := w.heap.size + 1) (Nat.le_succ _) (.int .i64 0) (.int .i64 0) (.int .i64 0) (.int .i64 0) (.slice none 0 0)
      go_wp2
      refine bodyPost_ret (results_cell_row2 rfl _ _ (w.heap.size + 1) _ _ _ _ rfl PX Tryz.underlying41 rfl (by kernel_rfl)) rfl ?_
      exact HNo.out HE.out _ bb
    rw [ht] at hI
    have HI := Lib.hid hI
    clear hI
    by_cases hlen : ps.length = 4
    rotate_left
    · have hl : (((ps.length : Nat) : Int) != 4) = true := by rw [bne_iff_ne]; omega
      have HE := Lib.hid (show deU t b = none by
        cases hd : deU t b with
        | none => rfl
        | some u => obtain ⟨_, p1, p2, p3, p4, h, _⟩ := HF.out u hd; rw [h] at hlen; exact absurd rfl hlen)
      clear ht hpr HF hlen
      go_enter Tryz.func42, Tryz.ntmps42
      go_wp2_with fail
      rw [HW.out]
      refine (HQ.out _).mono ?_
      rintro e w1 (⟨c', h', rfl, b1⟩ | ⟨ps', v, h', rfl, ho, b1⟩)
      · have h := HH.out; rw [h'] at h; cases h
      have hh2 := HH.out
      rw [h'] at hh2
      injection hh2 with hh2
      subst hh2
      replace hq := hq.below b1
      replace hpt := hpt.keep b1
      replace bw := bw.trans (b1.mono bw.size)
      obtain ⟨ao, cap, rfl, hf⟩ := ho.form
      obtain ⟨d0, d1, _, _⟩ := hpt.cells
      clear HQ HW b1 h'
      go_wp2_with fail
      refine (HI.out _).mono ?_
      rintro e w9 ⟨rfl, rfl⟩
      obtain ⟨c0, c1, c2, c3, c4⟩ := hq.cells
      obtain ⟨f0, f1, f2, f3, f4⟩ := hq.free
      have PX := hq.set nou none 0
      have bb := below_set5 bw (b := w.heap.size + 1) (Nat.le_succ _) (.int .i64 0) (.int .i64 0) (.int .i64 0) (.int .i64 0) (.slice none 0 0)
      go_wp2
      refine bodyPost_ret (results_cell_row2 rfl _ _ (w.heap.size + 1) _ _ _ _ rfl PX Tryz.underlying41 rfl (by kernel_rfl)) rfl ?_
      exact HNo.out HE.out _ bb
    obtain ⟨p1, p2, p3, p4, rfl⟩ := four_of hlen
    have hm := prt_mem _ _ b _ (Nat.le_refl _) hpr
    have m1 := (hm p1 (by simp)).2
    have m2 := (hm p2 (by simp)).2
    have m3 := (hm p3 (by simp)).2
    have m4 := (hm p4 (by simp)).2
    have hRN := fun (v : Value) (B : Nat) (w1 : World) (h : OwnP w1 B 72 v [p1, p2, p3, p4]) => readnumbers_walk p1 p2 p3 p4 v B w1 h (by omega) (by omega) (by omega)
    have hFF : ∀ u, deU t b = some u → rnO p1 p2 p3 = true ∧ nb (nuV p1.2) (nuV p2.2) (nuV p3.2) = true ∧ rbL p4.1 p4.2 = some u.l := by
      intro u hd
      obtain ⟨_, q1, q2, q3, q4, h, r1, r2, r3⟩ := HF.out u hd
      simp only [List.cons.injEq, and_true] at h
      obtain ⟨rfl, rfl, rfl, rfl⟩ := h
      exact ⟨r1, r2, r3⟩
    clear hm hlen HF
    cases hr : rnO p1 p2 p3
    · have HE := Lib.hid (show deU t b = none by
        cases hd : deU t b with
        | none => rfl
        | some u => have h := (hFF u hd).1; rw [hr] at h; cases h)
      rw [hr] at hRN
      have HRN := Lib.hid hRN
      clear ht hpr hRN hFF hr m1 m2 m3 m4
      generalize rnV p1 p2 p3 p1 = X1 at *
      generalize rnV p1 p2 p3 p2 = X2 at *
      generalize rnV p1 p2 p3 p3 = X3 at *
      go_enter Tryz.func42, Tryz.ntmps42
      go_wp2_with fail
      rw [HW.out]
      refine (HQ.out _).mono ?_
      rintro e w1 (⟨c', h', rfl, b1⟩ | ⟨ps', v, h', rfl, ho, b1⟩)
      · have h := HH.out; rw [h'] at h; cases h
      have hh2 := HH.out
      rw [h'] at hh2
      injection hh2 with hh2
      subst hh2
      replace hq := hq.below b1
      replace hpt := hpt.keep b1
      replace bw := bw.trans (b1.mono bw.size)
      obtain ⟨ao, cap, rfl, hf⟩ := ho.form
      obtain ⟨d0, d1, _, _⟩ := hpt.cells
      clear HQ HW b1 h'
      go_wp2_with fail
      refine (HI.out _).mono ?_
      rintro e w9 ⟨rfl, rfl⟩
      go_wp2_with fail
      refine (HRN.out _ _ _ ho).mono ?_
      rintro e w3 ⟨rfl, d3⟩
      have a3 := alloc_in w3 (.cells #[.int .i64 X1, .int .i64 X2, .int .i64 X3] 81)
      have hq3 := (hq.below d3).below a3
      have hpt3 := (hpt.keep d3).keep a3
      have bw3 := (bw.trans (d3.mono bw.size)).trans (a3.mono (bw.trans (d3.mono bw.size)).size)
      have ho3 := (ho.below d3).below a3
      have hn3 := Nm.new w3 X1 X2 X3
      have HT3 := Lib.hid (HT.out.below bw3)
      clear d0 d1
      obtain ⟨d0, d1, _, _⟩ := hpt3.cells
      clear d3 a3 hq hpt bw ho
      obtain ⟨c0, c1, c2, c3, c4⟩ := hq3.cells
      obtain ⟨f0, f1, f2, f3, f4⟩ := hq3.free
      have PX := hq3.set nou none 0
      have bb := below_set5 bw3 (b := w.heap.size + 1) (Nat.le_succ _) (.int .i64 0) (.int .i64 0) (.int .i64 0) (.int .i64 0) (.slice none 0 0)
      go_wp2
      refine bodyPost_ret (results_cell_row2 rfl _ _ (w.heap.size + 1) _ _ _ _ rfl PX Tryz.underlying41 rfl (by kernel_rfl)) rfl ?_
      exact HNo.out HE.out _ bb
    have hx : rnV p1 p2 p3 p1 = nuV p1.2 ∧ rnV p1 p2 p3 p2 = nuV p2.2 ∧ rnV p1 p2 p3 p3 = nuV p3.2 := by
      have hr' := hr
      unfold rnO at hr'
      simp only [Bool.and_eq_true, decide_eq_true_eq] at hr'
      exact (rn_yes hr'.1 hr'.2.1 hr'.2.2).2
    rw [hr, hx.1, hx.2.1, hx.2.2] at hRN
    have HRN := Lib.hid hRN
    have hM := fun w1 (h : Least w1) => maybe8_walk (nuV p1.2) (nuV p2.2) (nuV p3.2) w1 h
    cases hn : nb (nuV p1.2) (nuV p2.2) (nuV p3.2)
    · have HE := Lib.hid (show deU t b = none by
        cases hd : deU t b with
        | none => rfl
        | some u => have h := (hFF u hd).2.1; rw [hn] at h; cases h)
      rw [hn] at hM
      have HM := Lib.hid hM
      clear ht hpr hRN hFF hr hx hM hn m1 m2 m3 m4
      generalize nuV p1.2 = X1 at *
      generalize nuV p2.2 = X2 at *
      generalize nuV p3.2 = X3 at *
      go_enter Tryz.func42, Tryz.ntmps42
      go_wp2_with fail
      rw [HW.out]
      refine (HQ.out _).mono ?_
      rintro e w1 (⟨c', h', rfl, b1⟩ | ⟨ps', v, h', rfl, ho, b1⟩)
      · have h := HH.out; rw [h'] at h; cases h
      have hh2 := HH.out
      rw [h'] at hh2
      injection hh2 with hh2
      subst hh2
      replace hq := hq.below b1
      replace hpt := hpt.keep b1
      replace bw := bw.trans (b1.mono bw.size)
      obtain ⟨ao, cap, rfl, hf⟩ := ho.form
      obtain ⟨d0, d1, _, _⟩ := hpt.cells
      clear HQ HW b1 h'
      go_wp2_with fail
      refine (HI.out _).mono ?_
      rintro e w9 ⟨rfl, rfl⟩
      go_wp2_with fail
      refine (HRN.out _ _ _ ho).mono ?_
      rintro e w3 ⟨rfl, d3⟩
      have a3 := alloc_in w3 (.cells #[.int .i64 X1, .int .i64 X2, .int .i64 X3] 81)
      have hq3 := (hq.below d3).below a3
      have hpt3 := (hpt.keep d3).keep a3
      have bw3 := (bw.trans (d3.mono bw.size)).trans (a3.mono (bw.trans (d3.mono bw.size)).size)
      have ho3 := (ho.below d3).below a3
      have hn3 := Nm.new w3 X1 X2 X3
      have HT3 := Lib.hid (HT.out.below bw3)
      clear d0 d1
      obtain ⟨d0, d1, _, _⟩ := hpt3.cells
      clear d3 a3 hq hpt bw ho
      go_wp2_with fail
      refine (HM.out _ HT3.out.2).mono ?_
      rintro e w4 ⟨rfl, d4⟩
      have hq4 := hq3.below d4
      have hpt4 := hpt3.keep d4
      have bw4 := bw3.trans (d4.mono bw3.size)
      have ho4 := ho3.below d4
      have hn4 := hn3.below d4
      have HT4 := Lib.hid (HT3.out.below d4)
      clear d0 d1
      obtain ⟨d0, d1, _, _⟩ := hpt4.cells
      obtain ⟨n0, n1, n2⟩ := hn4.cells
      clear d4 hq3 hpt3 bw3 ho3 hn3
      obtain ⟨c0, c1, c2, c3, c4⟩ := hq4.cells
      obtain ⟨f0, f1, f2, f3, f4⟩ := hq4.free
      have PX := hq4.set nou none 0
      have bb := below_set5 bw4 (b := w.heap.size + 1) (Nat.le_succ _) (.int .i64 0) (.int .i64 0) (.int .i64 0) (.int .i64 0) (.slice none 0 0)
      go_wp2
      refine bodyPost_ret (results_cell_row2 rfl _ _ (w.heap.size + 1) _ _ _ _ rfl PX Tryz.underlying41 rfl (by kernel_rfl)) rfl ?_
      exact HNo.out HE.out _ bb
    rw [hn] at hM
    have HM := Lib.hid hM
    have hRB := fun w1 (h : Tabs w1) => readbinds_walk p4.1 p4.2 (by omega) w1 h
    unfold RbPost at hRB
    have HRB := Lib.hid hRB
    have HFR := Lib.hid (fun xs hb => deU_from (t := t) (b := b) (xs := xs) hpr ht hr hn hb)
    have HFN := Lib.hid (fun (hb : rbL p4.1 p4.2 = none) => (show deU t b = none by
        cases hd : deU t b with
        | none => rfl
        | some u => have h := (hFF u hd).2.2; rw [hb] at h; cases h))
    clear ht hpr hRN hFF hr hx hM hn hRB m1 m2 m3 m4
    obtain ⟨a4, l4⟩ := p4
    simp only [] at HRB HFR HFN
    generalize nuV p1.2 = X1 at *
    generalize nuV p2.2 = X2 at *
    generalize nuV p3.2 = X3 at *
    go_enter Tryz.func42, Tryz.ntmps42
    go_wp2_with fail
    rw [HW.out]
    refine (HQ.out _).mono ?_
    rintro e w1 (⟨c', h', rfl, b1⟩ | ⟨ps', v, h', rfl, ho, b1⟩)
    · have h := HH.out; rw [h'] at h; cases h
    have hh2 := HH.out
    rw [h'] at hh2
    injection hh2 with hh2
    subst hh2
    replace hq := hq.below b1
    replace hpt := hpt.keep b1
    replace bw := bw.trans (b1.mono bw.size)
    obtain ⟨ao, cap, rfl, hf⟩ := ho.form
    obtain ⟨d0, d1, _, _⟩ := hpt.cells
    clear HQ HW b1 h'
    go_wp2_with fail
    refine (HI.out _).mono ?_
    rintro e w9 ⟨rfl, rfl⟩
    go_wp2_with fail
    refine (HRN.out _ _ _ ho).mono ?_
    rintro e w3 ⟨rfl, d3⟩
    have a3 := alloc_in w3 (.cells #[.int .i64 X1, .int .i64 X2, .int .i64 X3] 81)
    have hq3 := (hq.below d3).below a3
    have hpt3 := (hpt.keep d3).keep a3
    have bw3 := (bw.trans (d3.mono bw.size)).trans (a3.mono (bw.trans (d3.mono bw.size)).size)
    have ho3 := (ho.below d3).below a3
    have hn3 := Nm.new w3 X1 X2 X3
    have HT3 := Lib.hid (HT.out.below bw3)
    clear d0 d1
    obtain ⟨d0, d1, _, _⟩ := hpt3.cells
    clear d3 a3 hq hpt bw ho
    go_wp2_with fail
    refine (HM.out _ HT3.out.2).mono ?_
    rintro e w4 ⟨rfl, d4⟩
    have hq4 := hq3.below d4
    have hpt4 := hpt3.keep d4
    have bw4 := bw3.trans (d4.mono bw3.size)
    have ho4 := ho3.below d4
    have hn4 := hn3.below d4
    have HT4 := Lib.hid (HT3.out.below d4)
    clear d0 d1
    obtain ⟨d0, d1, _, _⟩ := hpt4.cells
    obtain ⟨n0, n1, n2⟩ := hn4.cells
    clear d4 hq3 hpt3 bw3 ho3 hn3
    obtain ⟨ao5, cap5, hv5, hf5⟩ := ho4.form
    simp only [Value.slice.injEq, true_and] at hv5
    obtain ⟨rfl, rfl⟩ := hv5
    rcases hf5 with h0 | ⟨g, rfl, hg1, hg2, hg⟩
    · simp at h0
    obtain ⟨g6, g7⟩ := hg 3 (by simp)
    simp only [List.getD_cons_zero, List.getD_cons_succ, Nat.reduceMul, Nat.reduceAdd] at g6 g7
    clear hg
    go_wp2_with fail
    refine (HRB.out _ HT4.out.1).mono ?_
    rintro e w5 (⟨hb0, rfl, d5⟩ | ⟨xs, aob, capb, hb0, rfl, hrd, hnew, hcap, d5⟩)
    · have HE := Lib.hid (HFN.out hb0)
      have hq5 := hq4.below d5
      have bw5 := bw4.trans (d5.mono bw4.size)
      clear hb0 d0 d1 n0 n1 n2 g6 g7 hq4 hpt4 bw4 ho4 hn4 d5
      obtain ⟨c0, c1, c2, c3, c4⟩ := hq5.cells
      obtain ⟨f0, f1, f2, f3, f4⟩ := hq5.free
      have PX := hq5.set nou none 0
      have bb := below_set5 bw5 (b := w.heap.size + 1) (Nat.le_succ _) (.int .i64 0) (.int .i64 0) (.int .i64 0) (.int .i64 0) (.slice none 0 0)
      go_wp2
      refine bodyPost_ret (results_cell_row2 rfl _ _ (w.heap.size + 1) _ _ _ _ rfl PX Tryz.underlying41 rfl (by kernel_rfl)) rfl ?_
      exact HNo.out HE.out _ bb
    · have HE := Lib.hid (du_some (HFR.out xs hb0))
      have hq5 := hq4.below d5
      have bw5 := bw4.trans (d5.mono bw4.size)
      have hR : ∀ a, aob = some a → w.heap.size + 1 ≠ a.block := fun a ha => by
        have h1 := hnew a ha
        have h2 := lt_of_block hq4
        omega
      have HRD := Lib.hid (((((hrd.far hR 0 (.int .i64 t)).far hR 1 (.int .i64 X1)).far hR 2 (.int .i64 X2)).far hR 3 (.int .i64 X3)).far hR 4 (.slice aob xs.length capb))
      clear d0 d1 n0 n1 n2
      obtain ⟨d0, d1, _, _⟩ := (hpt4.keep d5).cells
      obtain ⟨n0, n1, n2⟩ := (hn4.below d5).cells
      obtain ⟨c0, c1, c2, c3, c4⟩ := hq5.cells
      obtain ⟨f0, f1, f2, f3, f4⟩ := hq5.free
      have PX := hq5.set ⟨t, X1, X2, X3, xs⟩ aob capb
      have bb := below_set5 bw5 (b := w.heap.size + 1) (Nat.le_succ _) (.int .i64 t) (.int .i64 X1) (.int .i64 X2) (.int .i64 X3) (.slice aob xs.length capb)
      simp only [] at PX
      have HCP := Lib.hid hcap
      clear hb0 g6 g7 hq4 hpt4 bw4 ho4 hn4 d5 hrd hnew hR hq5 bw5 hcap
      go_wp2
      refine bodyPost_ret (results_cell_row2 rfl _ _ (w.heap.size + 1) _ _ _ _ rfl PX Tryz.underlying41 rfl (by kernel_rfl)) rfl ?_
      exact ⟨aob, capb, by rw [HE.out.1, HE.out.2]; rfl, by rw [HE.out.1]; exact HRD.out, bb, by rw [HE.out.1]; exact HCP.out.1, .inr HCP.out.2⟩
theorem qdecode8_walkc (t : Int) (b : List UInt8) (hp : b.length ≤ 140737488351232) (w : World) :
    Calls Tryz.prog 29 #[.agg #[.int .i64 t, .string (bs b)]] w (DuPc t b w) := by
  have hd := du_all t b
  by_cases h : ∃ p1 p2 p3 p4, prt 0 b = .ok [p1, p2, p3, p4] ∧ (p1.1 = 2 ∧ p2.1 = 2 ∧ p3.1 = 2 ∧ p4.1 = 48)
  · obtain ⟨p1, p2, p3, p4, h, h1, h2, h3, h4⟩ := h
    exact qdecode8_go t b hp w p1 p2 p3 p4 h h1 h2 h3 h4
  · exact qdecode8_early t b hp w hd (fun p1 p2 p3 p4 hp hc => h ⟨p1, p2, p3, p4, hp, hc⟩)
theorem qdecode8_walk (t : Int) (b : List UInt8) (hp : b.length ≤ 140737488351232) (w : World) :
    Calls Tryz.prog 29 #[.agg #[.int .i64 t, .string (bs b)]] w (DuPost t b w) := (qdecode8_walkc t b hp w).mono fun _ _ h => h.weak
theorem decode8_walk (t : Int) (b : List UInt8) (hp : b.length ≤ 1000000) (w : World) (T : Tp w) :
    Calls Tryz.prog 42 #[.agg #[.int .i64 t, .string (bs b)]] w (DuPost t b w) := (decode8_walkc t b hp w T).mono fun _ _ h => h.weak
end Go.Proofs.YtmdibafofdghgaaGreatDoor
/- Lists of texts: as they come in, as a call makes them, what keeps them. Of no program. -/
namespace Go.Proofs.YtmdibafofdghgaaGreatDoor
open Go.RowKit
set_option linter.unusedVariables false
namespace K

def txts (ls : List (List UInt8)) : List Value := ls.map fun l => Value.string (bs l)
theorem txts_len (ls : List (List UInt8)) : (txts ls).length = ls.length := by simp [txts]
theorem txts_app (a b : List (List UInt8)) : txts (a ++ b) = txts a ++ txts b := by simp [txts]
theorem txts_get (ls : List (List UInt8)) (i : Nat) (h : i < ls.length) : (txts ls)[i]? = some (.string (bs (ls.getD i []))) := by
  simp [txts, List.getElem?_eq_getElem h, List.getD]
theorem txts_one (ls : List (List UInt8)) : ∀ u ∈ txts ls, u.oneCell' = true := by
  intro u hu
  obtain ⟨l, _, rfl⟩ := List.mem_map.1 hu
  rfl
/-- A slice that reads as these texts. -/
def RdS (w : World) (ao : Option Addr) (ls : List (List UInt8)) : Prop :=
  ls.length = 0 ∨ ∃ b off, ao = some ⟨b, off, none⟩ ∧ b < w.heap.size ∧ ∀ i, i < ls.length → w.cell? ⟨b, off + i, none⟩ = some (.string (bs (ls.getD i [])))
theorem RdS.below {w w' : World} {ao : Option Addr} {ls : List (List UInt8)} (h : RdS w ao ls) (k : Below w.heap.size w w') : RdS w' ao ls := by
  rcases h with h0 | ⟨b, off, ha, hb, hc⟩
  · exact .inl h0
  · exact .inr ⟨b, off, ha, Nat.lt_of_lt_of_le hb k.size, fun i hi => (k.cell (p := ⟨b, off + i, none⟩) hb).trans (hc i hi)⟩
theorem RdS.at {w : World} {ao : Option Addr} {ls : List (List UInt8)} (h : RdS w ao ls) {i : Nat} (hi : i < ls.length) {l : List UInt8} (hl : ls.getD i [] = l) :
    ∃ b off, ao = some ⟨b, off, none⟩ ∧ b < w.heap.size ∧ w.cell? ⟨b, off + i, none⟩ = some (.string (bs l)) := by
  subst hl
  rcases h with h0 | ⟨b, off, ha, hb, hc⟩
  · omega
  · exact ⟨b, off, ha, hb, hc i hi⟩
/-- The cells that a list has, one by one. -/
theorem RdS.each {w : World} {a : Addr} {ls : List (List UInt8)} (h : RdS w (some a) ls) : ∀ j u, (txts ls)[j]? = some u → w.cell? (a.add j) = some u := by
  intro j u hj
  have hlt : j < ls.length := by
    rcases Nat.lt_or_ge j (txts ls).length with h | h
    · rw [txts_len] at h; exact h
    · rw [List.getElem?_eq_none h] at hj; cases hj
  rcases h with h | ⟨b, off, ha, hb, hc⟩
  · omega
  · injection ha with ha
    subst ha
    rw [txts_get ls j hlt] at hj
    have hadd : (⟨b, off, none⟩ : Addr).add j = ⟨b, off + j, none⟩ := by simp [Addr.add]
    rw [hadd, hc j hlt, hj]
theorem RdS.pre {w : World} {ao : Option Addr} {xs ys : List (List UInt8)} (h : RdS w ao (xs ++ ys)) : RdS w ao xs := by
  by_cases h0 : xs.length = 0
  · exact .inl h0
  rcases h with h | ⟨b, off, ha, hb, hc⟩
  · rw [List.length_append] at h; omega
  · refine .inr ⟨b, off, ha, hb, fun i hi => ?_⟩
    have := hc i (by rw [List.length_append]; omega)
    rw [List.getD_eq_getElem?_getD, List.getElem?_append_left hi, ← List.getD_eq_getElem?_getD] at this
    exact this
theorem RdS.last {w : World} {g : Nat} {xs : List (List UInt8)} {x : List UInt8} (h : RdS w (some ⟨g, 0, none⟩) (xs ++ [x])) : w.cell? ⟨g, xs.length, none⟩ = some (.string (bs x)) := by
  rcases h with h | ⟨b, off, ha, hb, hc⟩
  · simp at h
  · injection ha with ha
    injection ha with h1 h2 _
    subst h1 h2
    have := hc xs.length (by simp)
    have hg : (xs ++ [x]).getD xs.length [] = x := by simp [List.getD]
    rw [hg] at this
    simpa using this
/-- A slice that the call made itself, behind block B, of these texts; T is the type of its elements. -/
def OwnS (w : World) (B : Nat) (T : TypeId) (v : Value) (ls : List (List UInt8)) : Prop := w.ownsRow B T 1 v ls.length (txts ls)
theorem OwnS.nil (w : World) (B : Nat) (T : TypeId) : OwnS w B T (.slice none 0 0) [] := World.ownsRow_nil w B T 1
theorem OwnS.empty (w : World) (B : Nat) (T : TypeId) (hb : B ≤ w.heap.size) : OwnS (w.alloc (.cells #[] T)) B T (.slice (some ⟨w.heap.size, 0, none⟩) 0 0) [] :=
  ⟨by simp [txts], .inr ⟨w.heap.size, 0, #[], rfl, hb, rowNew w _, Nat.le_refl _, by unfold maxLen; omega, by simp, by simp [txts]⟩⟩
theorem OwnS.below {w w' : World} {B : Nat} {T : TypeId} {v : Value} {ls : List (List UInt8)} (h : OwnS w B T v ls) (k : Below w.heap.size w w') : OwnS w' B T v ls := by
  refine ⟨h.1, ?_⟩
  rcases h.2 with hn | ⟨g, cap, cur, h1, h2, h3, h4⟩
  · exact .inl hn
  · exact .inr ⟨g, cap, cur, h1, h2, (k.block g (lt_of_block h3)).trans h3, h4⟩
theorem OwnS.mono {w : World} {B B' : Nat} {T : TypeId} {v : Value} {ls : List (List UInt8)} (h : OwnS w B T v ls) (hb : B' ≤ B) : OwnS w B' T v ls := World.ownsRow.mono h hb
theorem OwnS.form {w : World} {B : Nat} {T : TypeId} {v : Value} {ls : List (List UInt8)} (h : OwnS w B T v ls) : ∃ ao cap, v = .slice ao ls.length cap ∧ ls.length ≤ cap ∧ cap ≤ maxLen ∧ RdS w ao ls ∧ ((ao = none ∧ ls.length = 0 ∧ cap = 0) ∨ ∃ g, ao = some ⟨g, 0, none⟩ ∧ B ≤ g) := by
  rcases h.2 with ⟨hv, h0⟩ | ⟨g, cap, cur, hv, hB, hh, hle, hm, hs, ht⟩
  · exact ⟨none, 0, by rw [hv, h0], by omega, by unfold maxLen; omega, .inl h0, .inl ⟨rfl, h0, rfl⟩⟩
  · refine ⟨some ⟨g, 0, none⟩, cap, hv, hle, hm, .inr ⟨g, 0, rfl, lt_of_block hh, fun i hi => ?_⟩, .inr ⟨g, rfl, hB⟩⟩
    rw [Nat.zero_add, cellRow hh, ← Array.getElem?_toList, ← txts_get ls i hi, ← ht, List.getElem?_take_of_lt (by omega)]
theorem OwnS.put {w : World} {B : Nat} {T : TypeId} {v : Value} {a b : List (List UInt8)} (h : w.ownsRow B T 1 v (a.length + b.length) (txts a ++ txts b)) : OwnS w B T v (a ++ b) := by
  unfold OwnS
  rw [List.length_append, txts_app]
  exact h
theorem strs_list {w : World} {ao : Option Addr} {n : Nat} {ss : Nat → List UInt8} (h : Strs w ao n ss) : ∃ ls : List (List UInt8), n = ls.length ∧ ls.length ≤ 140737488351232 ∧ RdS w ao ls ∧ ∀ l ∈ ls, l.length ≤ 140737488351232 := by
  obtain ⟨h1, h2, h3⟩ := h
  have hln : ((List.range n).map ss).length = n := by simp
  refine ⟨(List.range n).map ss, hln.symm, by omega, ?_, fun l hl => ?_⟩
  · rcases h2 with h | ⟨b, off, ha, hr⟩
    · exact .inl (by omega)
    · refine .inr ⟨b, off, ha, hr.1, fun i hi => ?_⟩
      rw [hln] at hi
      rw [hr.2 i hi]
      simp [List.getD, hi]
  · obtain ⟨i, _, rfl⟩ := List.mem_map.1 hl
    exact h3 i
end K
end Go.Proofs.YtmdibafofdghgaaGreatDoor
