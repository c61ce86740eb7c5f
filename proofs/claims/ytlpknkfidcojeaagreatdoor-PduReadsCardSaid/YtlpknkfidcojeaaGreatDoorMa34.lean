/- Texts on the program and on the document, joined: PduK. -/
import Derived.Test.YtlpknkfidcojeaaGreatDoorMa23
import Derived.Test.YtlpknkfidcojeaaGreatDoorMa24
import Derived.Test.YtlpknkfidcojeaaGreatDoorMa33
import Derived.Test.YtlpknkfidcojeaaGreatDoorMa21
/- pdu's partsOf, readBind, walked. -/
namespace Go.Proofs.YtlpknkfidcojeaaGreatDoor
open Go.ChangeShapes Go.WideShapes Go.ChangeAt Go.RowKit K P1 B5
open D8 (Bd Un lst deB deL deU)
set_option linter.unusedVariables false

def PoPost (l : List UInt8) (w : World) (e : Ending) (w' : World) : Prop :=
  (∃ c : Nat, prt 0 l = .error c ∧ e = .returned (.tuple #[.slice none 0 0, .bool false]) ∧ Below w.heap.size w w') ∨
  (∃ ps v, prt 0 l = .ok ps ∧ e = .returned (.tuple #[v, .bool true]) ∧ OwnP w' w.heap.size 30 v ps ∧ Below w.heap.size w w')
set_option maxRecDepth 100000 in
theorem partsof_walk (t : Int) (b : List UInt8) (hp : b.length ≤ 140737488351232) (w : World) :
    Calls Tryz.prog 23 #[.agg #[.int .i64 t, .string (bs b)]] w (PoPost b w) := by
  have HQ := Lib.hid (fun w1 => parts_list_walk b hp w1)
  unfold PaPost at HQ
  have hba := alloc_in w (.cells #[.int .i64 t, .string (bs b)] 30)
  go_enter Tryz.func23, Tryz.ntmps23
  go_wp2_with fail
  refine (HQ.out _).mono ?_
  rintro e w1 (⟨c, h, rfl, b1⟩ | ⟨ps, v, h, rfl, ho, b1⟩)
  · have hc : (((c : Nat) : Int) == 0) = false := by rw [beq_eq_false_iff_ne]; rcases prt_err h with rfl | rfl <;> decide
    have HH := Lib.hid h
    clear h HQ
    go_wp2
    go_ret2
    exact .inl ⟨c, HH.out, rfl, Below_in b1⟩
  · have HH := Lib.hid h
    have ho2 := ho.mono (B' := w.heap.size) (by simp)
    clear h HQ ho
    go_wp2
    go_ret2
    exact .inr ⟨ps, v, HH.out, rfl, ho2, Below_in b1⟩
/-- The two blocks of readBind: the element, and what is handed back. -/
theorem two_blocksK (w : World) (k : Int) (b : List UInt8) : ∃ w2, (w.alloc (.cells #[.int .i64 k, .string (bs b)] 30)).alloc (.cells #[.string { data := #[] }, .int .i64 0, .int .i64 0, .string { data := #[] }] 42) = w2 ∧
    Bq w2 (w.heap.size + 1) nob ∧ Prt w2 w.heap.size 30 k b ∧ Below w.heap.size w w2 := by
  have hr := ((alloc_in (w.alloc (.cells #[.int .i64 k, .string (bs b)] 30)) (.cells #[.string { data := #[] }, .int .i64 0, .int .i64 0, .string { data := #[] }] 42)).block w.heap.size (by simp)).trans (rowNew w _)
  refine ⟨_, rfl, ?_, hr, ((Below.refl _ _).alloc (Nat.le_refl _) _).alloc (by simp) _⟩
  have := Bq.new (w.alloc (.cells #[.int .i64 k, .string (bs b)] 30)) nob
  rw [show (w.alloc (.cells #[.int .i64 k, .string (bs b)] 30)).heap.size = w.heap.size + 1 by simp] at this
  exact this
set_option maxRecDepth 100000 in
set_option maxHeartbeats 2000000 in
theorem readbind_no (t : Int) (b : List UInt8) (hp : b.length ≤ 140737488351232) (w : World) (hn : (∃ c, prt 0 b = .error c) ∨ ∃ ps, prt 0 b = .ok ps ∧ ((t != 48) = true ∨ (t = 48 ∧ ((((ps.length : Nat) : Int) != 2) = true ∨ ∃ q1 q2, ps = [q1, q2] ∧ (((q1.1 : Nat) : Int) != 6) = true)))) :
    Calls Tryz.prog 55 #[.agg #[.int .i64 t, .string (bs b)]] w fun e w' => e = .returned (.tuple #[.agg #[.string (bs []), .int .i64 0, .int .i64 0, .string (bs [])], .bool false]) ∧ Below w.heap.size w w' := by
  have HQ := Lib.hid (fun w1 => partsof_walk t b hp w1)
  unfold PoPost at HQ
  obtain ⟨w2, hw2, hq, hpt, bw⟩ := two_blocksK w t b
  have HW := Lib.hid hw2
  clear hw2
  rcases hn with ⟨c, h⟩ | ⟨ps, h, hn⟩
  · go_enter Tryz.func55, Tryz.ntmps55
    go_wp2_with fail
    rw [HW.out]
    refine (HQ.out _).mono ?_
    rintro e w1 (⟨c', h', rfl, b1⟩ | ⟨ps', v, h', rfl, ho, b1⟩)
    rotate_left
    · rw [h] at h'; cases h'
    clear h h'
    replace hq := hq.below b1
    replace hpt := hpt.keep b1
    replace bw := bw.trans (b1.mono bw.size)
    clear HQ HW b1
    obtain ⟨c0, c1, c2, c3⟩ := hq.cells
    obtain ⟨f0, f1, f2, f3⟩ := hq.free
    obtain ⟨d0, d1, _, _⟩ := hpt.cells
    have PX := hq.set nob
    have bb := below_set4 bw (b := w.heap.size + 1) (Nat.le_succ _) (.string (bs [])) (.int .i64 0) (.int .i64 0) (.string (bs []))
    go_wp2
    refine bodyPost_ret (results_cell_row2 rfl _ _ (w.heap.size + 1) _ _ _ _ rfl PX Tryz.underlying42 rfl (by kernel_rfl)) rfl ?_
    exact ⟨rfl, bb⟩
  · have HH := Lib.hid h
    clear h
    rcases hn with ht | ⟨rfl, hl | ⟨q1, q2, rfl, hl⟩⟩
    all_goals
      go_enter Tryz.func55, Tryz.ntmps55
      go_wp2_with fail
      rw [HW.out]
      refine (HQ.out _).mono ?_
      rintro e w1 (⟨c', h', rfl, b1⟩ | ⟨ps', v, h', rfl, ho, b1⟩)
      · have h := HH.out; rw [h'] at h; cases h
      have h2 := HH.out
      rw [h'] at h2
      injection h2 with h2
      subst h2
      obtain ⟨ao, cap, rfl, hf⟩ := ho.form
      replace hq := hq.below b1
      replace hpt := hpt.keep b1
      replace bw := bw.trans (b1.mono bw.size)
      clear HQ HW b1 ho h' HH
      obtain ⟨c0, c1, c2, c3⟩ := hq.cells
      obtain ⟨f0, f1, f2, f3⟩ := hq.free
      obtain ⟨d0, d1, _, _⟩ := hpt.cells
      have PX := hq.set nob
      have bb := below_set4 bw (b := w.heap.size + 1) (Nat.le_succ _) (.string (bs [])) (.int .i64 0) (.int .i64 0) (.string (bs []))
    · clear hf
      go_wp2
      refine bodyPost_ret (results_cell_row2 rfl _ _ (w.heap.size + 1) _ _ _ _ rfl PX Tryz.underlying42 rfl (by kernel_rfl)) rfl ?_
      exact ⟨rfl, bb⟩
    · clear hf
      go_wp2
      refine bodyPost_ret (results_cell_row2 rfl _ _ (w.heap.size + 1) _ _ _ _ rfl PX Tryz.underlying42 rfl (by kernel_rfl)) rfl ?_
      exact ⟨rfl, bb⟩
    · rcases hf with h0 | ⟨g, rfl, hg1, hg2, hg⟩
      · simp at h0
      obtain ⟨g0, g1⟩ := hg 0 (by simp)
      simp only [List.getD_cons_zero, Nat.zero_mul] at g0 g1
      go_wp2
      refine bodyPost_ret (results_cell_row2 rfl _ _ (w.heap.size + 1) _ _ _ _ rfl PX Tryz.underlying42 rfl (by kernel_rfl)) rfl ?_
      exact ⟨rfl, bb⟩
set_option maxRecDepth 100000 in
set_option maxHeartbeats 2000000 in
theorem readbind_yes (b : List UInt8) (hp : b.length ≤ 1000000) (w : World) (T : Tabs w) (q1 q2 : Nat × List UInt8) (h : prt 0 b = .ok [q1, q2]) (hq6 : q1.1 = 6) :
    Calls Tryz.prog 55 #[.agg #[.int .i64 48, .string (bs b)]] w (BiPost (48, b) w) := by
  have HQ := Lib.hid (fun w1 => partsof_walk 48 b (by omega) w1)
  unfold PoPost at HQ
  have hm := prt_mem _ _ b _ (Nat.le_refl _) h
  have hm1 := (hm q1 (by simp)).2
  have hm2 := (hm q2 (by simp)).2
  have hO := fun w1 (T1 : Tabs w1) => decode_walk q1.2 (by omega) w1 T1
  have HV := Lib.hid (fun w1 (T1 : Tabs w1) => decode_walk7 (q2.1 : Nat) q2.2 (by omega) w1 T1)
  obtain ⟨t1, l1⟩ := q1
  obtain ⟨t2, l2⟩ := q2
  have hq6' : t1 = 6 := hq6
  subst hq6'
  have hdB : deB (48, b) = if (deA l1).isSome = true ∧ V7.deOk (t2 : Nat) l2 = true then some ⟨deS l1, (t2 : Nat), (V7.rdV (t2 : Nat) l2).1, (V7.rdV (t2 : Nat) l2).2.1⟩ else none := by
    unfold deB; simp only [h, true_and]
  obtain ⟨s1, s2⟩ := deB_yes (6, l1) (t2, l2) hdB
  simp only [] at s1 s2
  clear hm hm1 hm2 hq6
  have HH := Lib.hid h
  clear h hdB
  simp only [] at hO HV
  obtain ⟨w2, hw2, hq, hpt, bw⟩ := two_blocksK w 48 b
  have HW := Lib.hid hw2
  have HT := Lib.hid T
  clear hw2 T
  cases hA : (deA l1).isSome
  · have e1 : (((deE l1 : Nat) : Int) != 0) = true := by rw [bne, deE_zero, hA]; rfl
    rw [hA, Bool.false_and] at s1
    have HB := Lib.hid (show ∀ wa, Below w.heap.size w wa → BiPost (48, b) w (.returned (.tuple #[.agg #[.string (bs []), .int .i64 0, .int .i64 0, .string (bs [])], .bool false])) wa from fun wa hb => ⟨nob, by rw [s1]; rfl, fun y hy => (by rw [hy] at s1; cases s1), hb⟩)
    have HO := Lib.hid hO
    clear s1 s2 hO hA HV
    generalize deS l1 = S1 at *
    generalize deE l1 = E1 at *
    go_enter Tryz.func55, Tryz.ntmps55
    go_wp2_with fail
    rw [HW.out]
    refine (HQ.out _).mono ?_
    rintro e w1 (⟨c', h', rfl, b1⟩ | ⟨ps', v, h', rfl, ho, b1⟩)
    · have h := HH.out; rw [h'] at h; cases h
    have h2 := HH.out
    rw [h'] at h2
    injection h2 with h2
    subst h2
    obtain ⟨ao, cap, rfl, hf⟩ := ho.form
    replace hq := hq.below b1
    replace hpt := hpt.keep b1
    replace bw := bw.trans (b1.mono bw.size)
    clear HQ HW b1 h' HH
    obtain ⟨d0, d1, _, _⟩ := hpt.cells
    rcases hf with h0 | ⟨g, rfl, hg1, hg2, hg⟩
    · simp at h0
    obtain ⟨g0, g1⟩ := hg 0 (by simp)
    simp only [List.getD_cons_zero, Nat.zero_mul, Nat.zero_add] at g0 g1
    clear hg ho
    go_wp2_with fail
    refine (HO.out _ (HT.out.below bw)).mono ?_
    rintro e w3 ⟨rfl, b3⟩
    replace hq := hq.below b3
    replace bw := bw.trans (b3.mono bw.size)
    obtain ⟨c0, c1, c2, c3⟩ := hq.cells
    obtain ⟨f0, f1, f2, f3⟩ := hq.free
    have PX := hq.set nob
    have bb := below_set4 bw (b := w.heap.size + 1) (Nat.le_succ _) (.string (bs [])) (.int .i64 0) (.int .i64 0) (.string (bs []))
    go_wp2
    refine bodyPost_ret (results_cell_row2 rfl _ _ (w.heap.size + 1) _ _ _ _ rfl PX Tryz.underlying42 rfl (by kernel_rfl)) rfl ?_
    exact HB.out _ bb
  · have e1 : deE l1 = 0 := by
      cases hx : deA l1 with
      | none => rw [hx] at hA; cases hA
      | some l => exact (de_some hx).1
    rw [e1] at hO
    rw [hA, Bool.true_and, ← dvE_zero] at s1
    have HB := Lib.hid (show ∀ wa, Below w.heap.size w wa → BiPost (48, b) w (.returned (.tuple #[.agg #[.string (bs (deS l1)), .int .i64 (V7.dvK (t2 : Nat) l2), .int .i64 (V7.dvN (t2 : Nat) l2), .string (bs (V7.dvS (t2 : Nat) l2))], .bool (((V7.dvE (t2 : Nat) l2 : Nat) : Int) == 0)])) wa from fun wa hb => ⟨_, by rw [s1], s2, hb⟩)
    have HO := Lib.hid hO
    clear s1 s2 hO hA e1
    generalize deS l1 = S1 at *
    generalize V7.dvK (t2 : Nat) l2 = K2 at *
    generalize V7.dvN (t2 : Nat) l2 = N2 at *
    generalize V7.dvS (t2 : Nat) l2 = S2 at *
    generalize V7.dvE (t2 : Nat) l2 = E2 at *
    go_enter Tryz.func55, Tryz.ntmps55
    go_wp2_with fail
    rw [HW.out]
    refine (HQ.out _).mono ?_
    rintro e w1 (⟨c', h', rfl, b1⟩ | ⟨ps', v, h', rfl, ho, b1⟩)
    · have h := HH.out; rw [h'] at h; cases h
    have h2 := HH.out
    rw [h'] at h2
    injection h2 with h2
    subst h2
    obtain ⟨ao, cap, rfl, hf⟩ := ho.form
    replace hq := hq.below b1
    replace hpt := hpt.keep b1
    replace bw := bw.trans (b1.mono bw.size)
    clear HQ HW b1 h' HH
    obtain ⟨d0, d1, _, _⟩ := hpt.cells
    rcases hf with h0 | ⟨g, rfl, hg1, hg2, hg⟩
    · simp at h0
    obtain ⟨g0, g1⟩ := hg 0 (by simp)
    obtain ⟨g2, g3⟩ := hg 1 (by simp)
    simp only [List.getD_cons_zero, List.getD_cons_succ, Nat.zero_mul, Nat.one_mul, Nat.zero_add] at g0 g1 g2 g3
    clear hg ho
    go_wp2_with fail
    refine (HO.out _ (HT.out.below bw)).mono ?_
    rintro e w3 ⟨rfl, b3⟩
    replace hq := hq.below b3
    replace bw := bw.trans (b3.mono bw.size)
    have e2 := cell_below g2 b3
    have e3 : w3.cell? ⟨g, 3, none⟩ = some (.string (bs l2)) := cell_below g3 b3
    have HT3 := Lib.hid (HT.out.below bw)
    clear d0 d1 g0 g1 g2 g3 b3 HO hpt
    go_wp2_with fail
    have zS := And.intro e2 e3
    have n2 := World.new_ne w3 _ e2
    have n3 := World.new_ne w3 _ e3
    clear e2 e3
    clear zS n2 n3
    refine (HV.out _ HT3.out).mono ?_
    rintro e x1 ⟨rfl, k1⟩
    have hq1 := hq.below k1
    have bw1 := bw.trans (k1.mono bw.size)
    have hz := hq1.below (alloc_in x1 (.cells #[.int .i64 K2, .int .i64 N2, .string (bs S2)] 40))
    have bz := bw1.trans ((alloc_in x1 (.cells #[.int .i64 K2, .int .i64 N2, .string (bs S2)] 40)).mono bw1.size)
    obtain ⟨c0, c1, c2, c3⟩ := hz.cells
    obtain ⟨f0, f1, f2, f3⟩ := hz.free
    have PX := hz.set ⟨S1, K2, N2, S2⟩
    have bb := below_set4 bz (b := w.heap.size + 1) (Nat.le_succ _) (.string (bs S1)) (.int .i64 K2) (.int .i64 N2) (.string (bs S2))
    clear hq hq1 bw bw1 hz bz k1 HV HT3 HT
    cases hE2 : (((E2 : Nat) : Int) == 0)
    all_goals
      rw [hE2] at HB
      go_wp2
      refine bodyPost_ret (results_cell_row2 rfl _ _ (w.heap.size + 1) _ _ _ _ rfl PX Tryz.underlying42 rfl (by kernel_rfl)) rfl ?_
      exact HB.out _ bb
theorem readbind_walk (t : Nat) (b : List UInt8) (hp : b.length ≤ 1000000) (w : World) (T : Tabs w) :
    Calls Tryz.prog 55 #[.agg #[.int .i64 (t : Nat), .string (bs b)]] w (BiPost (t, b) w) := by
  have hno : ∀ (he : deB (t, b) = none), (Calls Tryz.prog 55 #[.agg #[.int .i64 (t : Nat), .string (bs b)]] w fun e w' => e = .returned (.tuple #[.agg #[.string (bs []), .int .i64 0, .int .i64 0, .string (bs [])], .bool false]) ∧ Below w.heap.size w w') → Calls Tryz.prog 55 #[.agg #[.int .i64 (t : Nat), .string (bs b)]] w (BiPost (t, b) w) := by
    intro he h
    refine h.mono ?_
    rintro e w' ⟨rfl, hb⟩
    refine ⟨nob, ?_, fun y hy => ?_, hb⟩
    · rw [he]; rfl
    · rw [he] at hy; cases hy
  cases hp0 : prt 0 b with
  | error c =>
    refine hno ?_ (readbind_no (t : Nat) b (by omega) w (.inl ⟨c, hp0⟩))
    unfold deB; simp only [hp0]
  | ok ps0 =>
    cases bi_all t b with
    | tag ht e => exact hno e (readbind_no (t : Nat) b (by omega) w (.inr ⟨ps0, hp0, .inl ht⟩))
    | err c ht h hc e => rw [hp0] at h; cases h
    | len ps ht h hl e => exact hno e (readbind_no (t : Nat) b (by omega) w (.inr ⟨ps, h, .inr ⟨by rw [ht]; rfl, .inl hl⟩⟩))
    | six q1 q2 ht h hq e => exact hno e (readbind_no (t : Nat) b (by omega) w (.inr ⟨_, h, .inr ⟨by rw [ht]; rfl, .inr ⟨q1, q2, rfl, hq⟩⟩⟩))
    | yes q1 q2 ht h hq e =>
      subst ht
      exact readbind_yes b hp w T q1 q2 h hq
end Go.Proofs.YtlpknkfidcojeaaGreatDoor
