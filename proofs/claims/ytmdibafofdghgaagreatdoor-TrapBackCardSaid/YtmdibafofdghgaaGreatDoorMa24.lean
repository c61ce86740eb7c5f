/- Texts on the program and on the document, joined: PduD, PduF, PduL. -/
import Derived.Test.YtmdibafofdghgaaGreatDoorMa14
import Derived.Test.YtmdibafofdghgaaGreatDoorMa22
import Derived.Test.YtmdibafofdghgaaGreatDoorMa23
import Derived.Test.YtmdibafofdghgaaGreatDoorMa20
import Derived.Test.YtmdibafofdghgaaGreatDoorMa17
import Derived.Test.YtmdibafofdghgaaGreatDoorMa18
/- The document's bind, walked. -/
namespace Go.Proofs.YtmdibafofdghgaaGreatDoor
open Go.ChangeShapes Go.WideShapes Go.ChangeAt Go.RowKit K P1 B5
open D8 (Bd Un lst deB deL deU)
set_option linter.unusedVariables false

theorem prts_err : ∀ (n k c e : Nat) (l : List UInt8), l.length ≤ n → prts k c l = .error e → e = 50 ∨ e = 2
  | n, 0, c, e, l, hn, h => by
    unfold prts at h
    by_cases hl : l.isEmpty = true
    · rw [if_pos hl] at h; cases h
    · rw [if_neg hl] at h; injection h with h; exact .inl h.symm
  | n, k + 1, c, e, l, hn, h => by
    unfold prts at h
    by_cases hl : l.isEmpty = true
    · rw [if_pos hl] at h; cases h
    rw [if_neg hl] at h
    by_cases hx : nxOk l = false
    · rw [if_pos hx] at h; injection h with h; exact .inl h.symm
    rw [if_neg hx] at h
    by_cases hc : c = 4096
    · rw [if_pos hc] at h; injection h with h; exact .inr h.symm
    rw [if_neg hc] at h
    have hx' : nxOk l = true := by cases hq : nxOk l; exact absurd hq hx; rfl
    have h5 := (nx_of hx').2.2.2.2
    cases hr : prts k (c + 1) (nxR l) with
    | error e2 =>
      rw [hr] at h
      injection h with h
      rw [← h]
      exact prts_err (n - 2) k (c + 1) e2 (nxR l) (by omega) hr
    | ok r => rw [hr] at h; cases h
theorem prt_err {c e : Nat} {l : List UInt8} (h : prt c l = .error e) : e = 50 ∨ e = 2 := prts_err l.length _ c e l (Nat.le_refl _) h
theorem prt_mem : ∀ (n c : Nat) (l : List UInt8) (ps : List (Nat × List UInt8)), l.length ≤ n → prt c l = .ok ps → ∀ p ∈ ps, p.1 < 256 ∧ p.2.length ≤ l.length
  | n, c, l, ps, hn, h, p, hp => by
    by_cases hl : l = []
    · subst hl
      have e : prt c [] = .ok [] := prts_nil _ _
      rw [e] at h; injection h with h; subst h; cases hp
    · obtain ⟨hx, r, hr, rfl⟩ := D8.prt_inv8 h hl
      obtain ⟨_, h2, _, _, h5⟩ := nx_of hx
      have hpos := List.length_pos_iff.2 hl
      rcases List.mem_cons.1 hp with rfl | hp
      · exact ⟨h2, by show (nxB l).length ≤ _; omega⟩
      · match n, hn with
        | 0, hn => omega
        | n + 1, hn =>
          have := prt_mem n (c + 1) (nxR l) r (by omega) hr p hp
          exact ⟨this.1, by omega⟩
theorem two_of {ps : List (Nat × List UInt8)} (h : ps.length = 2) : ∃ a b, ps = [a, b] := by
  match ps, h with
  | [a, b], _ => exact ⟨a, b, rfl⟩
theorem four_of {ps : List (Nat × List UInt8)} (h : ps.length = 4) : ∃ a b c d, ps = [a, b, c, d] := by
  match ps, h with
  | [a, b, c, d], _ => exact ⟨a, b, c, d, rfl⟩
/-- What bind hands back. -/
def BiPost (p : Nat × List UInt8) (w : World) (e : Ending) (w' : World) : Prop :=
  ∃ x : Bd, e = .returned (.tuple #[.agg #[.string (bs x.o), .int .i64 x.k, .int .i64 x.n, .string (bs x.s)], .bool (deB p).isSome]) ∧ (∀ y, deB p = some y → y = x) ∧ Below w.heap.size w w'
/-- How bind ends. -/
inductive Bi (t : Nat) (b : List UInt8) : Prop
  | tag (ht : (((t : Nat) : Int) != 48) = true) (e : deB (t, b) = none)
  | err (c : Nat) (ht : t = 48) (h : prt 0 b = .error c) (hc : (((c : Nat) : Int) != 0) = true) (e : deB (t, b) = none)
  | len (ps : List (Nat × List UInt8)) (ht : t = 48) (h : prt 0 b = .ok ps) (hl : (((ps.length : Nat) : Int) != 2) = true) (e : deB (t, b) = none)
  | six (q1 q2 : Nat × List UInt8) (ht : t = 48) (h : prt 0 b = .ok [q1, q2]) (hq : (((q1.1 : Nat) : Int) != 6) = true) (e : deB (t, b) = none)
  | yes (q1 q2 : Nat × List UInt8) (ht : t = 48) (h : prt 0 b = .ok [q1, q2]) (hq : q1.1 = 6) (e : deB (t, b) = if (deA q1.2).isSome = true ∧ V7.deOk (q2.1 : Nat) q2.2 = true then some ⟨deS q1.2, (q2.1 : Nat), (V7.rdV (q2.1 : Nat) q2.2).1, (V7.rdV (q2.1 : Nat) q2.2).2.1⟩ else none)
theorem bi_all (t : Nat) (b : List UInt8) : Bi t b := by
  by_cases ht : t = 48
  · cases h : prt 0 b with
    | error c =>
      refine .err c ht h ?_ (by unfold deB; simp only [h])
      rw [bne_iff_ne]; rcases prt_err h with rfl | rfl <;> decide
    | ok ps =>
      by_cases hl : ps.length = 2
      · obtain ⟨q1, q2, rfl⟩ := two_of hl
        by_cases hq : q1.1 = 6
        · refine .yes q1 q2 ht h hq ?_
          unfold deB; simp only [h, ht, hq, true_and]
        · refine .six q1 q2 ht h (by rw [bne_iff_ne]; omega) ?_
          unfold deB; simp only [h, hq, false_and, and_false, if_false]
      · refine .len ps ht h (by rw [bne_iff_ne]; omega) ?_
        unfold deB
        simp only [h]
        split
        · rename_i heq; injection heq with heq; subst heq; simp at hl
        · rfl
  · refine .tag (by rw [bne_iff_ne]; omega) ?_
    unfold deB
    simp only []
    split
    · rw [if_neg (fun e => ht e.1)]
    · rfl
/-- The two blocks of bind: the element, and what is handed back. -/
theorem two_blocksB (w : World) (k : Int) (b : List UInt8) : ∃ w2, (w.alloc (.cells #[.int .i64 k, .string (bs b)] 57)).alloc (.cells #[.string { data := #[] }, .int .i64 0, .int .i64 0, .string { data := #[] }] 48) = w2 ∧
    Bq w2 (w.heap.size + 1) nob ∧ Prt w2 w.heap.size 57 k b ∧ Below w.heap.size w w2 := by
  have hr := ((alloc_in (w.alloc (.cells #[.int .i64 k, .string (bs b)] 57)) (.cells #[.string { data := #[] }, .int .i64 0, .int .i64 0, .string { data := #[] }] 48)).block w.heap.size (by simp)).trans (rowNew w _)
  refine ⟨_, rfl, ?_, hr, ((Below.refl _ _).alloc (Nat.le_refl _) _).alloc (by simp) _⟩
  have := Bq.new (w.alloc (.cells #[.int .i64 k, .string (bs b)] 57)) nob
  rw [show (w.alloc (.cells #[.int .i64 k, .string (bs b)] 57)).heap.size = w.heap.size + 1 by simp] at this
  exact this
theorem Bq.free {w : World} {b : Nat} {x : Bd} (h : Bq w b x) : w.frozen? ⟨b, 0, none⟩ = false ∧ w.frozen? ⟨b, 1, none⟩ = false ∧ w.frozen? ⟨b, 2, none⟩ = false ∧ w.frozen? ⟨b, 3, none⟩ = false :=
  ⟨freeRow h 0, freeRow h 1, freeRow h 2, freeRow h 3⟩
theorem Bq.set {w : World} {b : Nat} {x : Bd} (h : Bq w b x) (y : Bd) : Bq ((((w.setCell ⟨b, 0, none⟩ (.string (bs y.o))).setCell ⟨b, 1, none⟩ (.int .i64 y.k)).setCell ⟨b, 2, none⟩ (.int .i64 y.n)).setCell ⟨b, 3, none⟩ (.string (bs y.s))) b y := by
  have := rowSet (rowSet (rowSet (rowSet h 0 (.string (bs y.o))) 1 (.int .i64 y.k)) 2 (.int .i64 y.n)) 3 (.string (bs y.s))
  simpa [Bq] using this
theorem below_set4 {B b : Nat} {w w' : World} (h : Below B w w') (hb : B ≤ b) (v0 v1 v2 v3 : Value) : Below B w ((((w'.setCell ⟨b, 0, none⟩ v0).setCell ⟨b, 1, none⟩ v1).setCell ⟨b, 2, none⟩ v2).setCell ⟨b, 3, none⟩ v3) :=
  (((h.setCell (p := ⟨b, 0, none⟩) hb v0).setCell (p := ⟨b, 1, none⟩) hb v1).setCell (p := ⟨b, 2, none⟩) hb v2).setCell (p := ⟨b, 3, none⟩) hb v3
theorem Prt.keep {w w' : World} {g T : Nat} {t : Int} {b : List UInt8} (h : Prt w g T t b) (k : Below w.heap.size w w') : Prt w' g T t b := (k.block g (lt_of_block h)).trans h
set_option maxRecDepth 100000 in
set_option maxHeartbeats 2000000 in
theorem qbind_no (t : Nat) (b : List UInt8) (hp : b.length ≤ 140737488351232) (w : World) (hn : (((t : Nat) : Int) != 48) = true ∨ (t = 48 ∧ ((∃ c, prt 0 b = .error c) ∨ ∃ ps, prt 0 b = .ok ps ∧ ((((ps.length : Nat) : Int) != 2) = true ∨ ∃ q1 q2, ps = [q1, q2] ∧ (((q1.1 : Nat) : Int) != 6) = true)))) :
    Calls Tryz.prog 50 #[.agg #[.int .i64 (t : Nat), .string (bs b)]] w fun e w' => e = .returned (.tuple #[.agg #[.string (bs []), .int .i64 0, .int .i64 0, .string (bs [])], .bool false]) ∧ Below w.heap.size w w' := by
  have HQ := Lib.hid (fun w1 => qparts_walk b hp w1)
  unfold QaPost at HQ
  rcases hn with ht | ⟨rfl, hn⟩
  · obtain ⟨w2, hw2, hq, hpt, bw⟩ := two_blocksB w (t : Nat) b
    have HW := Lib.hid hw2
    clear hw2
    go_enter Tryz.func50, Tryz.ntmps50
    go_wp2_with fail
    rw [HW.out]
    refine (HQ.out _).mono ?_
    rintro e w1 (⟨c', h', rfl, b1⟩ | ⟨ps, v, h', rfl, ho, b1⟩)
    all_goals
      replace hq := hq.below b1
      replace hpt := hpt.keep b1
      replace bw := bw.trans (b1.mono bw.size)
      clear HQ HW b1
      obtain ⟨c0, c1, c2, c3⟩ := hq.cells
      obtain ⟨f0, f1, f2, f3⟩ := hq.free
      obtain ⟨d0, d1, _, _⟩ := hpt.cells
      have PX := hq.set nob
      have bb := below_set4 bw (b := w.heap.size + 1) (Nat.le_succ _) (.string (bs [])) (.int .i64 0) (.int .i64 0) (.string (bs []))
      go_wp2
      refine bodyPost_ret (results_cell_row2 rfl _ _ (w.heap.size + 1) _ _ _ _ rfl PX Tryz.underlying48 rfl (by kernel_rfl)) rfl ?_
      exact ⟨rfl, bb⟩
  · obtain ⟨w2, hw2, hq, hpt, bw⟩ := two_blocksB w 48 b
    have HW := Lib.hid hw2
    clear hw2
    rcases hn with ⟨c, h⟩ | ⟨ps, h, hn⟩
    · have hc : (((c : Nat) : Int) != 0) = true := by rw [bne_iff_ne]; rcases prt_err h with rfl | rfl <;> decide
      go_enter Tryz.func50, Tryz.ntmps50
      go_wp2_with fail
      rw [HW.out]
      refine (HQ.out _).mono ?_
      rintro e w1 (⟨c', h', rfl, b1⟩ | ⟨ps', v, h', rfl, ho, b1⟩)
      rotate_left
      · rw [h] at h'; cases h'
      rw [h] at h'
      injection h' with h'
      subst h'
      replace hq := hq.below b1
      replace hpt := hpt.keep b1
      replace bw := bw.trans (b1.mono bw.size)
      clear HQ HW b1
      obtain ⟨c0, c1, c2, c3⟩ := hq.cells
      obtain ⟨f0, f1, f2, f3⟩ := hq.free
      obtain ⟨d0, d1, _, _⟩ := hpt.cells
      have PX := hq.set nob
      have bb := below_set4 bw (b := w.heap.size + 1) (Nat.le_succ _) (.string (bs [])) (.int .i64 0) (.int .i64 0) (.string (bs []))
      go_wp2
      refine bodyPost_ret (results_cell_row2 rfl _ _ (w.heap.size + 1) _ _ _ _ rfl PX Tryz.underlying48 rfl (by kernel_rfl)) rfl ?_
      exact ⟨rfl, bb⟩
    · have HH := Lib.hid h
      clear h
      rcases hn with hl | ⟨q1, q2, rfl, hl⟩
      · go_enter Tryz.func50, Tryz.ntmps50
        go_wp2_with fail
        rw [HW.out]
        refine (HQ.out _).mono ?_
        rintro e w1 (⟨c', h', rfl, b1⟩ | ⟨ps', v, h', rfl, ho, b1⟩)
        · have h := HH.out; rw [h'] at h; cases h
        have h2 := HH.out
        rw [h'] at h2
        injection h2 with h2
        subst h2
        obtain ⟨ao, cap, rfl, hf⟩ := ho.form
        replace hq := hq.below b1
        replace hpt := hpt.keep b1
        replace bw := bw.trans (b1.mono bw.size)
        clear HQ HW b1
        obtain ⟨c0, c1, c2, c3⟩ := hq.cells
        obtain ⟨f0, f1, f2, f3⟩ := hq.free
        obtain ⟨d0, d1, _, _⟩ := hpt.cells
        have PX := hq.set nob
        have bb := below_set4 bw (b := w.heap.size + 1) (Nat.le_succ _) (.string (bs [])) (.int .i64 0) (.int .i64 0) (.string (bs []))
        go_wp2
        refine bodyPost_ret (results_cell_row2 rfl _ _ (w.heap.size + 1) _ _ _ _ rfl PX Tryz.underlying48 rfl (by kernel_rfl)) rfl ?_
        exact ⟨rfl, bb⟩
      · go_enter Tryz.func50, Tryz.ntmps50
        go_wp2_with fail
        rw [HW.out]
        refine (HQ.out _).mono ?_
        rintro e w1 (⟨c', h', rfl, b1⟩ | ⟨ps', v, h', rfl, ho, b1⟩)
        · have h := HH.out; rw [h'] at h; cases h
        have h2 := HH.out
        rw [h'] at h2
        injection h2 with h2
        subst h2
        obtain ⟨ao, cap, rfl, hf⟩ := ho.form
        replace hq := hq.below b1
        replace hpt := hpt.keep b1
        replace bw := bw.trans (b1.mono bw.size)
        clear HQ HW b1
        obtain ⟨c0, c1, c2, c3⟩ := hq.cells
        obtain ⟨f0, f1, f2, f3⟩ := hq.free
        obtain ⟨d0, d1, _, _⟩ := hpt.cells
        rcases hf with h0 | ⟨g, rfl, hg1, hg2, hg⟩
        · simp at h0
        obtain ⟨g0, g1⟩ := hg 0 (by simp)
        simp only [List.getD_cons_zero, Nat.zero_mul] at g0 g1
        have PX := hq.set nob
        have bb := below_set4 bw (b := w.heap.size + 1) (Nat.le_succ _) (.string (bs [])) (.int .i64 0) (.int .i64 0) (.string (bs []))
        go_wp2
        refine bodyPost_ret (results_cell_row2 rfl _ _ (w.heap.size + 1) _ _ _ _ rfl PX Tryz.underlying48 rfl (by kernel_rfl)) rfl ?_
        exact ⟨rfl, bb⟩
end Go.Proofs.YtmdibafofdghgaaGreatDoor
/- The document's bind, where its parts are as they should be. -/
namespace Go.Proofs.YtmdibafofdghgaaGreatDoor
open Go.ChangeShapes Go.WideShapes Go.ChangeAt Go.RowKit K P1 B5
open D8 (Bd Un lst deB deL deU)
set_option linter.unusedVariables false

set_option maxRecDepth 100000 in
set_option maxHeartbeats 2000000 in
theorem qbind_yes (b : List UInt8) (hp : b.length ≤ 140737488351232) (w : World) (q1 q2 : Nat × List UInt8) (h : prt 0 b = .ok [q1, q2]) (hq6 : q1.1 = 6) :
    Calls Tryz.prog 50 #[.agg #[.int .i64 48, .string (bs b)]] w fun e w' => e = .returned (.tuple #[.agg #[.string (bs (deS q1.2)), .int .i64 (V7.dvK (q2.1 : Nat) q2.2), .int .i64 (V7.dvN (q2.1 : Nat) q2.2), .string (bs (V7.dvS (q2.1 : Nat) q2.2))], .bool ((((deE q1.2 : Nat) : Int) == 0) && (((V7.dvE (q2.1 : Nat) q2.2 : Nat) : Int) == 0))]) ∧ Below w.heap.size w w' := by
  have HQ := Lib.hid (fun w1 => qparts_walk b hp w1)
  unfold QaPost at HQ
  have hm := prt_mem _ _ b _ (Nat.le_refl _) h
  have hm1 := (hm q1 (by simp)).2
  have hm2 := (hm q2 (by simp)).2
  have HO := Lib.hid (fun w1 => qdecode_walk q1.2 (by omega) w1)
  have HV := Lib.hid (fun w1 => qdecode7_walk (q2.1 : Nat) q2.2 (by omega) w1)
  obtain ⟨t1, l1⟩ := q1
  obtain ⟨t2, l2⟩ := q2
  have hq6' : t1 = 6 := hq6
  subst hq6'
  clear hm hm1 hm2 hq6
  have HH := Lib.hid h
  clear h
  simp only [] at HO HV ⊢
  generalize deS l1 = S1 at *
  generalize deE l1 = E1 at *
  generalize V7.dvK (t2 : Nat) l2 = K2 at *
  generalize V7.dvN (t2 : Nat) l2 = N2 at *
  generalize V7.dvS (t2 : Nat) l2 = S2 at *
  generalize V7.dvE (t2 : Nat) l2 = E2 at *
  obtain ⟨w2, hw2, hq, hpt, bw⟩ := two_blocksB w 48 b
  have HW := Lib.hid hw2
  clear hw2
  go_enter Tryz.func50, Tryz.ntmps50
  go_wp2_with fail
  rw [HW.out]
  refine (HQ.out _).mono ?_
  rintro e w1 (⟨c', h', rfl, b1⟩ | ⟨ps', v, h', rfl, ho, b1⟩)
  · have h := HH.out; rw [h'] at h; cases h
  have h2 := HH.out
  rw [h'] at h2
  injection h2 with h2
  subst h2
  obtain ⟨ao, cap, rfl, hf⟩ := ho.form
  replace hq := hq.below b1
  replace hpt := hpt.keep b1
  replace bw := bw.trans (b1.mono bw.size)
  clear HQ HW b1 h' HH
  obtain ⟨c0, c1, c2, c3⟩ := hq.cells
  obtain ⟨f0, f1, f2, f3⟩ := hq.free
  obtain ⟨d0, d1, _, _⟩ := hpt.cells
  rcases hf with h0 | ⟨g, rfl, hg1, hg2, hg⟩
  · simp at h0
  obtain ⟨g0, g1⟩ := hg 0 (by simp)
  obtain ⟨g2, g3⟩ := hg 1 (by simp)
  simp only [List.getD_cons_zero, List.getD_cons_succ, Nat.zero_mul, Nat.one_mul, Nat.zero_add] at g0 g1 g2 g3
  clear hg ho
  go_wp2_with fail
  refine (HO.out _).mono ?_
  rintro e w3 ⟨rfl, b3⟩
  replace hq := hq.below b3
  replace hpt := hpt.keep b3
  replace bw := bw.trans (b3.mono bw.size)
  have e2 := cell_below g2 b3
  have e3 : w3.cell? ⟨g, 3, none⟩ = some (.string (bs l2)) := cell_below g3 b3
  clear c0 c1 c2 c3 f0 f1 f2 f3 d0 d1 g0 g1 g2 g3 b3 HO
  go_wp2_with fail
  have zS := And.intro e2 e3
  have n2 := World.new_ne w3 _ e2
  have n3 := World.new_ne w3 _ e3
  clear e2 e3
  go_region_held3 (fun x => x.cell? ⟨g, 2, none⟩ = some (.int .i64 (t2 : Nat)) ∧ x.cell? ⟨g, 3, none⟩ = some (.string (bs l2))) (first | exact zS | exact zS1 | go_keep)
    (first
    | (go_at_call 74; (with_reducible refine (HV.out _).mono ?_); rintro e x1 ⟨rfl, j1⟩; have k1 : Below (w3.alloc (.cells #[.int .i64 0, .int .i64 0, .string { data := #[] }] 46)).heap.size (w3.alloc (.cells #[.int .i64 0, .int .i64 0, .string { data := #[] }] 46)) x1 := ⟨j1.os, j1.tape, j1.output, j1.size, j1.block⟩; have v1 := (Vw.new w3 0 0 []).below k1; obtain ⟨y0, y1, y2, y3, y4, y5⟩ := v1.cells; have zS1 := And.intro (cell_below (cell_below zS.1 (alloc_in w3 (.cells #[.int .i64 0, .int .i64 0, .string { data := #[] }] 46))) k1) (cell_below (cell_below zS.2 (alloc_in w3 (.cells #[.int .i64 0, .int .i64 0, .string { data := #[] }] 46))) k1); have hq1 := (hq.below (alloc_in w3 (.cells #[.int .i64 0, .int .i64 0, .string { data := #[] }] 46))).below k1; have bw1 := bw.trans ((Below_in k1).mono bw.size); have m2 := World.new_ne x1 _ zS1.1; have m3 := World.new_ne x1 _ zS1.2)
    | (go_at_call 74; (with_reducible refine (HV.out _).mono ?_); rintro e x1 ⟨rfl, j1⟩; have k1 : Below w3.heap.size w3 x1 := ⟨j1.os, j1.tape, j1.output, j1.size, j1.block⟩; have hq1 := hq.below k1; have bw1 := bw.trans (k1.mono bw.size); have zS1 := And.intro (cell_below zS.1 k1) (cell_below zS.2 k1); have m2 := World.new_ne x1 _ zS1.1; have m3 := World.new_ne x1 _ zS1.2))
  · have vz := Vw.new x1 K2 N2 S2
    have hz := hq1.below (alloc_in x1 (.cells #[.int .i64 K2, .int .i64 N2, .string (bs S2)] 46))
    have bz := bw1.trans ((alloc_in x1 (.cells #[.int .i64 K2, .int .i64 N2, .string (bs S2)] 46)).mono bw1.size)
    generalize x1.alloc (.cells #[.int .i64 K2, .int .i64 N2, .string (bs S2)] 46) = wz at *
    obtain ⟨y0, y1, y2, _, _, _⟩ := vz.cells
    obtain ⟨c0, c1, c2, c3⟩ := hz.cells
    obtain ⟨f0, f1, f2, f3⟩ := hz.free
    have PX := hz.set ⟨S1, K2, N2, S2⟩
    have bb := below_set4 bz (b := w.heap.size + 1) (Nat.le_succ _) (.string (bs S1)) (.int .i64 K2) (.int .i64 N2) (.string (bs S2))
    clear zS zS1 n2 n3 m2 m3 hq hq1 bw bw1 hpt vz hz bz k1 j1
    cases hE1 : (((E1 : Nat) : Int) == 0) <;> cases hE2 : (((E2 : Nat) : Int) == 0)
    all_goals
      go_wp2
      refine bodyPost_ret (results_cell_row2 rfl _ _ (w.heap.size + 1) _ _ _ _ rfl PX Tryz.underlying48 rfl (by kernel_rfl)) rfl ?_
      exact ⟨rfl, bb⟩
  · have hne : w.heap.size + 1 ≠ w3.heap.size := Nat.ne_of_lt (lt_of_block hq)
    have vz := ((v1.setK K2).setN N2).setS S2
    have hz : Bq (((x1.setCell ⟨w3.heap.size, 0, none⟩ (.int .i64 K2)).setCell ⟨w3.heap.size, 1, none⟩ (.int .i64 N2)).setCell ⟨w3.heap.size, 2, none⟩ (.string (bs S2))) (w.heap.size + 1) nob :=
      (Below.heap_setCell _ _ _ _ hne).trans ((Below.heap_setCell _ _ _ _ hne).trans ((Below.heap_setCell _ _ _ _ hne).trans hq1))
    have bz := ((bw1.setCell (p := ⟨w3.heap.size, 0, none⟩) bw.size (.int .i64 K2)).setCell (p := ⟨w3.heap.size, 1, none⟩) bw.size (.int .i64 N2)).setCell (p := ⟨w3.heap.size, 2, none⟩) bw.size (.string (bs S2))
    generalize ((x1.setCell ⟨w3.heap.size, 0, none⟩ (.int .i64 K2)).setCell ⟨w3.heap.size, 1, none⟩ (.int .i64 N2)).setCell ⟨w3.heap.size, 2, none⟩ (.string (bs S2)) = wz at *
    obtain ⟨y0, y1, y2, _, _, _⟩ := vz.cells
    obtain ⟨c0, c1, c2, c3⟩ := hz.cells
    obtain ⟨f0, f1, f2, f3⟩ := hz.free
    have PX := hz.set ⟨S1, K2, N2, S2⟩
    have bb := below_set4 bz (b := w.heap.size + 1) (Nat.le_succ _) (.string (bs S1)) (.int .i64 K2) (.int .i64 N2) (.string (bs S2))
    clear zS zS1 n2 n3 m2 m3 hq hq1 bw bw1 hpt vz hz bz k1 j1 v1
    cases hE1 : (((E1 : Nat) : Int) == 0) <;> cases hE2 : (((E2 : Nat) : Int) == 0)
    all_goals
      go_wp2
      refine bodyPost_ret (results_cell_row2 rfl _ _ (w.heap.size + 1) _ _ _ _ rfl PX Tryz.underlying48 rfl (by kernel_rfl)) rfl ?_
      exact ⟨rfl, bb⟩
theorem deE_zero (b : List UInt8) : (((deE b : Nat) : Int) == 0) = (deA b).isSome := by
  cases h : deA b with
  | none => rw [(de_none h).1]; rfl
  | some l => rw [(de_some h).1]; rfl
theorem dvE_zero (k : Int) (b : List UInt8) : (((V7.dvE k b : Nat) : Int) == 0) = V7.deOk k b := by
  cases h : V7.deOk k b
  · rw [(V7.dv_no h).2.2.2]; rfl
  · rw [(V7.dv_yes h).2.2.2]; rfl
theorem deB_yes (q1 q2 : Nat × List UInt8) {t : Nat} {b : List UInt8} (e : deB (t, b) = if (deA q1.2).isSome = true ∧ V7.deOk (q2.1 : Nat) q2.2 = true then some ⟨deS q1.2, (q2.1 : Nat), (V7.rdV (q2.1 : Nat) q2.2).1, (V7.rdV (q2.1 : Nat) q2.2).2.1⟩ else none) :
    (deB (t, b)).isSome = ((deA q1.2).isSome && V7.deOk (q2.1 : Nat) q2.2) ∧ ∀ y, deB (t, b) = some y → y = ⟨deS q1.2, V7.dvK (q2.1 : Nat) q2.2, V7.dvN (q2.1 : Nat) q2.2, V7.dvS (q2.1 : Nat) q2.2⟩ := by
  rw [e]
  by_cases hc : (deA q1.2).isSome = true ∧ V7.deOk (q2.1 : Nat) q2.2 = true
  · rw [if_pos hc, hc.1, hc.2]
    obtain ⟨d1, d2, d3, d4⟩ := V7.dv_yes hc.2
    refine ⟨rfl, fun y hy => ?_⟩
    rw [d1, d2, d3]
    exact (Option.some.inj hy).symm
  · rw [if_neg hc]
    refine ⟨?_, fun y hy => by cases hy⟩
    cases h1 : (deA q1.2).isSome
    · rfl
    · cases h2 : V7.deOk (q2.1 : Nat) q2.2
      · rfl
      · exact absurd ⟨h1, h2⟩ hc
theorem qbind_walk (t : Nat) (b : List UInt8) (hp : b.length ≤ 140737488351232) (w : World) :
    Calls Tryz.prog 50 #[.agg #[.int .i64 (t : Nat), .string (bs b)]] w (BiPost (t, b) w) := by
  have hno : ∀ (he : deB (t, b) = none), (Calls Tryz.prog 50 #[.agg #[.int .i64 (t : Nat), .string (bs b)]] w fun e w' => e = .returned (.tuple #[.agg #[.string (bs []), .int .i64 0, .int .i64 0, .string (bs [])], .bool false]) ∧ Below w.heap.size w w') → Calls Tryz.prog 50 #[.agg #[.int .i64 (t : Nat), .string (bs b)]] w (BiPost (t, b) w) := by
    intro he h
    refine h.mono ?_
    rintro e w' ⟨rfl, hb⟩
    refine ⟨nob, ?_, fun y hy => ?_, hb⟩
    · rw [he]; rfl
    · rw [he] at hy; cases hy
  cases bi_all t b with
  | tag ht e => exact hno e (qbind_no t b hp w (.inl ht))
  | err c ht h hc e => exact hno e (qbind_no t b hp w (.inr ⟨ht, .inl ⟨c, h⟩⟩))
  | len ps ht h hl e => exact hno e (qbind_no t b hp w (.inr ⟨ht, .inr ⟨ps, h, .inl hl⟩⟩))
  | six q1 q2 ht h hq e => exact hno e (qbind_no t b hp w (.inr ⟨ht, .inr ⟨_, h, .inr ⟨q1, q2, rfl, hq⟩⟩⟩))
  | yes q1 q2 ht h hq e =>
    subst ht
    obtain ⟨s1, s2⟩ := deB_yes q1 q2 e
    refine (qbind_yes b hp w q1 q2 h hq).mono ?_
    rintro e w' ⟨rfl, hb⟩
    refine ⟨_, ?_, s2, hb⟩
    rw [s1, deE_zero, dvE_zero]
end Go.Proofs.YtmdibafofdghgaaGreatDoor
/- The document's Decode of units, walked. -/
namespace Go.Proofs.YtmdibafofdghgaaGreatDoor
open Go.ChangeShapes Go.WideShapes Go.ChangeAt Go.RowKit K P1 B5
open D8 (Bd Un lst deB deL deU)
set_option linter.unusedVariables false

/-- No unit. -/
def nou : Un := ⟨0, 0, 0, 0, []⟩
def duU (t : Int) (b : List UInt8) : Un := match deU t b with | some u => u | none => nou
def duE (t : Int) (b : List UInt8) : Nat := match deU t b with | some _ => 0 | none => 80
theorem du_some {t : Int} {b : List UInt8} {u : Un} (h : deU t b = some u) : duU t b = u ∧ duE t b = 0 := by unfold duU duE; rw [h]; exact ⟨rfl, rfl⟩
theorem du_none {t : Int} {b : List UInt8} (h : deU t b = none) : duU t b = nou ∧ duE t b = 80 := by unfold duU duE; rw [h]; exact ⟨rfl, rfl⟩
/-- What Decode hands back. -/
def DuPost (t : Int) (b : List UInt8) (w : World) (e : Ending) (w' : World) : Prop :=
  ∃ ao cap, e = .returned (.tuple #[.agg #[.int .i64 (duU t b).t, .int .i64 (duU t b).r, .int .i64 (duU t b).a, .int .i64 (duU t b).i, .slice ao (duU t b).l.length cap], .int .i64 (duE t b : Nat)]) ∧ RdB w' ao (duU t b).l ∧ Below w.heap.size w w'
theorem DuPost.no {t : Int} {b : List UInt8} (h : deU t b = none) {w w' : World} (k : Below w.heap.size w w') : DuPost t b w (.returned (.tuple #[.agg #[.int .i64 0, .int .i64 0, .int .i64 0, .int .i64 0, .slice none 0 0], .int .i64 80])) w' := by
  obtain ⟨h1, h2⟩ := du_none h
  refine ⟨none, 0, ?_, ?_, k⟩
  · rw [h1, h2]; rfl
  · rw [h1]; exact .inl rfl
/-- The same, and what the list's capacity is. -/
def DuPc (t : Int) (b : List UInt8) (w : World) (e : Ending) (w' : World) : Prop :=
  ∃ ao cap, e = .returned (.tuple #[.agg #[.int .i64 (duU t b).t, .int .i64 (duU t b).r, .int .i64 (duU t b).a, .int .i64 (duU t b).i, .slice ao (duU t b).l.length cap], .int .i64 (duE t b : Nat)]) ∧ RdB w' ao (duU t b).l ∧ Below w.heap.size w w' ∧ (duU t b).l.length ≤ cap ∧ ((ao = none ∧ (duU t b).l.length = 0 ∧ cap = 0) ∨ ∃ a, ao = some a)
theorem DuPc.weak {t : Int} {b : List UInt8} {w w' : World} {e : Ending} (h : DuPc t b w e w') : DuPost t b w e w' := by
  obtain ⟨ao, cap, h1, h2, h3, _⟩ := h
  exact ⟨ao, cap, h1, h2, h3⟩
theorem DuPc.no {t : Int} {b : List UInt8} (h : deU t b = none) {w w' : World} (k : Below w.heap.size w w') : DuPc t b w (.returned (.tuple #[.agg #[.int .i64 0, .int .i64 0, .int .i64 0, .int .i64 0, .slice none 0 0], .int .i64 80])) w' := by
  obtain ⟨h1, h2⟩ := du_none h
  refine ⟨none, 0, ?_, ?_, k, ?_, .inl ⟨rfl, ?_, rfl⟩⟩
  · rw [h1, h2]; rfl
  · rw [h1]; exact .inl rfl
  · rw [h1]; exact Nat.le_refl 0
  · rw [h1]; rfl
theorem OwnB.capOf {w : World} {B : Nat} {T : TypeId} {ao : Option Addr} {n cap : Nat} {xs : List Bd} (h : OwnB w B T (.slice ao n cap) xs) : xs.length ≤ cap ∧ ((ao = none ∧ xs.length = 0 ∧ cap = 0) ∨ ∃ a, ao = some a) := by
  rcases h.2 with ⟨hv, h0⟩ | ⟨g, cap', cur, hv, hB, hh, hle, _⟩
  · injection hv with h1 h2 h3
    exact ⟨by omega, .inl ⟨h1, h0, h3⟩⟩
  · injection hv with h1 h2 h3
    subst h3
    exact ⟨hle, .inr ⟨_, h1⟩⟩
/-- How Decode ends before it reads a number. -/
inductive Du (t : Int) (b : List UInt8) : Prop
  | err (c : Nat) (h : prt 0 b = .error c) (hc : (((c : Nat) : Int) != 0) = true) (e : deU t b = none)
  | len (ps : List (Nat × List UInt8)) (h : prt 0 b = .ok ps) (hl : (((ps.length : Nat) : Int) != 4) = true) (e : deU t b = none)
  | t1 (p1 p2 p3 p4 : Nat × List UInt8) (h : prt 0 b = .ok [p1, p2, p3, p4]) (h1 : (((p1.1 : Nat) : Int) != 2) = true) (e : deU t b = none)
  | t2 (p1 p2 p3 p4 : Nat × List UInt8) (h : prt 0 b = .ok [p1, p2, p3, p4]) (h1 : p1.1 = 2) (h2 : (((p2.1 : Nat) : Int) != 2) = true) (e : deU t b = none)
  | t3 (p1 p2 p3 p4 : Nat × List UInt8) (h : prt 0 b = .ok [p1, p2, p3, p4]) (h1 : p1.1 = 2) (h2 : p2.1 = 2) (h3 : (((p3.1 : Nat) : Int) != 2) = true) (e : deU t b = none)
  | t4 (p1 p2 p3 p4 : Nat × List UInt8) (h : prt 0 b = .ok [p1, p2, p3, p4]) (h1 : p1.1 = 2) (h2 : p2.1 = 2) (h3 : p3.1 = 2) (h4 : (((p4.1 : Nat) : Int) != 48) = true) (e : deU t b = none)
  | go (p1 p2 p3 p4 : Nat × List UInt8) (h : prt 0 b = .ok [p1, p2, p3, p4]) (h1 : p1.1 = 2) (h2 : p2.1 = 2) (h3 : p3.1 = 2) (h4 : p4.1 = 48)
theorem deU_tags {t : Int} {b : List UInt8} {p1 p2 p3 p4 : Nat × List UInt8} (h : prt 0 b = .ok [p1, p2, p3, p4]) (hn : ¬ (p1.1 = 2 ∧ p2.1 = 2 ∧ p3.1 = 2 ∧ p4.1 = 48 ∧ nOk p1.2 = true ∧ nOk p2.2 = true ∧ nOk p3.2 = true)) : deU t b = none := by
  cases hd : deU t b with
  | none => rfl
  | some u =>
    obtain ⟨q1, q2, q3, q4, qs, hq, hc, _⟩ := D8.deU_inv hd
    rw [h] at hq
    injection hq with hq
    simp only [List.cons.injEq, and_true] at hq
    obtain ⟨rfl, rfl, rfl, rfl⟩ := hq
    exact absurd hc hn
theorem du_all (t : Int) (b : List UInt8) : Du t b := by
  cases h : prt 0 b with
  | error c =>
    refine .err c h ?_ ?_
    · rw [bne_iff_ne]; rcases prt_err h with rfl | rfl <;> decide
    · unfold deU; simp only [h]
  | ok ps =>
    by_cases hl : ps.length = 4
    · obtain ⟨p1, p2, p3, p4, rfl⟩ := four_of hl
      have ne : ∀ (x c : Nat), ¬ x = c → (((x : Nat) : Int) != ((c : Nat) : Int)) = true := fun x c h => by rw [bne_iff_ne]; omega
      by_cases h1 : p1.1 = 2
      · by_cases h2 : p2.1 = 2
        · by_cases h3 : p3.1 = 2
          · by_cases h4 : p4.1 = 48
            · exact .go p1 p2 p3 p4 h h1 h2 h3 h4
            · exact .t4 p1 p2 p3 p4 h h1 h2 h3 (ne _ _ h4) (deU_tags h (fun hc => h4 hc.2.2.2.1))
          · exact .t3 p1 p2 p3 p4 h h1 h2 (ne _ _ h3) (deU_tags h (fun hc => h3 hc.2.2.1))
        · exact .t2 p1 p2 p3 p4 h h1 (ne _ _ h2) (deU_tags h (fun hc => h2 hc.2.1))
      · exact .t1 p1 p2 p3 p4 h (ne _ _ h1) (deU_tags h (fun hc => h1 hc.1))
    · refine .len ps h (by rw [bne_iff_ne]; omega) ?_
      cases hd : deU t b with
      | none => rfl
      | some u =>
        obtain ⟨q1, q2, q3, q4, qs, hq, _⟩ := D8.deU_inv hd
        rw [h] at hq
        injection hq with hq
        rw [hq] at hl
        exact absurd rfl hl
/-- The two blocks of Decode: the element, and what is handed back. -/
theorem two_blocksU (P U : TypeId) (w : World) (k : Int) (b : List UInt8) : ∃ w2, (w.alloc (.cells #[.int .i64 k, .string (bs b)] P)).alloc (.cells #[.int .i64 0, .int .i64 0, .int .i64 0, .int .i64 0, .slice none 0 0] U) = w2 ∧
    Uq U w2 (w.heap.size + 1) nou none 0 ∧ Prt w2 w.heap.size P k b ∧ Below w.heap.size w w2 := by
  have hr := ((alloc_in (w.alloc (.cells #[.int .i64 k, .string (bs b)] P)) (.cells #[.int .i64 0, .int .i64 0, .int .i64 0, .int .i64 0, .slice none 0 0] U)).block w.heap.size (by simp)).trans (rowNew w _)
  refine ⟨_, rfl, ?_, hr, ((Below.refl _ _).alloc (Nat.le_refl _) _).alloc (by simp) _⟩
  have := Uq.new U (w.alloc (.cells #[.int .i64 k, .string (bs b)] P)) nou none 0
  rw [show (w.alloc (.cells #[.int .i64 k, .string (bs b)] P)).heap.size = w.heap.size + 1 by simp] at this
  exact this
theorem Uq.free {T : TypeId} {w : World} {b : Nat} {u : Un} {ao : Option Addr} {cap : Nat} (h : Uq T w b u ao cap) : w.frozen? ⟨b, 0, none⟩ = false ∧ w.frozen? ⟨b, 1, none⟩ = false ∧ w.frozen? ⟨b, 2, none⟩ = false ∧ w.frozen? ⟨b, 3, none⟩ = false ∧ w.frozen? ⟨b, 4, none⟩ = false :=
  ⟨freeRow h 0, freeRow h 1, freeRow h 2, freeRow h 3, freeRow h 4⟩
theorem Uq.set {T : TypeId} {w : World} {b : Nat} {u : Un} {ao : Option Addr} {cap : Nat} (h : Uq T w b u ao cap) (v : Un) (bo : Option Addr) (cb : Nat) :
    Uq T (((((w.setCell ⟨b, 0, none⟩ (.int .i64 v.t)).setCell ⟨b, 1, none⟩ (.int .i64 v.r)).setCell ⟨b, 2, none⟩ (.int .i64 v.a)).setCell ⟨b, 3, none⟩ (.int .i64 v.i)).setCell ⟨b, 4, none⟩ (.slice bo v.l.length cb)) b v bo cb := by
  have := rowSet (rowSet (rowSet (rowSet (rowSet h 0 (.int .i64 v.t)) 1 (.int .i64 v.r)) 2 (.int .i64 v.a)) 3 (.int .i64 v.i)) 4 (.slice bo v.l.length cb)
  simpa [Uq] using this
theorem below_set5 {B b : Nat} {w w' : World} (h : Below B w w') (hb : B ≤ b) (v0 v1 v2 v3 v4 : Value) : Below B w (((((w'.setCell ⟨b, 0, none⟩ v0).setCell ⟨b, 1, none⟩ v1).setCell ⟨b, 2, none⟩ v2).setCell ⟨b, 3, none⟩ v3).setCell ⟨b, 4, none⟩ v4) :=
  (below_set4 h hb v0 v1 v2 v3).setCell (p := ⟨b, 4, none⟩) hb v4
set_option maxRecDepth 100000 in
set_option maxHeartbeats 2000000 in
theorem qdecode8_early (t : Int) (b : List UInt8) (hp : b.length ≤ 140737488351232) (w : World) (hd : Du t b) (hn : ∀ p1 p2 p3 p4, prt 0 b = .ok [p1, p2, p3, p4] → ¬ (p1.1 = 2 ∧ p2.1 = 2 ∧ p3.1 = 2 ∧ p4.1 = 48)) :
    Calls Tryz.prog 29 #[.agg #[.int .i64 t, .string (bs b)]] w (DuPc t b w) := by
  have HQ := Lib.hid (fun w1 => qparts_walk b hp w1)
  unfold QaPost at HQ
  have HN := Lib.hid (fun (e : deU t b = none) (w' : World) (k : Below w.heap.size w w') => DuPc.no e k)
  obtain ⟨w2, hw2, hq, hpt, bw⟩ := two_blocksU 57 60 w t b
  have HW := Lib.hid hw2
  clear hw2
  cases hd
  case go p1 p2 p3 p4 h h1 h2 h3 h4 => exact absurd ⟨h1, h2, h3, h4⟩ (hn _ _ _ _ h)
  case err c h hc e =>
    have HE := Lib.hid e
    clear e hn
    go_enter Tryz.func29, Tryz.ntmps29
    go_wp2_with fail
    rw [HW.out]
    refine (HQ.out _).mono ?_
    rintro e w1 (⟨c', h', rfl, b1⟩ | ⟨ps, v, h', rfl, ho, b1⟩)
    rotate_left
    · rw [h] at h'; cases h'
    rw [h] at h'
    injection h' with h'
    subst h'
    clear h
    replace hq := hq.below b1
    replace bw := bw.trans (b1.mono bw.size)
    clear HQ HW b1 hpt
    obtain ⟨c0, c1, c2, c3, c4⟩ := hq.cells
    obtain ⟨f0, f1, f2, f3, f4⟩ := hq.free
    have PX := hq.set nou none 0
    have bb := below_set5 bw (b := w.heap.size + 1) (Nat.le_succ _) (.int .i64 0) (.int .i64 0) (.int .i64 0) (.int .i64 0) (.slice none 0 0)
    go_wp2
    refine bodyPost_ret (results_cell_row2 rfl _ _ (w.heap.size + 1) _ _ _ _ rfl PX Tryz.underlying60 rfl (by kernel_rfl)) rfl ?_
    exact HN.out HE.out _ bb
  case len ps h hl e =>
    have HE := Lib.hid e
    have HH := Lib.hid h
    clear e hn h
    go_enter Tryz.func29, Tryz.ntmps29
    go_wp2_with fail
    rw [HW.out]
    refine (HQ.out _).mono ?_
    rintro e w1 (⟨c', h', rfl, b1⟩ | ⟨ps', v, h', rfl, ho, b1⟩)
    · have h := HH.out; rw [h'] at h; cases h
    have h2 := HH.out
    rw [h'] at h2
    injection h2 with h2
    subst h2
    obtain ⟨ao, cap, rfl, hf⟩ := ho.form
    replace hq := hq.below b1
    replace bw := bw.trans (b1.mono bw.size)
    clear HQ HW b1 hpt hf ho h' HH
    obtain ⟨c0, c1, c2, c3, c4⟩ := hq.cells
    obtain ⟨f0, f1, f2, f3, f4⟩ := hq.free
    have PX := hq.set nou none 0
    have bb := below_set5 bw (b := w.heap.size + 1) (Nat.le_succ _) (.int .i64 0) (.int .i64 0) (.int .i64 0) (.int .i64 0) (.slice none 0 0)
    go_wp2
    refine bodyPost_ret (results_cell_row2 rfl _ _ (w.heap.size + 1) _ _ _ _ rfl PX Tryz.underlying60 rfl (by kernel_rfl)) rfl ?_
    exact HN.out HE.out _ bb
  case t1 p1 p2 p3 p4 h h1 e | t2 p1 p2 p3 p4 h h1 h2 e | t3 p1 p2 p3 p4 h h1 h2 h3 e | t4 p1 p2 p3 p4 h h1 h2 h3 h4 e =>
    have HE := Lib.hid e
    have HH := Lib.hid h
    clear e hn h
    obtain ⟨a1, l1⟩ := p1
    obtain ⟨a2, l2⟩ := p2
    obtain ⟨a3, l3⟩ := p3
    obtain ⟨a4, l4⟩ := p4
    simp only [] at *
    go_enter Tryz.func29, Tryz.ntmps29
    go_wp2_with fail
    rw [HW.out]
    refine (HQ.out _).mono ?_
    rintro e w1 (⟨c', h', rfl, b1⟩ | ⟨ps', v, h', rfl, ho, b1⟩)
    · have h := HH.out; rw [h'] at h; cases h
    have hh2 := HH.out
    rw [h'] at hh2
    injection hh2 with hh2
    subst hh2
    obtain ⟨ao, cap, rfl, hf⟩ := ho.form
    replace hq := hq.below b1
    replace bw := bw.trans (b1.mono bw.size)
    clear HQ HW b1 hpt ho h' HH
    obtain ⟨c0, c1, c2, c3, c4⟩ := hq.cells
    obtain ⟨f0, f1, f2, f3, f4⟩ := hq.free
    rcases hf with h0 | ⟨g, rfl, hg1, hg2, hg⟩
    · simp at h0
    obtain ⟨g0, _⟩ := hg 0 (by simp)
    obtain ⟨g2, _⟩ := hg 1 (by simp)
    obtain ⟨g4, _⟩ := hg 2 (by simp)
    obtain ⟨g6, _⟩ := hg 3 (by simp)
    simp only [List.getD_cons_zero, List.getD_cons_succ, Nat.zero_mul, Nat.one_mul, Nat.reduceMul] at g0 g2 g4 g6
    have PX := hq.set nou none 0
    have bb := below_set5 bw (b := w.heap.size + 1) (Nat.le_succ _) (.int .i64 0) (.int .i64 0) (.int .i64 0) (.int .i64 0) (.slice none 0 0)
    clear hg
    try subst h1
    try subst h2
    try subst h3
    go_wp2
    refine bodyPost_ret (results_cell_row2 rfl _ _ (w.heap.size + 1) _ _ _ _ rfl PX Tryz.underlying60 rfl (by kernel_rfl)) rfl ?_
    exact HN.out HE.out _ bb
end Go.Proofs.YtmdibafofdghgaaGreatDoor
