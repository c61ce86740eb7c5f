/- Texts on the program and on the document, joined: TrqD, TrqE. -/
import Derived.Test.YtdgnhcbhbpffmaaGreatDoorMa36
/- The program's open of a message, walked. -/
namespace Go.Proofs.YtdgnhcbhbpffmaaGreatDoor
open Go.ChangeShapes Go.WideShapes Go.ChangeAt Go.RowKit K P1 B5
open D8 (Bd Un lst deU)
open T9 (Tr bU bI msg msgB ofU m3 deM)
set_option linter.unusedVariables false

theorem results_cell_mid3 {P : Program} {fn : Func} {p u v : Tmp} {ty : TypeId} (h : fn.results = #[.tmp u, .cell p ty, .tmp v]) (tmps : Array Value) (w : World) (g : Nat) (t : TypeId) (cs : Array Value) (fr : Nat × Nat) (d : TypeDesc)
    (hp : tmps.getD p undef = .pointer (some ⟨g, 0, none⟩)) (hg : w.heap[g]? = some (.cells cs t fr))
    (hu : P.underlying ty = some d) (hd : (match d with | .struct _ | .array _ _ => true | _ => false) = true) (hi : (P.info? ty).map (·.size) = some cs.size) :
    (results fn tmps).run P w = .ok (.tuple #[tmps.getD u undef, .agg cs, tmps.getD v undef]) w := by
  have hp' : tmps[p]?.getD undef = .pointer (some ⟨g, 0, none⟩) := by simpa using hp
  simp [results, h, hp', asAddr, run_loadVar_row w g t ty cs fr d hg hu hd hi]
/-- The community and the unit's element of a message. -/
def opn (s : List UInt8) : Option (List UInt8 × (Nat × List UInt8)) := if s.length ≤ 65535 then (match m3 s with | some m => if comB m.1 then some m else none | none => none) else none
def OpPost (s : List UInt8) (w : World) (e : Ending) (w' : World) : Prop :=
  (∃ c p, opn s = some (c, p) ∧ e = .returned (.tuple #[.string (bs c), .agg #[.int .i64 (p.1 : Nat), .string (bs p.2)], .bool true]) ∧ Below w.heap.size w w') ∨
  (opn s = none ∧ e = .returned (.tuple #[.string (bs []), .agg #[.int .i64 0, .string (bs [])], .bool false]) ∧ Below w.heap.size w w')
theorem opn_no {s : List UInt8} (h : s.length ≤ 65535 → m3 s = none) : opn s = none := by
  unfold opn
  by_cases hs : s.length ≤ 65535
  · rw [if_pos hs, h hs]
  · rw [if_neg hs]
def eqH (m a : Int) (b : List UInt8) (k m' a' : Int) (b' : List UInt8) (k' : Int) : Bool := (m == m') && ((a == a') && ((b == b') && (k == k')))
theorem eqH_iff (m a : Int) (b : List UInt8) (k m' a' : Int) (b' : List UInt8) (k' : Int) : eqH m a b k m' a' b' k' = true ↔ m = m' ∧ a = a' ∧ b = b' ∧ k = k' := by
  simp [eqH]
theorem run_equal_head (m a : Int) (b : List UInt8) (k m' a' : Int) (b' : List UInt8) (k' : Int) (w : World) : (Op.equalIn 10000 97 (.agg #[.int .i64 m, .int .i64 a, .string (bs b), .int .i64 k]) (.agg #[.int .i64 m', .int .i64 a', .string (bs b'), .int .i64 k'])).run Tryz.prog w = .ok (eqH m a b k m' a' b' k') w := by
  simp only [eqH]
  simp [go_sem, Tryz.underlying97, Tryz.underlying72]
  by_cases h1 : m = m'
  · by_cases h2 : a = a'
    · by_cases h3 : b = b'
      · by_cases h4 : k = k'
        · simp [h1, h2, h3, h4]
        · simp [h1, h2, h3, h4]
      · simp [h1, h2, h3]
    · simp [h1, h2]
  · simp [h1]
set_option maxRecDepth 100000 in
set_option maxHeartbeats 4000000 in
theorem open9_walk (s : List UInt8) (hs : s.length ≤ 140737488351232) (w : World) (T : Tw w) :
    Calls Tryz.prog 45 #[.string (bs s)] w (OpPost s w) := by
  have HNo := Lib.hid (fun (h : opn s = none) (w' : World) (k : Below w.heap.size w w') => (show OpPost s w (.returned (.tuple #[.string (bs []), .agg #[.int .i64 0, .string (bs [])], .bool false])) w' from .inr ⟨h, rfl, k⟩))
  have hq := Prt.new w 72 0 []
  have hb := alloc_in w (.cells #[.int .i64 0, .string (bs [])] 72)
  have HT := Lib.hid (T.below hb)
  clear T
  by_cases h65 : s.length ≤ 65535
  rotate_left
  · have h1 : (65535 : Int) < ((s.length : Nat) : Int) := by omega
    have HE := Lib.hid (opn_no (s := s) (fun h => absurd h h65))
    clear h65
    go_enter Tryz.func45, Tryz.ntmps45
    go_wp2
    refine bodyPost_ret (results_cell_mid3 rfl _ _ w.heap.size _ #[.int .i64 0, .string (bs [])] _ _ rfl hq Tryz.underlying72 rfl (by kernel_rfl)) rfl ?_
    exact HNo.out HE.out _ hb
  have h1 : ((s.length : Nat) : Int) ≤ 65535 := by omega
  cases hx : nxOk s
  · have HN := Lib.hid (fun w1 => next_no s hs hx w1)
    have HE := Lib.hid (opn_no (s := s) (fun _ => T9.m3_no (fun h => by rw [hx] at h; exact absurd h.1 (by simp))))
    clear hx h65
    go_enter Tryz.func45, Tryz.ntmps45
    go_wp2_with fail
    change Calls _ _ _ (w.alloc (.cells #[.int .i64 0, .string (bs [])] 72)) _
    refine (HN.out _).mono ?_
    rintro e w1 ⟨rfl, d1⟩
    have a1 := alloc_in w1 (.cells #[.int .i64 0, .string (bs [])] 72)
    replace hq : Prt (w1.alloc (.cells #[.int .i64 0, .string (bs [])] 72)) w.heap.size 72 0 [] := ((d1.trans (a1.mono d1.size)).block _ (lt_of_block hq)).trans hq
    replace hb := (hb.trans (d1.mono hb.size)).trans (a1.mono (hb.trans (d1.mono hb.size)).size)
    clear d1 a1 HT HN
    have PX := (hq.setT 0).setB []
    have bb := (hb.setCell (p := ⟨w.heap.size, 0, none⟩) (Nat.le_refl _) (.int .i64 0)).setCell (p := ⟨w.heap.size, 1, none⟩) (Nat.le_refl _) (.string (bs []))
    obtain ⟨c0, c1, f0, f1⟩ := hq.cells
    go_wp2
    refine bodyPost_ret (results_cell_mid3 rfl _ _ w.heap.size _ #[.int .i64 0, .string (bs [])] _ _ rfl PX Tryz.underlying72 rfl (by kernel_rfl)) rfl ?_
    exact HNo.out HE.out _ bb
  have HN := Lib.hid (fun w1 => next_ok s hs hx w1)
  have hbl := (nx_of hx).2.2.2.2
  by_cases hR : nxR s = []
  rotate_left
  · have hne : (nxR s).isEmpty = false := List.isEmpty_eq_false_iff.2 hR
    have HE := Lib.hid (opn_no (s := s) (fun _ => T9.m3_no (fun h => hR h.2)))
    clear hR hx hbl h65
    obtain ⟨T, hT⟩ : ∃ x, nxT s = x := ⟨_, rfl⟩
    obtain ⟨B, hB⟩ : ∃ x, nxB s = x := ⟨_, rfl⟩
    rw [hT, hB] at HN
    generalize nxR s = R at *
    clear hT hB
    go_enter Tryz.func45, Tryz.ntmps45
    go_wp2_with fail
    change Calls _ _ _ (w.alloc (.cells #[.int .i64 0, .string (bs [])] 72)) _
    refine (HN.out _).mono ?_
    rintro e w1 ⟨rfl, d1⟩
    have a1 := alloc_in w1 (.cells #[.int .i64 (T : Nat), .string (bs B)] 72)
    replace hq : Prt (w1.alloc (.cells #[.int .i64 (T : Nat), .string (bs B)] 72)) w.heap.size 72 0 [] := ((d1.trans (a1.mono d1.size)).block _ (lt_of_block hq)).trans hq
    replace hb := (hb.trans (d1.mono hb.size)).trans (a1.mono (hb.trans (d1.mono hb.size)).size)
    clear d1 a1 HT HN
    have PX := (hq.setT 0).setB []
    have bb := (hb.setCell (p := ⟨w.heap.size, 0, none⟩) (Nat.le_refl _) (.int .i64 0)).setCell (p := ⟨w.heap.size, 1, none⟩) (Nat.le_refl _) (.string (bs []))
    obtain ⟨c0, c1, f0, f1⟩ := hq.cells
    go_wp2
    refine bodyPost_ret (results_cell_mid3 rfl _ _ w.heap.size _ #[.int .i64 0, .string (bs [])] _ _ rfl PX Tryz.underlying72 rfl (by kernel_rfl)) rfl ?_
    exact HNo.out HE.out _ bb
  have HP := Lib.hid (fun w1 => parts_list_walk (nxB s) (by omega) w1)
  unfold PaPost at HP
  have HX := Lib.hid (⟨hx, hR⟩ : nxOk s = true ∧ nxR s = [])
  have HS := Lib.hid h65
  rw [hR] at HN
  have HBL := Lib.hid hbl
  clear hx hR hbl h65
  go_enter Tryz.func45, Tryz.ntmps45
  go_wp2_with fail
  change Calls _ _ _ (w.alloc (.cells #[.int .i64 0, .string (bs [])] 72)) _
  refine (HN.out _).mono ?_
  rintro e w1 ⟨rfl, d1⟩
  have a1 := alloc_in w1 (.cells #[.int .i64 (nxT s : Nat), .string (bs (nxB s))] 72)
  have hp := Prt.new w1 72 (nxT s : Nat) (nxB s)
  replace hq : Prt (w1.alloc (.cells #[.int .i64 (nxT s : Nat), .string (bs (nxB s))] 72)) w.heap.size 72 0 [] := ((d1.trans (a1.mono d1.size)).block _ (lt_of_block hq)).trans hq
  replace HT := Lib.hid ((HT.out.below d1).below a1)
  replace hb := (hb.trans (d1.mono hb.size)).trans (a1.mono (hb.trans (d1.mono hb.size)).size)
  clear d1 a1 HN
  obtain ⟨x0, x1, y0, y1⟩ := hp.cells
  go_wp2_with fail
  refine (HP.out _).mono ?_
  rintro e w3 (⟨c, h', rfl, d3⟩ | ⟨ps, v, h', rfl, ho, d3⟩)
  · have hc : (((c : Nat) : Int) != 0) = true := by rw [bne_iff_ne]; rcases prt_err h' with rfl | rfl <;> decide
    have HE := Lib.hid (opn_no (s := s) (fun _ => m3_not3 (fun h => by
      obtain ⟨_, _, _, ps', h3, _⟩ := h
      rw [h'] at h3; cases h3)))
    replace hq : Prt w3 w.heap.size 72 0 [] := (d3.block _ (lt_of_block hq)).trans hq
    replace hb := hb.trans (d3.mono hb.size)
    clear h' d3 x0 x1 y0 y1 hp HT HP HX
    have PX := (hq.setT 0).setB []
    have bb := (hb.setCell (p := ⟨w.heap.size, 0, none⟩) (Nat.le_refl _) (.int .i64 0)).setCell (p := ⟨w.heap.size, 1, none⟩) (Nat.le_refl _) (.string (bs []))
    obtain ⟨c0, c1, f0, f1⟩ := hq.cells
    go_wp2
    refine bodyPost_ret (results_cell_mid3 rfl _ _ w.heap.size _ #[.int .i64 0, .string (bs [])] _ _ rfl PX Tryz.underlying72 rfl (by kernel_rfl)) rfl ?_
    exact HNo.out HE.out _ bb
  obtain ⟨po, pc, rfl, hf⟩ := ho.form
  replace hq : Prt w3 w.heap.size 72 0 [] := (d3.block _ (lt_of_block hq)).trans hq
  replace hp : Prt w3 w1.heap.size 72 (nxT s : Nat) (nxB s) := (d3.block _ (lt_of_block hp)).trans hp
  replace hb := hb.trans (d3.mono hb.size)
  replace HT := Lib.hid (HT.out.below d3)
  clear x0 x1 y0 y1 ho d3 HP
  by_cases h3 : ps.length = 3
  rotate_left
  · have h3' : (((ps.length : Nat) : Int) != 3) = true := by rw [bne_iff_ne]; omega
    have HE := Lib.hid (opn_no (s := s) (fun _ => m3_not3 (fun h => by
      obtain ⟨_, _, _, ps', h4, h5⟩ := h
      rw [h'] at h4; injection h4 with h4; rw [← h4] at h5; exact h3 h5)))
    clear h' hp HT HX h3 hf
    have PX := (hq.setT 0).setB []
    have bb := (hb.setCell (p := ⟨w.heap.size, 0, none⟩) (Nat.le_refl _) (.int .i64 0)).setCell (p := ⟨w.heap.size, 1, none⟩) (Nat.le_refl _) (.string (bs []))
    obtain ⟨c0, c1, f0, f1⟩ := hq.cells
    go_wp2
    refine bodyPost_ret (results_cell_mid3 rfl _ _ w.heap.size _ #[.int .i64 0, .string (bs [])] _ _ rfl PX Tryz.underlying72 rfl (by kernel_rfl)) rfl ?_
    exact HNo.out HE.out _ bb
  obtain ⟨p1, p2, p3, rfl⟩ := three_of h3
  have HM := Lib.hid (m3_is HX.out.1 HX.out.2 h')
  have hm := prt_mem _ _ (nxB s) _ (Nat.le_refl _) h'
  have m2 := (hm p2 (by simp)).2
  clear h3 h' hm
  rcases hf with h0 | ⟨g, rfl, hg1, hg2, hg⟩
  · simp at h0
  obtain ⟨g0, g1⟩ := hg 0 (by simp)
  obtain ⟨g2, g3⟩ := hg 1 (by simp)
  obtain ⟨g4, g5⟩ := hg 2 (by simp)
  simp only [List.getD_cons_zero, List.getD_cons_succ, Nat.zero_mul, Nat.one_mul, Nat.reduceMul, Nat.reduceAdd, Nat.zero_add] at g0 g1 g2 g3 g4 g5
  obtain ⟨a1, l1⟩ := p1
  obtain ⟨a2, l2⟩ := p2
  obtain ⟨a3, l3⟩ := p3
  simp only [] at *
  clear hg
  rw [show ([(a1, l1), (a2, l2), (a3, l3)] : List (Nat × List UInt8)).length = 3 from rfl]
  obtain ⟨x0, x1, y0, y1⟩ := hp.cells
  obtain ⟨v0, v1, v2, v3⟩ := HT.out.2
  have hI := fun w1 => iscommunity_walk l2 w1
  have hq1 := run_equal_head 48 2 [1] 4 (nxT s : Nat) (a1 : Nat) l1 (a2 : Nat)
  have HBA := Lib.hid hb
  have HQA := Lib.hid hq
  clear hb hq hp
  cases hd : eqH 48 2 [1] 4 (nxT s : Nat) (a1 : Nat) l1 (a2 : Nat)
  · rw [hd] at hq1
    have HE := Lib.hid (opn_no (s := s) (fun _ => by
      rw [HM.out, if_neg]
      rintro ⟨e1, e2, e3⟩
      simp only [Prod.mk.injEq] at e2
      have := (eqH_iff 48 2 [1] 4 (nxT s : Nat) (a1 : Nat) l1 (a2 : Nat)).2 ⟨by rw [e1]; rfl, by rw [e2.1]; rfl, e2.2.symm, by rw [e3]; rfl⟩
      rw [this] at hd; cases hd))
    clear hd HM hI m2 g4 g5 y0 y1
    go_wp2_with fail
    first | (go_quiet (fail)) | fail
    all_goals
      have hb := (Below_drewNa HBA.out nq)
      have hq : Prt (w3.drewN nq) w.heap.size 72 0 [] := HQA.out
      have PX := (hq.setT 0).setB []
      have bb := (hb.setCell (p := ⟨w.heap.size, 0, none⟩) (Nat.le_refl _) (.int .i64 0)).setCell (p := ⟨w.heap.size, 1, none⟩) (Nat.le_refl _) (.string (bs []))
      obtain ⟨c0, c1, f0, f1⟩ := hq.cells
      go_wp2
      refine bodyPost_ret (results_cell_mid3 rfl _ _ w.heap.size _ #[.int .i64 0, .string (bs [])] _ _ rfl PX Tryz.underlying72 rfl (by kernel_rfl)) rfl ?_
      exact HNo.out HE.out _ bb
  · rw [hd] at hq1
    obtain ⟨e1, e2, e3, e4⟩ := (eqH_iff 48 2 [1] 4 (nxT s : Nat) (a1 : Nat) l1 (a2 : Nat)).1 hd
    have HM2 := Lib.hid (show m3 s = some (l2, (a3, l3)) from by
      rw [HM.out, if_pos]
      exact ⟨by omega, by rw [← e3, show a1 = 2 by omega], by omega⟩)
    clear hd HM e1 e2 e3 e4
    cases hc : comB l2
    · rw [hc] at hI
      have HI := Lib.hid hI
      have HE := Lib.hid (show opn s = none by unfold opn; rw [if_pos HS.out, HM2.out]; show (if comB l2 = true then _ else _) = _; rw [hc]; rfl)
      clear hc hI m2 g4 g5 y0 y1
      go_wp2_with fail
      go_quiet (first | (go_at_call 37; with_reducible refine Calls.quiet_mk (HI.out _)))
      have hb := (Below_drewNa HBA.out nq)
      have hq : Prt (w3.drewN nq) w.heap.size 72 0 [] := HQA.out
      have PX := (hq.setT 0).setB []
      have bb := (hb.setCell (p := ⟨w.heap.size, 0, none⟩) (Nat.le_refl _) (.int .i64 0)).setCell (p := ⟨w.heap.size, 1, none⟩) (Nat.le_refl _) (.string (bs []))
      obtain ⟨c0, c1, f0, f1⟩ := hq.cells
      go_wp2
      refine bodyPost_ret (results_cell_mid3 rfl _ _ w.heap.size _ #[.int .i64 0, .string (bs [])] _ _ rfl PX Tryz.underlying72 rfl (by kernel_rfl)) rfl ?_
      exact HNo.out HE.out _ bb
    · rw [hc] at hI
      have HI := Lib.hid hI
      have HE := Lib.hid (show opn s = some (l2, (a3, l3)) by unfold opn; rw [if_pos HS.out, HM2.out]; show (if comB l2 = true then _ else _) = _; rw [hc]; rfl)
      clear hc hI m2 y0 y1
      go_wp2_with fail
      go_quiet (first | (go_at_call 37; with_reducible refine Calls.quiet_mk (HI.out _)))
      have G3 : (w3.drewN nq).cell? ⟨g, 3, none⟩ = some (.string (bs l2)) := g3
      have G4 : (w3.drewN nq).cell? ⟨g, 4, none⟩ = some (.int .i64 (a3 : Nat)) := g4
      have G5 : (w3.drewN nq).cell? ⟨g, 5, none⟩ = some (.string (bs l3)) := g5
      have hb := (Below_drewNa HBA.out nq)
      have hq : Prt (w3.drewN nq) w.heap.size 72 0 [] := HQA.out
      clear g0 g1 g2 g3 g4 g5 x0 x1 v0 v1 v2 v3 HBA HQA HI HM2 hq1 HNo
      generalize w3.drewN nq = w5 at *
      obtain ⟨c0, c1, f0, f1⟩ := hq.cells
      go_wp2_with fail
      first
        | (go_region_with (fail))
        | fail
      all_goals
        have PX := (hq.setT (a3 : Nat)).setB l3
        have bb := (hb.setCell (p := ⟨w.heap.size, 0, none⟩) (Nat.le_refl _) (.int .i64 (a3 : Nat))).setCell (p := ⟨w.heap.size, 1, none⟩) (Nat.le_refl _) (.string (bs l3))
        go_wp2
        refine bodyPost_ret (results_cell_mid3 rfl _ _ w.heap.size _ #[.int .i64 (a3 : Nat), .string (bs l3)] _ _ rfl PX Tryz.underlying72 rfl (by kernel_rfl)) rfl ?_
        exact .inl ⟨l2, (a3, l3), HE.out, rfl, ⟨bb.os, bb.tape, bb.output, bb.size, bb.block⟩⟩
end Go.Proofs.YtdgnhcbhbpffmaaGreatDoor
/- The program's isTrap, walked. -/
namespace Go.Proofs.YtdgnhcbhbpffmaaGreatDoor
open Go.ChangeShapes Go.WideShapes Go.ChangeAt Go.RowKit K P1 B5
open D8 (Bd Un lst deU)
open T9 (Tr bU bI msg msgB ofU m3 deM)
set_option linter.unusedVariables false

theorem ten_bd {z : World} {p q : Nat} {x y : Bd} (h : Bq z p x) (h2 : Bq z q y) : z.cell? ⟨p, 0, none⟩ = some (.string (bs x.o)) ∧ z.cell? ⟨p, 1, none⟩ = some (.int .i64 x.k) ∧ z.cell? ⟨p, 2, none⟩ = some (.int .i64 x.n) ∧ z.cell? ⟨p, 3, none⟩ = some (.string (bs x.s)) ∧ z.cell? ⟨q, 0, none⟩ = some (.string (bs y.o)) ∧ z.cell? ⟨q, 1, none⟩ = some (.int .i64 y.k) ∧ z.cell? ⟨q, 2, none⟩ = some (.int .i64 y.n) ∧ z.cell? ⟨q, 3, none⟩ = some (.string (bs y.s)) :=
  ⟨h.cells.1, h.cells.2.1, h.cells.2.2.1, h.cells.2.2.2, h2.cells.1, h2.cells.2.1, h2.cells.2.2.1, h2.cells.2.2.2⟩
set_option maxRecDepth 100000 in
set_option maxHeartbeats 4000000 in
theorem istrap_go (u : Un) (bo : Option Addr) (cb : Nat) (hl : u.l.length ≤ 140737488351232) (w : World) (hr : RdB w bo u.l) (ht : (u.t == 167 || u.t == 166) = true) (x y : Bd) (l : List Bd) (hul : u.l = x :: y :: l) :
    Calls Tryz.prog 46 #[.agg #[.int .i64 u.t, .int .i64 u.r, .int .i64 u.a, .int .i64 u.i, .slice bo u.l.length cb]] w fun e w' => e = .returned (.bool (eqB x (bU x.n) && eqB y (bI y.s))) ∧ Below w.heap.size w w' := by
  have bw := alloc_in w (.cells #[.int .i64 u.t, .int .i64 u.r, .int .i64 u.a, .int .i64 u.i, .slice bo u.l.length cb] 41)
  have hq := Uq.new 41 w u bo cb
  have hr2 := hr.below bw
  have hs1 : (w.alloc (.cells #[.int .i64 u.t, .int .i64 u.r, .int .i64 u.a, .int .i64 u.i, .slice bo u.l.length cb] 41)).heap.size = w.heap.size + 1 := by simp
  obtain ⟨w2, hw2⟩ : ∃ w2, w.alloc (.cells #[.int .i64 u.t, .int .i64 u.r, .int .i64 u.a, .int .i64 u.i, .slice bo u.l.length cb] 41) = w2 := ⟨_, rfl⟩
  rw [hw2] at bw hq hr2 hs1
  have HW := Lib.hid hw2
  clear hw2
  have hlen : u.l.length = l.length + 2 := by rw [hul]; rfl
  have hways : (u.t = 167) ∨ (u.t = 166) := by simpa using ht
  obtain ⟨b, off, rfl, hbl, x0, x1, x2, x3⟩ := hr2.at (i := 0) (by omega) (x := x) (by rw [hul]; rfl)
  obtain ⟨b', off', hbo, _, y0, y1, y2, y3⟩ := hr2.at (i := 1) (by omega) (x := y) (by rw [hul]; rfl)
  simp only [Option.some.injEq, Addr.mk.injEq, and_true] at hbo
  obtain ⟨rfl, rfl⟩ := hbo
  simp only [Nat.zero_mul, Nat.add_zero, Nat.one_mul] at x0 x1 x2 x3 y0 y1 y2 y3
  have hn0 : (0 : Int) < ((u.l.length : Nat) : Int) := by omega
  have hn1 : (1 : Int) < ((u.l.length : Nat) : Int) := by omega
  have hn2 : (2 : Int) ≤ ((u.l.length : Nat) : Int) := by omega
  have hn3 : 0 < u.l.length := by omega
  have hn4 : 1 < u.l.length := by omega
  have HU := Lib.hid (fun w1 => uptimebind_walk x.n w1)
  have HI := Lib.hid (fun w1 => idbind_walk y.s w1)
  have hqx : ∀ w1, (Op.equalIn 10000 48 (.agg #[.string (bs x.o), .int .i64 x.k, .int .i64 x.n, .string (bs x.s)]) (.agg #[.string (bs T9.UPT), .int .i64 67, .int .i64 x.n, .string (bs [])])).run Tryz.prog w1 = .ok (eqB x (bU x.n)) w1 := fun w1 => run_equal_bind x (bU x.n) w1
  have hqy : ∀ w1, (Op.equalIn 10000 48 (.agg #[.string (bs y.o), .int .i64 y.k, .int .i64 y.n, .string (bs y.s)]) (.agg #[.string (bs T9.IDO), .int .i64 6, .int .i64 0, .string (bs y.s)])).run Tryz.prog w1 = .ok (eqB y (bI y.s)) w1 := fun w1 => run_equal_bind y (bI y.s) w1
  obtain ⟨z0, z1, z2, z3, z4⟩ := hq.cells
  clear hr hr2 hul ht hlen
  have hcase : ((u.t != 167) = false) ∨ ((u.t != 167) = true ∧ (u.t != 166) = false) := by
    rcases hways with h | h
    · exact .inl (by rw [h]; rfl)
    · exact .inr ⟨by rw [h]; rfl, by rw [h]; rfl⟩
  clear hways
  have y5 : w2.cell? ⟨b, off + 5, none⟩ = some (.int .i64 y.k) := y1
  have y6 : w2.cell? ⟨b, off + 6, none⟩ = some (.int .i64 y.n) := y2
  have y7 : w2.cell? ⟨b, off + 7, none⟩ = some (.string (bs y.s)) := y3
  have zS := And.intro z4 (And.intro x0 (And.intro x1 (And.intro x2 (And.intro x3 (And.intro y0 (And.intro y5 (And.intro y6 y7)))))))
  have hP1 := Bq.new w2 x
  have hP2 := Bq.new (w2.alloc (.cells (cellsB x).toArray 48)) y
  have hQ1 := Bq.new w2 y
  have hQ2 := Bq.new (w2.alloc (.cells (cellsB y).toArray 48)) x
  have kP := alloc_in (w2.alloc (.cells (cellsB x).toArray 48)) (.cells (cellsB y).toArray 48)
  have kQ := alloc_in (w2.alloc (.cells (cellsB y).toArray 48)) (.cells (cellsB x).toArray 48)
  have kP0 := alloc_in w2 (.cells (cellsB x).toArray 48)
  have kQ0 := alloc_in w2 (.cells (cellsB y).toArray 48)
  have HPQ := Lib.hid (And.intro (And.intro (hP1.below kP) (And.intro hP2 (kP0.trans (kP.mono kP0.size)))) (And.intro (hQ1.below kQ) (And.intro hQ2 (kQ0.trans (kQ.mono kQ0.size)))))
  clear hP1 hP2 hQ1 hQ2 kP kQ kP0 kQ0
  rcases hcase with ht | ⟨ht, ht2⟩
  all_goals
    go_enter Tryz.func46, Tryz.ntmps46
    go_wp2_with fail
    try rw [HW.out]
    go_cut [3, 4] (fun v6 v7 wx => ∃ p q, v6 = .pointer (some ⟨p, 0, none⟩) ∧ v7 = .pointer (some ⟨q, 0, none⟩) ∧ Bq wx p x ∧ Bq wx q y ∧ Below w2.heap.size w2 wx)
    case first =>
      go_region_held3 (fun x' => x'.cell? ⟨w.heap.size, 4, none⟩ = some (.slice (some ⟨b, off, none⟩) u.l.length cb) ∧ x'.cell? ⟨b, off, none⟩ = some (.string (bs x.o)) ∧ x'.cell? ⟨b, off + 1, none⟩ = some (.int .i64 x.k) ∧ x'.cell? ⟨b, off + 2, none⟩ = some (.int .i64 x.n) ∧ x'.cell? ⟨b, off + 3, none⟩ = some (.string (bs x.s)) ∧ x'.cell? ⟨b, off + 4, none⟩ = some (.string (bs y.o)) ∧ x'.cell? ⟨b, off + 5, none⟩ = some (.int .i64 y.k) ∧ x'.cell? ⟨b, off + 6, none⟩ = some (.int .i64 y.n) ∧ x'.cell? ⟨b, off + 7, none⟩ = some (.string (bs y.s))) (first | exact zS | go_keep) (fail)
      all_goals
        go_wp2_with fail
        go_meet
      · obtain ⟨p1, p2, p3⟩ := HPQ.out.1
        rw [show (w2.alloc (.cells (cellsB x).toArray 48)).heap.size = w.heap.size + 1 + 1 by simp [hs1]] at p2
        exact ⟨w.heap.size + 1, w.heap.size + 1 + 1, rfl, rfl, by rw [← hs1]; exact p1, p2, ⟨p3.os, p3.tape, p3.output, p3.size, p3.block⟩⟩
      · obtain ⟨p1, p2, p3⟩ := HPQ.out.2
        rw [show (w2.alloc (.cells (cellsB y).toArray 48)).heap.size = w.heap.size + 1 + 1 by simp [hs1]] at p2
        exact ⟨w.heap.size + 1 + 1, w.heap.size + 1, rfl, rfl, p2, by rw [← hs1]; exact p1, ⟨p3.os, p3.tape, p3.output, p3.size, p3.block⟩⟩
    case rest =>
      obtain ⟨p, q, rfl, rfl, hp, hq2, bx⟩ := hcut
      obtain ⟨w5, rfl⟩ : ∃ x : World, x = wc := ⟨_, rfl⟩
      have hb5 := bw.trans (bx.mono bw.size)
      clear x0 x1 x2 x3 y0 y1 y2 y3 y5 y6 y7 zS HPQ HW bx hq bw z0 z1 z2 z3 z4
      cases hx : eqB x (bU x.n)
      · rw [hx] at hqx
        obtain ⟨p0, p1, p2, p3⟩ := hp.cells
        obtain ⟨q0, q1, q2, q3⟩ := hq2.cells
        clear hqy HI
        go_wp2_with fail
        first
          | (go_region_with (first
              | (go_at_call 53; refine (HU.out _).mono ?_; rintro e x1 ⟨rfl, j1⟩; have k1 : Below w5.heap.size w5 x1 := ⟨j1.os, j1.tape, j1.output, j1.size, j1.block⟩; have hp1 := hp.below k1; have hq1 := hq2.below k1; have b1 := hb5.trans (k1.mono hb5.size); obtain ⟨s0, s1, s2, s3⟩ := hp1.cells; obtain ⟨r0, r1, r2, r3⟩ := hq1.cells)))
          | fail
        all_goals
          go_wp2
          go_ret
          exact ⟨by rw [hx]; rfl, b1⟩
      · rw [hx] at hqx
        have zS := ten_bd hp hq2
        go_wp2_with fail
        go_region_held3 (fun x' => x'.cell? ⟨p, 0, none⟩ = some (.string (bs x.o)) ∧ x'.cell? ⟨p, 1, none⟩ = some (.int .i64 x.k) ∧ x'.cell? ⟨p, 2, none⟩ = some (.int .i64 x.n) ∧ x'.cell? ⟨p, 3, none⟩ = some (.string (bs x.s)) ∧ x'.cell? ⟨q, 0, none⟩ = some (.string (bs y.o)) ∧ x'.cell? ⟨q, 1, none⟩ = some (.int .i64 y.k) ∧ x'.cell? ⟨q, 2, none⟩ = some (.int .i64 y.n) ∧ x'.cell? ⟨q, 3, none⟩ = some (.string (bs y.s))) (first | exact zS | exact zS1 | exact zS2)
          (first
            | (go_at_call 53; refine (HU.out _).mono ?_; rintro e x1 ⟨rfl, j1⟩; have k1 : Below w5.heap.size w5 x1 := ⟨j1.os, j1.tape, j1.output, j1.size, j1.block⟩; have hp1 := hp.below k1; have hq1 := hq2.below k1; have b1 := hb5.trans (k1.mono hb5.size); have zS1 := ten_bd hp1 hq1)
            | (go_at_call 54; refine (HI.out _).mono ?_; rintro e x2 ⟨rfl, j2⟩; have k2 : Below x1.heap.size x1 x2 := ⟨j2.os, j2.tape, j2.output, j2.size, j2.block⟩; have hp2 := hp1.below k2; have hq2' := hq1.below k2; have b2 := b1.trans (k2.mono b1.size); have zS2 := ten_bd hp2 hq2'))
        all_goals
          go_wp2
          go_ret
          exact ⟨by rw [hx]; rfl, b2⟩
theorem istrap_walk (u : Un) (bo : Option Addr) (cb : Nat) (hl : u.l.length ≤ 140737488351232) (w : World) (hr : RdB w bo u.l) :
    Calls Tryz.prog 46 #[.agg #[.int .i64 u.t, .int .i64 u.r, .int .i64 u.a, .int .i64 u.i, .slice bo u.l.length cb]] w fun e w' => e = .returned (.bool (isTr u)) ∧ Below w.heap.size w w' := by
  cases ht : (u.t == 167 || u.t == 166)
  · rw [show isTr u = false by unfold isTr; rw [ht]; rfl]
    have bw := alloc_in w (.cells #[.int .i64 u.t, .int .i64 u.r, .int .i64 u.a, .int .i64 u.i, .slice bo u.l.length cb] 41)
    obtain ⟨z0, z1, z2, z3, z4⟩ := (Uq.new 41 w u bo cb).cells
    rw [Bool.or_eq_false_iff] at ht
    have e1 : (u.t != 167) = true := by rw [bne, ht.1]; rfl
    have e2 : (u.t != 166) = true := by rw [bne, ht.2]; rfl
    clear ht
    go_enter Tryz.func46, Tryz.ntmps46
    go_wp2
    go_ret
    exact ⟨rfl, bw⟩
  · by_cases hl2 : u.l.length < 2
    · rw [show isTr u = false by unfold isTr; rw [ht, decide_eq_false (by omega)]; rfl]
      have bw := alloc_in w (.cells #[.int .i64 u.t, .int .i64 u.r, .int .i64 u.a, .int .i64 u.i, .slice bo u.l.length cb] 41)
      obtain ⟨z0, z1, z2, z3, z4⟩ := (Uq.new 41 w u bo cb).cells
      have hl3 : ((u.l.length : Nat) : Int) < 2 := by omega
      have hcase : ((u.t != 167) = false) ∨ ((u.t != 167) = true ∧ (u.t != 166) = false) := by
        have hw : u.t = 167 ∨ u.t = 166 := by simpa using ht
        rcases hw with h | h
        · exact .inl (by rw [h]; rfl)
        · exact .inr ⟨by rw [h]; rfl, by rw [h]; rfl⟩
      clear ht hl2
      rcases hcase with ht | ⟨ht, ht2⟩
      all_goals
        go_enter Tryz.func46, Tryz.ntmps46
        go_wp2
        go_ret
        exact ⟨rfl, bw⟩
    · match hu : u.l with
      | [] => rw [hu] at hl2; simp at hl2
      | [x] => rw [hu] at hl2; simp at hl2
      | x :: y :: l =>
        rw [← hu, show isTr u = (eqB x (bU x.n) && eqB y (bI y.s)) by unfold isTr; rw [ht, hu, decide_eq_true (by simp : 2 ≤ (x :: y :: l).length)]; rfl]
        exact istrap_go u bo cb hl w hr ht x y l hu
end Go.Proofs.YtdgnhcbhbpffmaaGreatDoor
