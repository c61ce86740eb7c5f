/- Texts on the program and on the document, joined: TrqB, TrqC. -/
import Derived.Test.YtmdibafofdghgaaGreatDoorMa34
import Derived.Test.YtmdibafofdghgaaGreatDoorMa36
/- The program's unit of a trap, walked. -/
namespace Go.Proofs.YtmdibafofdghgaaGreatDoor
open Go.ChangeShapes Go.WideShapes Go.ChangeAt Go.RowKit K P1 B5
open D8 (Bd Un lst deU)
open T9 (Tr bU bI msg msgB ofU m3 deM)
set_option linter.unusedVariables false

/-- The blocks of unit ahead of its append: the trap, what is handed back, the unit. -/
theorem unit_worldsP (w : World) (t : Tr) (g : Int) (ao : Option Addr) (cap : Nat) : ∃ W, ((w.alloc (.cells #[.string (bs t.c), .bool t.f, .int .i64 t.r, .int .i64 t.n, .string (bs t.o), .slice ao t.l.length cap] 27)).alloc (.cells #[.int .i64 0, .int .i64 0, .int .i64 0, .int .i64 0, .slice none 0 0] 41)).alloc (.cells #[.int .i64 g, .int .i64 t.r, .int .i64 0, .int .i64 0, .slice none 0 0] 41) = W ∧
    W.heap[w.heap.size + 2]? = some (.cells #[.int .i64 g, .int .i64 t.r, .int .i64 0, .int .i64 0, .slice none 0 0] 41 (0, 0)) ∧
    Uq 41 W (w.heap.size + 1) nou none 0 ∧ Tq W w.heap.size t ao cap ∧ Below w.heap.size w W ∧ W.heap.size = w.heap.size + 3 := by
  obtain ⟨w2, hw2, hq, htq, bw, hsz⟩ := two_blocksT w t ao cap 41
  rw [hw2]
  have k3 := alloc_in w2 (.cells #[.int .i64 g, .int .i64 t.r, .int .i64 0, .int .i64 0, .slice none 0 0] 41)
  have hU := rowNew w2 (.cells #[.int .i64 g, .int .i64 t.r, .int .i64 0, .int .i64 0, .slice none 0 0] 41)
  rw [hsz] at hU
  exact ⟨_, rfl, hU, hq.below k3, htq.below k3, bw.trans (k3.mono bw.size), by simp [hsz]⟩
/-- The one append of unit: two binds of its own, and the trap's behind them. -/
theorem appU {o : Oper} {a : Act} {K : Act → World → Prop} {Q : Exit → Act → World → Prop} {W w : World} {s x : Operand} (ho : o.op = .call { callee := .builtin .append, args := #[s, x], argTypes := #[25, 25] }) (t : Tr) (g : Nat) (hs : a.eval s = .slice (some ⟨g, 0, none⟩) 2 2)
    (hm : W.heap[g]? = some (.cells #[.string (bs T9.UPT), .int .i64 67, .int .i64 t.n, .string (bs []), .string (bs T9.IDO), .int .i64 6, .int .i64 0, .string (bs t.o)] 48 (0, 0))) (hg : w.heap.size ≤ g) {ao : Option Addr} {ca : Nat} (hx : a.eval x = .slice ao t.l.length ca) (hr : RdB W ao t.l) (hl : t.l.length * 48 ≤ 140737488351280)
    {k : Nat} {cs : Array Value} (hU : W.heap[k]? = some (.cells cs 41 (0, 0))) (hq : Uq 41 W (w.heap.size + 1) nou none 0) {cap : Nat} (hT : Tq W w.heap.size t ao cap) (b : Below w.heap.size w W)
    (h : ∀ (g' : Option Addr) (c' : Nat) (x3 : World), OwnB x3 w.heap.size 48 (.slice g' (t.l.length + 2) c') (t.as 0).l → x3.heap[k]? = some (.cells cs 41 (0, 0)) → Uq 41 x3 (w.heap.size + 1) nou none 0 → Tq x3 w.heap.size t ao cap → Below w.heap.size w x3 → K (a.put o.dst (.slice g' (t.l.length + 2) c')) x3) : o.wp Tryz.prog a W K Q := by
  have hown : OwnB W w.heap.size 48 (.slice (some ⟨g, 0, none⟩) 2 2) [bU t.n, bI t.o] :=
    ⟨rfl, .inr ⟨g, 2, _, rfl, hg, hm, Nat.le_refl _, by unfold maxLen; omega, rfl, rfl⟩⟩
  refine spreadN ho _ hs hown b.size hx hr (by show (2 + t.l.length) * 48 ≤ _; omega) ?_
  intro v' x3 ho3 hgr
  have hU3 := spread_keep hown hgr hU (by decide)
  have hq3 : Uq 41 x3 (w.heap.size + 1) nou none 0 := spread_keep hown hgr hq (by decide)
  have hT3 : Tq x3 w.heap.size t ao cap := spread_keep hown hgr hT (by decide)
  have b3 := b.grown hgr b.size (fun k hk => (World.ownsRow.lt hown k hk).1)
  obtain ⟨g', c', hv, _⟩ := OwnB.form ho3
  rw [show ([bU t.n, bI t.o] ++ t.l).length = t.l.length + 2 by simp] at hv
  subst hv
  exact h g' c' x3 ho3 hU3 hq3 hT3 b3
set_option maxRecDepth 100000 in
set_option maxHeartbeats 4000000 in
theorem unit9_walk (t : Tr) (ao : Option Addr) (cap : Nat) (hl : t.l.length * 48 ≤ 140737488351280) (w : World) (hr : RdB w ao t.l) :
    Calls Tryz.prog 34 #[.agg #[.string (bs t.c), .bool t.f, .int .i64 t.r, .int .i64 t.n, .string (bs t.o), .slice ao t.l.length cap]] w fun e w' => ∃ bo cb, e = .returned (.agg #[.int .i64 t.tag, .int .i64 t.r, .int .i64 0, .int .i64 0, .slice bo (t.l.length + 2) cb]) ∧ RdB w' bo (t.as 0).l ∧ Below w.heap.size w w' := by
  have HU := Lib.hid (fun w1 => uptimebind_walk t.n w1)
  have HI := Lib.hid (fun w1 => idbind_walk t.o w1)
  have HRD := Lib.hid (fun w1 (b : Below w.heap.size w w1) => hr.below b)
  have HL := Lib.hid hl
  clear hr hl
  cases hf : t.f
  · rw [show t.tag = 167 by unfold Tr.tag; rw [hf]; rfl]
    obtain ⟨W, hW, hU, hq, ht, bw, hsz⟩ := unit_worldsP w t 167 ao cap
    have HW := Lib.hid hW
    obtain ⟨z0, z1, z2, z3, z4, z5⟩ := ht.cells
    have hZ := And.intro z3 (And.intro z4 z5)
    rw [hf] at z1 HW
    clear hW z0 z2
    go_enter Tryz.func34, Tryz.ntmps34
    go_wp2_with fail
    try rw [HW.out]
    clear z1 z3 z4 z5 HW
    go_region_held3 (fun x => x.cell? ⟨w.heap.size, 3, none⟩ = some (.int .i64 t.n) ∧ x.cell? ⟨w.heap.size, 4, none⟩ = some (.string (bs t.o)) ∧ x.cell? ⟨w.heap.size, 5, none⟩ = some (.slice ao t.l.length cap)) (first | exact hZ | exact hZ1 | exact hZ2 | exact hZ3 | exact hZ4 | exact hZ5)
      (first
        | (go_at_call 53; refine (HU.out _).mono ?_; rintro e x1 ⟨rfl, j1⟩; have k1 : Below W.heap.size W x1 := ⟨j1.os, j1.tape, j1.output, j1.size, j1.block⟩; have b1 := bw.trans (k1.mono bw.size); have ht1 := ht.below k1; have hq1 := hq.below k1; have hU1 := (k1.block _ (lt_of_block hU)).trans hU; have zz1 := ht1.cells; have hZ1 := And.intro zz1.2.2.2.1 (And.intro zz1.2.2.2.2.1 zz1.2.2.2.2.2); clear zz1)
        | (go_at_call 54; refine (HI.out _).mono ?_; rintro e x2 ⟨rfl, j2⟩; have k2 : Below x1.heap.size x1 x2 := ⟨j2.os, j2.tape, j2.output, j2.size, j2.block⟩; have b2 := b1.trans (k2.mono b1.size); have ht2 := ht1.below k2; have hq2 := hq1.below k2; have hU2 := (k2.block _ (lt_of_block hU1)).trans hU1; have zz2 := ht2.cells; have hZ2 := And.intro zz2.2.2.2.1 (And.intro zz2.2.2.2.2.1 zz2.2.2.2.2.2); clear zz2; have a3 := alloc_in x2 (.cells #[.string (bs T9.UPT), .int .i64 67, .int .i64 t.n, .string (bs []), .string (bs T9.IDO), .int .i64 6, .int .i64 0, .string (bs t.o)] 48); have b3 := b2.trans (a3.mono b2.size); have ht3 := ht2.below a3; have hq3 := hq2.below a3; have hU3 := (a3.block _ (lt_of_block hU2)).trans hU2; have hm3 := rowNew x2 (.cells #[.string (bs T9.UPT), .int .i64 67, .int .i64 t.n, .string (bs []), .string (bs T9.IDO), .int .i64 6, .int .i64 0, .string (bs t.o)] 48); have hg3 : w.heap.size ≤ x2.heap.size := b2.size; have zz3 := ht3.cells; have hZ3 := And.intro zz3.2.2.2.1 (And.intro zz3.2.2.2.2.1 zz3.2.2.2.2.2); clear zz3)
        | (rw [if_pos (by rfl)]; refine appU (by rfl) t x2.heap.size (by rfl) (by exact hm3) hg3 (by rfl) (by first | exact HRD.out _ b3 | exact HRD.out _ ⟨b3.os, b3.tape, b3.output, b3.size, b3.block⟩) HL.out (by exact hU3) (by exact hq3) (by exact ht3) (by first | exact b3 | exact ⟨b3.os, b3.tape, b3.output, b3.size, b3.block⟩) ?_; intro g4 c4 x4 o4 u4 q4 t4 b4; have zz4 := t4.cells; have hZ4 := And.intro zz4.2.2.2.1 (And.intro zz4.2.2.2.2.1 zz4.2.2.2.2.2); clear zz4; have y4 := cellRow u4 4; have f4 := freeRow u4 4; have t5 : Tq (x4.setCell ⟨w.heap.size + 2, 4, none⟩ (.slice g4 (t.l.length + 2) c4)) w.heap.size t ao cap := (Below.heap_setCell _ _ _ _ (by show w.heap.size ≠ w.heap.size + 2; omega)).trans t4; have zz5 := t5.cells; have hZ5 := And.intro zz5.2.2.2.1 (And.intro zz5.2.2.2.2.1 zz5.2.2.2.2.2); clear zz5))
    have y0 : x4.cell? ⟨w.heap.size + 1 + 1, 0, none⟩ = some (.int .i64 167) := cellRow u4 0
    have y1 : x4.cell? ⟨w.heap.size + 1 + 1, 1, none⟩ = some (.int .i64 t.r) := cellRow u4 1
    have y2 : x4.cell? ⟨w.heap.size + 1 + 1, 2, none⟩ = some (.int .i64 0) := cellRow u4 2
    have y3 : x4.cell? ⟨w.heap.size + 1 + 1, 3, none⟩ = some (.int .i64 0) := cellRow u4 3
    have o5 := own_set o4 u4 (by decide) 4 (.slice g4 (t.l.length + 2) c4)
    have q5 : Uq 41 (x4.setCell ⟨w.heap.size + 1 + 1, 4, none⟩ (.slice g4 (t.l.length + 2) c4)) (w.heap.size + 1) nou none 0 := (Below.heap_setCell _ _ _ _ (by show w.heap.size + 1 ≠ w.heap.size + 1 + 1; omega)).trans q4
    have b5 := b4.setCell (p := ⟨w.heap.size + 1 + 1, 4, none⟩) (by show w.heap.size ≤ w.heap.size + 1 + 1; omega) (.slice g4 (t.l.length + 2) c4)
    obtain ⟨c0, c1, c2, c3, c4'⟩ := q4.cells
    obtain ⟨r0, r1, r2, r3, r4⟩ := q4.free
    have PX := q5.set (t.as 167) g4 c4
    have bb := below_set5 b5 (b := w.heap.size + 1) (Nat.le_succ _) (.int .i64 167) (.int .i64 t.r) (.int .i64 0) (.int .i64 0) (.slice g4 (t.l.length + 2) c4)
    have HO := Lib.hid (own_set5 o5 q5 (by decide) (.int .i64 167) (.int .i64 t.r) (.int .i64 0) (.int .i64 0) (.slice g4 (t.l.length + 2) c4))
    clear q5 b5 o5 hU hU1 hU2 hU3 hq hq1 hq2 hq3 ht ht1 ht2 ht3 t4 t5 hm3 hZ hZ1 hZ2 hZ3 hZ4 hZ5 a3 k1 k2 j1 j2
    go_wp2
    refine bodyPost_ret (results_cell_row rfl _ _ (w.heap.size + 1) _ _ _ _ rfl PX Tryz.underlying41 rfl (by kernel_rfl)) rfl ?_
    obtain ⟨ao9, cap9, h9, r9⟩ := OwnB.form HO.out
    simp only [Value.slice.injEq] at h9
    obtain ⟨rfl, _, rfl⟩ := h9
    exact ⟨g4, c4, rfl, r9, bb⟩
  · rw [show t.tag = 166 by unfold Tr.tag; rw [hf]; rfl]
    obtain ⟨W, hW, hU, hq, ht, bw, hsz⟩ := unit_worldsP w t 166 ao cap
    have HW := Lib.hid hW
    obtain ⟨z0, z1, z2, z3, z4, z5⟩ := ht.cells
    have hZ := And.intro z3 (And.intro z4 z5)
    rw [hf] at z1 HW
    clear hW z0 z2
    go_enter Tryz.func34, Tryz.ntmps34
    go_wp2_with fail
    try rw [HW.out]
    clear z1 z3 z4 z5 HW
    go_region_held3 (fun x => x.cell? ⟨w.heap.size, 3, none⟩ = some (.int .i64 t.n) ∧ x.cell? ⟨w.heap.size, 4, none⟩ = some (.string (bs t.o)) ∧ x.cell? ⟨w.heap.size, 5, none⟩ = some (.slice ao t.l.length cap)) (first | exact hZ | exact hZ1 | exact hZ2 | exact hZ3 | exact hZ4 | exact hZ5)
      (first
        | (go_at_call 53; refine (HU.out _).mono ?_; rintro e x1 ⟨rfl, j1⟩; have k1 : Below W.heap.size W x1 := ⟨j1.os, j1.tape, j1.output, j1.size, j1.block⟩; have b1 := bw.trans (k1.mono bw.size); have ht1 := ht.below k1; have hq1 := hq.below k1; have hU1 := (k1.block _ (lt_of_block hU)).trans hU; have zz1 := ht1.cells; have hZ1 := And.intro zz1.2.2.2.1 (And.intro zz1.2.2.2.2.1 zz1.2.2.2.2.2); clear zz1)
        | (go_at_call 54; refine (HI.out _).mono ?_; rintro e x2 ⟨rfl, j2⟩; have k2 : Below x1.heap.size x1 x2 := ⟨j2.os, j2.tape, j2.output, j2.size, j2.block⟩; have b2 := b1.trans (k2.mono b1.size); have ht2 := ht1.below k2; have hq2 := hq1.below k2; have hU2 := (k2.block _ (lt_of_block hU1)).trans hU1; have zz2 := ht2.cells; have hZ2 := And.intro zz2.2.2.2.1 (And.intro zz2.2.2.2.2.1 zz2.2.2.2.2.2); clear zz2; have a3 := alloc_in x2 (.cells #[.string (bs T9.UPT), .int .i64 67, .int .i64 t.n, .string (bs []), .string (bs T9.IDO), .int .i64 6, .int .i64 0, .string (bs t.o)] 48); have b3 := b2.trans (a3.mono b2.size); have ht3 := ht2.below a3; have hq3 := hq2.below a3; have hU3 := (a3.block _ (lt_of_block hU2)).trans hU2; have hm3 := rowNew x2 (.cells #[.string (bs T9.UPT), .int .i64 67, .int .i64 t.n, .string (bs []), .string (bs T9.IDO), .int .i64 6, .int .i64 0, .string (bs t.o)] 48); have hg3 : w.heap.size ≤ x2.heap.size := b2.size; have zz3 := ht3.cells; have hZ3 := And.intro zz3.2.2.2.1 (And.intro zz3.2.2.2.2.1 zz3.2.2.2.2.2); clear zz3)
        | (rw [if_pos (by rfl)]; refine appU (by rfl) t x2.heap.size (by rfl) (by exact hm3) hg3 (by rfl) (by first | exact HRD.out _ b3 | exact HRD.out _ ⟨b3.os, b3.tape, b3.output, b3.size, b3.block⟩) HL.out (by exact hU3) (by exact hq3) (by exact ht3) (by first | exact b3 | exact ⟨b3.os, b3.tape, b3.output, b3.size, b3.block⟩) ?_; intro g4 c4 x4 o4 u4 q4 t4 b4; have zz4 := t4.cells; have hZ4 := And.intro zz4.2.2.2.1 (And.intro zz4.2.2.2.2.1 zz4.2.2.2.2.2); clear zz4; have y4 := cellRow u4 4; have f4 := freeRow u4 4; have t5 : Tq (x4.setCell ⟨w.heap.size + 2, 4, none⟩ (.slice g4 (t.l.length + 2) c4)) w.heap.size t ao cap := (Below.heap_setCell _ _ _ _ (by show w.heap.size ≠ w.heap.size + 2; omega)).trans t4; have zz5 := t5.cells; have hZ5 := And.intro zz5.2.2.2.1 (And.intro zz5.2.2.2.2.1 zz5.2.2.2.2.2); clear zz5))
    have y0 : x4.cell? ⟨w.heap.size + 1 + 1, 0, none⟩ = some (.int .i64 166) := cellRow u4 0
    have y1 : x4.cell? ⟨w.heap.size + 1 + 1, 1, none⟩ = some (.int .i64 t.r) := cellRow u4 1
    have y2 : x4.cell? ⟨w.heap.size + 1 + 1, 2, none⟩ = some (.int .i64 0) := cellRow u4 2
    have y3 : x4.cell? ⟨w.heap.size + 1 + 1, 3, none⟩ = some (.int .i64 0) := cellRow u4 3
    have o5 := own_set o4 u4 (by decide) 4 (.slice g4 (t.l.length + 2) c4)
    have q5 : Uq 41 (x4.setCell ⟨w.heap.size + 1 + 1, 4, none⟩ (.slice g4 (t.l.length + 2) c4)) (w.heap.size + 1) nou none 0 := (Below.heap_setCell _ _ _ _ (by show w.heap.size + 1 ≠ w.heap.size + 1 + 1; omega)).trans q4
    have b5 := b4.setCell (p := ⟨w.heap.size + 1 + 1, 4, none⟩) (by show w.heap.size ≤ w.heap.size + 1 + 1; omega) (.slice g4 (t.l.length + 2) c4)
    obtain ⟨c0, c1, c2, c3, c4'⟩ := q4.cells
    obtain ⟨r0, r1, r2, r3, r4⟩ := q4.free
    have PX := q5.set (t.as 166) g4 c4
    have bb := below_set5 b5 (b := w.heap.size + 1) (Nat.le_succ _) (.int .i64 166) (.int .i64 t.r) (.int .i64 0) (.int .i64 0) (.slice g4 (t.l.length + 2) c4)
    have HO := Lib.hid (own_set5 o5 q5 (by decide) (.int .i64 166) (.int .i64 t.r) (.int .i64 0) (.int .i64 0) (.slice g4 (t.l.length + 2) c4))
    clear q5 b5 o5 hU hU1 hU2 hU3 hq hq1 hq2 hq3 ht ht1 ht2 ht3 t4 t5 hm3 hZ hZ1 hZ2 hZ3 hZ4 hZ5 a3 k1 k2 j1 j2
    go_wp2
    refine bodyPost_ret (results_cell_row rfl _ _ (w.heap.size + 1) _ _ _ _ rfl PX Tryz.underlying41 rfl (by kernel_rfl)) rfl ?_
    obtain ⟨ao9, cap9, h9, r9⟩ := OwnB.form HO.out
    simp only [Value.slice.injEq] at h9
    obtain ⟨rfl, _, rfl⟩ := h9
    exact ⟨g4, c4, rfl, r9, bb⟩
end Go.Proofs.YtmdibafofdghgaaGreatDoor
/- The program's write, Check, Encode, Answer, Same of traps, walked. -/
namespace Go.Proofs.YtmdibafofdghgaaGreatDoor
open Go.ChangeShapes Go.WideShapes Go.ChangeAt Go.RowKit K P1 B5
open D8 (Bd Un lst deU)
open T9 (Tr bU bI msg msgB ofU m3 deM)
set_option linter.unusedVariables false

theorem LimQ.as {t : Tr} (h : LimQ t) (g : Int) : LimP (t.as g).l := by
  obtain ⟨_, h2, _, h4, h5⟩ := h
  intro x hx
  rcases List.mem_cons.1 hx with rfl | hx
  · exact ⟨(show T9.UPT.length ≤ 1000000 by decide), (show ([] : List UInt8).length ≤ _ by simp), h4.1⟩
  · rcases List.mem_cons.1 hx with rfl | hx
    · exact ⟨(show T9.IDO.length ≤ 1000000 by decide), h2, T9.Tr.fit h4 g _ (List.mem_cons_of_mem _ (List.mem_cons_self))⟩
    · exact h5 x hx
set_option maxRecDepth 100000 in
set_option maxHeartbeats 4000000 in
theorem check9_walk (t : Tr) (ao : Option Addr) (cap : Nat) (hx : LimQ t) (w : World) (T : Tw w) (hr : RdB w ao t.l) :
    Calls Tryz.prog 19 #[.agg #[.string (bs t.c), .bool t.f, .int .i64 t.r, .int .i64 t.n, .string (bs t.o), .slice ao t.l.length cap]] w fun e w' => e = .returned (.int .i64 (tcE t : Nat)) ∧ Below w.heap.size w w' := by
  have hla := hx.as t.tag
  obtain ⟨hc, ho, hl, hft, hlm⟩ := hx
  have hba := alloc_in w (.cells #[.string (bs t.c), .bool t.f, .int .i64 t.r, .int .i64 t.n, .string (bs t.o), .slice ao t.l.length cap] 27)
  have htq := Tq.new w t ao cap
  have HU := Lib.hid (fun w1 (h : RdB w1 ao t.l) => unit9_walk t ao cap (by omega) w1 h)
  have hC : ∀ bo cb w1, Tw w1 → RdB w1 bo (t.as 0).l → Calls Tryz.prog 38 #[.agg #[.int .i64 t.tag, .int .i64 t.r, .int .i64 0, .int .i64 0, .slice bo (t.l.length + 2) cb]] w1 fun e w' => e = .returned (.int .i64 (ckU t.un : Nat)) ∧ Below w1.heap.size w1 w' :=
    fun bo cb w1 T h => check8_walk t.un bo cb (show t.l.length + 2 ≤ _ by omega) hla w1 T.1 h
  have HR := Lib.hid (hr.below hba)
  have HT := Lib.hid (T.below hba)
  have hI := fun w1 => iscommunity_walk t.c w1
  clear hr T hla
  cases hk : comB t.c
  · rw [hk] at hI
    have HI := Lib.hid hI
    have hE : tcE t = 90 := by
      unfold tcE T9.Tr.ok
      rw [show (decide (1 ≤ t.c.length) && decide (t.c.length ≤ 64)) = false from hk]; rfl
    rw [hE]
    clear hE hI hC HU hk hc ho hl hft hlm HR HT
    go_enter Tryz.func19, Tryz.ntmps19
    go_wp2_with fail
    refine (HI.out _).mono ?_
    rintro e w1 ⟨rfl, rfl⟩
    go_wp2_with fail
    go_ret
    exact ⟨rfl, hba⟩
  · rw [hk] at hI
    have HI := Lib.hid hI
    have hE : tcE t = if t.un.ok then 0 else 90 := by
      unfold tcE T9.Tr.ok
      rw [show (decide (1 ≤ t.c.length) && decide (t.c.length ≤ 64)) = true from hk]; rfl
    rw [hE]
    unfold ckU at hC
    clear hE hI hk hc ho hl hft hlm
    cases hk : t.un.ok
    all_goals
      rw [hk] at hC
      have HC := Lib.hid hC
      clear hC hk
      go_enter Tryz.func19, Tryz.ntmps19
      go_wp2_with fail
      refine (HI.out _).mono ?_
      rintro e w1 ⟨rfl, rfl⟩
      go_wp2_with fail
      refine (HU.out _ HR.out).mono ?_
      rintro e w1 ⟨bo, cb, rfl, hr2, b1⟩
      go_wp2_with fail
      refine (HC.out _ _ _ (HT.out.below b1) hr2).mono ?_
      rintro e w2 ⟨rfl, b2⟩
      go_wp2
      go_ret
      exact ⟨rfl, (Below_in b1).trans (b2.mono (Below_in b1).size)⟩
theorem el_le_msg (c : List UInt8) (u : Un) : u.el.length ≤ (msg c u).length := by
  unfold msg
  rw [put_len]
  unfold msgB
  rw [List.length_append, List.length_append]
  omega
set_option maxRecDepth 100000 in
set_option maxHeartbeats 4000000 in
theorem write9_walk (c : List UInt8) (hc : c.length ≤ 64) (u : Un) (hk : u.ok = true) (ao : Option Addr) (cap : Nat) (hx : LimP u.l) (w : World) (T : Tw w) (hr : RdB w ao u.l) :
    Calls Tryz.prog 33 #[.string (bs c), .agg #[.int .i64 u.t, .int .i64 u.r, .int .i64 u.a, .int .i64 u.i, .slice ao u.l.length cap]] w fun e w' => e = .returned (.tuple #[.string (bs (mgS c u)), .int .i64 (mgE c u : Nat)]) ∧ Below w.heap.size w w' := by
  have hul := ((D8.Un.ok_iff u).1 hk).2.2.2.2.1
  obtain ⟨l1, l2, l3⟩ := T9.msg_len hc hk
  have hba := alloc_in w (.cells #[.int .i64 u.t, .int .i64 u.r, .int .i64 u.a, .int .i64 u.i, .slice ao u.l.length cap] 41)
  have huq := Uq.new 41 w u ao cap
  have HR := Lib.hid (hr.below hba)
  have HT := Lib.hid (T.below hba)
  have hEn := fun w1 (T1 : Tw w1) (h : RdB w1 ao u.l) => encode8_walk u ao cap (by omega) hx w1 T1.1 h
  have e1 : eE u = if u.el.length ≤ 65536 then 0 else 2 := by unfold eE; rw [hk]; rfl
  have e2 : eS u = if u.el.length ≤ 65536 then u.el else [] := by unfold eS; rw [hk]; rfl
  have hlm := el_le_msg c u
  rw [e1, e2] at hEn
  have hE : mgE c u = if (msg c u).length ≤ 65535 then 0 else 2 := rfl
  have hS : mgS c u = if (msg c u).length ≤ 65535 then msg c u else [] := rfl
  rw [hE, hS]
  clear hr T hE hS e1 e2
  by_cases hel : u.el.length ≤ 65536
  rotate_left
  · rw [if_neg hel, if_neg hel] at hEn
    rw [if_neg (by omega), if_neg (by omega)]
    have HE := Lib.hid hEn
    clear hEn hx hk hul l1 l2 l3 hlm hel hc
    obtain ⟨z0, z1, z2, z3, z4⟩ := huq.cells
    go_enter Tryz.func33, Tryz.ntmps33
    go_wp2_with fail
    refine (HE.out _ HT.out HR.out).mono ?_
    rintro e w1 ⟨rfl, b1⟩
    go_wp2
    go_ret2
    exact ⟨rfl, Below_in b1⟩
  rw [if_pos hel, if_pos hel] at hEn
  have HE := Lib.hid hEn
  have hB : ([2, 1, 1] : List UInt8) ++ (put 4 c ++ u.el) = msgB c u := rfl
  have hmb : (msgB c u).length ≤ 16777216 := by
    unfold msgB; rw [List.length_append, List.length_append, List.length_cons, List.length_cons, List.length_cons, List.length_nil]; omega
  have hW2 : ∀ w1, Calls Tryz.prog 52 #[.int .i64 2, .string (bs [1])] w1 fun e w' => e = .returned (.string (bs [2, 1, 1])) ∧ Below w1.heap.size w1 w' := fun w1 => wrap9_walk 2 (by decide) (by omega) [1] (by decide) w1
  have hW4 : ∀ w1, Calls Tryz.prog 52 #[.int .i64 4, .string (bs c)] w1 fun e w' => e = .returned (.string (bs (put 4 c))) ∧ Below w1.heap.size w1 w' := fun w1 => wrap9_walk 4 (by decide) (by omega) c (by omega) w1
  have hWm : ∀ w1, Calls Tryz.prog 52 #[.int .i64 48, .string (bs ([2, 1, 1] ++ (put 4 c ++ u.el)))] w1 fun e w' => e = .returned (.string (bs (msg c u))) ∧ Below w1.heap.size w1 w' := by
    intro w1
    have := wrap9_walk 48 (by decide) (by omega) (msgB c u) hmb w1
    rw [← hB] at this
    exact this
  have HW2 := Lib.hid hW2
  have HW4 := Lib.hid hW4
  have HWm := Lib.hid hWm
  have h65 : u.el.length ≤ 271700100 := by omega
  clear hEn hx hk hul l2 hlm hel hc hB hmb hW2 hW4 hWm
  generalize put 4 c = P4 at *
  generalize u.el = EL at *
  generalize msg c u = M at *
  have hH3 : ([2, 1, 1] : List UInt8).length = 3 := rfl
  generalize ([2, 1, 1] : List UInt8) = H3 at *
  have hc1 : (9223372036854775807 < H3.length + P4.length) = False := eq_false (by omega)
  have hc2 : (9223372036854775807 < H3.length + P4.length + EL.length) = False := eq_false (by omega)
  have hc3 : (9223372036854775807 < H3.length + (P4.length + EL.length)) = False := eq_false (by omega)
  clear hH3
  have hMM : (((M.length : Nat) : Int) ≤ 65535 ∧ M.length ≤ 65535) ∨ ((65535 : Int) < ((M.length : Nat) : Int) ∧ ¬ M.length ≤ 65535) := by omega
  have HMM := Lib.hid hMM
  clear hMM
  obtain ⟨z0, z1, z2, z3, z4⟩ := huq.cells
  go_enter Tryz.func33, Tryz.ntmps33
  go_wp2_with fail
  refine (HE.out _ HT.out HR.out).mono ?_
  rintro e w1 ⟨rfl, b1⟩
  have b2 := Below_in b1
  have HT1 := Lib.hid (HT.out.below b1)
  clear b1 HT HR HE z0 z1 z2 z3 z4 huq hba
  have zS := HT1.out.2
  go_wp2_with fail
  go_region_held3 (fun x => x.cell? ⟨0, 0, none⟩ = some (.int .i64 48) ∧ x.cell? ⟨0, 1, none⟩ = some (.int .i64 2) ∧ x.cell? ⟨0, 2, none⟩ = some (.string (bs [1])) ∧ x.cell? ⟨0, 3, none⟩ = some (.int .i64 4)) (first | exact zS | exact zS1 | exact zS2)
    (first
      | (go_at_call 52; (with_reducible refine (HW2.out _).mono ?_); rintro e x1 ⟨rfl, j1⟩; have k1 : Below w1.heap.size w1 x1 := ⟨j1.os, j1.tape, j1.output, j1.size, j1.block⟩; have b3 := b2.trans (k1.mono b2.size); have T3 := HT1.out.below k1; have zS1 := T3.2)
      | (go_at_call 52; (with_reducible refine (HW4.out _).mono ?_); rintro e x2 ⟨rfl, j2⟩; have k2 : Below x1.heap.size x1 x2 := ⟨j2.os, j2.tape, j2.output, j2.size, j2.block⟩; have b4 := b3.trans (k2.mono b3.size); have T4 := T3.below k2; have zS2 := T4.2))
  obtain ⟨v0, v1, v2, v3⟩ := T4.2
  clear k1 k2 zS zS1 zS2
  go_wp2_with fail
  refine (HWm.out _).mono ?_
  rintro e x3 ⟨rfl, j3⟩
  have b5 := b4.trans (j3.mono b4.size)
  clear v0 v1 v2 v3
  rcases HMM.out with ⟨hM, hM2⟩ | ⟨hM, hM2⟩
  · have HM2 := Lib.hid hM2
    clear hM2
    go_wp2
    go_ret2
    first | exact ⟨rfl, b5⟩ | exact ⟨by rw [if_pos HM2.out, if_pos HM2.out], b5⟩
  · have HM2 := Lib.hid hM2
    clear hM2
    go_wp2
    go_ret2
    first | exact ⟨rfl, b5⟩ | exact ⟨by rw [if_neg HM2.out, if_neg HM2.out], b5⟩
set_option maxRecDepth 100000 in
set_option maxHeartbeats 1000000 in
theorem encode9_walk (t : Tr) (ao : Option Addr) (cap : Nat) (hx : LimQ t) (w : World) (T : Tw w) (hr : RdB w ao t.l) :
    Calls Tryz.prog 15 #[.agg #[.string (bs t.c), .bool t.f, .int .i64 t.r, .int .i64 t.n, .string (bs t.o), .slice ao t.l.length cap]] w fun e w' => e = .returned (.tuple #[.string (bs (teS t)), .int .i64 (teE t : Nat)]) ∧ Below w.heap.size w w' := by
  have hba := alloc_in w (.cells #[.string (bs t.c), .bool t.f, .int .i64 t.r, .int .i64 t.n, .string (bs t.o), .slice ao t.l.length cap] 27)
  have htq := Tq.new w t ao cap
  have hr1 := hr.below hba
  have hT := T.below hba
  have hC := check9_walk t ao cap hx _ hT hr1
  have HR := Lib.hid hr1
  have HT := Lib.hid hT
  have hla := hx.as t.tag
  have hll := hx.2.2.1
  unfold tcE at hC
  clear hr hr1 T hT
  cases hk : t.ok
  · rw [show teS t = [] by unfold teS; rw [hk]; rfl, show teE t = 90 by unfold teE; rw [hk]; rfl]
    rw [hk] at hC
    have HC := Lib.hid hC
    clear hC hk
    go_enter Tryz.func15, Tryz.ntmps15
    go_wp2_with fail
    refine HC.out.mono ?_
    rintro e w1 ⟨rfl, b1⟩
    go_wp2
    go_ret2
    exact ⟨rfl, Below_in b1⟩
  · rw [show teS t = mgS t.c t.un by unfold teS; rw [hk]; rfl, show teE t = mgE t.c t.un by unfold teE; rw [hk]; rfl]
    rw [hk] at hC
    obtain ⟨hu, _, hc64⟩ := un_of hk
    have HC := Lib.hid hC
    have HU := Lib.hid (fun w1 (h : RdB w1 ao t.l) => unit9_walk t ao cap (by omega) w1 h)
    have hM : ∀ bo cb w1, Tw w1 → RdB w1 bo (t.as 0).l → Calls Tryz.prog 33 #[.string (bs t.c), .agg #[.int .i64 t.tag, .int .i64 t.r, .int .i64 0, .int .i64 0, .slice bo (t.l.length + 2) cb]] w1 fun e w' => e = .returned (.tuple #[.string (bs (mgS t.c t.un)), .int .i64 (mgE t.c t.un : Nat)]) ∧ Below w1.heap.size w1 w' :=
      fun bo cb w1 T h => write9_walk t.c hc64 t.un hu bo cb hla w1 T h
    have HM := Lib.hid hM
    clear hC hM hk hu hc64 hx hla hll
    go_enter Tryz.func15, Tryz.ntmps15
    go_wp2_with fail
    refine HC.out.mono ?_
    rintro e w1 ⟨rfl, b1⟩
    have b2 := Below_in b1
    have ht1 := htq.below b1
    have HR1 := Lib.hid (HR.out.below b1)
    have HT1 := Lib.hid (HT.out.below b1)
    clear HC b1 htq hba HR HT
    go_wp2_with fail
    have zS := ht1.cells
    go_region_held3 (fun x => x.cell? ⟨w.heap.size, 0, none⟩ = some (.string (bs t.c)) ∧ x.cell? ⟨w.heap.size, 1, none⟩ = some (.bool t.f) ∧ x.cell? ⟨w.heap.size, 2, none⟩ = some (.int .i64 t.r) ∧ x.cell? ⟨w.heap.size, 3, none⟩ = some (.int .i64 t.n) ∧ x.cell? ⟨w.heap.size, 4, none⟩ = some (.string (bs t.o)) ∧ x.cell? ⟨w.heap.size, 5, none⟩ = some (.slice ao t.l.length cap)) (first | exact zS | exact zS1 | exact zS2)
      (first
        | (go_at_call 34; refine (HU.out _ (by exact HR1.out)).mono ?_; rintro e x1 ⟨bo, cb, rfl, hr3, j1⟩; have k1 : Below w1.heap.size w1 x1 := ⟨j1.os, j1.tape, j1.output, j1.size, j1.block⟩; have hb1 := b2.trans (k1.mono b2.size); have ht2 := ht1.below k1; have HT2 := Lib.hid (HT1.out.below k1); have zS1 := ht2.cells)
        | (go_at_call 33; refine (HM.out _ _ _ (by exact HT2.out) (by exact hr3)).mono ?_; rintro e x2 ⟨rfl, j2⟩; have k2 : Below x1.heap.size x1 x2 := ⟨j2.os, j2.tape, j2.output, j2.size, j2.block⟩; have hb2 := hb1.trans (k2.mono hb1.size); have ht3 := ht2.below k2; have zS2 := ht3.cells))
    go_wp2
    go_ret2
    exact ⟨rfl, hb2⟩
set_option maxRecDepth 100000 in
set_option maxHeartbeats 1000000 in
theorem answer9_walk (t : Tr) (ao : Option Addr) (cap : Nat) (hx : LimQ t) (w : World) (T : Tw w) (hr : RdB w ao t.l) :
    Calls Tryz.prog 17 #[.agg #[.string (bs t.c), .bool t.f, .int .i64 t.r, .int .i64 t.n, .string (bs t.o), .slice ao t.l.length cap]] w fun e w' => e = .returned (.tuple #[.string (bs (taS t)), .int .i64 (taE t : Nat)]) ∧ Below w.heap.size w w' := by
  have hba := alloc_in w (.cells #[.string (bs t.c), .bool t.f, .int .i64 t.r, .int .i64 t.n, .string (bs t.o), .slice ao t.l.length cap] 27)
  have htq := Tq.new w t ao cap
  have hr1 := hr.below hba
  have hT := T.below hba
  have hC := check9_walk t ao cap hx _ hT hr1
  have HR := Lib.hid hr1
  have HT := Lib.hid hT
  have hla := hx.as 162
  have hll := hx.2.2.1
  unfold tcE at hC
  clear hr hr1 T hT
  cases hk : t.ok
  · rw [show taS t = [] by unfold taS; rw [hk]; rfl, show taE t = 90 by unfold taE; rw [hk]; rfl]
    rw [hk] at hC
    have HC := Lib.hid hC
    clear hC hk
    go_enter Tryz.func17, Tryz.ntmps17
    go_wp2_with fail
    refine HC.out.mono ?_
    rintro e w1 ⟨rfl, b1⟩
    go_wp2
    go_ret2
    exact ⟨rfl, Below_in b1⟩
  rw [hk] at hC
  have HC := Lib.hid hC
  clear hC
  cases hf : t.f
  · rw [show taS t = [] by unfold taS; rw [hk, hf]; rfl, show taE t = 5 by unfold taE; rw [hk, hf]; rfl]
    have z1 : ∀ w1, Below (w.alloc (.cells #[.string (bs t.c), .bool t.f, .int .i64 t.r, .int .i64 t.n, .string (bs t.o), .slice ao t.l.length cap] 27)).heap.size (w.alloc (.cells #[.string (bs t.c), .bool t.f, .int .i64 t.r, .int .i64 t.n, .string (bs t.o), .slice ao t.l.length cap] 27)) w1 → w1.cell? ⟨w.heap.size, 1, none⟩ = some (.bool false) := fun w1 b1 => by
      have := (htq.below b1).cells.2.1
      rw [hf] at this; exact this
    rw [hf] at HC z1
    clear hk hf htq hba HR HT
    go_enter Tryz.func17, Tryz.ntmps17
    go_wp2_with fail
    refine HC.out.mono ?_
    rintro e w1 ⟨rfl, b1⟩
    have z1' := z1 _ b1
    clear z1
    go_wp2
    go_ret2
    exact ⟨rfl, Below_in b1⟩
  · rw [show taS t = mgS t.c (t.as 162) by unfold taS; rw [hk, hf]; rfl, show taE t = mgE t.c (t.as 162) by unfold taE; rw [hk, hf]; rfl]
    obtain ⟨hu, _, hc64⟩ := un_of hk
    have hu2 : (t.as 162).ok = true := by rw [T9.as_ok t (.inl rfl) (.inr (T9.tag_of t))]; exact hu
    have HU := Lib.hid (fun w1 (h : RdB w1 ao t.l) => unit9_walk t ao cap (by omega) w1 h)
    have hM : ∀ bo cb w1, Tw w1 → RdB w1 bo (t.as 0).l → Calls Tryz.prog 33 #[.string (bs t.c), .agg #[.int .i64 162, .int .i64 t.r, .int .i64 0, .int .i64 0, .slice bo (t.l.length + 2) cb]] w1 fun e w' => e = .returned (.tuple #[.string (bs (mgS t.c (t.as 162))), .int .i64 (mgE t.c (t.as 162) : Nat)]) ∧ Below w1.heap.size w1 w' :=
      fun bo cb w1 T h => write9_walk t.c hc64 (t.as 162) hu2 bo cb hla w1 T h
    have HM := Lib.hid hM
    rw [hf] at HC HU htq HR HT
    clear hM hk hu hu2 hc64 hx hba hla hll
    go_enter Tryz.func17, Tryz.ntmps17
    go_wp2_with fail
    refine HC.out.mono ?_
    rintro e w1 ⟨rfl, b1⟩
    have b2 := Below_in b1
    have ht1 := htq.below b1
    have HR1 := Lib.hid (HR.out.below b1)
    have HT1 := Lib.hid (HT.out.below b1)
    obtain ⟨z0, z1, z2, z3, z4, z5⟩ := ht1.cells
    rw [hf] at z1
    have HF := Lib.hid hf
    clear HC b1 htq HR hf HT
    go_wp2_with fail
    refine (HU.out _ HR1.out).mono ?_
    rintro e w3 ⟨bo, cb, rfl, hr3, d3⟩
    have b3 := b2.trans (d3.mono b2.size)
    have a4 := alloc_in w3 (.cells #[.int .i64 162, .int .i64 t.r, .int .i64 0, .int .i64 0, .slice bo (t.l.length + 2) cb] 41)
    have hq4 := Uq.new 41 w3 (t.as 162) bo cb
    have hr4 := hr3.below a4
    have ht4 := (ht1.below d3).below a4
    have HT4 := Lib.hid ((HT1.out.below d3).below a4)
    have b4 := b3.trans (a4.mono b3.size)
    clear z0 z1 z2 z3 z4 z5 d3 a4 hr3 ht1
    obtain ⟨z0, z1, z2, z3, z4, z5⟩ := ht4.cells
    obtain ⟨y0, y1, y2, y3, y4⟩ := hq4.cells
    go_wp2_with fail
    refine (HM.out _ _ _ HT4.out hr4).mono ?_
    rintro e w5 ⟨rfl, d5⟩
    go_wp2
    go_ret2
    exact ⟨rfl, b4.trans (d5.mono b4.size)⟩
end Go.Proofs.YtmdibafofdghgaaGreatDoor
