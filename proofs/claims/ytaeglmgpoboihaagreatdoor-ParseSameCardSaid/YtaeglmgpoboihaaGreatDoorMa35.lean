/- Texts on the program and on the document, joined: Psr. -/
import Derived.Test.YtaeglmgpoboihaaGreatDoorMa20
import Derived.Test.YtaeglmgpoboihaaGreatDoorMa08
/- ParseSame's drawn region: three lists copied, the new book's block, in whatever order: by an invariant. gen_psr.py writes it. -/
namespace Go.Proofs.YtaeglmgpoboihaaGreatDoor
open Go.ChangeShapes Go.WideShapes Go.ChangeAt Go.RowKit K L15
set_option linter.unusedVariables false
set_option linter.unusedSimpArgs false
/-- A list on its way: empty, then copied. -/
structure Ch (w W : World) (T : TypeId) (c : Nat) (rows : List (List Value)) (dB dA : Bool) (fB fA : Value) : Prop where
  b : dB = true → dA = false → OwnR W w.heap.size T c fB []
  a : dA = true → OwnR W w.heap.size T c fA rows
section
variable {w W W' : World} {T : TypeId} {c : Nat} {rows : List (List Value)} {dB dA : Bool} {fB fA : Value}
theorem Ch.below (h : Ch w W T c rows dB dA fB fA) (k : Below W.heap.size W W') : Ch w W' T c rows dB dA fB fA := ⟨fun x y => (h.b x y).below k, fun x => (h.a x).below k⟩
theorem Ch.grown (h : Ch w W T c rows dB dA fB fA) {U : TypeId} {n B m : Nat} {v : Value} {xs : List Value} (k : W.grownBy W' v.ownBlock) (ho : W.ownsRow B U n v m xs) (hT : T ≠ U) : Ch w W' T c rows dB dA fB fA := ⟨fun x y => (h.b x y).grown k ho hT, fun x => (h.a x).grown k ho hT⟩
theorem Ch.set (h : Ch w W T c rows dB dA fB fA) {U : TypeId} {r : Nat} {cs : Array Value} {fr : Nat × Nat} (hr : W.heap[r]? = some (.cells cs U fr)) (hT : T ≠ U) (i : Nat) (u : Value) : Ch w (W.setCell ⟨r, i, none⟩ u) T c rows dB dA fB fA := ⟨fun x y => (h.b x y).set hr hT i u, fun x => (h.a x).set hr hT i u⟩
end
theorem tf5 {C : Prop} (b : true = false) : C := by cases b
theorem no5 {x : Bool} {C : Prop} (h : x = true) (k : x = false) : C := by rw [h] at k; cases k
def zB : Array Value := #[.slice none 0 0, .slice none 0 0, .slice none 0 0]
/-- What holds while the region runs: d says what has come up, f what the temporaries hold. -/
structure Js (w : World) (g0 : Nat) (lt lr lw : Value) (rt rr rw : List (List Value)) (d : Nat → Bool) (f : Nat → Value) (W : World) : Prop where
  bel : Below w.heap.size w W
  ct : Ch w W 34 4 rt (d 0) (d 3) (f 25) (f 28)
  cr : Ch w W 38 8 rr (d 4) (d 7) (f 29) (f 32)
  cw : Ch w W 40 10 rw (d 8) (d 11) (f 33) (f 36)
  p1 : d 1 = true → f 26 = .pointer (some ⟨g0, 0, none⟩)
  p5 : d 5 = true → f 30 = .pointer (some ⟨g0, 1, none⟩)
  p9 : d 9 = true → f 34 = .pointer (some ⟨g0, 2, none⟩)
  l2 : d 2 = true → f 27 = lt
  l6 : d 6 = true → f 31 = lr
  l10 : d 10 = true → f 35 = lw
  b12 : d 12 = true → f 37 = .agg #[f 28, f 32, f 36]
  a13 : d 13 = true → d 14 = false → ∃ bu, f 5 = .pointer (some ⟨bu, 0, none⟩) ∧ w.heap.size ≤ bu ∧ W.heap[bu]? = some (.cells zB 27 (0, 0))
  s14 : d 14 = true → ∃ bu, f 5 = .pointer (some ⟨bu, 0, none⟩) ∧ w.heap.size ≤ bu ∧ W.heap[bu]? = some (.cells #[f 28, f 32, f 36] 27 (0, 0))
  c12 : d 12 = true → d 3 = true ∧ d 7 = true ∧ d 11 = true
  c14 : d 14 = true → d 12 = true ∧ d 13 = true
  k3 : d 3 = true → d 0 = true
  k7 : d 7 = true → d 4 = true
  k11 : d 11 = true → d 8 = true
section
variable {w W W' : World} {g0 : Nat} {lt lr lw : Value} {rt rr rw : List (List Value)} {d : Nat → Bool} {f : Nat → Value}
theorem Js.below (h : Js w g0 lt lr lw rt rr rw d f W) (k : Below W.heap.size W W') : Js w g0 lt lr lw rt rr rw d f W' :=
  ⟨h.bel.trans (k.mono h.bel.size), h.ct.below k, h.cr.below k, h.cw.below k, h.p1, h.p5, h.p9, h.l2, h.l6, h.l10, h.b12, fun x y => by obtain ⟨bu, e1, e2, e3⟩ := h.a13 x y; exact ⟨bu, e1, e2, (k.block _ (lt_of_block e3)).trans e3⟩, fun x => by obtain ⟨bu, e1, e2, e3⟩ := h.s14 x; exact ⟨bu, e1, e2, (k.block _ (lt_of_block e3)).trans e3⟩, h.c12, h.c14, h.k3, h.k7, h.k11⟩
theorem Js.t0 (h0 : Js w g0 lt lr lw rt rr rw d f W) (hd : d 3 = false) : Js w g0 lt lr lw rt rr rw (upd d 0 true) (upd f 25 (.slice (some ⟨W.heap.size, 0, none⟩) 0 0)) (W.alloc (.cells #[] 34)) := by
  have h := h0.below (alloc_below W (.cells #[] 34))
  exact ⟨h.bel, ⟨fun _ _ => own_empty W _ _ _ h0.bel.size, fun x => no5 x hd⟩, h.cr, h.cw, h.p1, h.p5, h.p9, h.l2, h.l6, h.l10, h.b12, h.a13, h.s14, h.c12, h.c14, fun _ => rfl, h.k7, h.k11⟩
theorem Js.t1 (h : Js w g0 lt lr lw rt rr rw d f W) : Js w g0 lt lr lw rt rr rw (upd d 1 true) (upd f 26 (.pointer (some ⟨g0, 0, none⟩))) W :=
  ⟨h.bel, h.ct, h.cr, h.cw, fun _ => rfl, h.p5, h.p9, h.l2, h.l6, h.l10, h.b12, h.a13, h.s14, h.c12, h.c14, h.k3, h.k7, h.k11⟩
theorem Js.t2 (h : Js w g0 lt lr lw rt rr rw d f W) : Js w g0 lt lr lw rt rr rw (upd d 2 true) (upd f 27 lt) W :=
  ⟨h.bel, h.ct, h.cr, h.cw, h.p1, h.p5, h.p9, fun _ => rfl, h.l6, h.l10, h.b12, h.a13, h.s14, h.c12, h.c14, h.k3, h.k7, h.k11⟩
theorem Js.t3 (h : Js w g0 lt lr lw rt rr rw d f W) (hd : d 3 = false) (hb : d 0 = true) {v' : Value} (hg : W.grownBy W' (f 25).ownBlock) (hn : OwnR W' w.heap.size 34 4 v' rt) : Js w g0 lt lr lw rt rr rw (upd d 3 true) (upd f 28 v') W' := by
  have ho := (h.ct.b hb hd).1
  exact ⟨h.bel.grown hg h.bel.size (fun g e => (World.ownsRow.lt ho g e).1), ⟨fun _ y => tf5 y, fun _ => hn⟩, h.cr.grown hg ho (by decide), h.cw.grown hg ho (by decide), h.p1, h.p5, h.p9, h.l2, h.l6, h.l10, fun x => no5 ((h.c12 x).1) hd, fun x y => by obtain ⟨bu, e1, e2, e3⟩ := h.a13 x y; exact ⟨bu, e1, e2, blk_grown e3 hg ho (by decide)⟩, fun y => no5 (by have x := (h.c14 y).1; exact (h.c12 x).1) hd, fun x => no5 ((h.c12 x).1) hd, h.c14, fun _ => hb, h.k7, h.k11⟩
theorem Js.t4 (h0 : Js w g0 lt lr lw rt rr rw d f W) (hd : d 7 = false) : Js w g0 lt lr lw rt rr rw (upd d 4 true) (upd f 29 (.slice (some ⟨W.heap.size, 0, none⟩) 0 0)) (W.alloc (.cells #[] 38)) := by
  have h := h0.below (alloc_below W (.cells #[] 38))
  exact ⟨h.bel, h.ct, ⟨fun _ _ => own_empty W _ _ _ h0.bel.size, fun x => no5 x hd⟩, h.cw, h.p1, h.p5, h.p9, h.l2, h.l6, h.l10, h.b12, h.a13, h.s14, h.c12, h.c14, h.k3, fun _ => rfl, h.k11⟩
theorem Js.t5 (h : Js w g0 lt lr lw rt rr rw d f W) : Js w g0 lt lr lw rt rr rw (upd d 5 true) (upd f 30 (.pointer (some ⟨g0, 1, none⟩))) W :=
  ⟨h.bel, h.ct, h.cr, h.cw, h.p1, fun _ => rfl, h.p9, h.l2, h.l6, h.l10, h.b12, h.a13, h.s14, h.c12, h.c14, h.k3, h.k7, h.k11⟩
theorem Js.t6 (h : Js w g0 lt lr lw rt rr rw d f W) : Js w g0 lt lr lw rt rr rw (upd d 6 true) (upd f 31 lr) W :=
  ⟨h.bel, h.ct, h.cr, h.cw, h.p1, h.p5, h.p9, h.l2, fun _ => rfl, h.l10, h.b12, h.a13, h.s14, h.c12, h.c14, h.k3, h.k7, h.k11⟩
theorem Js.t7 (h : Js w g0 lt lr lw rt rr rw d f W) (hd : d 7 = false) (hb : d 4 = true) {v' : Value} (hg : W.grownBy W' (f 29).ownBlock) (hn : OwnR W' w.heap.size 38 8 v' rr) : Js w g0 lt lr lw rt rr rw (upd d 7 true) (upd f 32 v') W' := by
  have ho := (h.cr.b hb hd).1
  exact ⟨h.bel.grown hg h.bel.size (fun g e => (World.ownsRow.lt ho g e).1), h.ct.grown hg ho (by decide), ⟨fun _ y => tf5 y, fun _ => hn⟩, h.cw.grown hg ho (by decide), h.p1, h.p5, h.p9, h.l2, h.l6, h.l10, fun x => no5 ((h.c12 x).2.1) hd, fun x y => by obtain ⟨bu, e1, e2, e3⟩ := h.a13 x y; exact ⟨bu, e1, e2, blk_grown e3 hg ho (by decide)⟩, fun y => no5 (by have x := (h.c14 y).1; exact (h.c12 x).2.1) hd, fun x => no5 ((h.c12 x).2.1) hd, h.c14, h.k3, fun _ => hb, h.k11⟩
theorem Js.t8 (h0 : Js w g0 lt lr lw rt rr rw d f W) (hd : d 11 = false) : Js w g0 lt lr lw rt rr rw (upd d 8 true) (upd f 33 (.slice (some ⟨W.heap.size, 0, none⟩) 0 0)) (W.alloc (.cells #[] 40)) := by
  have h := h0.below (alloc_below W (.cells #[] 40))
  exact ⟨h.bel, h.ct, h.cr, ⟨fun _ _ => own_empty W _ _ _ h0.bel.size, fun x => no5 x hd⟩, h.p1, h.p5, h.p9, h.l2, h.l6, h.l10, h.b12, h.a13, h.s14, h.c12, h.c14, h.k3, h.k7, fun _ => rfl⟩
theorem Js.t9 (h : Js w g0 lt lr lw rt rr rw d f W) : Js w g0 lt lr lw rt rr rw (upd d 9 true) (upd f 34 (.pointer (some ⟨g0, 2, none⟩))) W :=
  ⟨h.bel, h.ct, h.cr, h.cw, h.p1, h.p5, fun _ => rfl, h.l2, h.l6, h.l10, h.b12, h.a13, h.s14, h.c12, h.c14, h.k3, h.k7, h.k11⟩
theorem Js.t10 (h : Js w g0 lt lr lw rt rr rw d f W) : Js w g0 lt lr lw rt rr rw (upd d 10 true) (upd f 35 lw) W :=
  ⟨h.bel, h.ct, h.cr, h.cw, h.p1, h.p5, h.p9, h.l2, h.l6, fun _ => rfl, h.b12, h.a13, h.s14, h.c12, h.c14, h.k3, h.k7, h.k11⟩
theorem Js.t11 (h : Js w g0 lt lr lw rt rr rw d f W) (hd : d 11 = false) (hb : d 8 = true) {v' : Value} (hg : W.grownBy W' (f 33).ownBlock) (hn : OwnR W' w.heap.size 40 10 v' rw) : Js w g0 lt lr lw rt rr rw (upd d 11 true) (upd f 36 v') W' := by
  have ho := (h.cw.b hb hd).1
  exact ⟨h.bel.grown hg h.bel.size (fun g e => (World.ownsRow.lt ho g e).1), h.ct.grown hg ho (by decide), h.cr.grown hg ho (by decide), ⟨fun _ y => tf5 y, fun _ => hn⟩, h.p1, h.p5, h.p9, h.l2, h.l6, h.l10, fun x => no5 ((h.c12 x).2.2) hd, fun x y => by obtain ⟨bu, e1, e2, e3⟩ := h.a13 x y; exact ⟨bu, e1, e2, blk_grown e3 hg ho (by decide)⟩, fun y => no5 (by have x := (h.c14 y).1; exact (h.c12 x).2.2) hd, fun x => no5 ((h.c12 x).2.2) hd, h.c14, h.k3, h.k7, fun _ => hb⟩
theorem Js.t12 (h : Js w g0 lt lr lw rt rr rw d f W) (h3 : d 3 = true) (h7 : d 7 = true) (h11 : d 11 = true) (hd : d 12 = false) : Js w g0 lt lr lw rt rr rw (upd d 12 true) (upd f 37 (.agg #[f 28, f 32, f 36])) W :=
  ⟨h.bel, h.ct, h.cr, h.cw, h.p1, h.p5, h.p9, h.l2, h.l6, h.l10, fun _ => rfl, h.a13, h.s14, fun _ => ⟨h3, h7, h11⟩, fun x => no5 (h.c14 x).1 hd, h.k3, h.k7, h.k11⟩
theorem Js.t13 (h0 : Js w g0 lt lr lw rt rr rw d f W) (hd : d 13 = false) : Js w g0 lt lr lw rt rr rw (upd d 13 true) (upd f 5 (.pointer (some ⟨W.heap.size, 0, none⟩))) (W.alloc (.cells zB 27)) := by
  have h := h0.below (alloc_below W (.cells zB 27))
  exact ⟨h.bel, h.ct, h.cr, h.cw, h.p1, h.p5, h.p9, h.l2, h.l6, h.l10, h.b12, fun _ _ => ⟨W.heap.size, rfl, h0.bel.size, rowNew W _⟩, fun x => no5 (h.c14 x).2 hd, h.c12, fun x => no5 (h.c14 x).2 hd, h.k3, h.k7, h.k11⟩
theorem Js.t14 (h : Js w g0 lt lr lw rt rr rw d f W) (hd : d 14 = false) (h13 : d 13 = true) (h12 : d 12 = true) {bu : Nat} (e5 : f 5 = .pointer (some ⟨bu, 0, none⟩)) (eb : w.heap.size ≤ bu) (er : W.heap[bu]? = some (.cells zB 27 (0, 0))) :
    Js w g0 lt lr lw rt rr rw (upd d 14 true) f (((W.setCell ⟨bu, 0, none⟩ (f 28)).setCell ⟨bu, 1, none⟩ (f 32)).setCell ⟨bu, 2, none⟩ (f 36)) := by
  have r0 := rowSet er 0 (f 28)
  have r1 := rowSet r0 1 (f 32)
  exact ⟨below3b h.bel eb _ _ _, ((h.ct.set er (by decide) _ _).set r0 (by decide) _ _).set r1 (by decide) _ _, ((h.cr.set er (by decide) _ _).set r0 (by decide) _ _).set r1 (by decide) _ _, ((h.cw.set er (by decide) _ _).set r0 (by decide) _ _).set r1 (by decide) _ _, h.p1, h.p5, h.p9, h.l2, h.l6, h.l10, h.b12, fun _ y => tf5 y, fun _ => ⟨bu, e5, eb, row3 er _ _ _⟩, h.c12, fun _ => ⟨h12, h13⟩, h.k3, h.k7, h.k11⟩
end
theorem run_none0 (w : World) : (Instr.buildSlice 23 0 #[]).run Tryz.prog w = .ok (.slice (some ⟨w.heap.size, 0, none⟩) 0 0) (w.alloc (.cells #[] 34)) := by go_simp
theorem run_field1 (w : World) (b : Nat) : (Instr.fieldAt 27 (.pointer (some ⟨b, 0, none⟩)) 0).run Tryz.prog w = .ok (.pointer (some ⟨b, 0, none⟩)) w := by go_simp
theorem run_load2 (w : World) (b : Nat) (ao : Option Addr) (n cap : Nat) (h : w.cell? ⟨b, 0, none⟩ = some (.slice ao n cap)) : (Instr.loadAt 23 (.pointer (some ⟨b, 0, none⟩))).run Tryz.prog w = .ok (.slice ao n cap) w := by go_simp
theorem run_none4 (w : World) : (Instr.buildSlice 24 0 #[]).run Tryz.prog w = .ok (.slice (some ⟨w.heap.size, 0, none⟩) 0 0) (w.alloc (.cells #[] 38)) := by go_simp
theorem run_field5 (w : World) (b : Nat) : (Instr.fieldAt 27 (.pointer (some ⟨b, 0, none⟩)) 1).run Tryz.prog w = .ok (.pointer (some ⟨b, 1, none⟩)) w := by go_simp
theorem run_load6 (w : World) (b : Nat) (ao : Option Addr) (n cap : Nat) (h : w.cell? ⟨b, 1, none⟩ = some (.slice ao n cap)) : (Instr.loadAt 24 (.pointer (some ⟨b, 1, none⟩))).run Tryz.prog w = .ok (.slice ao n cap) w := by go_simp
theorem run_none8 (w : World) : (Instr.buildSlice 25 0 #[]).run Tryz.prog w = .ok (.slice (some ⟨w.heap.size, 0, none⟩) 0 0) (w.alloc (.cells #[] 40)) := by go_simp
theorem run_field9 (w : World) (b : Nat) : (Instr.fieldAt 27 (.pointer (some ⟨b, 0, none⟩)) 2).run Tryz.prog w = .ok (.pointer (some ⟨b, 2, none⟩)) w := by go_simp
theorem run_load10 (w : World) (b : Nat) (ao : Option Addr) (n cap : Nat) (h : w.cell? ⟨b, 2, none⟩ = some (.slice ao n cap)) : (Instr.loadAt 25 (.pointer (some ⟨b, 2, none⟩))).run Tryz.prog w = .ok (.slice ao n cap) w := by go_simp
theorem run_bk (w : World) (ta ra wa : Option Addr) (tn rn wn tc rc wc : Nat) : (Instr.build 27 #[(0, .slice ta tn tc), (1, .slice ra rn rc), (2, .slice wa wn wc)]).run Tryz.prog w = .ok (.agg #[.slice ta tn tc, .slice ra rn rc, .slice wa wn wc]) w := by go_simp
theorem run_allocB (w : World) : (Instr.alloc 27 true (.tuple #[])).run Tryz.prog w = .ok (.pointer (some ⟨w.heap.size, 0, none⟩)) (w.alloc (.cells zB 27)) := by unfold zB; go_simp
theorem run_storeB (W : World) (b : Nat) (ta ra wa : Option Addr) (tn rn wn tc rc wc : Nat) (h : W.heap[b]? = some (.cells zB 27 (0, 0))) : (Instr.storeAt 27 (.pointer (some ⟨b, 0, none⟩)) (.agg #[.slice ta tn tc, .slice ra rn rc, .slice wa wn wc])).run Tryz.prog W = .ok () (((W.setCell ⟨b, 0, none⟩ (.slice ta tn tc)).setCell ⟨b, 1, none⟩ (.slice ra rn rc)).setCell ⟨b, 2, none⟩ (.slice wa wn wc)) := by
  have c0 : W.cell? ⟨b, 0, none⟩ = some (.slice none 0 0) := cellRow h 0
  have c1 : W.cell? ⟨b, 1, none⟩ = some (.slice none 0 0) := cellRow h 1
  have c2 : W.cell? ⟨b, 2, none⟩ = some (.slice none 0 0) := cellRow h 2
  have f0 := freeRow h 0
  have f1 := freeRow h 1
  have f2 := freeRow h 2
  go_simp
structure CopyOps (ops : Array Oper) : Prop where
  size : ops.size = 15
  fw : fwd .any ops = true
  o0 : ∃ o, ops[0]? = some o ∧ o.op = .buildSlice 23 0 #[] ∧ o.guard = none ∧ o.dst = some 25
  o1 : ∃ o, ops[1]? = some o ∧ o.op = .fieldAddr 27 (.tmp 2) 0 ∧ o.guard = none ∧ o.dst = some 26
  o2 : ∃ o, ops[2]? = some o ∧ o.op = .load 23 (.tmp 26) ∧ o.guard = none ∧ o.dst = some 27 ∧ o.after.any (fun e => Region.binds .any e && e.on == 1) = true
  o3 : ∃ o, ops[3]? = some o ∧ o.op = .call { callee := .builtin .append, args := #[.tmp 25, .tmp 27], argTypes := #[23, 23] } ∧ o.guard = none ∧ o.dst = some 28 ∧ o.after.any (fun e => Region.binds .any e && e.on == 0) = true ∧ o.after.any (fun e => Region.binds .any e && e.on == 2) = true
  o4 : ∃ o, ops[4]? = some o ∧ o.op = .buildSlice 24 0 #[] ∧ o.guard = none ∧ o.dst = some 29
  o5 : ∃ o, ops[5]? = some o ∧ o.op = .fieldAddr 27 (.tmp 2) 1 ∧ o.guard = none ∧ o.dst = some 30
  o6 : ∃ o, ops[6]? = some o ∧ o.op = .load 24 (.tmp 30) ∧ o.guard = none ∧ o.dst = some 31 ∧ o.after.any (fun e => Region.binds .any e && e.on == 5) = true
  o7 : ∃ o, ops[7]? = some o ∧ o.op = .call { callee := .builtin .append, args := #[.tmp 29, .tmp 31], argTypes := #[24, 24] } ∧ o.guard = none ∧ o.dst = some 32 ∧ o.after.any (fun e => Region.binds .any e && e.on == 4) = true ∧ o.after.any (fun e => Region.binds .any e && e.on == 6) = true
  o8 : ∃ o, ops[8]? = some o ∧ o.op = .buildSlice 25 0 #[] ∧ o.guard = none ∧ o.dst = some 33
  o9 : ∃ o, ops[9]? = some o ∧ o.op = .fieldAddr 27 (.tmp 2) 2 ∧ o.guard = none ∧ o.dst = some 34
  o10 : ∃ o, ops[10]? = some o ∧ o.op = .load 25 (.tmp 34) ∧ o.guard = none ∧ o.dst = some 35 ∧ o.after.any (fun e => Region.binds .any e && e.on == 9) = true
  o11 : ∃ o, ops[11]? = some o ∧ o.op = .call { callee := .builtin .append, args := #[.tmp 33, .tmp 35], argTypes := #[25, 25] } ∧ o.guard = none ∧ o.dst = some 36 ∧ o.after.any (fun e => Region.binds .any e && e.on == 8) = true ∧ o.after.any (fun e => Region.binds .any e && e.on == 10) = true
  o12 : ∃ o, ops[12]? = some o ∧ o.op = .build 27 #[(0, .tmp 28), (1, .tmp 32), (2, .tmp 36)] ∧ o.guard = none ∧ o.dst = some 37 ∧ o.after.any (fun e => Region.binds .any e && e.on == 3) = true ∧ o.after.any (fun e => Region.binds .any e && e.on == 7) = true ∧ o.after.any (fun e => Region.binds .any e && e.on == 11) = true
  o13 : ∃ o, ops[13]? = some o ∧ o.op = .alloc 27 ∧ o.guard = none ∧ o.dst = some 5
  o14 : ∃ o, ops[14]? = some o ∧ o.op = .store 27 (.tmp 5) (.tmp 37) ∧ o.guard = none ∧ o.dst = none ∧ o.after.any (fun e => Region.binds .any e && e.on == 13) = true ∧ o.after.any (fun e => Region.binds .any e && e.on == 12) = true
def KS5 : List Nat := [5, 25, 26, 27, 28, 29, 30, 31, 32, 33, 34, 35, 36, 37]
def JS (w : World) (g0 : Nat) (lt lr lw : Value) (rt rr rw : List (List Value)) (a0 : Act) (l : Array Bool) (a : Act) (W : World) : Prop :=
  l.size = 15 ∧ Frm a0 KS5 a ∧ Js w g0 lt lr lw rt rr rw (up l) (slot a) W
theorem JS.put {w W W' : World} {g0 : Nat} {lt lr lw : Value} {rt rr rw : List (List Value)} {a0 : Act} (hz : 38 ≤ a0.tmps.size) {l : Array Bool} {a : Act} (h : JS w g0 lt lr lw rt rr rw a0 l a W) {i r : Nat} {v : Value} (hi : i < 15) (hr : r ∈ KS5) (hr61 : r < 38)
    (hJ : Js w g0 lt lr lw rt rr rw (upd (up l) i true) (upd (slot a) r v) W') : JS w g0 lt lr lw rt rr rw a0 (l.setIfInBounds i true) (a.put (some r) v) W' := by
  obtain ⟨h1, h2, _⟩ := h
  refine ⟨by simp [h1], h2.put hr v, ?_⟩
  rw [up_set (by omega), slot_put (by rw [h2.size]; omega)]
  exact hJ
set_option maxHeartbeats 2000000 in
/-- The region: three lists of this call's own, a block that holds them. -/
theorem copy_region {ops : Array Oper} (hB : CopyOps ops) {id : Nat} {Q : Exit → Act → World → Prop} {a0 : Act} {w : World} {g0 : Nat} {ta ra wa : Option Addr} {tn rn wn tc rc wc : Nat} {rt rr rw : List (List Value)}
    (hz : 38 ≤ a0.tmps.size) (h2 : slot a0 2 = .pointer (some ⟨g0, 0, none⟩)) (hg : w.heap[g0]? = some (.cells #[.slice ta tn tc, .slice ra rn rc, .slice wa wn wc] 27 (0, 0)))
    (ht : RdR0 w 4 ta rt) (hr : RdR0 w 8 ra rr) (hw : RdR0 w 10 wa rw) (lt : rt.length = tn) (lr : rr.length = rn) (lw : rw.length = wn) (yt : RowsC 4 rt) (yr : RowsC 8 rr) (yw : RowsC 10 rw)
    (st : (ta = none ∧ rt.length = 0 ∧ tc = 0) ∨ ∃ a, ta = some a) (sr : (ra = none ∧ rr.length = 0 ∧ rc = 0) ∨ ∃ a, ra = some a) (sw : (wa = none ∧ rw.length = 0 ∧ wc = 0) ∨ ∃ a, wa = some a)
    (ot : ∀ r ∈ rt, ∀ u ∈ r, u.oneCell' = true) (orr : ∀ r ∈ rr, ∀ u ∈ r, u.oneCell' = true) (ow : ∀ r ∈ rw, ∀ u ∈ r, u.oneCell' = true) (nt : tn ≤ 1000000) (nr : rn ≤ 1000000) (nw : wn ≤ 1000000)
    (hQ : ∀ f W bu, f 5 = .pointer (some ⟨bu, 0, none⟩) → w.heap.size ≤ bu → W.heap[bu]? = some (.cells #[f 28, f 32, f 36] 27 (0, 0)) → OwnR W w.heap.size 34 4 (f 28) rt → OwnR W w.heap.size 38 8 (f 32) rr → OwnR W w.heap.size 40 10 (f 36) rw → Below w.heap.size w W → Q .normal (puts f KS5 a0) W) : (Code.region id ops true).wp Tryz.prog Q a0 w := by
  subst lt lr lw
  refine wp_region_inv (JS w g0 (.slice ta rt.length tc) (.slice ra rr.length rc) (.slice wa rw.length wc) rt rr rw a0) (by kernel_rfl) ?_ ?_ ?_
  · refine ⟨by simp [hB.size], Frm.refl _ _, ?_⟩
    have hu : ∀ k, up (Array.replicate ops.size false) k = false := fun k => by
      unfold up
      by_cases h : k < ops.size <;> simp [h]
    exact ⟨below_dq (Below.refl _ _), ⟨fun a => no5 a (hu _), fun a => no5 a (hu _)⟩, ⟨fun a => no5 a (hu _), fun a => no5 a (hu _)⟩, ⟨fun a => no5 a (hu _), fun a => no5 a (hu _)⟩, fun a => no5 a (hu _), fun a => no5 a (hu _), fun a => no5 a (hu _), fun a => no5 a (hu _), fun a => no5 a (hu _), fun a => no5 a (hu _), fun a => no5 a (hu _), fun a => no5 a (hu _), fun a => no5 a (hu _), fun a => no5 a (hu _), fun a => no5 a (hu _), fun a => no5 a (hu _), fun a => no5 a (hu _), fun a => no5 a (hu _)⟩
  · intro i l a W hi hI
    have hno := ready_not hi
    have hI2 := hI
    obtain ⟨hs, hF, hJ⟩ := hI2
    have hi15 : i < 15 := by
      obtain ⟨_, o, ho, _⟩ := mem_ready.1 hi
      have := (Array.getElem?_eq_some_iff.1 ho).1
      rw [hB.size] at this; exact this
    have hnk : ∀ k, k ∉ KS5 → slot a k = slot a0 k := fun k hk => hF.slot hk
    have hgW := (hJ.bel.block _ (lt_of_block hg)).trans hg
    obtain rfl | rfl | rfl | rfl | rfl | rfl | rfl | rfl | rfl | rfl | rfl | rfl | rfl | rfl | rfl : i = 0 ∨ i = 1 ∨ i = 2 ∨ i = 3 ∨ i = 4 ∨ i = 5 ∨ i = 6 ∨ i = 7 ∨ i = 8 ∨ i = 9 ∨ i = 10 ∨ i = 11 ∨ i = 12 ∨ i = 13 ∨ i = 14 := by omega
    · obtain ⟨o, e, k, g, r⟩ := hB.o0
      refine wpOp_plain e g (op_val (Instr.buildSlice 23 0 #[]) (by simp [execOp, k]) (run_none0 W) ?_)
      rw [r]
      exact hI.put hz (by omega) (by decide) (by omega) (hJ.t0 (by
        cases hx : up l 3 with
        | false => rfl
        | true => exact no5 (hJ.k3 hx) hno))
    · obtain ⟨o, e, k, g, r⟩ := hB.o1
      refine wpOp_plain e g (op_val (Instr.fieldAt 27 (.pointer (some ⟨g0, 0, none⟩)) 0) (by simp only [execOp, k]; rw [eval_slot, hnk 2 (by decide), h2]) (run_field1 W _) ?_)
      rw [r]
      exact hI.put hz (by omega) (by decide) (by omega) hJ.t1
    · obtain ⟨o, e, k, g, r, q1⟩ := hB.o2
      have d1 := ready_pred hi e 1 q1
      refine wpOp_plain e g (op_val (Instr.loadAt 23 (.pointer (some ⟨g0, 0, none⟩))) (by simp only [execOp, k]; rw [eval_slot, hJ.p1 d1]) (run_load2 W _ ta rt.length tc (cellRow hgW 0)) ?_)
      rw [r]
      exact hI.put hz (by omega) (by decide) (by omega) hJ.t2
    · obtain ⟨o, e, k, g, r, q1, q2⟩ := hB.o3
      have d1 := ready_pred hi e 0 q1
      have d2 := ready_pred hi e 2 q2
      have hO := hJ.ct.b d1 hno
      refine wpOp_plain e g (appRwAll (ys := rt) k Tryz.underlying23 tbinfo rfl (by decide) (slot a 25) (eval_slot _ _) hO (by rw [eval_slot]; exact hJ.l2 d2) (ht.below hJ.bel) yt st ot (by show 0 + _ ≤ _; omega) (by decide) hJ.bel.size ?_)
      intro v' W' ho' hgr
      rw [r]
      exact hI.put hz (by omega) (by decide) (by omega) (hJ.t3 hno d1 hgr ho')
    · obtain ⟨o, e, k, g, r⟩ := hB.o4
      refine wpOp_plain e g (op_val (Instr.buildSlice 24 0 #[]) (by simp [execOp, k]) (run_none4 W) ?_)
      rw [r]
      exact hI.put hz (by omega) (by decide) (by omega) (hJ.t4 (by
        cases hx : up l 7 with
        | false => rfl
        | true => exact no5 (hJ.k7 hx) hno))
    · obtain ⟨o, e, k, g, r⟩ := hB.o5
      refine wpOp_plain e g (op_val (Instr.fieldAt 27 (.pointer (some ⟨g0, 0, none⟩)) 1) (by simp only [execOp, k]; rw [eval_slot, hnk 2 (by decide), h2]) (run_field5 W _) ?_)
      rw [r]
      exact hI.put hz (by omega) (by decide) (by omega) hJ.t5
    · obtain ⟨o, e, k, g, r, q1⟩ := hB.o6
      have d1 := ready_pred hi e 5 q1
      refine wpOp_plain e g (op_val (Instr.loadAt 24 (.pointer (some ⟨g0, 1, none⟩))) (by simp only [execOp, k]; rw [eval_slot, hJ.p5 d1]) (run_load6 W _ ra rr.length rc (cellRow hgW 1)) ?_)
      rw [r]
      exact hI.put hz (by omega) (by decide) (by omega) hJ.t6
    · obtain ⟨o, e, k, g, r, q1, q2⟩ := hB.o7
      have d1 := ready_pred hi e 4 q1
      have d2 := ready_pred hi e 6 q2
      have hO := hJ.cr.b d1 hno
      refine wpOp_plain e g (appRwAll (ys := rr) k Tryz.underlying24 ruinfo rfl (by decide) (slot a 29) (eval_slot _ _) hO (by rw [eval_slot]; exact hJ.l6 d2) (hr.below hJ.bel) yr sr orr (by show 0 + _ ≤ _; omega) (by decide) hJ.bel.size ?_)
      intro v' W' ho' hgr
      rw [r]
      exact hI.put hz (by omega) (by decide) (by omega) (hJ.t7 hno d1 hgr ho')
    · obtain ⟨o, e, k, g, r⟩ := hB.o8
      refine wpOp_plain e g (op_val (Instr.buildSlice 25 0 #[]) (by simp [execOp, k]) (run_none8 W) ?_)
      rw [r]
      exact hI.put hz (by omega) (by decide) (by omega) (hJ.t8 (by
        cases hx : up l 11 with
        | false => rfl
        | true => exact no5 (hJ.k11 hx) hno))
    · obtain ⟨o, e, k, g, r⟩ := hB.o9
      refine wpOp_plain e g (op_val (Instr.fieldAt 27 (.pointer (some ⟨g0, 0, none⟩)) 2) (by simp only [execOp, k]; rw [eval_slot, hnk 2 (by decide), h2]) (run_field9 W _) ?_)
      rw [r]
      exact hI.put hz (by omega) (by decide) (by omega) hJ.t9
    · obtain ⟨o, e, k, g, r, q1⟩ := hB.o10
      have d1 := ready_pred hi e 9 q1
      refine wpOp_plain e g (op_val (Instr.loadAt 25 (.pointer (some ⟨g0, 2, none⟩))) (by simp only [execOp, k]; rw [eval_slot, hJ.p9 d1]) (run_load10 W _ wa rw.length wc (cellRow hgW 2)) ?_)
      rw [r]
      exact hI.put hz (by omega) (by decide) (by omega) hJ.t10
    · obtain ⟨o, e, k, g, r, q1, q2⟩ := hB.o11
      have d1 := ready_pred hi e 8 q1
      have d2 := ready_pred hi e 10 q2
      have hO := hJ.cw.b d1 hno
      refine wpOp_plain e g (appRwAll (ys := rw) k Tryz.underlying25 wtinfo rfl (by decide) (slot a 33) (eval_slot _ _) hO (by rw [eval_slot]; exact hJ.l10 d2) (hw.below hJ.bel) yw sw ow (by show 0 + _ ≤ _; omega) (by decide) hJ.bel.size ?_)
      intro v' W' ho' hgr
      rw [r]
      exact hI.put hz (by omega) (by decide) (by omega) (hJ.t11 hno d1 hgr ho')
    · obtain ⟨o, e, k, g, r, q1, q2, q3⟩ := hB.o12
      obtain ⟨t1, t2, et, -⟩ := (hJ.ct.a (ready_pred hi e 3 q1)).form (by decide)
      obtain ⟨r1, r2, er2, -⟩ := (hJ.cr.a (ready_pred hi e 7 q2)).form (by decide)
      obtain ⟨w1, w2, ew, -⟩ := (hJ.cw.a (ready_pred hi e 11 q3)).form (by decide)
      have hbk := run_bk W t1 r1 w1 rt.length rr.length rw.length t2 r2 w2
      rw [← et, ← er2, ← ew] at hbk
      refine wpOp_plain e g (op_val (Instr.build 27 #[(0, slot a 28), (1, slot a 32), (2, slot a 36)]) (by simp only [execOp, k]; simp [eval_slot]) hbk ?_)
      rw [r]
      exact hI.put hz (by omega) (by decide) (by omega) (hJ.t12 (ready_pred hi e 3 q1) (ready_pred hi e 7 q2) (ready_pred hi e 11 q3) hno)
    · obtain ⟨o, e, k, g, r⟩ := hB.o13
      refine wpOp_plain e g (op_val (Instr.alloc 27 true (.tuple #[])) (by simp only [execOp, k]) (run_allocB W) ?_)
      rw [r]
      exact hI.put hz (by omega) (by decide) (by omega) (hJ.t13 hno)
    · obtain ⟨o, e, k, g, r, q1, q2⟩ := hB.o14
      have d13 := ready_pred hi e 13 q1
      have d12 := ready_pred hi e 12 q2
      obtain ⟨bu, e5, eb, er⟩ := hJ.a13 d13 hno
      obtain ⟨c3, c7, c11⟩ := hJ.c12 d12
      obtain ⟨t1, t2, et, -⟩ := (hJ.ct.a c3).form (by decide)
      obtain ⟨r1, r2, er2, -⟩ := (hJ.cr.a c7).form (by decide)
      obtain ⟨w1, w2, ew, -⟩ := (hJ.cw.a c11).form (by decide)
      have hst := run_storeB W bu t1 r1 w1 rt.length rr.length rw.length t2 r2 w2 er
      rw [← et, ← er2, ← ew] at hst
      refine wpOp_plain e g (op_unit (Instr.storeAt 27 (.pointer (some ⟨bu, 0, none⟩)) (.agg #[slot a 28, slot a 32, slot a 36])) (by simp only [execOp, k]; rw [eval_slot, eval_slot, e5, hJ.b12 d12]) hst ?_)
      rw [r]
      refine ⟨by simp [hs], hF, ?_⟩
      rw [up_set (by omega)]
      exact hJ.t14 hno d13 d12 e5 eb er
  · rintro l a W hr ⟨hs, hF, hJ⟩
    have hall := all_up hB.fw (by rw [hs, hB.size]) hr 15
    have h14 := hall 14 (by omega) (by rw [hB.size]; omega)
    obtain ⟨bu, e5, eb, er⟩ := hJ.s14 h14
    obtain ⟨c3, c7, c11⟩ := hJ.c12 (hJ.c14 h14).1
    rw [hF.eq]
    exact hQ _ W bu e5 eb er (hJ.ct.a c3) (hJ.cr.a c7) (hJ.cw.a c11) hJ.bel
end Go.Proofs.YtaeglmgpoboihaaGreatDoor
