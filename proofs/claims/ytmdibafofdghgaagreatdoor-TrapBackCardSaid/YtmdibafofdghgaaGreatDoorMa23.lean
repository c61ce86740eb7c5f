/- Texts on the program and on the document, joined: ValF. -/
import Derived.Test.YtmdibafofdghgaaGreatDoorMa12
/- The document's Decode of values, walked. -/
namespace Go.Proofs.YtmdibafofdghgaaGreatDoor
open Go.ChangeShapes Go.WideShapes Go.ChangeAt Go.RowKit K P1 B5
set_option linter.unusedVariables false

theorem results_cell_row2 {P : Program} {fn : Func} {p u : Tmp} {ty : TypeId} (h : fn.results = #[.cell p ty, .tmp u]) (tmps : Array Value) (w : World) (g : Nat) (t : TypeId) (cs : Array Value) (fr : Nat × Nat) (d : TypeDesc)
    (hp : tmps.getD p undef = .pointer (some ⟨g, 0, none⟩)) (hg : w.heap[g]? = some (.cells cs t fr))
    (hu : P.underlying ty = some d) (hd : (match d with | .struct _ | .array _ _ => true | _ => false) = true) (hi : (P.info? ty).map (·.size) = some cs.size) :
    (results fn tmps).run P w = .ok (.tuple #[.agg cs, tmps.getD u undef]) w := by
  have hp' : tmps[p]?.getD undef = .pointer (some ⟨g, 0, none⟩) := by simpa using hp
  simp [results, h, hp', asAddr, run_loadVar_row w g t ty cs fr d hg hu hd hi]
/-- A value's row. -/
def Vw (x : World) (b : Nat) (k n : Int) (s : List UInt8) : Prop := x.heap[b]? = some (.cells #[.int .i64 k, .int .i64 n, .string (bs s)] 46 (0, 0))
theorem Vw.cells {x : World} {b : Nat} {k n : Int} {s : List UInt8} (h : Vw x b k n s) : x.cell? ⟨b, 0, none⟩ = some (.int .i64 k) ∧ x.cell? ⟨b, 1, none⟩ = some (.int .i64 n) ∧ x.cell? ⟨b, 2, none⟩ = some (.string (bs s)) ∧ x.frozen? ⟨b, 0, none⟩ = false ∧ x.frozen? ⟨b, 1, none⟩ = false ∧ x.frozen? ⟨b, 2, none⟩ = false :=
  ⟨cellRow h 0, cellRow h 1, cellRow h 2, freeRow h 0, freeRow h 1, freeRow h 2⟩
theorem Vw.lt {x : World} {b : Nat} {k n : Int} {s : List UInt8} (h : Vw x b k n s) : b < x.heap.size := lt_of_block h
theorem Vw.below {x y : World} {b : Nat} {k n : Int} {s : List UInt8} (h : Vw x b k n s) (k1 : Below x.heap.size x y) : Vw y b k n s := (k1.block b h.lt).trans h
theorem Vw.alloc {x : World} {b : Nat} {k n : Int} {s : List UInt8} (h : Vw x b k n s) (o : Obj) : Vw (x.alloc o) b k n s := h.below (alloc_in x o)
theorem Vw.new (w : World) (k n : Int) (s : List UInt8) : Vw (w.alloc (.cells #[.int .i64 k, .int .i64 n, .string (bs s)] 46)) w.heap.size k n s := rowNew w _
theorem Vw.setN {x : World} {b : Nat} {k n : Int} {s : List UInt8} (h : Vw x b k n s) (m : Int) : Vw (x.setCell ⟨b, 1, none⟩ (.int .i64 m)) b k m s := by
  have := rowSet h 1 (.int .i64 m); simpa [Vw] using this
theorem Vw.setS {x : World} {b : Nat} {k n : Int} {s : List UInt8} (h : Vw x b k n s) (t : List UInt8) : Vw (x.setCell ⟨b, 2, none⟩ (.string (bs t))) b k n t := by
  have := rowSet h 2 (.string (bs t)); simpa [Vw] using this
theorem Vw.setK {x : World} {b : Nat} {k n : Int} {s : List UInt8} (h : Vw x b k n s) (m : Int) : Vw (x.setCell ⟨b, 0, none⟩ (.int .i64 m)) b m n s := by
  have := rowSet h 0 (.int .i64 m); simpa [Vw] using this
theorem Vw.setElse {x : World} {b : Nat} {k n : Int} {s : List UInt8} (h : Vw x b k n s) (g i : Nat) (hg : b ≠ g) (u : Value) : Vw (x.setCell ⟨g, i, none⟩ u) b k n s :=
  (Below.heap_setCell _ _ _ _ hg).trans h
/-- The two blocks of Decode: what is handed back, and the value that is read. -/
theorem two_blocks (w : World) (k : Int) : ∃ w2, (w.alloc (.cells #[.int .i64 0, .int .i64 0, .string { data := #[] }] 46)).alloc (.cells #[.int .i64 k, .int .i64 0, .string { data := #[] }] 46) = w2 ∧
    Vw w2 w.heap.size 0 0 [] ∧ Vw w2 (w.heap.size + 1) k 0 [] ∧ Below w.heap.size w w2 := by
  refine ⟨_, rfl, (Vw.new w 0 0 []).alloc _, ?_, ((Below.refl _ _).alloc (Nat.le_refl _) _).alloc (by simp) _⟩
  have := Vw.new (w.alloc (.cells #[.int .i64 0, .int .i64 0, .string { data := #[] }] 46)) k 0 []
  rw [show (w.alloc (.cells #[.int .i64 0, .int .i64 0, .string { data := #[] }] 46)).heap.size = w.heap.size + 1 by simp] at this
  exact this
theorem two_blocksS (w : World) (k : Int) (t : List UInt8) : ∃ w2, (w.alloc (.cells #[.int .i64 0, .int .i64 0, .string { data := #[] }] 46)).alloc (.cells #[.int .i64 k, .int .i64 0, .string (bs t)] 46) = w2 ∧
    Vw w2 w.heap.size 0 0 [] ∧ Vw w2 (w.heap.size + 1) k 0 t ∧ Below w.heap.size w w2 := by
  refine ⟨_, rfl, (Vw.new w 0 0 []).alloc _, ?_, ((Below.refl _ _).alloc (Nat.le_refl _) _).alloc (by simp) _⟩
  have := Vw.new (w.alloc (.cells #[.int .i64 0, .int .i64 0, .string { data := #[] }] 46)) k 0 t
  rw [show (w.alloc (.cells #[.int .i64 0, .int .i64 0, .string { data := #[] }] 46)).heap.size = w.heap.size + 1 by simp] at this
  exact this
set_option maxRecDepth 100000 in
set_option maxHeartbeats 1000000 in
theorem qdecode7_two (b : List UInt8) (hb : b.length ≤ 140737488351232) (w : World) :
    Calls Tryz.prog 74 #[.int .i64 2, .string (bs b)] w fun e w' => e = .returned (.tuple #[.agg #[.int .i64 (V7.dvK 2 b), .int .i64 (V7.dvN 2 b), .string (bs (V7.dvS 2 b))], .int .i64 (V7.dvE 2 b : Nat)]) ∧ Below w.heap.size w w' := by
  have hN := fun w1 => qbnumber_walk b hb w1
  cases hn : nOk b
  · obtain ⟨a1, a2⟩ := nu_no hn
    rw [a1, a2] at hN
    have hd : V7.deOk 2 b = false := by unfold V7.deOk V7.rdV; rw [if_pos rfl, hn]; rfl
    obtain ⟨d1, d2, d3, d4⟩ := V7.dv_no hd
    rw [d1, d2, d3, d4]
    have HN := Lib.hid hN
    clear hN hn a1 a2 hd d1 d2 d3 d4
    go_enter Tryz.func74, Tryz.ntmps74
    go_wp2_with fail
    obtain ⟨w2, hw2, v0, v1, bw⟩ := two_blocks w 2
    rw [hw2]
    refine (HN.out _).mono ?_
    rintro e w1 ⟨rfl, rfl⟩
    obtain ⟨c0, c1, c2, f0, f1, f2⟩ := v1.cells
    obtain ⟨y0, y1, y2, g0, g1, g2⟩ := v0.cells
    clear hw2
    have PX := (((v0.setElse (w.heap.size + 1) 1 (by omega) (.int .i64 0)).setK 0).setN 0).setS []
    go_wp2
    refine bodyPost_ret (results_cell_row2 rfl _ _ w.heap.size _ _ _ _ rfl PX Tryz.underlying46 rfl (by kernel_rfl)) rfl ?_
    exact ⟨rfl, (((bw.setCell (p := ⟨w.heap.size + 1, 1, none⟩) (Nat.le_succ _) _).setCell (p := ⟨w.heap.size, 0, none⟩) (Nat.le_refl _) _).setCell (p := ⟨w.heap.size, 1, none⟩) (Nat.le_refl _) _).setCell (p := ⟨w.heap.size, 2, none⟩) (Nat.le_refl _) _⟩
  · obtain ⟨a1, a2⟩ := nu_yes hn
    rw [a1, a2] at hN
    have hnb := V7.nv_bounds hn
    have hC := fun w1 => qcheck_walk 2 (nv b) [] (by simp) w1
    have hr : V7.rdV 2 b = (nv b, [], true) := by unfold V7.rdV; rw [if_pos rfl, hn]
    cases hk : V7.ckV 2 (nv b) []
    · have hd : V7.deOk 2 b = false := by unfold V7.deOk; rw [hr]; exact hk
      have e2 : V7.ckE 2 (nv b) [] = 70 := by unfold V7.ckE; rw [hk]; rfl
      rw [e2] at hC
      obtain ⟨d1, d2, d3, d4⟩ := V7.dv_no hd
      rw [d1, d2, d3, d4]
      have HN := Lib.hid hN
      have HC := Lib.hid hC
      clear hN hC hn a1 a2 hd d1 d2 d3 d4 hr hk e2
      generalize nv b = z at *
      go_enter Tryz.func74, Tryz.ntmps74
      go_wp2_with fail
      obtain ⟨w2, hw2, v0, v1, bw⟩ := two_blocks w 2
      rw [hw2]
      refine (HN.out _).mono ?_
      rintro e w1 ⟨rfl, rfl⟩
      obtain ⟨c0, c1, c2, f0, f1, f2⟩ := v1.cells
      have u1 := v1.setN z
      have u0 := v0.setElse (w.heap.size + 1) 1 (by omega) (.int .i64 z)
      have bu := bw.setCell (p := ⟨w.heap.size + 1, 1, none⟩) (Nat.le_succ _) (.int .i64 z)
      obtain ⟨q0, q1, q2, _, _, _⟩ := u1.cells
      clear hw2
      go_wp2_with fail
      generalize w2.setCell ⟨w.heap.size + 1, 1, none⟩ (.int .i64 z) = w3 at *
      refine (HC.out _).mono ?_
      rintro e w4 ⟨rfl, b4⟩
      have t0 := u0.below b4
      have bt := bu.trans (b4.mono bu.size)
      obtain ⟨y0, y1, y2, g0, g1, g2⟩ := t0.cells
      have PX := ((t0.setK 0).setN 0).setS []
      go_wp2
      refine bodyPost_ret (results_cell_row2 rfl _ _ w.heap.size _ _ _ _ rfl PX Tryz.underlying46 rfl (by kernel_rfl)) rfl ?_
      exact ⟨rfl, ((bt.setCell (p := ⟨w.heap.size, 0, none⟩) (Nat.le_refl _) _).setCell (p := ⟨w.heap.size, 1, none⟩) (Nat.le_refl _) _).setCell (p := ⟨w.heap.size, 2, none⟩) (Nat.le_refl _) _⟩
    · have hd : V7.deOk 2 b = true := by unfold V7.deOk; rw [hr]; exact hk
      have e2 : V7.ckE 2 (nv b) [] = 0 := by unfold V7.ckE; rw [hk]; rfl
      rw [e2] at hC
      obtain ⟨d1, d2, d3, d4⟩ := V7.dv_yes hd
      rw [hr] at d2 d3
      rw [d1, d2, d3, d4]
      have HN := Lib.hid hN
      have HC := Lib.hid hC
      clear hN hC hn a1 a2 hd d1 d2 d3 d4 hr hk e2
      show Calls _ _ _ _ fun e w' => e = .returned (.tuple #[.agg #[.int .i64 2, .int .i64 (nv b), .string (bs [])], .int .i64 0]) ∧ Below w.heap.size w w'
      generalize nv b = z at *
      go_enter Tryz.func74, Tryz.ntmps74
      go_wp2_with fail
      obtain ⟨w2, hw2, v0, v1, bw⟩ := two_blocks w 2
      rw [hw2]
      refine (HN.out _).mono ?_
      rintro e w1 ⟨rfl, rfl⟩
      obtain ⟨c0, c1, c2, f0, f1, f2⟩ := v1.cells
      have u1 := v1.setN z
      have u0 := v0.setElse (w.heap.size + 1) 1 (by omega) (.int .i64 z)
      have bu := bw.setCell (p := ⟨w.heap.size + 1, 1, none⟩) (Nat.le_succ _) (.int .i64 z)
      obtain ⟨q0, q1, q2, _, _, _⟩ := u1.cells
      clear hw2
      go_wp2_with fail
      generalize w2.setCell ⟨w.heap.size + 1, 1, none⟩ (.int .i64 z) = w3 at *
      refine (HC.out _).mono ?_
      rintro e w4 ⟨rfl, b4⟩
      have t0 := u0.below b4
      have bt := bu.trans (b4.mono bu.size)
      obtain ⟨y0, y1, y2, g0, g1, g2⟩ := t0.cells
      obtain ⟨r0, r1, r2, _, _, _⟩ := (u1.below b4).cells
      have PX := ((t0.setK 2).setN z).setS []
      go_wp2
      refine bodyPost_ret (results_cell_row2 rfl _ _ w.heap.size _ _ _ _ rfl PX Tryz.underlying46 rfl (by kernel_rfl)) rfl ?_
      exact ⟨rfl, ((bt.setCell (p := ⟨w.heap.size, 0, none⟩) (Nat.le_refl _) _).setCell (p := ⟨w.heap.size, 1, none⟩) (Nat.le_refl _) _).setCell (p := ⟨w.heap.size, 2, none⟩) (Nat.le_refl _) _⟩
set_option maxRecDepth 100000 in
set_option maxHeartbeats 1000000 in
theorem qdecode7_65 (b : List UInt8) (hb : b.length ≤ 140737488351232) (w : World) :
    Calls Tryz.prog 74 #[.int .i64 65, .string (bs b)] w fun e w' => e = .returned (.tuple #[.agg #[.int .i64 (V7.dvK 65 b), .int .i64 (V7.dvN 65 b), .string (bs (V7.dvS 65 b))], .int .i64 (V7.dvE 65 b : Nat)]) ∧ Below w.heap.size w w' := by
  have hN := fun w1 => qbunsigned_walk b hb w1
  cases hn : uOk b
  · obtain ⟨a1, a2⟩ := uu_no hn
    rw [a1, a2] at hN
    have hd : V7.deOk 65 b = false := by unfold V7.deOk V7.rdV; rw [if_neg (by omega), if_pos (by omega), hn]; rfl
    obtain ⟨d1, d2, d3, d4⟩ := V7.dv_no hd
    rw [d1, d2, d3, d4]
    have HN := Lib.hid hN
    clear hN hn a1 a2 hd d1 d2 d3 d4
    go_enter Tryz.func74, Tryz.ntmps74
    go_wp2_with fail
    obtain ⟨w2, hw2, v0, v1, bw⟩ := two_blocks w 65
    rw [hw2]
    refine (HN.out _).mono ?_
    rintro e w1 ⟨rfl, rfl⟩
    obtain ⟨c0, c1, c2, f0, f1, f2⟩ := v1.cells
    obtain ⟨y0, y1, y2, g0, g1, g2⟩ := v0.cells
    clear hw2
    have PX := (((v0.setElse (w.heap.size + 1) 1 (by omega) (.int .i64 0)).setK 0).setN 0).setS []
    go_wp2
    refine bodyPost_ret (results_cell_row2 rfl _ _ w.heap.size _ _ _ _ rfl PX Tryz.underlying46 rfl (by kernel_rfl)) rfl ?_
    exact ⟨rfl, (((bw.setCell (p := ⟨w.heap.size + 1, 1, none⟩) (Nat.le_succ _) _).setCell (p := ⟨w.heap.size, 0, none⟩) (Nat.le_refl _) _).setCell (p := ⟨w.heap.size, 1, none⟩) (Nat.le_refl _) _).setCell (p := ⟨w.heap.size, 2, none⟩) (Nat.le_refl _) _⟩
  · obtain ⟨a1, a2⟩ := uu_yes hn
    rw [a1, a2] at hN
    have hnb := V7.uv_bounds hn
    have hC := fun w1 => qcheck_walk 65 (wrap64 (uv b)) [] (by simp) w1
    have hr : V7.rdV 65 b = (wrap64 (uv b), [], true) := by unfold V7.rdV; rw [if_neg (by omega), if_pos (by omega), hn]
    cases hk : V7.ckV 65 (wrap64 (uv b)) []
    · have hd : V7.deOk 65 b = false := by unfold V7.deOk; rw [hr]; exact hk
      have e2 : V7.ckE 65 (wrap64 (uv b)) [] = 70 := by unfold V7.ckE; rw [hk]; rfl
      rw [e2] at hC
      obtain ⟨d1, d2, d3, d4⟩ := V7.dv_no hd
      rw [d1, d2, d3, d4]
      have HN := Lib.hid hN
      have HC := Lib.hid hC
      clear hN hC hn a1 a2 hd d1 d2 d3 d4 hr hk e2
      have hw1 : IntKind.i64.wrap (uv b) = wrap64 (uv b) := by rw [IntKind.wrap_i64, wrap64_eq]
      generalize wrap64 (uv b) = z at *
      generalize uv b = zu at *
      go_enter Tryz.func74, Tryz.ntmps74
      go_wp2_with fail
      obtain ⟨w2, hw2, v0, v1, bw⟩ := two_blocks w 65
      rw [hw2]
      refine (HN.out _).mono ?_
      rintro e w1 ⟨rfl, rfl⟩
      obtain ⟨c0, c1, c2, f0, f1, f2⟩ := v1.cells
      have u1 := v1.setN z
      have u0 := v0.setElse (w.heap.size + 1) 1 (by omega) (.int .i64 z)
      have bu := bw.setCell (p := ⟨w.heap.size + 1, 1, none⟩) (Nat.le_succ _) (.int .i64 z)
      obtain ⟨q0, q1, q2, _, _, _⟩ := u1.cells
      clear hw2
      go_wp2_with fail
      generalize w2.setCell ⟨w.heap.size + 1, 1, none⟩ (.int .i64 z) = w3 at *
      refine (HC.out _).mono ?_
      rintro e w4 ⟨rfl, b4⟩
      have t0 := u0.below b4
      have bt := bu.trans (b4.mono bu.size)
      obtain ⟨y0, y1, y2, g0, g1, g2⟩ := t0.cells
      have PX := ((t0.setK 0).setN 0).setS []
      go_wp2
      refine bodyPost_ret (results_cell_row2 rfl _ _ w.heap.size _ _ _ _ rfl PX Tryz.underlying46 rfl (by kernel_rfl)) rfl ?_
      exact ⟨rfl, ((bt.setCell (p := ⟨w.heap.size, 0, none⟩) (Nat.le_refl _) _).setCell (p := ⟨w.heap.size, 1, none⟩) (Nat.le_refl _) _).setCell (p := ⟨w.heap.size, 2, none⟩) (Nat.le_refl _) _⟩
    · have hd : V7.deOk 65 b = true := by unfold V7.deOk; rw [hr]; exact hk
      have e2 : V7.ckE 65 (wrap64 (uv b)) [] = 0 := by unfold V7.ckE; rw [hk]; rfl
      rw [e2] at hC
      obtain ⟨d1, d2, d3, d4⟩ := V7.dv_yes hd
      rw [hr] at d2 d3
      rw [d1, d2, d3, d4]
      have HN := Lib.hid hN
      have HC := Lib.hid hC
      clear hN hC hn a1 a2 hd d1 d2 d3 d4 hr hk e2
      show Calls _ _ _ _ fun e w' => e = .returned (.tuple #[.agg #[.int .i64 65, .int .i64 (wrap64 (uv b)), .string (bs [])], .int .i64 0]) ∧ Below w.heap.size w w'
      have hw1 : IntKind.i64.wrap (uv b) = wrap64 (uv b) := by rw [IntKind.wrap_i64, wrap64_eq]
      generalize wrap64 (uv b) = z at *
      generalize uv b = zu at *
      go_enter Tryz.func74, Tryz.ntmps74
      go_wp2_with fail
      obtain ⟨w2, hw2, v0, v1, bw⟩ := two_blocks w 65
      rw [hw2]
      refine (HN.out _).mono ?_
      rintro e w1 ⟨rfl, rfl⟩
      obtain ⟨c0, c1, c2, f0, f1, f2⟩ := v1.cells
      have u1 := v1.setN z
      have u0 := v0.setElse (w.heap.size + 1) 1 (by omega) (.int .i64 z)
      have bu := bw.setCell (p := ⟨w.heap.size + 1, 1, none⟩) (Nat.le_succ _) (.int .i64 z)
      obtain ⟨q0, q1, q2, _, _, _⟩ := u1.cells
      clear hw2
      go_wp2_with fail
      generalize w2.setCell ⟨w.heap.size + 1, 1, none⟩ (.int .i64 z) = w3 at *
      refine (HC.out _).mono ?_
      rintro e w4 ⟨rfl, b4⟩
      have t0 := u0.below b4
      have bt := bu.trans (b4.mono bu.size)
      obtain ⟨y0, y1, y2, g0, g1, g2⟩ := t0.cells
      obtain ⟨r0, r1, r2, _, _, _⟩ := (u1.below b4).cells
      have PX := ((t0.setK 65).setN z).setS []
      go_wp2
      refine bodyPost_ret (results_cell_row2 rfl _ _ w.heap.size _ _ _ _ rfl PX Tryz.underlying46 rfl (by kernel_rfl)) rfl ?_
      exact ⟨rfl, ((bt.setCell (p := ⟨w.heap.size, 0, none⟩) (Nat.le_refl _) _).setCell (p := ⟨w.heap.size, 1, none⟩) (Nat.le_refl _) _).setCell (p := ⟨w.heap.size, 2, none⟩) (Nat.le_refl _) _⟩
set_option maxRecDepth 100000 in
set_option maxHeartbeats 1000000 in
theorem qdecode7_66 (b : List UInt8) (hb : b.length ≤ 140737488351232) (w : World) :
    Calls Tryz.prog 74 #[.int .i64 66, .string (bs b)] w fun e w' => e = .returned (.tuple #[.agg #[.int .i64 (V7.dvK 66 b), .int .i64 (V7.dvN 66 b), .string (bs (V7.dvS 66 b))], .int .i64 (V7.dvE 66 b : Nat)]) ∧ Below w.heap.size w w' := by
  have hN := fun w1 => qbunsigned_walk b hb w1
  cases hn : uOk b
  · obtain ⟨a1, a2⟩ := uu_no hn
    rw [a1, a2] at hN
    have hd : V7.deOk 66 b = false := by unfold V7.deOk V7.rdV; rw [if_neg (by omega), if_pos (by omega), hn]; rfl
    obtain ⟨d1, d2, d3, d4⟩ := V7.dv_no hd
    rw [d1, d2, d3, d4]
    have HN := Lib.hid hN
    clear hN hn a1 a2 hd d1 d2 d3 d4
    go_enter Tryz.func74, Tryz.ntmps74
    go_wp2_with fail
    obtain ⟨w2, hw2, v0, v1, bw⟩ := two_blocks w 66
    rw [hw2]
    refine (HN.out _).mono ?_
    rintro e w1 ⟨rfl, rfl⟩
    obtain ⟨c0, c1, c2, f0, f1, f2⟩ := v1.cells
    obtain ⟨y0, y1, y2, g0, g1, g2⟩ := v0.cells
    clear hw2
    have PX := (((v0.setElse (w.heap.size + 1) 1 (by omega) (.int .i64 0)).setK 0).setN 0).setS []
    go_wp2
    refine bodyPost_ret (results_cell_row2 rfl _ _ w.heap.size _ _ _ _ rfl PX Tryz.underlying46 rfl (by kernel_rfl)) rfl ?_
    exact ⟨rfl, (((bw.setCell (p := ⟨w.heap.size + 1, 1, none⟩) (Nat.le_succ _) _).setCell (p := ⟨w.heap.size, 0, none⟩) (Nat.le_refl _) _).setCell (p := ⟨w.heap.size, 1, none⟩) (Nat.le_refl _) _).setCell (p := ⟨w.heap.size, 2, none⟩) (Nat.le_refl _) _⟩
  · obtain ⟨a1, a2⟩ := uu_yes hn
    rw [a1, a2] at hN
    have hnb := V7.uv_bounds hn
    have hC := fun w1 => qcheck_walk 66 (wrap64 (uv b)) [] (by simp) w1
    have hr : V7.rdV 66 b = (wrap64 (uv b), [], true) := by unfold V7.rdV; rw [if_neg (by omega), if_pos (by omega), hn]
    cases hk : V7.ckV 66 (wrap64 (uv b)) []
    · have hd : V7.deOk 66 b = false := by unfold V7.deOk; rw [hr]; exact hk
      have e2 : V7.ckE 66 (wrap64 (uv b)) [] = 70 := by unfold V7.ckE; rw [hk]; rfl
      rw [e2] at hC
      obtain ⟨d1, d2, d3, d4⟩ := V7.dv_no hd
      rw [d1, d2, d3, d4]
      have HN := Lib.hid hN
      have HC := Lib.hid hC
      clear hN hC hn a1 a2 hd d1 d2 d3 d4 hr hk e2
      have hw1 : IntKind.i64.wrap (uv b) = wrap64 (uv b) := by rw [IntKind.wrap_i64, wrap64_eq]
      generalize wrap64 (uv b) = z at *
      generalize uv b = zu at *
      go_enter Tryz.func74, Tryz.ntmps74
      go_wp2_with fail
      obtain ⟨w2, hw2, v0, v1, bw⟩ := two_blocks w 66
      rw [hw2]
      refine (HN.out _).mono ?_
      rintro e w1 ⟨rfl, rfl⟩
      obtain ⟨c0, c1, c2, f0, f1, f2⟩ := v1.cells
      have u1 := v1.setN z
      have u0 := v0.setElse (w.heap.size + 1) 1 (by omega) (.int .i64 z)
      have bu := bw.setCell (p := ⟨w.heap.size + 1, 1, none⟩) (Nat.le_succ _) (.int .i64 z)
      obtain ⟨q0, q1, q2, _, _, _⟩ := u1.cells
      clear hw2
      go_wp2_with fail
      generalize w2.setCell ⟨w.heap.size + 1, 1, none⟩ (.int .i64 z) = w3 at *
      refine (HC.out _).mono ?_
      rintro e w4 ⟨rfl, b4⟩
      have t0 := u0.below b4
      have bt := bu.trans (b4.mono bu.size)
      obtain ⟨y0, y1, y2, g0, g1, g2⟩ := t0.cells
      have PX := ((t0.setK 0).setN 0).setS []
      go_wp2
      refine bodyPost_ret (results_cell_row2 rfl _ _ w.heap.size _ _ _ _ rfl PX Tryz.underlying46 rfl (by kernel_rfl)) rfl ?_
      exact ⟨rfl, ((bt.setCell (p := ⟨w.heap.size, 0, none⟩) (Nat.le_refl _) _).setCell (p := ⟨w.heap.size, 1, none⟩) (Nat.le_refl _) _).setCell (p := ⟨w.heap.size, 2, none⟩) (Nat.le_refl _) _⟩
    · have hd : V7.deOk 66 b = true := by unfold V7.deOk; rw [hr]; exact hk
      have e2 : V7.ckE 66 (wrap64 (uv b)) [] = 0 := by unfold V7.ckE; rw [hk]; rfl
      rw [e2] at hC
      obtain ⟨d1, d2, d3, d4⟩ := V7.dv_yes hd
      rw [hr] at d2 d3
      rw [d1, d2, d3, d4]
      have HN := Lib.hid hN
      have HC := Lib.hid hC
      clear hN hC hn a1 a2 hd d1 d2 d3 d4 hr hk e2
      show Calls _ _ _ _ fun e w' => e = .returned (.tuple #[.agg #[.int .i64 66, .int .i64 (wrap64 (uv b)), .string (bs [])], .int .i64 0]) ∧ Below w.heap.size w w'
      have hw1 : IntKind.i64.wrap (uv b) = wrap64 (uv b) := by rw [IntKind.wrap_i64, wrap64_eq]
      generalize wrap64 (uv b) = z at *
      generalize uv b = zu at *
      go_enter Tryz.func74, Tryz.ntmps74
      go_wp2_with fail
      obtain ⟨w2, hw2, v0, v1, bw⟩ := two_blocks w 66
      rw [hw2]
      refine (HN.out _).mono ?_
      rintro e w1 ⟨rfl, rfl⟩
      obtain ⟨c0, c1, c2, f0, f1, f2⟩ := v1.cells
      have u1 := v1.setN z
      have u0 := v0.setElse (w.heap.size + 1) 1 (by omega) (.int .i64 z)
      have bu := bw.setCell (p := ⟨w.heap.size + 1, 1, none⟩) (Nat.le_succ _) (.int .i64 z)
      obtain ⟨q0, q1, q2, _, _, _⟩ := u1.cells
      clear hw2
      go_wp2_with fail
      generalize w2.setCell ⟨w.heap.size + 1, 1, none⟩ (.int .i64 z) = w3 at *
      refine (HC.out _).mono ?_
      rintro e w4 ⟨rfl, b4⟩
      have t0 := u0.below b4
      have bt := bu.trans (b4.mono bu.size)
      obtain ⟨y0, y1, y2, g0, g1, g2⟩ := t0.cells
      obtain ⟨r0, r1, r2, _, _, _⟩ := (u1.below b4).cells
      have PX := ((t0.setK 66).setN z).setS []
      go_wp2
      refine bodyPost_ret (results_cell_row2 rfl _ _ w.heap.size _ _ _ _ rfl PX Tryz.underlying46 rfl (by kernel_rfl)) rfl ?_
      exact ⟨rfl, ((bt.setCell (p := ⟨w.heap.size, 0, none⟩) (Nat.le_refl _) _).setCell (p := ⟨w.heap.size, 1, none⟩) (Nat.le_refl _) _).setCell (p := ⟨w.heap.size, 2, none⟩) (Nat.le_refl _) _⟩
set_option maxRecDepth 100000 in
set_option maxHeartbeats 1000000 in
theorem qdecode7_67 (b : List UInt8) (hb : b.length ≤ 140737488351232) (w : World) :
    Calls Tryz.prog 74 #[.int .i64 67, .string (bs b)] w fun e w' => e = .returned (.tuple #[.agg #[.int .i64 (V7.dvK 67 b), .int .i64 (V7.dvN 67 b), .string (bs (V7.dvS 67 b))], .int .i64 (V7.dvE 67 b : Nat)]) ∧ Below w.heap.size w w' := by
  have hN := fun w1 => qbunsigned_walk b hb w1
  cases hn : uOk b
  · obtain ⟨a1, a2⟩ := uu_no hn
    rw [a1, a2] at hN
    have hd : V7.deOk 67 b = false := by unfold V7.deOk V7.rdV; rw [if_neg (by omega), if_pos (by omega), hn]; rfl
    obtain ⟨d1, d2, d3, d4⟩ := V7.dv_no hd
    rw [d1, d2, d3, d4]
    have HN := Lib.hid hN
    clear hN hn a1 a2 hd d1 d2 d3 d4
    go_enter Tryz.func74, Tryz.ntmps74
    go_wp2_with fail
    obtain ⟨w2, hw2, v0, v1, bw⟩ := two_blocks w 67
    rw [hw2]
    refine (HN.out _).mono ?_
    rintro e w1 ⟨rfl, rfl⟩
    obtain ⟨c0, c1, c2, f0, f1, f2⟩ := v1.cells
    obtain ⟨y0, y1, y2, g0, g1, g2⟩ := v0.cells
    clear hw2
    have PX := (((v0.setElse (w.heap.size + 1) 1 (by omega) (.int .i64 0)).setK 0).setN 0).setS []
    go_wp2
    refine bodyPost_ret (results_cell_row2 rfl _ _ w.heap.size _ _ _ _ rfl PX Tryz.underlying46 rfl (by kernel_rfl)) rfl ?_
    exact ⟨rfl, (((bw.setCell (p := ⟨w.heap.size + 1, 1, none⟩) (Nat.le_succ _) _).setCell (p := ⟨w.heap.size, 0, none⟩) (Nat.le_refl _) _).setCell (p := ⟨w.heap.size, 1, none⟩) (Nat.le_refl _) _).setCell (p := ⟨w.heap.size, 2, none⟩) (Nat.le_refl _) _⟩
  · obtain ⟨a1, a2⟩ := uu_yes hn
    rw [a1, a2] at hN
    have hnb := V7.uv_bounds hn
    have hC := fun w1 => qcheck_walk 67 (wrap64 (uv b)) [] (by simp) w1
    have hr : V7.rdV 67 b = (wrap64 (uv b), [], true) := by unfold V7.rdV; rw [if_neg (by omega), if_pos (by omega), hn]
    cases hk : V7.ckV 67 (wrap64 (uv b)) []
    · have hd : V7.deOk 67 b = false := by unfold V7.deOk; rw [hr]; exact hk
      have e2 : V7.ckE 67 (wrap64 (uv b)) [] = 70 := by unfold V7.ckE; rw [hk]; rfl
      rw [e2] at hC
      obtain ⟨d1, d2, d3, d4⟩ := V7.dv_no hd
      rw [d1, d2, d3, d4]
      have HN := Lib.hid hN
      have HC := Lib.hid hC
      clear hN hC hn a1 a2 hd d1 d2 d3 d4 hr hk e2
      have hw1 : IntKind.i64.wrap (uv b) = wrap64 (uv b) := by rw [IntKind.wrap_i64, wrap64_eq]
      generalize wrap64 (uv b) = z at *
      generalize uv b = zu at *
      go_enter Tryz.func74, Tryz.ntmps74
      go_wp2_with fail
      obtain ⟨w2, hw2, v0, v1, bw⟩ := two_blocks w 67
      rw [hw2]
      refine (HN.out _).mono ?_
      rintro e w1 ⟨rfl, rfl⟩
      obtain ⟨c0, c1, c2, f0, f1, f2⟩ := v1.cells
      have u1 := v1.setN z
      have u0 := v0.setElse (w.heap.size + 1) 1 (by omega) (.int .i64 z)
      have bu := bw.setCell (p := ⟨w.heap.size + 1, 1, none⟩) (Nat.le_succ _) (.int .i64 z)
      obtain ⟨q0, q1, q2, _, _, _⟩ := u1.cells
      clear hw2
      go_wp2_with fail
      generalize w2.setCell ⟨w.heap.size + 1, 1, none⟩ (.int .i64 z) = w3 at *
      refine (HC.out _).mono ?_
      rintro e w4 ⟨rfl, b4⟩
      have t0 := u0.below b4
      have bt := bu.trans (b4.mono bu.size)
      obtain ⟨y0, y1, y2, g0, g1, g2⟩ := t0.cells
      have PX := ((t0.setK 0).setN 0).setS []
      go_wp2
      refine bodyPost_ret (results_cell_row2 rfl _ _ w.heap.size _ _ _ _ rfl PX Tryz.underlying46 rfl (by kernel_rfl)) rfl ?_
      exact ⟨rfl, ((bt.setCell (p := ⟨w.heap.size, 0, none⟩) (Nat.le_refl _) _).setCell (p := ⟨w.heap.size, 1, none⟩) (Nat.le_refl _) _).setCell (p := ⟨w.heap.size, 2, none⟩) (Nat.le_refl _) _⟩
    · have hd : V7.deOk 67 b = true := by unfold V7.deOk; rw [hr]; exact hk
      have e2 : V7.ckE 67 (wrap64 (uv b)) [] = 0 := by unfold V7.ckE; rw [hk]; rfl
      rw [e2] at hC
      obtain ⟨d1, d2, d3, d4⟩ := V7.dv_yes hd
      rw [hr] at d2 d3
      rw [d1, d2, d3, d4]
      have HN := Lib.hid hN
      have HC := Lib.hid hC
      clear hN hC hn a1 a2 hd d1 d2 d3 d4 hr hk e2
      show Calls _ _ _ _ fun e w' => e = .returned (.tuple #[.agg #[.int .i64 67, .int .i64 (wrap64 (uv b)), .string (bs [])], .int .i64 0]) ∧ Below w.heap.size w w'
      have hw1 : IntKind.i64.wrap (uv b) = wrap64 (uv b) := by rw [IntKind.wrap_i64, wrap64_eq]
      generalize wrap64 (uv b) = z at *
      generalize uv b = zu at *
      go_enter Tryz.func74, Tryz.ntmps74
      go_wp2_with fail
      obtain ⟨w2, hw2, v0, v1, bw⟩ := two_blocks w 67
      rw [hw2]
      refine (HN.out _).mono ?_
      rintro e w1 ⟨rfl, rfl⟩
      obtain ⟨c0, c1, c2, f0, f1, f2⟩ := v1.cells
      have u1 := v1.setN z
      have u0 := v0.setElse (w.heap.size + 1) 1 (by omega) (.int .i64 z)
      have bu := bw.setCell (p := ⟨w.heap.size + 1, 1, none⟩) (Nat.le_succ _) (.int .i64 z)
      obtain ⟨q0, q1, q2, _, _, _⟩ := u1.cells
      clear hw2
      go_wp2_with fail
      generalize w2.setCell ⟨w.heap.size + 1, 1, none⟩ (.int .i64 z) = w3 at *
      refine (HC.out _).mono ?_
      rintro e w4 ⟨rfl, b4⟩
      have t0 := u0.below b4
      have bt := bu.trans (b4.mono bu.size)
      obtain ⟨y0, y1, y2, g0, g1, g2⟩ := t0.cells
      obtain ⟨r0, r1, r2, _, _, _⟩ := (u1.below b4).cells
      have PX := ((t0.setK 67).setN z).setS []
      go_wp2
      refine bodyPost_ret (results_cell_row2 rfl _ _ w.heap.size _ _ _ _ rfl PX Tryz.underlying46 rfl (by kernel_rfl)) rfl ?_
      exact ⟨rfl, ((bt.setCell (p := ⟨w.heap.size, 0, none⟩) (Nat.le_refl _) _).setCell (p := ⟨w.heap.size, 1, none⟩) (Nat.le_refl _) _).setCell (p := ⟨w.heap.size, 2, none⟩) (Nat.le_refl _) _⟩
set_option maxRecDepth 100000 in
set_option maxHeartbeats 1000000 in
theorem qdecode7_70 (b : List UInt8) (hb : b.length ≤ 140737488351232) (w : World) :
    Calls Tryz.prog 74 #[.int .i64 70, .string (bs b)] w fun e w' => e = .returned (.tuple #[.agg #[.int .i64 (V7.dvK 70 b), .int .i64 (V7.dvN 70 b), .string (bs (V7.dvS 70 b))], .int .i64 (V7.dvE 70 b : Nat)]) ∧ Below w.heap.size w w' := by
  have hN := fun w1 => qbunsigned_walk b hb w1
  cases hn : uOk b
  · obtain ⟨a1, a2⟩ := uu_no hn
    rw [a1, a2] at hN
    have hd : V7.deOk 70 b = false := by unfold V7.deOk V7.rdV; rw [if_neg (by omega), if_pos (by omega), hn]; rfl
    obtain ⟨d1, d2, d3, d4⟩ := V7.dv_no hd
    rw [d1, d2, d3, d4]
    have HN := Lib.hid hN
    clear hN hn a1 a2 hd d1 d2 d3 d4
    go_enter Tryz.func74, Tryz.ntmps74
    go_wp2_with fail
    obtain ⟨w2, hw2, v0, v1, bw⟩ := two_blocks w 70
    rw [hw2]
    refine (HN.out _).mono ?_
    rintro e w1 ⟨rfl, rfl⟩
    obtain ⟨c0, c1, c2, f0, f1, f2⟩ := v1.cells
    obtain ⟨y0, y1, y2, g0, g1, g2⟩ := v0.cells
    clear hw2
    have PX := (((v0.setElse (w.heap.size + 1) 1 (by omega) (.int .i64 0)).setK 0).setN 0).setS []
    go_wp2
    refine bodyPost_ret (results_cell_row2 rfl _ _ w.heap.size _ _ _ _ rfl PX Tryz.underlying46 rfl (by kernel_rfl)) rfl ?_
    exact ⟨rfl, (((bw.setCell (p := ⟨w.heap.size + 1, 1, none⟩) (Nat.le_succ _) _).setCell (p := ⟨w.heap.size, 0, none⟩) (Nat.le_refl _) _).setCell (p := ⟨w.heap.size, 1, none⟩) (Nat.le_refl _) _).setCell (p := ⟨w.heap.size, 2, none⟩) (Nat.le_refl _) _⟩
  · obtain ⟨a1, a2⟩ := uu_yes hn
    rw [a1, a2] at hN
    have hnb := V7.uv_bounds hn
    have hC := fun w1 => qcheck_walk 70 (wrap64 (uv b)) [] (by simp) w1
    have hr : V7.rdV 70 b = (wrap64 (uv b), [], true) := by unfold V7.rdV; rw [if_neg (by omega), if_pos (by omega), hn]
    cases hk : V7.ckV 70 (wrap64 (uv b)) []
    · have hd : V7.deOk 70 b = false := by unfold V7.deOk; rw [hr]; exact hk
      have e2 : V7.ckE 70 (wrap64 (uv b)) [] = 70 := by unfold V7.ckE; rw [hk]; rfl
      rw [e2] at hC
      obtain ⟨d1, d2, d3, d4⟩ := V7.dv_no hd
      rw [d1, d2, d3, d4]
      have HN := Lib.hid hN
      have HC := Lib.hid hC
      clear hN hC hn a1 a2 hd d1 d2 d3 d4 hr hk e2
      have hw1 : IntKind.i64.wrap (uv b) = wrap64 (uv b) := by rw [IntKind.wrap_i64, wrap64_eq]
      generalize wrap64 (uv b) = z at *
      generalize uv b = zu at *
      go_enter Tryz.func74, Tryz.ntmps74
      go_wp2_with fail
      obtain ⟨w2, hw2, v0, v1, bw⟩ := two_blocks w 70
      rw [hw2]
      refine (HN.out _).mono ?_
      rintro e w1 ⟨rfl, rfl⟩
      obtain ⟨c0, c1, c2, f0, f1, f2⟩ := v1.cells
      have u1 := v1.setN z
      have u0 := v0.setElse (w.heap.size + 1) 1 (by omega) (.int .i64 z)
      have bu := bw.setCell (p := ⟨w.heap.size + 1, 1, none⟩) (Nat.le_succ _) (.int .i64 z)
      obtain ⟨q0, q1, q2, _, _, _⟩ := u1.cells
      clear hw2
      go_wp2_with fail
      generalize w2.setCell ⟨w.heap.size + 1, 1, none⟩ (.int .i64 z) = w3 at *
      refine (HC.out _).mono ?_
      rintro e w4 ⟨rfl, b4⟩
      have t0 := u0.below b4
      have bt := bu.trans (b4.mono bu.size)
      obtain ⟨y0, y1, y2, g0, g1, g2⟩ := t0.cells
      have PX := ((t0.setK 0).setN 0).setS []
      go_wp2
      refine bodyPost_ret (results_cell_row2 rfl _ _ w.heap.size _ _ _ _ rfl PX Tryz.underlying46 rfl (by kernel_rfl)) rfl ?_
      exact ⟨rfl, ((bt.setCell (p := ⟨w.heap.size, 0, none⟩) (Nat.le_refl _) _).setCell (p := ⟨w.heap.size, 1, none⟩) (Nat.le_refl _) _).setCell (p := ⟨w.heap.size, 2, none⟩) (Nat.le_refl _) _⟩
    · have hd : V7.deOk 70 b = true := by unfold V7.deOk; rw [hr]; exact hk
      have e2 : V7.ckE 70 (wrap64 (uv b)) [] = 0 := by unfold V7.ckE; rw [hk]; rfl
      rw [e2] at hC
      obtain ⟨d1, d2, d3, d4⟩ := V7.dv_yes hd
      rw [hr] at d2 d3
      rw [d1, d2, d3, d4]
      have HN := Lib.hid hN
      have HC := Lib.hid hC
      clear hN hC hn a1 a2 hd d1 d2 d3 d4 hr hk e2
      show Calls _ _ _ _ fun e w' => e = .returned (.tuple #[.agg #[.int .i64 70, .int .i64 (wrap64 (uv b)), .string (bs [])], .int .i64 0]) ∧ Below w.heap.size w w'
      have hw1 : IntKind.i64.wrap (uv b) = wrap64 (uv b) := by rw [IntKind.wrap_i64, wrap64_eq]
      generalize wrap64 (uv b) = z at *
      generalize uv b = zu at *
      go_enter Tryz.func74, Tryz.ntmps74
      go_wp2_with fail
      obtain ⟨w2, hw2, v0, v1, bw⟩ := two_blocks w 70
      rw [hw2]
      refine (HN.out _).mono ?_
      rintro e w1 ⟨rfl, rfl⟩
      obtain ⟨c0, c1, c2, f0, f1, f2⟩ := v1.cells
      have u1 := v1.setN z
      have u0 := v0.setElse (w.heap.size + 1) 1 (by omega) (.int .i64 z)
      have bu := bw.setCell (p := ⟨w.heap.size + 1, 1, none⟩) (Nat.le_succ _) (.int .i64 z)
      obtain ⟨q0, q1, q2, _, _, _⟩ := u1.cells
      clear hw2
      go_wp2_with fail
      generalize w2.setCell ⟨w.heap.size + 1, 1, none⟩ (.int .i64 z) = w3 at *
      refine (HC.out _).mono ?_
      rintro e w4 ⟨rfl, b4⟩
      have t0 := u0.below b4
      have bt := bu.trans (b4.mono bu.size)
      obtain ⟨y0, y1, y2, g0, g1, g2⟩ := t0.cells
      obtain ⟨r0, r1, r2, _, _, _⟩ := (u1.below b4).cells
      have PX := ((t0.setK 70).setN z).setS []
      go_wp2
      refine bodyPost_ret (results_cell_row2 rfl _ _ w.heap.size _ _ _ _ rfl PX Tryz.underlying46 rfl (by kernel_rfl)) rfl ?_
      exact ⟨rfl, ((bt.setCell (p := ⟨w.heap.size, 0, none⟩) (Nat.le_refl _) _).setCell (p := ⟨w.heap.size, 1, none⟩) (Nat.le_refl _) _).setCell (p := ⟨w.heap.size, 2, none⟩) (Nat.le_refl _) _⟩
set_option maxRecDepth 100000 in
set_option maxHeartbeats 1000000 in
theorem qdecode7_6 (b : List UInt8) (hb : b.length ≤ 140737488351232) (w : World) :
    Calls Tryz.prog 74 #[.int .i64 6, .string (bs b)] w fun e w' => e = .returned (.tuple #[.agg #[.int .i64 (V7.dvK 6 b), .int .i64 (V7.dvN 6 b), .string (bs (V7.dvS 6 b))], .int .i64 (V7.dvE 6 b : Nat)]) ∧ Below w.heap.size w w' := by
  have hN := fun w1 => qdecode_walk b hb w1
  have hr : V7.rdV 6 b = (0, deS b, (deA b).isSome) := rfl
  cases hx : deA b with
  | none =>
    have hd : V7.deOk 6 b = false := by unfold V7.deOk; rw [hr, hx]; rfl
    rw [(de_none hx).1, (de_none hx).2] at hN
    obtain ⟨d1, d2, d3, d4⟩ := V7.dv_no hd
    rw [d1, d2, d3, d4]
    have HN := Lib.hid hN
    clear hN hx hd d1 d2 d3 d4 hr
    go_enter Tryz.func74, Tryz.ntmps74
    go_wp2_with fail
    obtain ⟨w2, hw2, v0, v1, bw⟩ := two_blocks w 6
    rw [hw2]
    refine (HN.out _).mono ?_
    rintro e w1 ⟨rfl, b1⟩
    clear hw2
    replace v1 := v1.below b1
    replace v0 := v0.below b1
    replace bw := bw.trans (b1.mono bw.size)
    obtain ⟨c0, c1, c2, f0, f1, f2⟩ := v1.cells
    obtain ⟨y0, y1, y2, g0, g1, g2⟩ := v0.cells
    have PX := (((v0.setElse (w.heap.size + 1) 2 (by omega) (.string (bs []))).setK 0).setN 0).setS []
    go_wp2
    refine bodyPost_ret (results_cell_row2 rfl _ _ w.heap.size _ _ _ _ rfl PX Tryz.underlying46 rfl (by kernel_rfl)) rfl ?_
    exact ⟨rfl, (((bw.setCell (p := ⟨w.heap.size + 1, 2, none⟩) (Nat.le_succ _) _).setCell (p := ⟨w.heap.size, 0, none⟩) (Nat.le_refl _) _).setCell (p := ⟨w.heap.size, 1, none⟩) (Nat.le_refl _) _).setCell (p := ⟨w.heap.size, 2, none⟩) (Nat.le_refl _) _⟩
  | some l =>
    rw [hx] at hr
    have hz := (deA_inv hx).1
    have hsl : (deS b).length ≤ 140737488351232 := by
      rw [(de_some hx).2]
      have h1 := O6.put_len l (O6.isArcs_le hz)
      have h2 := (O6.isArcs_len hz).2
      omega
    have hC := fun w1 => qcheck_walk 6 0 (deS b) hsl w1
    rw [(de_some hx).1] at hN
    clear hx hz
    cases hk : V7.ckV 6 0 (deS b)
    · have hd : V7.deOk 6 b = false := by unfold V7.deOk; rw [hr]; exact hk
      have e2 : V7.ckE 6 0 (deS b) = 70 := by unfold V7.ckE; rw [hk]; rfl
      rw [e2] at hC
      obtain ⟨d1, d2, d3, d4⟩ := V7.dv_no hd
      rw [d1, d2, d3, d4]
      have HN := Lib.hid hN
      have HC := Lib.hid hC
      clear hN hC hd d1 d2 d3 d4 hr hk e2
      generalize deS b = S at *
      go_enter Tryz.func74, Tryz.ntmps74
      go_wp2_with fail
      obtain ⟨w2, hw2, v0, v1, bw⟩ := two_blocks w 6
      rw [hw2]
      refine (HN.out _).mono ?_
      rintro e w1 ⟨rfl, b1⟩
      clear hw2
      replace v1 := v1.below b1
      replace v0 := v0.below b1
      replace bw := bw.trans (b1.mono bw.size)
      obtain ⟨c0, c1, c2, f0, f1, f2⟩ := v1.cells
      have u1 := v1.setS S
      have u0 := v0.setElse (w.heap.size + 1) 2 (by omega) (.string (bs S))
      have bu := bw.setCell (p := ⟨w.heap.size + 1, 2, none⟩) (Nat.le_succ _) (.string (bs S))
      obtain ⟨q0, q1, q2, _, _, _⟩ := u1.cells
      go_wp2_with fail
      generalize w1.setCell ⟨w.heap.size + 1, 2, none⟩ (.string (bs S)) = w3 at *
      refine (HC.out _).mono ?_
      rintro e w4 ⟨rfl, b4⟩
      have t0 := u0.below b4
      have bt := bu.trans (b4.mono bu.size)
      obtain ⟨y0, y1, y2, g0, g1, g2⟩ := t0.cells
      have PX := ((t0.setK 0).setN 0).setS []
      go_wp2
      refine bodyPost_ret (results_cell_row2 rfl _ _ w.heap.size _ _ _ _ rfl PX Tryz.underlying46 rfl (by kernel_rfl)) rfl ?_
      exact ⟨rfl, ((bt.setCell (p := ⟨w.heap.size, 0, none⟩) (Nat.le_refl _) _).setCell (p := ⟨w.heap.size, 1, none⟩) (Nat.le_refl _) _).setCell (p := ⟨w.heap.size, 2, none⟩) (Nat.le_refl _) _⟩
    · have hd : V7.deOk 6 b = true := by unfold V7.deOk; rw [hr]; exact hk
      have e2 : V7.ckE 6 0 (deS b) = 0 := by unfold V7.ckE; rw [hk]; rfl
      rw [e2] at hC
      obtain ⟨d1, d2, d3, d4⟩ := V7.dv_yes hd
      rw [hr] at d2 d3
      simp only [] at d2 d3
      rw [d1, d2, d3, d4]
      have HN := Lib.hid hN
      have HC := Lib.hid hC
      clear hN hC hd d1 d2 d3 d4 hr hk e2
      generalize deS b = S at *
      go_enter Tryz.func74, Tryz.ntmps74
      go_wp2_with fail
      obtain ⟨w2, hw2, v0, v1, bw⟩ := two_blocks w 6
      rw [hw2]
      refine (HN.out _).mono ?_
      rintro e w1 ⟨rfl, b1⟩
      clear hw2
      replace v1 := v1.below b1
      replace v0 := v0.below b1
      replace bw := bw.trans (b1.mono bw.size)
      obtain ⟨c0, c1, c2, f0, f1, f2⟩ := v1.cells
      have u1 := v1.setS S
      have u0 := v0.setElse (w.heap.size + 1) 2 (by omega) (.string (bs S))
      have bu := bw.setCell (p := ⟨w.heap.size + 1, 2, none⟩) (Nat.le_succ _) (.string (bs S))
      obtain ⟨q0, q1, q2, _, _, _⟩ := u1.cells
      go_wp2_with fail
      generalize w1.setCell ⟨w.heap.size + 1, 2, none⟩ (.string (bs S)) = w3 at *
      refine (HC.out _).mono ?_
      rintro e w4 ⟨rfl, b4⟩
      have t0 := u0.below b4
      have bt := bu.trans (b4.mono bu.size)
      obtain ⟨y0, y1, y2, g0, g1, g2⟩ := t0.cells
      obtain ⟨r0, r1, r2, _, _, _⟩ := (u1.below b4).cells
      have PX := ((t0.setK 6).setN 0).setS S
      go_wp2
      refine bodyPost_ret (results_cell_row2 rfl _ _ w.heap.size _ _ _ _ rfl PX Tryz.underlying46 rfl (by kernel_rfl)) rfl ?_
      exact ⟨rfl, ((bt.setCell (p := ⟨w.heap.size, 0, none⟩) (Nat.le_refl _) _).setCell (p := ⟨w.heap.size, 1, none⟩) (Nat.le_refl _) _).setCell (p := ⟨w.heap.size, 2, none⟩) (Nat.le_refl _) _⟩
set_option maxRecDepth 100000 in
set_option maxHeartbeats 1000000 in
theorem qdecode7_o (k : Int) (h2 : (k == 2) = false) (h65 : (k == 65) = false) (h66 : (k == 66) = false) (h67 : (k == 67) = false) (h70 : (k == 70) = false) (h6 : (k == 6) = false) (b : List UInt8) (hb : b.length ≤ 140737488351232) (w : World) :
    Calls Tryz.prog 74 #[.int .i64 k, .string (bs b)] w fun e w' => e = .returned (.tuple #[.agg #[.int .i64 (V7.dvK k b), .int .i64 (V7.dvN k b), .string (bs (V7.dvS k b))], .int .i64 (V7.dvE k b : Nat)]) ∧ Below w.heap.size w w' := by
  have hr : V7.rdV k b = (0, b, true) := by
    have n2 := beq_eq_false_iff_ne.1 h2; have n65 := beq_eq_false_iff_ne.1 h65; have n66 := beq_eq_false_iff_ne.1 h66; have n67 := beq_eq_false_iff_ne.1 h67; have n70 := beq_eq_false_iff_ne.1 h70; have n6 := beq_eq_false_iff_ne.1 h6
    unfold V7.rdV; rw [if_neg n2, if_neg (by omega), if_neg n6]
  have hC := fun w1 => qcheck_walk k 0 b hb w1
  cases hk : V7.ckV k 0 b
  · have hd : V7.deOk k b = false := by unfold V7.deOk; rw [hr]; exact hk
    have e2 : V7.ckE k 0 b = 70 := by unfold V7.ckE; rw [hk]; rfl
    rw [e2] at hC
    obtain ⟨d1, d2, d3, d4⟩ := V7.dv_no hd
    rw [d1, d2, d3, d4]
    have HC := Lib.hid hC
    clear hC hd d1 d2 d3 d4 hr hk e2
    go_enter Tryz.func74, Tryz.ntmps74
    go_wp2_with fail
    obtain ⟨w3, hw3, u0, u1, bu⟩ := two_blocksS w k b
    rw [hw3]
    refine (HC.out _).mono ?_
    rintro e w4 ⟨rfl, b4⟩
    clear hw3
    have t0 := u0.below b4
    have bt := bu.trans (b4.mono bu.size)
    obtain ⟨y0, y1, y2, g0, g1, g2⟩ := t0.cells
    have PX := ((t0.setK 0).setN 0).setS []
    go_wp2
    refine bodyPost_ret (results_cell_row2 rfl _ _ w.heap.size _ _ _ _ rfl PX Tryz.underlying46 rfl (by kernel_rfl)) rfl ?_
    exact ⟨rfl, ((bt.setCell (p := ⟨w.heap.size, 0, none⟩) (Nat.le_refl _) _).setCell (p := ⟨w.heap.size, 1, none⟩) (Nat.le_refl _) _).setCell (p := ⟨w.heap.size, 2, none⟩) (Nat.le_refl _) _⟩
  · have hd : V7.deOk k b = true := by unfold V7.deOk; rw [hr]; exact hk
    have e2 : V7.ckE k 0 b = 0 := by unfold V7.ckE; rw [hk]; rfl
    rw [e2] at hC
    obtain ⟨d1, d2, d3, d4⟩ := V7.dv_yes hd
    rw [hr] at d2 d3
    simp only [] at d2 d3
    rw [d1, d2, d3, d4]
    have HC := Lib.hid hC
    clear hC hd d1 d2 d3 d4 hr hk e2
    go_enter Tryz.func74, Tryz.ntmps74
    go_wp2_with fail
    obtain ⟨w3, hw3, u0, u1, bu⟩ := two_blocksS w k b
    rw [hw3]
    refine (HC.out _).mono ?_
    rintro e w4 ⟨rfl, b4⟩
    clear hw3
    have t0 := u0.below b4
    have bt := bu.trans (b4.mono bu.size)
    obtain ⟨y0, y1, y2, g0, g1, g2⟩ := t0.cells
    obtain ⟨r0, r1, r2, _, _, _⟩ := (u1.below b4).cells
    have PX := ((t0.setK k).setN 0).setS b
    go_wp2
    refine bodyPost_ret (results_cell_row2 rfl _ _ w.heap.size _ _ _ _ rfl PX Tryz.underlying46 rfl (by kernel_rfl)) rfl ?_
    exact ⟨rfl, ((bt.setCell (p := ⟨w.heap.size, 0, none⟩) (Nat.le_refl _) _).setCell (p := ⟨w.heap.size, 1, none⟩) (Nat.le_refl _) _).setCell (p := ⟨w.heap.size, 2, none⟩) (Nat.le_refl _) _⟩
theorem qdecode7_walk (k : Int) (b : List UInt8) (hb : b.length ≤ 140737488351232) (w : World) :
    Calls Tryz.prog 74 #[.int .i64 k, .string (bs b)] w fun e w' => e = .returned (.tuple #[.agg #[.int .i64 (V7.dvK k b), .int .i64 (V7.dvN k b), .string (bs (V7.dvS k b))], .int .i64 (V7.dvE k b : Nat)]) ∧ Below w.heap.size w w' := by
  by_cases h2 : k = 2
  · subst h2; exact qdecode7_two b hb w
  by_cases h65 : k = 65
  · subst h65; exact qdecode7_65 b hb w
  by_cases h66 : k = 66
  · subst h66; exact qdecode7_66 b hb w
  by_cases h67 : k = 67
  · subst h67; exact qdecode7_67 b hb w
  by_cases h70 : k = 70
  · subst h70; exact qdecode7_70 b hb w
  by_cases h6 : k = 6
  · subst h6; exact qdecode7_6 b hb w
  have e : ∀ c : Int, ¬ k = c → (k == c) = false := fun c h => beq_eq_false_iff_ne.2 h
  exact qdecode7_o k (e _ h2) (e _ h65) (e _ h66) (e _ h67) (e _ h70) (e _ h6) b hb w
end Go.Proofs.YtmdibafofdghgaaGreatDoor
