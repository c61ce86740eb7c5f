/- Texts on the program and on the document, joined: TrqA, TrpTb, TrpE, TrpS. -/
import Derived.Test.YtdgnhcbhbpffmaaGreatDoorMa35
import Derived.Test.YtdgnhcbhbpffmaaGreatDoorMa17
import Derived.Test.YtdgnhcbhbpffmaaGreatDoorMa29
import Derived.Test.YtdgnhcbhbpffmaaGreatDoorMa28
/- What the variable v2c holds; the program's small calls for traps, walked. -/
namespace Go.Proofs.YtdgnhcbhbpffmaaGreatDoor
open Go.ChangeShapes Go.WideShapes Go.ChangeAt Go.RowKit K P1 B5
open D8 (Bd Un lst deU)
open T9 (Tr bU bI msg msgB ofU m3 deM)
set_option linter.unusedVariables false

/-- What the variable 'v2c' holds. -/
def V2 (w : World) : Prop := w.cell? ⟨0, 0, none⟩ = some (.int .i64 48) ∧ w.cell? ⟨0, 1, none⟩ = some (.int .i64 2) ∧ w.cell? ⟨0, 2, none⟩ = some (.string (bs [1])) ∧ w.cell? ⟨0, 3, none⟩ = some (.int .i64 4)
theorem V2.below {w w' : World} (h : V2 w) (k : Below w.heap.size w w') : V2 w' :=
  ⟨(k.cell (World.block_lt_of_cell? w _ h.1)).trans h.1, (k.cell (World.block_lt_of_cell? w _ h.2.1)).trans h.2.1, (k.cell (World.block_lt_of_cell? w _ h.2.2.1)).trans h.2.2.1, (k.cell (World.block_lt_of_cell? w _ h.2.2.2)).trans h.2.2.2⟩
/-- The variables that the program reads. -/
def Tw (w : World) : Prop := Tp w ∧ V2 w
theorem Tw.below {w w' : World} (h : Tw w) (k : Below w.heap.size w w') : Tw w' := ⟨h.1.below k, h.2.below k⟩
def comB (c : List UInt8) : Bool := decide (1 ≤ c.length) && decide (c.length ≤ 64)
theorem comB_iff (c : List UInt8) : comB c = true ↔ 1 ≤ c.length ∧ c.length ≤ 64 := by
  unfold comB; rw [Bool.and_eq_true, decide_eq_true_eq, decide_eq_true_eq]
set_option maxRecDepth 100000 in
set_option maxHeartbeats 1000000 in
theorem iscommunity_walk (c : List UInt8) (w : World) : Calls Tryz.prog 37 #[.string (bs c)] w fun e w' => e = .returned (.bool (comB c)) ∧ w = w' := by
  by_cases h1 : c = []
  · subst h1
    go_enter Tryz.func37, Tryz.ntmps37
    go_wp2
    go_ret
    exact ⟨rfl, rfl⟩
  · have hne : c.isEmpty = false := List.isEmpty_eq_false_iff.2 h1
    have hl := List.length_pos_iff.2 h1
    by_cases h2 : c.length ≤ 64
    · have h3 : decide (((c.length : Nat) : Int) ≤ 64) = true := decide_eq_true (by omega)
      rw [show comB c = true from (comB_iff c).2 ⟨hl, h2⟩]
      clear h1 h2 hl
      go_enter Tryz.func37, Tryz.ntmps37
      go_wp2
      go_ret
      exact ⟨rfl, rfl⟩
    · have h3 : decide (((c.length : Nat) : Int) ≤ 64) = false := decide_eq_false (by omega)
      rw [show comB c = false by unfold comB; rw [decide_eq_false h2, Bool.and_false]]
      clear h1 h2 hl
      go_enter Tryz.func37, Tryz.ntmps37
      go_wp2
      go_ret
      exact ⟨rfl, rfl⟩
theorem wrap9_walk (t : Nat) (h2 : isTag t = true) (ht : t < 256) (b : List UInt8) (hb : b.length ≤ 16777216) (w : World) :
    Calls Tryz.prog 52 #[.int .i64 (t : Nat), .string (bs b)] w fun e w' => e = .returned (.string (bs (put t b))) ∧ Below w.heap.size w w' := by
  have hW := fun w1 => wrap_walk (t : Nat) b (by omega) w1
  rw [(wr_yes t b ht h2 hb).1, (wr_yes t b ht h2 hb).2] at hW
  have HW := Lib.hid hW
  clear hW h2 ht
  generalize put t b = R at *
  generalize ((t : Nat) : Int) = t' at *
  go_enter Tryz.func52, Tryz.ntmps52
  go_wp2_with fail
  refine (HW.out _).mono ?_
  rintro e w1 ⟨rfl, b1⟩
  go_wp2
  go_ret
  exact ⟨rfl, b1⟩
set_option maxRecDepth 100000 in
set_option maxHeartbeats 1000000 in
theorem uptimebind_walk (n : Int) (w : World) : Calls Tryz.prog 53 #[.int .i64 n] w fun e w' => e = .returned (.agg #[.string (bs T9.UPT), .int .i64 67, .int .i64 n, .string (bs [])]) ∧ Below w.heap.size w w' := by
  have PX := rowNew w (.cells #[.string { data := #[49, 46, 51, 46, 54, 46, 49, 46, 50, 46, 49, 46, 49, 46, 51, 46, 48] }, .int .i64 67, .int .i64 n, .string { data := #[] }] 48)
  have bb := alloc_in w (.cells #[.string { data := #[49, 46, 51, 46, 54, 46, 49, 46, 50, 46, 49, 46, 49, 46, 51, 46, 48] }, .int .i64 67, .int .i64 n, .string { data := #[] }] 48)
  go_enter Tryz.func53, Tryz.ntmps53
  go_wp2
  refine bodyPost_ret (results_cell_row rfl _ _ w.heap.size _ _ _ _ rfl PX Tryz.underlying48 rfl (by kernel_rfl)) rfl ?_
  exact ⟨rfl, bb⟩
set_option maxRecDepth 100000 in
set_option maxHeartbeats 1000000 in
theorem idbind_walk (o : List UInt8) (w : World) : Calls Tryz.prog 54 #[.string (bs o)] w fun e w' => e = .returned (.agg #[.string (bs T9.IDO), .int .i64 6, .int .i64 0, .string (bs o)]) ∧ Below w.heap.size w w' := by
  have PX := rowNew w (.cells #[.string { data := #[49, 46, 51, 46, 54, 46, 49, 46, 54, 46, 51, 46, 49, 46, 49, 46, 52, 46, 49, 46, 48] }, .int .i64 6, .int .i64 0, .string (bs o)] 48)
  have bb := alloc_in w (.cells #[.string { data := #[49, 46, 51, 46, 54, 46, 49, 46, 54, 46, 51, 46, 49, 46, 49, 46, 52, 46, 49, 46, 48] }, .int .i64 6, .int .i64 0, .string (bs o)] 48)
  go_enter Tryz.func54, Tryz.ntmps54
  go_wp2
  refine bodyPost_ret (results_cell_row rfl _ _ w.heap.size _ _ _ _ rfl PX Tryz.underlying48 rfl (by kernel_rfl)) rfl ?_
  exact ⟨rfl, bb⟩
/-- Whether a list of texts has one. -/
theorem contains_walk (c : List UInt8) (known : List (List UInt8)) (ko : Option Addr) (kc : Nat) (hk : known.length ≤ 140737488351232) (w : World) (hr : RdS w ko known) :
    Calls Tryz.prog 26 #[.slice ko known.length kc, .string (bs c)] w fun e w' => e = .returned (.bool (knows known c)) ∧ w = w' := by
  rcases hr with h0 | ⟨b, off, rfl, hb, hc⟩
  · have hn := List.length_eq_zero_iff.1 h0
    subst hn
    refine (Tryz.slices_Contains_string_empty ko kc (bs c) w).mono ?_
    rintro e w' ⟨rfl, rfl⟩
    exact ⟨rfl, rfl⟩
  · refine (Tryz.slices_Contains_string b off known.length kc (known.map bs) (bs c) w (by rw [List.length_map]; exact Nat.le_refl _) (by omega) ?_).mono ?_
    · intro j hj
      rw [List.length_map] at hj
      rw [hc j hj]
      simp [List.getD, List.getElem?_eq_getElem hj]
    · rintro e w' ⟨rfl, rfl⟩
      refine ⟨?_, rfl⟩
      have : Lib.containsS ((known.map bs).take known.length) (bs c) = knows known c := by
        rw [List.take_of_length_le (by rw [List.length_map]; exact Nat.le_refl _)]
        unfold knows
        rw [Bool.eq_iff_iff, Lib.containsS_iff, List.any_eq_true]
        constructor
        · intro h
          obtain ⟨x, hx, he⟩ := List.mem_map.1 h
          exact ⟨x, hx, by rw [beq_iff_eq]; exact bs_inj he⟩
        · rintro ⟨x, hx, he⟩
          rw [beq_iff_eq] at he
          exact List.mem_map.2 ⟨x, hx, by rw [he]⟩
      rw [this]
end Go.Proofs.YtdgnhcbhbpffmaaGreatDoor
/- What the variables hold, as the rows list them: with v2c. -/
namespace Go.Proofs.YtdgnhcbhbpffmaaGreatDoor
open Go.ChangeShapes Go.WideShapes Go.ChangeAt Go.RowKit K O6
set_option linter.unusedVariables false

set_option maxRecDepth 1000000 in
theorem v2Of {W : World} {L : List (String × DataW Unit)} (h : laidMetH Tryz.prog L W) (hp : (L.all fun x => x.2.handleName?.isNone) = true) (hm : ("gong/trap.v2c", Rows.laid_gong_trap_v2c) ∈ L) : V2 W := by
  have hg : Tryz.prog.globalNamed "gong/trap.v2c" = some 0 := by kernel_rfl
  obtain ⟨⟨l⟩, fuel, p, hv, hd⟩ := laid_at h hp hm hg (by kernel_rfl : (Tryz.prog.globals[0]?).map (·.type) = some 97)
  obtain ⟨xs, n, _, hx, hl, _, hf⟩ := DataW.trod_struct Tryz.underlying97 hd
  have ci : Tryz.prog.cellsOf 3 = 1 := by kernel_rfl
  have cs : Tryz.prog.cellsOf 9 = 1 := by kernel_rfl
  have cp : Tryz.prog.cellsOf 72 = 2 := by kernel_rfl
  have ch : Tryz.prog.cellsOf 97 = 4 := by kernel_rfl
  have g0 : DataW.trod (fun _ => ()) Tryz.prog W 0 (fun _ => true) false n 3 ((l.drop 0).take (Tryz.prog.cellsOf 3)) = xs[0]? := hf 0 _ rfl
  have g1 : DataW.trod (fun _ => ()) Tryz.prog W 0 (fun _ => true) false n 72 ((l.drop 1).take (Tryz.prog.cellsOf 72)) = xs[1]? := hf 1 _ rfl
  have g2 : DataW.trod (fun _ => ()) Tryz.prog W 0 (fun _ => true) false n 3 ((l.drop 3).take (Tryz.prog.cellsOf 3)) = xs[2]? := hf 2 _ rfl
  rw [ci] at g0 g2
  rw [cp] at g1
  rw [ch] at hl
  have hx1 : xs.map (·.1) = [.lit (.int .i64 48), .agg [.lit (.int .i64 2), .lit (.string [1])], .lit (.int .i64 4)] := (DataW.agg.inj (Prod.mk.inj hx).1).symm
  obtain ⟨a0, a1, a2, rfl⟩ : ∃ a0 a1 a2, xs = [a0, a1, a2] := by
    have hxl : xs.length = 3 := by have := congrArg List.length hx1; simpa using this
    match xs, hxl with
    | [a0, a1, a2], _ => exact ⟨a0, a1, a2, rfl⟩
  obtain ⟨x0, x1, x2, x3, rfl⟩ : ∃ x0 x1 x2 x3, l = [x0, x1, x2, x3] := by
    have hl' : l.length = 4 := hl
    match l, hl' with
    | [x0, x1, x2, x3], _ => exact ⟨x0, x1, x2, x3, rfl⟩
  simp only [List.map_cons, List.map_nil, List.cons.injEq, and_true] at hx1
  obtain ⟨m0, m1, m2⟩ := hx1
  simp only [List.drop_zero, List.drop_succ_cons, List.take_succ_cons, List.take_zero, List.getElem?_cons_zero, List.getElem?_cons_succ] at g0 g1 g2
  obtain ⟨v0, e0, r0, _⟩ := DataW.trod_int Tryz.underlying3 g0
  obtain ⟨v2, e2, r2, _⟩ := DataW.trod_int Tryz.underlying3 g2
  obtain ⟨ys, k, _, hy, hyl, _, hg1⟩ := DataW.trod_struct Tryz.underlying72 g1
  have q0 : DataW.trod (fun _ => ()) Tryz.prog W 0 (fun _ => true) false k 3 (([x1, x2].drop 0).take (Tryz.prog.cellsOf 3)) = ys[0]? := hg1 0 _ rfl
  have q1 : DataW.trod (fun _ => ()) Tryz.prog W 0 (fun _ => true) false k 9 (([x1, x2].drop 1).take (Tryz.prog.cellsOf 9)) = ys[1]? := hg1 1 _ rfl
  rw [ci] at q0
  rw [cs] at q1
  have hy1 : ys.map (·.1) = [.lit (.int .i64 2), .lit (.string [1])] := by
    have := congrArg Prod.fst hy
    rw [m1] at this
    exact (DataW.agg.inj this).symm
  obtain ⟨b0, b1, rfl⟩ : ∃ b0 b1, ys = [b0, b1] := by
    have hxl : ys.length = 2 := by have := congrArg List.length hy1; simpa using this
    match ys, hxl with
    | [b0, b1], _ => exact ⟨b0, b1, rfl⟩
  simp only [List.map_cons, List.map_nil, List.cons.injEq, and_true] at hy1
  obtain ⟨n0, n1⟩ := hy1
  simp only [List.drop_zero, List.drop_succ_cons, List.take_succ_cons, List.take_zero, List.getElem?_cons_zero, List.getElem?_cons_succ] at q0 q1
  obtain ⟨u0, f0, s0, _⟩ := DataW.trod_int Tryz.underlying3 q0
  obtain ⟨u1, f1, s1, _⟩ := DataW.trod_string Tryz.underlying9 q1
  rw [r0] at m0
  rw [r2] at m2
  rw [s0] at n0
  rw [s1] at n1
  simp only [DataW.lit.injEq, Lit.int.injEq, Lit.string.injEq, true_and] at m0 m2 n0 n1
  simp only [List.cons.injEq, and_true] at e0 e2 f0 f1
  have hu : bs [1] = u1 := by rw [← n1, bs_of]
  have c := fun i => World.var?_cell hg hv i
  refine ⟨?_, ?_, ?_, ?_⟩
  · rw [c 0]; simp [e0, m0]
  · rw [c 1]; simp [f0, n0]
  · rw [c 2]; simp [f1, hu]
  · rw [c 3]; simp [e2, m2]
theorem tabs9Of {W : World} (h : laidMetH Tryz.prog [("math/bits.deBruijn32tab", Rows.laid_math_bits_deBruijn32tab), ("math/bits.deBruijn64tab", Rows.laid_math_bits_deBruijn64tab), ("internal/strconv.uint64pow10", Rows.laid_internal_strconv_uint64pow10), ("unicode/utf8.acceptRanges", Rows.laid_unicode_utf8_acceptRanges), ("strconv.ErrRange", Rows.laid_strconv_ErrRange), ("strconv.ErrSyntax", Rows.laid_strconv_ErrSyntax), ("gong/pdu.least", Rows.laid_gong_pdu_least), ("gong/trap.v2c", Rows.laid_gong_trap_v2c), ("unicode/utf8.first", Rows.laid_unicode_utf8_first)] W) (hS : W.ShapedOpen Tryz.prog) : Tw W := by
  have hm : laidMet Tryz.prog [("math/bits.deBruijn32tab", Rows.laid_math_bits_deBruijn32tab), ("math/bits.deBruijn64tab", Rows.laid_math_bits_deBruijn64tab), ("internal/strconv.uint64pow10", Rows.laid_internal_strconv_uint64pow10), ("unicode/utf8.acceptRanges", Rows.laid_unicode_utf8_acceptRanges), ("strconv.ErrRange", Rows.laid_strconv_ErrRange), ("strconv.ErrSyntax", Rows.laid_strconv_ErrSyntax), ("gong/pdu.least", Rows.laid_gong_pdu_least), ("gong/trap.v2c", Rows.laid_gong_trap_v2c), ("unicode/utf8.first", Rows.laid_unicode_utf8_first)] W := by
    have h2 := h
    rw [MakeChecks.laidMetH_plain _ _ _ (by kernel_rfl)] at h2
    exact h2
  have h5 := hm.tail.tail.tail.tail
  refine ⟨⟨⟨Tryz.laysM147.s1_3 W hS, errOf h5.tail (by kernel_rfl) (by kernel_rfl), errOf h5 (by kernel_rfl) (by kernel_rfl), ?_⟩, leastOf h (by kernel_rfl) (List.Mem.tail _ (List.Mem.tail _ (List.Mem.tail _ (List.Mem.tail _ (List.Mem.tail _ (List.Mem.tail _ (List.Mem.head _)))))))⟩, v2Of h (by kernel_rfl) (List.Mem.tail _ (List.Mem.tail _ (List.Mem.tail _ (List.Mem.tail _ (List.Mem.tail _ (List.Mem.tail _ (List.Mem.tail _ (List.Mem.head _))))))))⟩
  exact laid_tab (zs := Lib.pow10Tab) h (by kernel_rfl) (by rw [← pow_data]; exact (List.Mem.tail _ (List.Mem.tail _ (List.Mem.head _)))) (by kernel_rfl : Tryz.prog.globalNamed "internal/strconv.uint64pow10" = some 7) (by kernel_rfl : (Tryz.prog.globals[7]?).map (·.type) = some 207) Tryz.underlying207 Tryz.underlying149 (by kernel_rfl) (by kernel_rfl)
end Go.Proofs.YtdgnhcbhbpffmaaGreatDoor
/- The document's Encode, Answer of traps, walked. -/
namespace Go.Proofs.YtdgnhcbhbpffmaaGreatDoor
open Go.ChangeShapes Go.WideShapes Go.ChangeAt Go.RowKit K P1 B5
open D8 (Bd Un lst)
open T9 (Tr bU bI msg msgB)
set_option linter.unusedVariables false

set_option maxRecDepth 100000 in
set_option maxHeartbeats 1000000 in
theorem qencode9_walk (t : Tr) (ao : Option Addr) (cap : Nat) (hx : LimT t) (hsh : ((ao = none ∧ t.l.length = 0 ∧ cap = 0) ∨ ∃ a, ao = some a)) (w : World) (hr : RdB w ao t.l) :
    Calls Tryz.prog 16 #[.agg #[.string (bs t.c), .bool t.f, .int .i64 t.r, .int .i64 t.n, .string (bs t.o), .slice ao t.l.length cap]] w fun e w' => e = .returned (.tuple #[.string (bs (teS t)), .int .i64 (teE t : Nat)]) ∧ Below w.heap.size w w' := by
  have hba := alloc_in w (.cells #[.string (bs t.c), .bool t.f, .int .i64 t.r, .int .i64 t.n, .string (bs t.o), .slice ao t.l.length cap] 27)
  have htq := Tq.new w t ao cap
  have hr1 := hr.below hba
  have hC := qcheck9_walk t ao cap hx hsh _ hr1
  have HR := Lib.hid hr1
  unfold tcE at hC
  clear hr hr1
  cases hk : t.ok
  · rw [show teS t = [] by unfold teS; rw [hk]; rfl, show teE t = 90 by unfold teE; rw [hk]; rfl]
    rw [hk] at hC
    have HC := Lib.hid hC
    clear hC hk
    go_enter Tryz.func16, Tryz.ntmps16
    go_wp2_with fail
    refine HC.out.mono ?_
    rintro e w1 ⟨rfl, b1⟩
    go_wp2
    go_ret2
    exact ⟨rfl, Below_in b1⟩
  · rw [show teS t = mgS t.c t.un by unfold teS; rw [hk]; rfl, show teE t = mgE t.c t.un by unfold teE; rw [hk]; rfl]
    rw [hk] at hC
    obtain ⟨hu, _, hc64⟩ := un_of hk
    have HC := Lib.hid hC
    have HU := Lib.hid (fun w1 (h : RdB w1 ao t.l) => qunit9_walk t ao cap hx.2.2.1 hsh w1 h)
    have hM : ∀ bo cb w1, RdB w1 bo (t.as 0).l → Calls Tryz.prog 35 #[.string (bs t.c), .agg #[.int .i64 t.tag, .int .i64 t.r, .int .i64 0, .int .i64 0, .slice bo (t.l.length + 2) cb]] w1 fun e w' => e = .returned (.tuple #[.string (bs (mgS t.c t.un)), .int .i64 (mgE t.c t.un : Nat)]) ∧ Below w1.heap.size w1 w' :=
      fun bo cb w1 h => qmessage9_walk t.c hc64 t.un hu bo cb (LimT.as hx t.tag) w1 h
    have HM := Lib.hid hM
    clear hC hM hk hu hc64 hx
    go_enter Tryz.func16, Tryz.ntmps16
    go_wp2_with fail
    refine HC.out.mono ?_
    rintro e w1 ⟨rfl, b1⟩
    have b2 := Below_in b1
    have ht1 := htq.below b1
    have HR1 := Lib.hid (HR.out.below b1)
    clear HC b1 htq hba HR
    go_wp2_with fail
    have zS := ht1.cells
    go_region_held3 (fun x => x.cell? ⟨w.heap.size, 0, none⟩ = some (.string (bs t.c)) ∧ x.cell? ⟨w.heap.size, 1, none⟩ = some (.bool t.f) ∧ x.cell? ⟨w.heap.size, 2, none⟩ = some (.int .i64 t.r) ∧ x.cell? ⟨w.heap.size, 3, none⟩ = some (.int .i64 t.n) ∧ x.cell? ⟨w.heap.size, 4, none⟩ = some (.string (bs t.o)) ∧ x.cell? ⟨w.heap.size, 5, none⟩ = some (.slice ao t.l.length cap)) (first | exact zS | exact zS1 | exact zS2)
      (first
        | (go_at_call 36; refine (HU.out _ (by exact HR1.out)).mono ?_; rintro e x1 ⟨bo, cb, rfl, hr3, j1⟩; have k1 : Below w1.heap.size w1 x1 := ⟨j1.os, j1.tape, j1.output, j1.size, j1.block⟩; have hb1 := b2.trans (k1.mono b2.size); have ht2 := ht1.below k1; have zS1 := ht2.cells)
        | (go_at_call 35; refine (HM.out _ _ _ (by exact hr3)).mono ?_; rintro e x2 ⟨rfl, j2⟩; have k2 : Below x1.heap.size x1 x2 := ⟨j2.os, j2.tape, j2.output, j2.size, j2.block⟩; have hb2 := hb1.trans (k2.mono hb1.size); have ht3 := ht2.below k2; have zS2 := ht3.cells))
    go_wp2
    go_ret2
    exact ⟨rfl, hb2⟩
set_option maxRecDepth 100000 in
set_option maxHeartbeats 1000000 in
theorem qanswer9_walk (t : Tr) (ao : Option Addr) (cap : Nat) (hx : LimT t) (hsh : ((ao = none ∧ t.l.length = 0 ∧ cap = 0) ∨ ∃ a, ao = some a)) (w : World) (hr : RdB w ao t.l) :
    Calls Tryz.prog 18 #[.agg #[.string (bs t.c), .bool t.f, .int .i64 t.r, .int .i64 t.n, .string (bs t.o), .slice ao t.l.length cap]] w fun e w' => e = .returned (.tuple #[.string (bs (taS t)), .int .i64 (taE t : Nat)]) ∧ Below w.heap.size w w' := by
  have hba := alloc_in w (.cells #[.string (bs t.c), .bool t.f, .int .i64 t.r, .int .i64 t.n, .string (bs t.o), .slice ao t.l.length cap] 27)
  have htq := Tq.new w t ao cap
  have hr1 := hr.below hba
  have hC := qcheck9_walk t ao cap hx hsh _ hr1
  have HR := Lib.hid hr1
  unfold tcE at hC
  clear hr hr1
  cases hk : t.ok
  · rw [show taS t = [] by unfold taS; rw [hk]; rfl, show taE t = 90 by unfold taE; rw [hk]; rfl]
    rw [hk] at hC
    have HC := Lib.hid hC
    clear hC hk
    go_enter Tryz.func18, Tryz.ntmps18
    go_wp2_with fail
    refine HC.out.mono ?_
    rintro e w1 ⟨rfl, b1⟩
    go_wp2
    go_ret2
    exact ⟨rfl, Below_in b1⟩
  rw [hk] at hC
  have HC := Lib.hid hC
  clear hC
  cases hf : t.f
  · rw [show taS t = [] by unfold taS; rw [hk, hf]; rfl, show taE t = 5 by unfold taE; rw [hk, hf]; rfl]
    have HF := Lib.hid hf
    have z1 : ∀ w1, Below (w.alloc (.cells #[.string (bs t.c), .bool t.f, .int .i64 t.r, .int .i64 t.n, .string (bs t.o), .slice ao t.l.length cap] 27)).heap.size (w.alloc (.cells #[.string (bs t.c), .bool t.f, .int .i64 t.r, .int .i64 t.n, .string (bs t.o), .slice ao t.l.length cap] 27)) w1 → w1.cell? ⟨w.heap.size, 1, none⟩ = some (.bool false) := fun w1 b1 => by
      have := (htq.below b1).cells.2.1
      rw [hf] at this; exact this
    rw [hf] at HC z1
    clear hk hf htq hba HR
    go_enter Tryz.func18, Tryz.ntmps18
    go_wp2_with fail
    refine HC.out.mono ?_
    rintro e w1 ⟨rfl, b1⟩
    have z1' := z1 _ b1
    clear z1
    go_wp2
    go_ret2
    exact ⟨rfl, Below_in b1⟩
  · rw [show taS t = mgS t.c (t.as 162) by unfold taS; rw [hk, hf]; rfl, show taE t = mgE t.c (t.as 162) by unfold taE; rw [hk, hf]; rfl]
    obtain ⟨hu, _, hc64⟩ := un_of hk
    have hu2 : (t.as 162).ok = true := by rw [T9.as_ok t (.inl rfl) (.inr (T9.tag_of t))]; exact hu
    have HU := Lib.hid (fun w1 (h : RdB w1 ao t.l) => qunit9_walk t ao cap hx.2.2.1 hsh w1 h)
    have hM : ∀ bo cb w1, RdB w1 bo (t.as 0).l → Calls Tryz.prog 35 #[.string (bs t.c), .agg #[.int .i64 162, .int .i64 t.r, .int .i64 0, .int .i64 0, .slice bo (t.l.length + 2) cb]] w1 fun e w' => e = .returned (.tuple #[.string (bs (mgS t.c (t.as 162))), .int .i64 (mgE t.c (t.as 162) : Nat)]) ∧ Below w1.heap.size w1 w' :=
      fun bo cb w1 h => qmessage9_walk t.c hc64 (t.as 162) hu2 bo cb (LimT.as hx 162) w1 h
    have HM := Lib.hid hM
    rw [hf] at HC HU htq HR
    clear hM hk hu hu2 hc64 hx hba
    go_enter Tryz.func18, Tryz.ntmps18
    go_wp2_with fail
    refine HC.out.mono ?_
    rintro e w1 ⟨rfl, b1⟩
    have b2 := Below_in b1
    have ht1 := htq.below b1
    have HR1 := Lib.hid (HR.out.below b1)
    obtain ⟨z0, z1, z2, z3, z4, z5⟩ := ht1.cells
    rw [hf] at z1
    have HF := Lib.hid hf
    clear HC b1 htq HR hf
    go_wp2_with fail
    refine (HU.out _ HR1.out).mono ?_
    rintro e w3 ⟨bo, cb, rfl, hr3, d3⟩
    have b3 := b2.trans (d3.mono b2.size)
    have a4 := alloc_in w3 (.cells #[.int .i64 162, .int .i64 t.r, .int .i64 0, .int .i64 0, .slice bo (t.l.length + 2) cb] 60)
    have hq4 := Uq.new 60 w3 (t.as 162) bo cb
    have hr4 := hr3.below a4
    have ht4 := (ht1.below d3).below a4
    have b4 := b3.trans (a4.mono b3.size)
    clear z0 z1 z2 z3 z4 z5 d3 a4 hr3 ht1
    obtain ⟨z0, z1, z2, z3, z4, z5⟩ := ht4.cells
    obtain ⟨y0, y1, y2, y3, y4⟩ := hq4.cells
    go_wp2_with fail
    refine (HM.out _ _ _ hr4).mono ?_
    rintro e w5 ⟨rfl, d5⟩
    go_wp2
    go_ret2
    exact ⟨rfl, b4.trans (d5.mono b4.size)⟩
end Go.Proofs.YtdgnhcbhbpffmaaGreatDoor
/- Same of traps, the document's, walked. -/
namespace Go.Proofs.YtdgnhcbhbpffmaaGreatDoor
open Go.ChangeShapes Go.WideShapes Go.ChangeAt Go.RowKit K P1 B5
open D8 (Bd Un lst)
open T9 (Tr bU bI)
set_option linter.unusedVariables false

def sameT (t u : Tr) : Bool := (t.c == u.c) && ((t.f == u.f) && ((t.r == u.r) && ((t.n == u.n) && ((t.o == u.o) && sameL t.l u.l))))
theorem sameT_iff (t u : Tr) : sameT t u = true ↔ t = u := by
  obtain ⟨c, f, r, n, o, l⟩ := t
  obtain ⟨c', f', r', n', o', l'⟩ := u
  unfold sameT
  simp only [Bool.and_eq_true, beq_iff_eq, sameL_iff, Tr.mk.injEq]
theorem sameT_self (t : Tr) : sameT t t = true := (sameT_iff t t).2 rfl
theorem sameT_comm (t u : Tr) : sameT t u = sameT u t := by
  rw [Bool.eq_iff_iff, sameT_iff, sameT_iff]; exact eq_comm
theorem sameT_not {t u : Tr} (h : ¬ t = u) : sameT t u = false := by
  cases hx : sameT t u
  · rfl
  · exact absurd ((sameT_iff t u).1 hx) h
/-- The two blocks of Same. -/
theorem two_traps (w : World) (t u : Tr) (ao bo : Option Addr) (ca cb : Nat) : ∃ w2, (w.alloc (.cells #[.string (bs t.c), .bool t.f, .int .i64 t.r, .int .i64 t.n, .string (bs t.o), .slice ao t.l.length ca] 27)).alloc (.cells #[.string (bs u.c), .bool u.f, .int .i64 u.r, .int .i64 u.n, .string (bs u.o), .slice bo u.l.length cb] 27) = w2 ∧
    Tq w2 w.heap.size t ao ca ∧ Tq w2 (w.heap.size + 1) u bo cb ∧ Below w.heap.size w w2 := by
  have h1 := (Tq.new w t ao ca).below (alloc_in _ (.cells #[.string (bs u.c), .bool u.f, .int .i64 u.r, .int .i64 u.n, .string (bs u.o), .slice bo u.l.length cb] 27))
  have h2 := Tq.new (w.alloc (.cells #[.string (bs t.c), .bool t.f, .int .i64 t.r, .int .i64 t.n, .string (bs t.o), .slice ao t.l.length ca] 27)) u bo cb
  rw [show (w.alloc (.cells #[.string (bs t.c), .bool t.f, .int .i64 t.r, .int .i64 t.n, .string (bs t.o), .slice ao t.l.length ca] 27)).heap.size = w.heap.size + 1 by simp] at h2
  exact ⟨_, rfl, h1, h2, ((Below.refl _ _).alloc (Nat.le_refl _) _).alloc (by simp) _⟩
set_option maxRecDepth 100000 in
set_option maxHeartbeats 2000000 in
theorem qsame9_walk (t u : Tr) (ao bo : Option Addr) (ca cb : Nat) (hl : t.l.length ≤ 140737488351232) (hl2 : u.l.length ≤ 140737488351232) (w : World) (hr : RdB w ao t.l) (hs : RdB w bo u.l) :
    Calls Tryz.prog 12 #[.agg #[.string (bs t.c), .bool t.f, .int .i64 t.r, .int .i64 t.n, .string (bs t.o), .slice ao t.l.length ca], .agg #[.string (bs u.c), .bool u.f, .int .i64 u.r, .int .i64 u.n, .string (bs u.o), .slice bo u.l.length cb]] w fun e w' => e = .returned (.bool (sameT t u)) ∧ Below w.heap.size w w' := by
  obtain ⟨w2, hw2, hu, hv, bw⟩ := two_traps w t u ao bo ca cb
  rw [← hw2] at bw
  have hS := qsamebinds_walk t.l u.l ao bo ca cb hl hl2 _ (hr.below bw) (hs.below bw)
  clear hr hs hu hv hw2 hl hl2
  obtain ⟨S, hSu⟩ : ∃ S, sameT t u = S := ⟨_, rfl⟩
  rw [hSu]
  unfold sameT at hSu
  have e : ∀ c d : Int, ¬ c = d → (c == d) = false := fun c d h => beq_eq_false_iff_ne.2 h
  have e1 : ∀ c : Int, (c == c) = true := fun c => by simp
  have es : ∀ c d : List UInt8, ¬ c = d → (c == d) = false := fun c d h => beq_eq_false_iff_ne.2 h
  have es1 : ∀ c : List UInt8, (c == c) = true := fun c => by simp
  have eb : ∀ c d : Bool, ¬ c = d → (c == d) = false := fun c d h => beq_eq_false_iff_ne.2 h
  have eb1 : ∀ c : Bool, (c == c) = true := fun c => by simp
  have et : ∀ c d : List UInt8, ¬ c = d → decide (bs c = bs d) = false := fun c d h => decide_eq_false (fun k => h (bs_inj k))
  obtain ⟨c, f, r, n, o, l⟩ := t
  obtain ⟨c', f', r', n', o', l'⟩ := u
  simp only [] at *
  generalize sameL l l' = s5 at *
  generalize l.length = n1 at *
  generalize l'.length = n2 at *
  by_cases h0 : c = c'
  · subst h0
    rw [es1, Bool.true_and] at hSu
    by_cases h1 : f = f'
    · subst h1
      rw [eb1, Bool.true_and] at hSu
      by_cases h2 : r = r'
      · subst h2
        rw [e1, Bool.true_and] at hSu
        by_cases h3 : n = n'
        · subst h3
          rw [e1, Bool.true_and] at hSu
          by_cases h4 : o = o'
          · subst h4
            rw [es1, Bool.true_and] at hSu
            subst hSu
            have HS := Lib.hid hS
            clear hS e e1 es es1 eb eb1 et
            go_enter Tryz.func12, Tryz.ntmps12
            go_wp2_with fail
            refine HS.out.mono ?_
            rintro e w1 ⟨rfl, b1⟩
            go_wp2
            go_ret
            exact ⟨rfl, Below_in (Below_in b1)⟩
          · rw [es _ _ h4, Bool.false_and] at hSu
            subst hSu
            have ht := et _ _ h4
            have h4' := es _ _ h4
            clear hS e e1 es es1 eb eb1 et h4
            go_enter Tryz.func12, Tryz.ntmps12
            go_wp2
            go_ret
            exact ⟨rfl, bw⟩
        · rw [e _ _ h3, Bool.false_and] at hSu
          subst hSu
          have h3' := e _ _ h3
          clear hS e e1 es es1 eb eb1 et h3
          go_enter Tryz.func12, Tryz.ntmps12
          go_wp2
          go_ret
          exact ⟨rfl, bw⟩
      · rw [e _ _ h2, Bool.false_and] at hSu
        subst hSu
        have h2' := e _ _ h2
        clear hS e e1 es es1 eb eb1 et h2
        go_enter Tryz.func12, Tryz.ntmps12
        go_wp2
        go_ret
        exact ⟨rfl, bw⟩
    · rw [eb _ _ h1, Bool.false_and] at hSu
      subst hSu
      have h1' := eb _ _ h1
      clear hS e e1 es es1 eb eb1 et h1
      go_enter Tryz.func12, Tryz.ntmps12
      go_wp2
      go_ret
      exact ⟨rfl, bw⟩
  · rw [es _ _ h0, Bool.false_and] at hSu
    subst hSu
    have ht := et _ _ h0
    have h0' := es _ _ h0
    clear hS e e1 es es1 eb eb1 et h0
    go_enter Tryz.func12, Tryz.ntmps12
    go_wp2
    go_ret
    exact ⟨rfl, bw⟩
end Go.Proofs.YtdgnhcbhbpffmaaGreatDoor
