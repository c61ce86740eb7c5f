/- Texts on the program and on the document, joined: PaqV. -/
import Derived.Test.YtaeglmgpoboihaaGreatDoorMa31
/- The program's sameSet, sameTable, sameRule, slices.EqualFunc, Same, walked. gen_paqu.py writes it. -/
namespace Go.Proofs.YtaeglmgpoboihaaGreatDoor
open Go.ChangeShapes Go.WideShapes Go.ChangeAt Go.RowKit K L15
set_option linter.unusedVariables false
set_option linter.unusedSimpArgs false
namespace PQ
theorem two_box (w : World) (A B : Array Value) (T : TypeId) : ∃ w0, (w.alloc (.cells A T)).alloc (.cells B T) = w0 ∧ w0.heap[w.heap.size]? = some (.cells A T (0, 0)) ∧ w0.heap[w.heap.size + 1]? = some (.cells B T (0, 0)) ∧ Below w.heap.size w w0 := by
  have a1 : Below w.heap.size w (w.alloc (.cells A T)) := (Below.refl _ _).alloc (Nat.le_refl _) _
  have a2 : Below (w.alloc (.cells A T)).heap.size (w.alloc (.cells A T)) ((w.alloc (.cells A T)).alloc (.cells B T)) := (Below.refl _ _).alloc (Nat.le_refl _) _
  have r1 := rowNew w (.cells A T)
  have r2 := rowNew (w.alloc (.cells A T)) (.cells B T)
  rw [show (w.alloc (.cells A T)).heap.size = w.heap.size + 1 from World.size_alloc w _] at r2
  exact ⟨_, rfl, (a2.block _ (lt_of_block r1)).trans r1, r2, a1.trans (a2.mono a1.size)⟩
theorem stR_b {w w' : World} (k : Below w.heap.size w w') {r : List Value} {s : St} (h : StR0 w r s) : StR0 w' r s := by
  obtain ⟨po, pc, e, h⟩ := h
  exact ⟨po, pc, e, h.below k⟩
theorem tbR_b {w w' : World} (k : Below w.heap.size w w') {r : List Value} {s : Tb} (h : TbR0 w r s) : TbR0 w' r s := by
  obtain ⟨po, pc, e, h⟩ := h
  exact ⟨po, pc, e, h.below k⟩
theorem ruR_b {w w' : World} (k : Below w.heap.size w w') {r : List Value} {s : Ru} (h : RuR0 w r s) : RuR0 w' r s := by
  obtain ⟨po, pc, qo, qc, rs, e, h1, h2, h3⟩ := h
  exact ⟨po, pc, qo, qc, rs, e, h1.below k, h2.below k, RlR.imp (fun _ _ x => stR_b k x) h3⟩
theorem rl_at {α : Type} {d : α} {R : List Value → α → Prop} : ∀ {rs : List (List Value)} {xs : List α} {i : Nat}, RlR R rs xs → i < xs.length → R (rs.getD i []) (xs.getD i d)
  | [], [], _, _, h => by simp at h
  | [], _ :: _, _, h, _ => h.elim
  | _ :: _, [], _, h, _ => h.elim
  | r :: rs, x :: xs, 0, ⟨h1, _⟩, _ => h1
  | r :: rs, x :: xs, i + 1, ⟨_, h3⟩, h => (show R (rs.getD i []) (xs.getD i d) from rl_at (d := d) (i := i) h3 (by simpa using h))
theorem mem_getD {α : Type} {d : α} {xs : List α} {i : Nat} (h : i < xs.length) : xs.getD i d ∈ xs := by
  rw [List.getD_eq_getElem?_getD, List.getElem?_eq_getElem h]; exact List.getElem_mem h
set_option maxRecDepth 100000 in
set_option maxHeartbeats 4000000 in
theorem psameSet_walk (x y : St) (xp1 yp1 : Option Addr) (xc1 yc1 : Nat) (w : World) (lx1 : x.ps.length ≤ 140737488351232) (ly1 : y.ps.length ≤ 140737488351232) (rx1 : RdR0 w 3 xp1 (x.ps.map pcRow)) (ry1 : RdR0 w 3 yp1 (y.ps.map pcRow)) :
    Calls Tryz.prog 32 #[.agg #[.string (bs x.n), .slice xp1 x.ps.length xc1], .agg #[.string (bs y.n), .slice yp1 y.ps.length yc1]] w fun e w' => e = .returned (.bool (decide (x = y))) ∧ Below w.heap.size w w' := by
  obtain ⟨w0, hw0, hx, hy, b0⟩ := two_box w #[.string (bs x.n), .slice xp1 x.ps.length xc1] #[.string (bs y.n), .slice yp1 y.ps.length yc1] 53
  obtain ⟨x0, x1⟩ := x
  obtain ⟨y0, y1⟩ := y
  simp only at *
  have HW0 := Lib.hid hw0
  have B0 := Lib.hid b0
  have E1 := Lib.hid (fun w1 (d : Below w.heap.size w w1) => eqPc_walk x1 y1 xp1 yp1 xc1 yc1 lx1 ly1 w1 (rx1.below d) (ry1.below d))
  have RX0 := Lib.hid hx
  have RY0 := Lib.hid hy
  have cx0 := cellRow hx 0
  have cy0 := cellRow hy 0
  have cx1 := cellRow hx 1
  have cy1 := cellRow hy 1
  simp at cx0 cy0 cx1 cy1
  clear hw0 b0 hx hy rx1 ry1
  by_cases h0 : x0 = y0
  · subst h0
    by_cases h1 : x1 = y1
    · subst h1
      have HN := Lib.hid (decide_eq_true (rfl : (⟨x0, x1⟩ : St) = ⟨x0, x1⟩))
      rw [decide_eq_true (rfl : x1 = x1)] at E1
      go_enter Tryz.func32, Tryz.ntmps32
      go_wp2_with fail
      rw [HW0.out]
      go_wp2_with fail
      refine (E1.out _ B0.out).mono ?_
      rintro e u1 ⟨rfl, d1⟩
      have e1 := d1.below
      have hx := (e1.block _ (lt_of_block RX0.out)).trans RX0.out
      have hy := (e1.block _ (lt_of_block RY0.out)).trans RY0.out
      have B2 := Lib.hid (B0.out.trans (e1.mono B0.out.size))
      clear d1 e1 cx0 cy0 cx1 cy1
      have RX2 := Lib.hid hx
      have RY2 := Lib.hid hy
      clear hx hy
      go_wp2
      go_ret
      rw [HN.out]
      exact ⟨rfl, B2.out⟩
    · rw [decide_eq_false h1] at E1
      have HN := Lib.hid (decide_eq_false (fun e : (⟨x0, x1⟩ : St) = ⟨x0, y1⟩ => h1 (congrArg St.ps e)))
      clear h1
      go_enter Tryz.func32, Tryz.ntmps32
      go_wp2_with fail
      rw [HW0.out]
      go_wp2_with fail
      refine (E1.out _ B0.out).mono ?_
      rintro e u1 ⟨rfl, d1⟩
      have e1 := d1.below
      have hx := (e1.block _ (lt_of_block RX0.out)).trans RX0.out
      have hy := (e1.block _ (lt_of_block RY0.out)).trans RY0.out
      have B2 := Lib.hid (B0.out.trans (e1.mono B0.out.size))
      clear d1 e1 cx0 cy0 cx1 cy1
      have RX2 := Lib.hid hx
      have RY2 := Lib.hid hy
      clear hx hy
      go_wp2
      go_ret
      rw [HN.out]
      exact ⟨rfl, B2.out⟩
  · have hb : (x0 == y0) = false := beq_eq_false_iff_ne.2 h0
    have hd := bsq x0 y0
    rw [hb] at hd
    have HN := Lib.hid (decide_eq_false (fun e : (⟨x0, x1⟩ : St) = ⟨y0, y1⟩ => h0 (congrArg St.n e)))
    clear h0
    go_enter Tryz.func32, Tryz.ntmps32
    go_wp2_with fail
    rw [HW0.out]
    go_wp2
    go_ret
    rw [HN.out]
    exact ⟨rfl, B0.out⟩
def EfStRel (xs ys : List St) (w : World) (g : Nat) (v : Value) (wr : World) : Prop :=
  ∃ i, i + g = xs.length ∧ (∀ j, j < i → xs.getD j nSt = ys.getD j nSt) ∧ v = .int .i64 (i : Nat) ∧ Below w.heap.size w wr
set_option maxRecDepth 100000 in
set_option maxHeartbeats 4000000 in
theorem eqfSt_walk (xs ys : List St) (rs qs : List (List Value)) (ao bo : Option Addr) (ca cb : Nat) (hn : xs.length ≤ 140737488351232) (hn2 : ys.length ≤ 140737488351232) (hps : ∀ s ∈ xs, s.ps.length ≤ 140737488351232) (hps2 : ∀ s ∈ ys, s.ps.length ≤ 140737488351232) (w : World) (hr : RdR0 w 2 ao rs) (hr2 : RlR (StR0 w) rs xs) (hs : RdR0 w 2 bo qs) (hs2 : RlR (StR0 w) qs ys) :
    Calls Tryz.prog 31 #[.slice ao xs.length ca, .slice bo ys.length cb, .func (Fn.func 32) #[] #[]] w fun e w' => e = .returned (.bool (decide (xs = ys))) ∧ Below w.heap.size w w' := by
  by_cases hne : xs.length = ys.length
  rotate_left
  · have hb : (((xs.length : Nat) : Int) != ((ys.length : Nat) : Int)) = true := by rw [bne_iff_ne]; omega
    rw [show decide (xs = ys) = false from decide_eq_false (fun e => hne (by rw [e]))]
    clear hne hps hps2 hr hs hr2 hs2
    go_enter Tryz.func31, Tryz.ntmps31
    go_wp2
    go_ret
    exact ⟨rfl, Below.refl _ _⟩
  have hb : (((xs.length : Nat) : Int) != ((ys.length : Nat) : Int)) = false := by rw [hne]; simp
  have HNE := Lib.hid hne
  have HLX := Lib.hid hr2.len
  have HLY := Lib.hid hs2.len
  have HR := Lib.hid (fun w1 (d : Below w.heap.size w w1) => RdR0.below hr d)
  have HS := Lib.hid (fun w1 (d : Below w.heap.size w w1) => RdR0.below hs d)
  have HR2 := Lib.hid (fun w1 (d : Below w.heap.size w w1) => RlR.imp (fun _ _ z => stR_b d z) hr2)
  have HS2 := Lib.hid (fun w1 (d : Below w.heap.size w w1) => RlR.imp (fun _ _ z => stR_b d z) hs2)
  have HPS := Lib.hid hps
  have HPS2 := Lib.hid hps2
  clear hne hr hs hr2 hs2 hps hps2
  go_enter Tryz.func31, Tryz.ntmps31
  go_wp2_with fail
  go_loopg [17] xs.length (fun g v wr => EfStRel xs ys w g v wr)
  case atStart => exact ⟨0, by omega, by omega, rfl, Below.refl _ _⟩
  case round =>
    obtain ⟨i, hg, hall, rfl, hd⟩ := hrel
    have HALL := Lib.hid hall
    have HD := Lib.hid hd
    clear hall hd
    cases gk with
    | zero =>
      obtain rfl : i = xs.length := by omega
      have HE := Lib.hid (show decide (xs = ys) = true from decide_eq_true (getD_ext HNE.out HALL.out))
      go_wp2
      go_ret
      rw [HE.out]
      exact ⟨rfl, HD.out⟩
    | succ g =>
      have hlt : i < xs.length := by omega
      have hlt2 : i < ys.length := by have := HNE.out; omega
      have HX := Lib.hid (fun h : ¬ xs.getD i nSt = ys.getD i nSt => show decide (xs = ys) = false from decide_eq_false (fun e => h (by rw [e])))
      have HY := Lib.hid (fun (h : xs.getD i nSt = ys.getD i nSt) (j : Nat) (hj : j < i + 1) => (show xs.getD j nSt = ys.getD j nSt by
        by_cases hji : j = i
        · rw [hji]; exact h
        · exact HALL.out j (by omega)))
      have hpx := HPS.out _ (mem_getD (d := nSt) hlt)
      have hpy := HPS2.out _ (mem_getD (d := nSt) hlt2)
      have hrx := rl_at (d := nSt) (HR2.out _ HD.out) hlt
      have hry := rl_at (d := nSt) (HS2.out _ HD.out) hlt2
      obtain ⟨c, off, rfl, hc⟩ := r0_at (HR.out _ HD.out) (i := i) (by rw [HLX.out]; exact hlt)
      obtain ⟨c', off', rfl, hd⟩ := r0_at (HS.out _ HD.out) (i := i) (by rw [HLY.out]; exact hlt2)
      generalize xs.getD i nSt = x at *
      generalize ys.getD i nSt = y at *
      obtain ⟨xp1, xc1, ex, rx1⟩ := hrx
      obtain ⟨yp1, yc1, ey, ry1⟩ := hry
      have bA : Below wr.heap.size wr (wr.alloc (.cells #[.string (bs x.n), .slice xp1 x.ps.length xc1] 53)) := (Below.refl _ _).alloc (Nat.le_refl _) _
      have c0 : wr.cell? ⟨c, off + i * 2, none⟩ = some (.string (bs x.n)) := by have := hc 0 (by decide); rw [ex] at this; exact this
      have c1 : wr.cell? ⟨c, off + i * 2 + 1, none⟩ = some (.slice xp1 x.ps.length xc1) := by have := hc 1 (by decide); rw [ex] at this; exact this
      have d0 : wr.cell? ⟨c', off' + i * 2, none⟩ = some (.string (bs y.n)) := by have := hd 0 (by decide); rw [ey] at this; exact this
      have d1 : wr.cell? ⟨c', off' + i * 2 + 1, none⟩ = some (.slice yp1 y.ps.length yc1) := by have := hd 1 (by decide); rw [ey] at this; exact this
      have z0 : (wr.alloc (.cells #[.string (bs x.n), .slice xp1 x.ps.length xc1] 53)).cell? ⟨c', off' + i * 2, none⟩ = some (.string (bs y.n)) := (bA.cell (p := ⟨c', off' + i * 2, none⟩) (World.block_lt_of_cell? wr _ d0)).trans d0
      have z1 : (wr.alloc (.cells #[.string (bs x.n), .slice xp1 x.ps.length xc1] 53)).cell? ⟨c', off' + i * 2 + 1, none⟩ = some (.slice yp1 y.ps.length yc1) := (bA.cell (p := ⟨c', off' + i * 2 + 1, none⟩) (World.block_lt_of_cell? wr _ d1)).trans d1
      obtain ⟨w0, hw0, hx, hy, b0⟩ := two_box wr #[.string (bs x.n), .slice xp1 x.ps.length xc1] #[.string (bs y.n), .slice yp1 y.ps.length yc1] 53
      have HW0 := Lib.hid hw0
      have HSE := Lib.hid (psameSet_walk x y xp1 yp1 xc1 yc1 w0 hpx hpy (rx1.below b0) (ry1.below b0))
      have x0 := cellRow hx 0
      have y0 := cellRow hy 0
      have x1 := cellRow hx 1
      have y1 := cellRow hy 1
      simp at x0 y0 x1 y1
      have HB0 := Lib.hid (HD.out.trans (b0.mono HD.out.size))
      clear ex ey hc hd bA hw0 hx hy b0 hpx hpy rx1 ry1 d0 d1
      cases hxy : decide (x = y)
      · have HN := Lib.hid (HX.out (of_decide_eq_false hxy))
        rw [hxy] at HSE
        clear HX HY hxy
        go_wp2_with fail
        rw [HW0.out]
        go_wp2_with fail
        refine HSE.out.mono ?_
        rintro e w2 ⟨rfl, d2⟩
        have b2 := HB0.out.trans (d2.mono HB0.out.size)
        go_wp2
        go_ret
        rw [HN.out]
        exact ⟨rfl, b2⟩
      · have HN := Lib.hid (HY.out (of_decide_eq_true hxy))
        rw [hxy] at HSE
        clear HX HY hxy
        go_wp2_with fail
        rw [HW0.out]
        go_wp2_with fail
        refine HSE.out.mono ?_
        rintro e w2 ⟨rfl, d2⟩
        have HB2 := Lib.hid (HB0.out.trans (d2.mono HB0.out.size))
        clear d2
        go_wp2
        go_roundg g
        case measure => omega
        case rel => exact ⟨i + 1, by omega, HN.out, by simp, HB2.out⟩
set_option maxRecDepth 100000 in
set_option maxHeartbeats 4000000 in
theorem psameTable_walk (x y : Tb) (xp2 yp2 : Option Addr) (xc2 yc2 : Nat) (w : World) (lx2 : x.ks.length ≤ 140737488351232) (ly2 : y.ks.length ≤ 140737488351232) (rx2 : RdR0 w 2 xp2 (x.ks.map prRow)) (ry2 : RdR0 w 2 yp2 (y.ks.map prRow)) :
    Calls Tryz.prog 17 #[.agg #[.string (bs x.n), .int .i64 x.l, .slice xp2 x.ks.length xc2, .string (bs x.e)], .agg #[.string (bs y.n), .int .i64 y.l, .slice yp2 y.ks.length yc2, .string (bs y.e)]] w fun e w' => e = .returned (.bool (decide (x = y))) ∧ Below w.heap.size w w' := by
  obtain ⟨w0, hw0, hx, hy, b0⟩ := two_box w #[.string (bs x.n), .int .i64 x.l, .slice xp2 x.ks.length xc2, .string (bs x.e)] #[.string (bs y.n), .int .i64 y.l, .slice yp2 y.ks.length yc2, .string (bs y.e)] 34
  obtain ⟨x0, x1, x2, x3⟩ := x
  obtain ⟨y0, y1, y2, y3⟩ := y
  simp only at *
  have HW0 := Lib.hid hw0
  have B0 := Lib.hid b0
  have E2 := Lib.hid (fun w1 (d : Below w.heap.size w w1) => eqPr_walk x2 y2 xp2 yp2 xc2 yc2 lx2 ly2 w1 (rx2.below d) (ry2.below d))
  have RX0 := Lib.hid hx
  have RY0 := Lib.hid hy
  have cx0 := cellRow hx 0
  have cy0 := cellRow hy 0
  have cx1 := cellRow hx 1
  have cy1 := cellRow hy 1
  have cx2 := cellRow hx 2
  have cy2 := cellRow hy 2
  have cx3 := cellRow hx 3
  have cy3 := cellRow hy 3
  simp at cx0 cy0 cx1 cy1 cx2 cy2 cx3 cy3
  clear hw0 b0 hx hy rx2 ry2
  by_cases h0 : x0 = y0
  · subst h0
    by_cases h1 : x1 = y1
    · subst h1
      by_cases h2 : x2 = y2
      · subst h2
        by_cases h3 : x3 = y3
        · subst h3
          have HN := Lib.hid (decide_eq_true (rfl : (⟨x0, x1, x2, x3⟩ : Tb) = ⟨x0, x1, x2, x3⟩))
          rw [decide_eq_true (rfl : x2 = x2)] at E2
          go_enter Tryz.func17, Tryz.ntmps17
          go_wp2_with fail
          rw [HW0.out]
          go_wp2_with fail
          refine (E2.out _ B0.out).mono ?_
          rintro e u2 ⟨rfl, d2⟩
          have e2 := d2.below
          have hx := (e2.block _ (lt_of_block RX0.out)).trans RX0.out
          have hy := (e2.block _ (lt_of_block RY0.out)).trans RY0.out
          have B3 := Lib.hid (B0.out.trans (e2.mono B0.out.size))
          clear d2 e2 cx0 cy0 cx1 cy1 cx2 cy2 cx3 cy3
          have cx3 := cellRow hx 3
          have cy3 := cellRow hy 3
          simp at cx3 cy3
          have RX3 := Lib.hid hx
          have RY3 := Lib.hid hy
          clear hx hy
          go_wp2
          go_ret
          rw [HN.out]
          exact ⟨rfl, B3.out⟩
        · have hb : (x3 == y3) = false := beq_eq_false_iff_ne.2 h3
          have hd := bsq x3 y3
          rw [hb] at hd
          have HN := Lib.hid (decide_eq_false (fun e : (⟨x0, x1, x2, x3⟩ : Tb) = ⟨x0, x1, x2, y3⟩ => h3 (congrArg Tb.e e)))
          clear h3
          rw [decide_eq_true (rfl : x2 = x2)] at E2
          go_enter Tryz.func17, Tryz.ntmps17
          go_wp2_with fail
          rw [HW0.out]
          go_wp2_with fail
          refine (E2.out _ B0.out).mono ?_
          rintro e u2 ⟨rfl, d2⟩
          have e2 := d2.below
          have hx := (e2.block _ (lt_of_block RX0.out)).trans RX0.out
          have hy := (e2.block _ (lt_of_block RY0.out)).trans RY0.out
          have B3 := Lib.hid (B0.out.trans (e2.mono B0.out.size))
          clear d2 e2 cx0 cy0 cx1 cy1 cx2 cy2 cx3 cy3
          have cx3 := cellRow hx 3
          have cy3 := cellRow hy 3
          simp at cx3 cy3
          have RX3 := Lib.hid hx
          have RY3 := Lib.hid hy
          clear hx hy
          go_wp2
          go_ret
          rw [HN.out]
          exact ⟨rfl, B3.out⟩
      · rw [decide_eq_false h2] at E2
        have HN := Lib.hid (decide_eq_false (fun e : (⟨x0, x1, x2, x3⟩ : Tb) = ⟨x0, x1, y2, y3⟩ => h2 (congrArg Tb.ks e)))
        clear h2
        go_enter Tryz.func17, Tryz.ntmps17
        go_wp2_with fail
        rw [HW0.out]
        go_wp2_with fail
        refine (E2.out _ B0.out).mono ?_
        rintro e u2 ⟨rfl, d2⟩
        have e2 := d2.below
        have hx := (e2.block _ (lt_of_block RX0.out)).trans RX0.out
        have hy := (e2.block _ (lt_of_block RY0.out)).trans RY0.out
        have B3 := Lib.hid (B0.out.trans (e2.mono B0.out.size))
        clear d2 e2 cx0 cy0 cx1 cy1 cx2 cy2 cx3 cy3
        have cx3 := cellRow hx 3
        have cy3 := cellRow hy 3
        simp at cx3 cy3
        have RX3 := Lib.hid hx
        have RY3 := Lib.hid hy
        clear hx hy
        go_wp2
        go_ret
        rw [HN.out]
        exact ⟨rfl, B3.out⟩
    · have hb : (x1 == y1) = false := beq_eq_false_iff_ne.2 h1
      have HN := Lib.hid (decide_eq_false (fun e : (⟨x0, x1, x2, x3⟩ : Tb) = ⟨x0, y1, y2, y3⟩ => h1 (congrArg Tb.l e)))
      clear h1
      go_enter Tryz.func17, Tryz.ntmps17
      go_wp2_with fail
      rw [HW0.out]
      go_wp2
      go_ret
      rw [HN.out]
      exact ⟨rfl, B0.out⟩
  · have hb : (x0 == y0) = false := beq_eq_false_iff_ne.2 h0
    have hd := bsq x0 y0
    rw [hb] at hd
    have HN := Lib.hid (decide_eq_false (fun e : (⟨x0, x1, x2, x3⟩ : Tb) = ⟨y0, y1, y2, y3⟩ => h0 (congrArg Tb.n e)))
    clear h0
    go_enter Tryz.func17, Tryz.ntmps17
    go_wp2_with fail
    rw [HW0.out]
    go_wp2
    go_ret
    rw [HN.out]
    exact ⟨rfl, B0.out⟩
def EfTbRel (xs ys : List Tb) (w : World) (g : Nat) (v : Value) (wr : World) : Prop :=
  ∃ i, i + g = xs.length ∧ (∀ j, j < i → xs.getD j nTb = ys.getD j nTb) ∧ v = .int .i64 (i : Nat) ∧ Below w.heap.size w wr
set_option maxRecDepth 100000 in
set_option maxHeartbeats 4000000 in
theorem eqfTb_walk (xs ys : List Tb) (rs qs : List (List Value)) (ao bo : Option Addr) (ca cb : Nat) (hn : xs.length ≤ 140737488351232) (hn2 : ys.length ≤ 140737488351232) (hps : ∀ s ∈ xs, s.ks.length ≤ 140737488351232) (hps2 : ∀ s ∈ ys, s.ks.length ≤ 140737488351232) (w : World) (hr : RdR0 w 4 ao rs) (hr2 : RlR (TbR0 w) rs xs) (hs : RdR0 w 4 bo qs) (hs2 : RlR (TbR0 w) qs ys) :
    Calls Tryz.prog 16 #[.slice ao xs.length ca, .slice bo ys.length cb, .func (Fn.func 17) #[] #[]] w fun e w' => e = .returned (.bool (decide (xs = ys))) ∧ Below w.heap.size w w' := by
  by_cases hne : xs.length = ys.length
  rotate_left
  · have hb : (((xs.length : Nat) : Int) != ((ys.length : Nat) : Int)) = true := by rw [bne_iff_ne]; omega
    rw [show decide (xs = ys) = false from decide_eq_false (fun e => hne (by rw [e]))]
    clear hne hps hps2 hr hs hr2 hs2
    go_enter Tryz.func16, Tryz.ntmps16
    go_wp2
    go_ret
    exact ⟨rfl, Below.refl _ _⟩
  have hb : (((xs.length : Nat) : Int) != ((ys.length : Nat) : Int)) = false := by rw [hne]; simp
  have HNE := Lib.hid hne
  have HLX := Lib.hid hr2.len
  have HLY := Lib.hid hs2.len
  have HR := Lib.hid (fun w1 (d : Below w.heap.size w w1) => RdR0.below hr d)
  have HS := Lib.hid (fun w1 (d : Below w.heap.size w w1) => RdR0.below hs d)
  have HR2 := Lib.hid (fun w1 (d : Below w.heap.size w w1) => RlR.imp (fun _ _ z => tbR_b d z) hr2)
  have HS2 := Lib.hid (fun w1 (d : Below w.heap.size w w1) => RlR.imp (fun _ _ z => tbR_b d z) hs2)
  have HPS := Lib.hid hps
  have HPS2 := Lib.hid hps2
  clear hne hr hs hr2 hs2 hps hps2
  go_enter Tryz.func16, Tryz.ntmps16
  go_wp2_with fail
  go_loopg [17] xs.length (fun g v wr => EfTbRel xs ys w g v wr)
  case atStart => exact ⟨0, by omega, by omega, rfl, Below.refl _ _⟩
  case round =>
    obtain ⟨i, hg, hall, rfl, hd⟩ := hrel
    have HALL := Lib.hid hall
    have HD := Lib.hid hd
    clear hall hd
    cases gk with
    | zero =>
      obtain rfl : i = xs.length := by omega
      have HE := Lib.hid (show decide (xs = ys) = true from decide_eq_true (getD_ext HNE.out HALL.out))
      go_wp2
      go_ret
      rw [HE.out]
      exact ⟨rfl, HD.out⟩
    | succ g =>
      have hlt : i < xs.length := by omega
      have hlt2 : i < ys.length := by have := HNE.out; omega
      have HX := Lib.hid (fun h : ¬ xs.getD i nTb = ys.getD i nTb => show decide (xs = ys) = false from decide_eq_false (fun e => h (by rw [e])))
      have HY := Lib.hid (fun (h : xs.getD i nTb = ys.getD i nTb) (j : Nat) (hj : j < i + 1) => (show xs.getD j nTb = ys.getD j nTb by
        by_cases hji : j = i
        · rw [hji]; exact h
        · exact HALL.out j (by omega)))
      have hpx := HPS.out _ (mem_getD (d := nTb) hlt)
      have hpy := HPS2.out _ (mem_getD (d := nTb) hlt2)
      have hrx := rl_at (d := nTb) (HR2.out _ HD.out) hlt
      have hry := rl_at (d := nTb) (HS2.out _ HD.out) hlt2
      obtain ⟨c, off, rfl, hc⟩ := r0_at (HR.out _ HD.out) (i := i) (by rw [HLX.out]; exact hlt)
      obtain ⟨c', off', rfl, hd⟩ := r0_at (HS.out _ HD.out) (i := i) (by rw [HLY.out]; exact hlt2)
      generalize xs.getD i nTb = x at *
      generalize ys.getD i nTb = y at *
      obtain ⟨xp2, xc2, ex, rx2⟩ := hrx
      obtain ⟨yp2, yc2, ey, ry2⟩ := hry
      have bA : Below wr.heap.size wr (wr.alloc (.cells #[.string (bs x.n), .int .i64 x.l, .slice xp2 x.ks.length xc2, .string (bs x.e)] 34)) := (Below.refl _ _).alloc (Nat.le_refl _) _
      have c0 : wr.cell? ⟨c, off + i * 4, none⟩ = some (.string (bs x.n)) := by have := hc 0 (by decide); rw [ex] at this; exact this
      have c1 : wr.cell? ⟨c, off + i * 4 + 1, none⟩ = some (.int .i64 x.l) := by have := hc 1 (by decide); rw [ex] at this; exact this
      have c2 : wr.cell? ⟨c, off + i * 4 + 2, none⟩ = some (.slice xp2 x.ks.length xc2) := by have := hc 2 (by decide); rw [ex] at this; exact this
      have c3 : wr.cell? ⟨c, off + i * 4 + 3, none⟩ = some (.string (bs x.e)) := by have := hc 3 (by decide); rw [ex] at this; exact this
      have d0 : wr.cell? ⟨c', off' + i * 4, none⟩ = some (.string (bs y.n)) := by have := hd 0 (by decide); rw [ey] at this; exact this
      have d1 : wr.cell? ⟨c', off' + i * 4 + 1, none⟩ = some (.int .i64 y.l) := by have := hd 1 (by decide); rw [ey] at this; exact this
      have d2 : wr.cell? ⟨c', off' + i * 4 + 2, none⟩ = some (.slice yp2 y.ks.length yc2) := by have := hd 2 (by decide); rw [ey] at this; exact this
      have d3 : wr.cell? ⟨c', off' + i * 4 + 3, none⟩ = some (.string (bs y.e)) := by have := hd 3 (by decide); rw [ey] at this; exact this
      have z0 : (wr.alloc (.cells #[.string (bs x.n), .int .i64 x.l, .slice xp2 x.ks.length xc2, .string (bs x.e)] 34)).cell? ⟨c', off' + i * 4, none⟩ = some (.string (bs y.n)) := (bA.cell (p := ⟨c', off' + i * 4, none⟩) (World.block_lt_of_cell? wr _ d0)).trans d0
      have z1 : (wr.alloc (.cells #[.string (bs x.n), .int .i64 x.l, .slice xp2 x.ks.length xc2, .string (bs x.e)] 34)).cell? ⟨c', off' + i * 4 + 1, none⟩ = some (.int .i64 y.l) := (bA.cell (p := ⟨c', off' + i * 4 + 1, none⟩) (World.block_lt_of_cell? wr _ d1)).trans d1
      have z2 : (wr.alloc (.cells #[.string (bs x.n), .int .i64 x.l, .slice xp2 x.ks.length xc2, .string (bs x.e)] 34)).cell? ⟨c', off' + i * 4 + 2, none⟩ = some (.slice yp2 y.ks.length yc2) := (bA.cell (p := ⟨c', off' + i * 4 + 2, none⟩) (World.block_lt_of_cell? wr _ d2)).trans d2
      have z3 : (wr.alloc (.cells #[.string (bs x.n), .int .i64 x.l, .slice xp2 x.ks.length xc2, .string (bs x.e)] 34)).cell? ⟨c', off' + i * 4 + 3, none⟩ = some (.string (bs y.e)) := (bA.cell (p := ⟨c', off' + i * 4 + 3, none⟩) (World.block_lt_of_cell? wr _ d3)).trans d3
      obtain ⟨w0, hw0, hx, hy, b0⟩ := two_box wr #[.string (bs x.n), .int .i64 x.l, .slice xp2 x.ks.length xc2, .string (bs x.e)] #[.string (bs y.n), .int .i64 y.l, .slice yp2 y.ks.length yc2, .string (bs y.e)] 34
      have HW0 := Lib.hid hw0
      have HSE := Lib.hid (psameTable_walk x y xp2 yp2 xc2 yc2 w0 hpx hpy (rx2.below b0) (ry2.below b0))
      have x0 := cellRow hx 0
      have y0 := cellRow hy 0
      have x1 := cellRow hx 1
      have y1 := cellRow hy 1
      have x2 := cellRow hx 2
      have y2 := cellRow hy 2
      have x3 := cellRow hx 3
      have y3 := cellRow hy 3
      simp at x0 y0 x1 y1 x2 y2 x3 y3
      have HB0 := Lib.hid (HD.out.trans (b0.mono HD.out.size))
      clear ex ey hc hd bA hw0 hx hy b0 hpx hpy rx2 ry2 d0 d1 d2 d3
      cases hxy : decide (x = y)
      · have HN := Lib.hid (HX.out (of_decide_eq_false hxy))
        rw [hxy] at HSE
        clear HX HY hxy
        go_wp2_with fail
        rw [HW0.out]
        go_wp2_with fail
        refine HSE.out.mono ?_
        rintro e w2 ⟨rfl, d2⟩
        have b2 := HB0.out.trans (d2.mono HB0.out.size)
        go_wp2
        go_ret
        rw [HN.out]
        exact ⟨rfl, b2⟩
      · have HN := Lib.hid (HY.out (of_decide_eq_true hxy))
        rw [hxy] at HSE
        clear HX HY hxy
        go_wp2_with fail
        rw [HW0.out]
        go_wp2_with fail
        refine HSE.out.mono ?_
        rintro e w2 ⟨rfl, d2⟩
        have HB2 := Lib.hid (HB0.out.trans (d2.mono HB0.out.size))
        clear d2
        go_wp2
        go_roundg g
        case measure => omega
        case rel => exact ⟨i + 1, by omega, HN.out, by simp, HB2.out⟩
set_option maxRecDepth 100000 in
set_option maxHeartbeats 4000000 in
theorem psameRule_walk (x y : Ru) (xp5 yp5 : Option Addr) (xc5 yc5 : Nat) (xp6 yp6 : Option Addr) (xc6 yc6 : Nat) (rs6 qs6 : List (List Value)) (w : World) (lx5 : x.ts.length ≤ 140737488351232) (ly5 : y.ts.length ≤ 140737488351232) (lx6 : x.ss.length ≤ 140737488351232) (ly6 : y.ss.length ≤ 140737488351232) (mx6 : ∀ s ∈ x.ss, s.ps.length ≤ 140737488351232) (my6 : ∀ s ∈ y.ss, s.ps.length ≤ 140737488351232) (rx5 : RdR0 w 3 xp5 (x.ts.map tsRow)) (ry5 : RdR0 w 3 yp5 (y.ts.map tsRow)) (rx6 : RdR0 w 2 xp6 rs6) (sx6 : RlR (StR0 w) rs6 x.ss) (ry6 : RdR0 w 2 yp6 qs6) (sy6 : RlR (StR0 w) qs6 y.ss) :
    Calls Tryz.prog 19 #[.agg #[.string (bs x.n), .int .i64 x.l, .int .i64 x.fr, .string (bs x.oid), .bool x.wi, .slice xp5 x.ts.length xc5, .slice xp6 x.ss.length xc6, .bool x.dr], .agg #[.string (bs y.n), .int .i64 y.l, .int .i64 y.fr, .string (bs y.oid), .bool y.wi, .slice yp5 y.ts.length yc5, .slice yp6 y.ss.length yc6, .bool y.dr]] w fun e w' => e = .returned (.bool (decide (x = y))) ∧ Below w.heap.size w w' := by
  obtain ⟨w0, hw0, hx, hy, b0⟩ := two_box w #[.string (bs x.n), .int .i64 x.l, .int .i64 x.fr, .string (bs x.oid), .bool x.wi, .slice xp5 x.ts.length xc5, .slice xp6 x.ss.length xc6, .bool x.dr] #[.string (bs y.n), .int .i64 y.l, .int .i64 y.fr, .string (bs y.oid), .bool y.wi, .slice yp5 y.ts.length yc5, .slice yp6 y.ss.length yc6, .bool y.dr] 38
  obtain ⟨x0, x1, x2, x3, x4, x5, x6, x7⟩ := x
  obtain ⟨y0, y1, y2, y3, y4, y5, y6, y7⟩ := y
  simp only at *
  have HW0 := Lib.hid hw0
  have B0 := Lib.hid b0
  have E5 := Lib.hid (fun w1 (d : Below w.heap.size w w1) => eqTs_walk x5 y5 xp5 yp5 xc5 yc5 lx5 ly5 w1 (rx5.below d) (ry5.below d))
  have E6 := Lib.hid (fun w1 (d : Below w.heap.size w w1) => eqfSt_walk x6 y6 rs6 qs6 xp6 yp6 xc6 yc6 lx6 ly6 mx6 my6 w1 (rx6.below d) (RlR.imp (fun _ _ z => stR_b d z) sx6) (ry6.below d) (RlR.imp (fun _ _ z => stR_b d z) sy6))
  have RX0 := Lib.hid hx
  have RY0 := Lib.hid hy
  have cx0 := cellRow hx 0
  have cy0 := cellRow hy 0
  have cx1 := cellRow hx 1
  have cy1 := cellRow hy 1
  have cx2 := cellRow hx 2
  have cy2 := cellRow hy 2
  have cx3 := cellRow hx 3
  have cy3 := cellRow hy 3
  have cx4 := cellRow hx 4
  have cy4 := cellRow hy 4
  have cx5 := cellRow hx 5
  have cy5 := cellRow hy 5
  have cx6 := cellRow hx 6
  have cy6 := cellRow hy 6
  have cx7 := cellRow hx 7
  have cy7 := cellRow hy 7
  simp at cx0 cy0 cx1 cy1 cx2 cy2 cx3 cy3 cx4 cy4 cx5 cy5 cx6 cy6 cx7 cy7
  clear hw0 b0 hx hy rx5 ry5 rx6 ry6 sx6 sy6
  by_cases h0 : x0 = y0
  · subst h0
    by_cases h1 : x1 = y1
    · subst h1
      by_cases h2 : x2 = y2
      · subst h2
        by_cases h3 : x3 = y3
        · subst h3
          by_cases h4 : x4 = y4
          · subst h4
            by_cases h5 : x5 = y5
            · subst h5
              by_cases h6 : x6 = y6
              · subst h6
                by_cases h7 : x7 = y7
                · subst h7
                  have HN := Lib.hid (decide_eq_true (rfl : (⟨x0, x1, x2, x3, x4, x5, x6, x7⟩ : Ru) = ⟨x0, x1, x2, x3, x4, x5, x6, x7⟩))
                  rw [decide_eq_true (rfl : x5 = x5)] at E5
                  rw [decide_eq_true (rfl : x6 = x6)] at E6
                  go_enter Tryz.func19, Tryz.ntmps19
                  go_wp2_with fail
                  rw [HW0.out]
                  go_wp2_with fail
                  refine (E5.out _ B0.out).mono ?_
                  rintro e u5 ⟨rfl, d5⟩
                  have e5 := d5.below
                  have hx := (e5.block _ (lt_of_block RX0.out)).trans RX0.out
                  have hy := (e5.block _ (lt_of_block RY0.out)).trans RY0.out
                  have B6 := Lib.hid (B0.out.trans (e5.mono B0.out.size))
                  clear d5 e5 cx0 cy0 cx1 cy1 cx2 cy2 cx3 cy3 cx4 cy4 cx5 cy5 cx6 cy6 cx7 cy7
                  have cx6 := cellRow hx 6
                  have cy6 := cellRow hy 6
                  have cx7 := cellRow hx 7
                  have cy7 := cellRow hy 7
                  simp at cx6 cy6 cx7 cy7
                  have RX6 := Lib.hid hx
                  have RY6 := Lib.hid hy
                  clear hx hy
                  go_wp2_with fail
                  refine (E6.out _ B6.out).mono ?_
                  rintro e u6 ⟨rfl, d6⟩
                  have e6 := d6
                  have hx := (e6.block _ (lt_of_block RX6.out)).trans RX6.out
                  have hy := (e6.block _ (lt_of_block RY6.out)).trans RY6.out
                  have B7 := Lib.hid (B6.out.trans (e6.mono B6.out.size))
                  clear d6 e6 cx6 cy6 cx7 cy7
                  have cx7 := cellRow hx 7
                  have cy7 := cellRow hy 7
                  simp at cx7 cy7
                  have RX7 := Lib.hid hx
                  have RY7 := Lib.hid hy
                  clear hx hy
                  go_wp2
                  go_ret
                  rw [HN.out]
                  exact ⟨rfl, B7.out⟩
                · have hb : (x7 == y7) = false := beq_eq_false_iff_ne.2 h7
                  have HN := Lib.hid (decide_eq_false (fun e : (⟨x0, x1, x2, x3, x4, x5, x6, x7⟩ : Ru) = ⟨x0, x1, x2, x3, x4, x5, x6, y7⟩ => h7 (congrArg Ru.dr e)))
                  clear h7
                  rw [decide_eq_true (rfl : x5 = x5)] at E5
                  rw [decide_eq_true (rfl : x6 = x6)] at E6
                  go_enter Tryz.func19, Tryz.ntmps19
                  go_wp2_with fail
                  rw [HW0.out]
                  go_wp2_with fail
                  refine (E5.out _ B0.out).mono ?_
                  rintro e u5 ⟨rfl, d5⟩
                  have e5 := d5.below
                  have hx := (e5.block _ (lt_of_block RX0.out)).trans RX0.out
                  have hy := (e5.block _ (lt_of_block RY0.out)).trans RY0.out
                  have B6 := Lib.hid (B0.out.trans (e5.mono B0.out.size))
                  clear d5 e5 cx0 cy0 cx1 cy1 cx2 cy2 cx3 cy3 cx4 cy4 cx5 cy5 cx6 cy6 cx7 cy7
                  have cx6 := cellRow hx 6
                  have cy6 := cellRow hy 6
                  have cx7 := cellRow hx 7
                  have cy7 := cellRow hy 7
                  simp at cx6 cy6 cx7 cy7
                  have RX6 := Lib.hid hx
                  have RY6 := Lib.hid hy
                  clear hx hy
                  go_wp2_with fail
                  refine (E6.out _ B6.out).mono ?_
                  rintro e u6 ⟨rfl, d6⟩
                  have e6 := d6
                  have hx := (e6.block _ (lt_of_block RX6.out)).trans RX6.out
                  have hy := (e6.block _ (lt_of_block RY6.out)).trans RY6.out
                  have B7 := Lib.hid (B6.out.trans (e6.mono B6.out.size))
                  clear d6 e6 cx6 cy6 cx7 cy7
                  have cx7 := cellRow hx 7
                  have cy7 := cellRow hy 7
                  simp at cx7 cy7
                  have RX7 := Lib.hid hx
                  have RY7 := Lib.hid hy
                  clear hx hy
                  go_wp2
                  go_ret
                  rw [HN.out]
                  exact ⟨rfl, B7.out⟩
              · rw [decide_eq_false h6] at E6
                have HN := Lib.hid (decide_eq_false (fun e : (⟨x0, x1, x2, x3, x4, x5, x6, x7⟩ : Ru) = ⟨x0, x1, x2, x3, x4, x5, y6, y7⟩ => h6 (congrArg Ru.ss e)))
                clear h6
                rw [decide_eq_true (rfl : x5 = x5)] at E5
                go_enter Tryz.func19, Tryz.ntmps19
                go_wp2_with fail
                rw [HW0.out]
                go_wp2_with fail
                refine (E5.out _ B0.out).mono ?_
                rintro e u5 ⟨rfl, d5⟩
                have e5 := d5.below
                have hx := (e5.block _ (lt_of_block RX0.out)).trans RX0.out
                have hy := (e5.block _ (lt_of_block RY0.out)).trans RY0.out
                have B6 := Lib.hid (B0.out.trans (e5.mono B0.out.size))
                clear d5 e5 cx0 cy0 cx1 cy1 cx2 cy2 cx3 cy3 cx4 cy4 cx5 cy5 cx6 cy6 cx7 cy7
                have cx6 := cellRow hx 6
                have cy6 := cellRow hy 6
                have cx7 := cellRow hx 7
                have cy7 := cellRow hy 7
                simp at cx6 cy6 cx7 cy7
                have RX6 := Lib.hid hx
                have RY6 := Lib.hid hy
                clear hx hy
                go_wp2_with fail
                refine (E6.out _ B6.out).mono ?_
                rintro e u6 ⟨rfl, d6⟩
                have e6 := d6
                have hx := (e6.block _ (lt_of_block RX6.out)).trans RX6.out
                have hy := (e6.block _ (lt_of_block RY6.out)).trans RY6.out
                have B7 := Lib.hid (B6.out.trans (e6.mono B6.out.size))
                clear d6 e6 cx6 cy6 cx7 cy7
                have cx7 := cellRow hx 7
                have cy7 := cellRow hy 7
                simp at cx7 cy7
                have RX7 := Lib.hid hx
                have RY7 := Lib.hid hy
                clear hx hy
                go_wp2
                go_ret
                rw [HN.out]
                exact ⟨rfl, B7.out⟩
            · rw [decide_eq_false h5] at E5
              have HN := Lib.hid (decide_eq_false (fun e : (⟨x0, x1, x2, x3, x4, x5, x6, x7⟩ : Ru) = ⟨x0, x1, x2, x3, x4, y5, y6, y7⟩ => h5 (congrArg Ru.ts e)))
              clear h5
              go_enter Tryz.func19, Tryz.ntmps19
              go_wp2_with fail
              rw [HW0.out]
              go_wp2_with fail
              refine (E5.out _ B0.out).mono ?_
              rintro e u5 ⟨rfl, d5⟩
              have e5 := d5.below
              have hx := (e5.block _ (lt_of_block RX0.out)).trans RX0.out
              have hy := (e5.block _ (lt_of_block RY0.out)).trans RY0.out
              have B6 := Lib.hid (B0.out.trans (e5.mono B0.out.size))
              clear d5 e5 cx0 cy0 cx1 cy1 cx2 cy2 cx3 cy3 cx4 cy4 cx5 cy5 cx6 cy6 cx7 cy7
              have cx6 := cellRow hx 6
              have cy6 := cellRow hy 6
              have cx7 := cellRow hx 7
              have cy7 := cellRow hy 7
              simp at cx6 cy6 cx7 cy7
              have RX6 := Lib.hid hx
              have RY6 := Lib.hid hy
              clear hx hy
              go_wp2
              go_ret
              rw [HN.out]
              exact ⟨rfl, B6.out⟩
          · have hb : (x4 == y4) = false := beq_eq_false_iff_ne.2 h4
            have HN := Lib.hid (decide_eq_false (fun e : (⟨x0, x1, x2, x3, x4, x5, x6, x7⟩ : Ru) = ⟨x0, x1, x2, x3, y4, y5, y6, y7⟩ => h4 (congrArg Ru.wi e)))
            clear h4
            go_enter Tryz.func19, Tryz.ntmps19
            go_wp2_with fail
            rw [HW0.out]
            go_wp2
            go_ret
            rw [HN.out]
            exact ⟨rfl, B0.out⟩
        · have hb : (x3 == y3) = false := beq_eq_false_iff_ne.2 h3
          have hd := bsq x3 y3
          rw [hb] at hd
          have HN := Lib.hid (decide_eq_false (fun e : (⟨x0, x1, x2, x3, x4, x5, x6, x7⟩ : Ru) = ⟨x0, x1, x2, y3, y4, y5, y6, y7⟩ => h3 (congrArg Ru.oid e)))
          clear h3
          go_enter Tryz.func19, Tryz.ntmps19
          go_wp2_with fail
          rw [HW0.out]
          go_wp2
          go_ret
          rw [HN.out]
          exact ⟨rfl, B0.out⟩
      · have hb : (x2 == y2) = false := beq_eq_false_iff_ne.2 h2
        have HN := Lib.hid (decide_eq_false (fun e : (⟨x0, x1, x2, x3, x4, x5, x6, x7⟩ : Ru) = ⟨x0, x1, y2, y3, y4, y5, y6, y7⟩ => h2 (congrArg Ru.fr e)))
        clear h2
        go_enter Tryz.func19, Tryz.ntmps19
        go_wp2_with fail
        rw [HW0.out]
        go_wp2
        go_ret
        rw [HN.out]
        exact ⟨rfl, B0.out⟩
    · have hb : (x1 == y1) = false := beq_eq_false_iff_ne.2 h1
      have HN := Lib.hid (decide_eq_false (fun e : (⟨x0, x1, x2, x3, x4, x5, x6, x7⟩ : Ru) = ⟨x0, y1, y2, y3, y4, y5, y6, y7⟩ => h1 (congrArg Ru.l e)))
      clear h1
      go_enter Tryz.func19, Tryz.ntmps19
      go_wp2_with fail
      rw [HW0.out]
      go_wp2
      go_ret
      rw [HN.out]
      exact ⟨rfl, B0.out⟩
  · have hb : (x0 == y0) = false := beq_eq_false_iff_ne.2 h0
    have hd := bsq x0 y0
    rw [hb] at hd
    have HN := Lib.hid (decide_eq_false (fun e : (⟨x0, x1, x2, x3, x4, x5, x6, x7⟩ : Ru) = ⟨y0, y1, y2, y3, y4, y5, y6, y7⟩ => h0 (congrArg Ru.n e)))
    clear h0
    go_enter Tryz.func19, Tryz.ntmps19
    go_wp2_with fail
    rw [HW0.out]
    go_wp2
    go_ret
    rw [HN.out]
    exact ⟨rfl, B0.out⟩
def EfRuRel (xs ys : List Ru) (w : World) (g : Nat) (v : Value) (wr : World) : Prop :=
  ∃ i, i + g = xs.length ∧ (∀ j, j < i → xs.getD j nRu = ys.getD j nRu) ∧ v = .int .i64 (i : Nat) ∧ Below w.heap.size w wr
set_option maxRecDepth 100000 in
set_option maxHeartbeats 4000000 in
theorem eqfRu_walk (xs ys : List Ru) (rs qs : List (List Value)) (ao bo : Option Addr) (ca cb : Nat) (hn : xs.length ≤ 140737488351232) (hn2 : ys.length ≤ 140737488351232) (hps : ∀ s ∈ xs, s.ts.length ≤ 140737488351232 ∧ s.ss.length ≤ 140737488351232 ∧ ∀ z ∈ s.ss, z.ps.length ≤ 140737488351232) (hps2 : ∀ s ∈ ys, s.ts.length ≤ 140737488351232 ∧ s.ss.length ≤ 140737488351232 ∧ ∀ z ∈ s.ss, z.ps.length ≤ 140737488351232) (w : World) (hr : RdR0 w 8 ao rs) (hr2 : RlR (RuR0 w) rs xs) (hs : RdR0 w 8 bo qs) (hs2 : RlR (RuR0 w) qs ys) :
    Calls Tryz.prog 18 #[.slice ao xs.length ca, .slice bo ys.length cb, .func (Fn.func 19) #[] #[]] w fun e w' => e = .returned (.bool (decide (xs = ys))) ∧ Below w.heap.size w w' := by
  by_cases hne : xs.length = ys.length
  rotate_left
  · have hb : (((xs.length : Nat) : Int) != ((ys.length : Nat) : Int)) = true := by rw [bne_iff_ne]; omega
    rw [show decide (xs = ys) = false from decide_eq_false (fun e => hne (by rw [e]))]
    clear hne hps hps2 hr hs hr2 hs2
    go_enter Tryz.func18, Tryz.ntmps18
    go_wp2
    go_ret
    exact ⟨rfl, Below.refl _ _⟩
  have hb : (((xs.length : Nat) : Int) != ((ys.length : Nat) : Int)) = false := by rw [hne]; simp
  have HNE := Lib.hid hne
  have HLX := Lib.hid hr2.len
  have HLY := Lib.hid hs2.len
  have HR := Lib.hid (fun w1 (d : Below w.heap.size w w1) => RdR0.below hr d)
  have HS := Lib.hid (fun w1 (d : Below w.heap.size w w1) => RdR0.below hs d)
  have HR2 := Lib.hid (fun w1 (d : Below w.heap.size w w1) => RlR.imp (fun _ _ z => ruR_b d z) hr2)
  have HS2 := Lib.hid (fun w1 (d : Below w.heap.size w w1) => RlR.imp (fun _ _ z => ruR_b d z) hs2)
  have HPS := Lib.hid hps
  have HPS2 := Lib.hid hps2
  clear hne hr hs hr2 hs2 hps hps2
  go_enter Tryz.func18, Tryz.ntmps18
  go_wp2_with fail
  go_loopg [17] xs.length (fun g v wr => EfRuRel xs ys w g v wr)
  case atStart => exact ⟨0, by omega, by omega, rfl, Below.refl _ _⟩
  case round =>
    obtain ⟨i, hg, hall, rfl, hd⟩ := hrel
    have HALL := Lib.hid hall
    have HD := Lib.hid hd
    clear hall hd
    cases gk with
    | zero =>
      obtain rfl : i = xs.length := by omega
      have HE := Lib.hid (show decide (xs = ys) = true from decide_eq_true (getD_ext HNE.out HALL.out))
      go_wp2
      go_ret
      rw [HE.out]
      exact ⟨rfl, HD.out⟩
    | succ g =>
      have hlt : i < xs.length := by omega
      have hlt2 : i < ys.length := by have := HNE.out; omega
      have HX := Lib.hid (fun h : ¬ xs.getD i nRu = ys.getD i nRu => show decide (xs = ys) = false from decide_eq_false (fun e => h (by rw [e])))
      have HY := Lib.hid (fun (h : xs.getD i nRu = ys.getD i nRu) (j : Nat) (hj : j < i + 1) => (show xs.getD j nRu = ys.getD j nRu by
        by_cases hji : j = i
        · rw [hji]; exact h
        · exact HALL.out j (by omega)))
      have hpx := HPS.out _ (mem_getD (d := nRu) hlt)
      have hpy := HPS2.out _ (mem_getD (d := nRu) hlt2)
      have hrx := rl_at (d := nRu) (HR2.out _ HD.out) hlt
      have hry := rl_at (d := nRu) (HS2.out _ HD.out) hlt2
      obtain ⟨c, off, rfl, hc⟩ := r0_at (HR.out _ HD.out) (i := i) (by rw [HLX.out]; exact hlt)
      obtain ⟨c', off', rfl, hd⟩ := r0_at (HS.out _ HD.out) (i := i) (by rw [HLY.out]; exact hlt2)
      generalize xs.getD i nRu = x at *
      generalize ys.getD i nRu = y at *
      obtain ⟨xp5, xc5, xp6, xc6, xs6, ex, rx5, rx6, sx6⟩ := hrx
      obtain ⟨yp5, yc5, yp6, yc6, ys6, ey, ry5, ry6, sy6⟩ := hry
      have bA : Below wr.heap.size wr (wr.alloc (.cells #[.string (bs x.n), .int .i64 x.l, .int .i64 x.fr, .string (bs x.oid), .bool x.wi, .slice xp5 x.ts.length xc5, .slice xp6 x.ss.length xc6, .bool x.dr] 38)) := (Below.refl _ _).alloc (Nat.le_refl _) _
      have c0 : wr.cell? ⟨c, off + i * 8, none⟩ = some (.string (bs x.n)) := by have := hc 0 (by decide); rw [ex] at this; exact this
      have c1 : wr.cell? ⟨c, off + i * 8 + 1, none⟩ = some (.int .i64 x.l) := by have := hc 1 (by decide); rw [ex] at this; exact this
      have c2 : wr.cell? ⟨c, off + i * 8 + 2, none⟩ = some (.int .i64 x.fr) := by have := hc 2 (by decide); rw [ex] at this; exact this
      have c3 : wr.cell? ⟨c, off + i * 8 + 3, none⟩ = some (.string (bs x.oid)) := by have := hc 3 (by decide); rw [ex] at this; exact this
      have c4 : wr.cell? ⟨c, off + i * 8 + 4, none⟩ = some (.bool x.wi) := by have := hc 4 (by decide); rw [ex] at this; exact this
      have c5 : wr.cell? ⟨c, off + i * 8 + 5, none⟩ = some (.slice xp5 x.ts.length xc5) := by have := hc 5 (by decide); rw [ex] at this; exact this
      have c6 : wr.cell? ⟨c, off + i * 8 + 6, none⟩ = some (.slice xp6 x.ss.length xc6) := by have := hc 6 (by decide); rw [ex] at this; exact this
      have c7 : wr.cell? ⟨c, off + i * 8 + 7, none⟩ = some (.bool x.dr) := by have := hc 7 (by decide); rw [ex] at this; exact this
      have d0 : wr.cell? ⟨c', off' + i * 8, none⟩ = some (.string (bs y.n)) := by have := hd 0 (by decide); rw [ey] at this; exact this
      have d1 : wr.cell? ⟨c', off' + i * 8 + 1, none⟩ = some (.int .i64 y.l) := by have := hd 1 (by decide); rw [ey] at this; exact this
      have d2 : wr.cell? ⟨c', off' + i * 8 + 2, none⟩ = some (.int .i64 y.fr) := by have := hd 2 (by decide); rw [ey] at this; exact this
      have d3 : wr.cell? ⟨c', off' + i * 8 + 3, none⟩ = some (.string (bs y.oid)) := by have := hd 3 (by decide); rw [ey] at this; exact this
      have d4 : wr.cell? ⟨c', off' + i * 8 + 4, none⟩ = some (.bool y.wi) := by have := hd 4 (by decide); rw [ey] at this; exact this
      have d5 : wr.cell? ⟨c', off' + i * 8 + 5, none⟩ = some (.slice yp5 y.ts.length yc5) := by have := hd 5 (by decide); rw [ey] at this; exact this
      have d6 : wr.cell? ⟨c', off' + i * 8 + 6, none⟩ = some (.slice yp6 y.ss.length yc6) := by have := hd 6 (by decide); rw [ey] at this; exact this
      have d7 : wr.cell? ⟨c', off' + i * 8 + 7, none⟩ = some (.bool y.dr) := by have := hd 7 (by decide); rw [ey] at this; exact this
      have z0 : (wr.alloc (.cells #[.string (bs x.n), .int .i64 x.l, .int .i64 x.fr, .string (bs x.oid), .bool x.wi, .slice xp5 x.ts.length xc5, .slice xp6 x.ss.length xc6, .bool x.dr] 38)).cell? ⟨c', off' + i * 8, none⟩ = some (.string (bs y.n)) := (bA.cell (p := ⟨c', off' + i * 8, none⟩) (World.block_lt_of_cell? wr _ d0)).trans d0
      have z1 : (wr.alloc (.cells #[.string (bs x.n), .int .i64 x.l, .int .i64 x.fr, .string (bs x.oid), .bool x.wi, .slice xp5 x.ts.length xc5, .slice xp6 x.ss.length xc6, .bool x.dr] 38)).cell? ⟨c', off' + i * 8 + 1, none⟩ = some (.int .i64 y.l) := (bA.cell (p := ⟨c', off' + i * 8 + 1, none⟩) (World.block_lt_of_cell? wr _ d1)).trans d1
      have z2 : (wr.alloc (.cells #[.string (bs x.n), .int .i64 x.l, .int .i64 x.fr, .string (bs x.oid), .bool x.wi, .slice xp5 x.ts.length xc5, .slice xp6 x.ss.length xc6, .bool x.dr] 38)).cell? ⟨c', off' + i * 8 + 2, none⟩ = some (.int .i64 y.fr) := (bA.cell (p := ⟨c', off' + i * 8 + 2, none⟩) (World.block_lt_of_cell? wr _ d2)).trans d2
      have z3 : (wr.alloc (.cells #[.string (bs x.n), .int .i64 x.l, .int .i64 x.fr, .string (bs x.oid), .bool x.wi, .slice xp5 x.ts.length xc5, .slice xp6 x.ss.length xc6, .bool x.dr] 38)).cell? ⟨c', off' + i * 8 + 3, none⟩ = some (.string (bs y.oid)) := (bA.cell (p := ⟨c', off' + i * 8 + 3, none⟩) (World.block_lt_of_cell? wr _ d3)).trans d3
      have z4 : (wr.alloc (.cells #[.string (bs x.n), .int .i64 x.l, .int .i64 x.fr, .string (bs x.oid), .bool x.wi, .slice xp5 x.ts.length xc5, .slice xp6 x.ss.length xc6, .bool x.dr] 38)).cell? ⟨c', off' + i * 8 + 4, none⟩ = some (.bool y.wi) := (bA.cell (p := ⟨c', off' + i * 8 + 4, none⟩) (World.block_lt_of_cell? wr _ d4)).trans d4
      have z5 : (wr.alloc (.cells #[.string (bs x.n), .int .i64 x.l, .int .i64 x.fr, .string (bs x.oid), .bool x.wi, .slice xp5 x.ts.length xc5, .slice xp6 x.ss.length xc6, .bool x.dr] 38)).cell? ⟨c', off' + i * 8 + 5, none⟩ = some (.slice yp5 y.ts.length yc5) := (bA.cell (p := ⟨c', off' + i * 8 + 5, none⟩) (World.block_lt_of_cell? wr _ d5)).trans d5
      have z6 : (wr.alloc (.cells #[.string (bs x.n), .int .i64 x.l, .int .i64 x.fr, .string (bs x.oid), .bool x.wi, .slice xp5 x.ts.length xc5, .slice xp6 x.ss.length xc6, .bool x.dr] 38)).cell? ⟨c', off' + i * 8 + 6, none⟩ = some (.slice yp6 y.ss.length yc6) := (bA.cell (p := ⟨c', off' + i * 8 + 6, none⟩) (World.block_lt_of_cell? wr _ d6)).trans d6
      have z7 : (wr.alloc (.cells #[.string (bs x.n), .int .i64 x.l, .int .i64 x.fr, .string (bs x.oid), .bool x.wi, .slice xp5 x.ts.length xc5, .slice xp6 x.ss.length xc6, .bool x.dr] 38)).cell? ⟨c', off' + i * 8 + 7, none⟩ = some (.bool y.dr) := (bA.cell (p := ⟨c', off' + i * 8 + 7, none⟩) (World.block_lt_of_cell? wr _ d7)).trans d7
      obtain ⟨w0, hw0, hx, hy, b0⟩ := two_box wr #[.string (bs x.n), .int .i64 x.l, .int .i64 x.fr, .string (bs x.oid), .bool x.wi, .slice xp5 x.ts.length xc5, .slice xp6 x.ss.length xc6, .bool x.dr] #[.string (bs y.n), .int .i64 y.l, .int .i64 y.fr, .string (bs y.oid), .bool y.wi, .slice yp5 y.ts.length yc5, .slice yp6 y.ss.length yc6, .bool y.dr] 38
      have HW0 := Lib.hid hw0
      have HSE := Lib.hid (psameRule_walk x y xp5 yp5 xc5 yc5 xp6 yp6 xc6 yc6 xs6 ys6 w0 hpx.1 hpy.1 hpx.2.1 hpy.2.1 hpx.2.2 hpy.2.2 (rx5.below b0) (ry5.below b0) (rx6.below b0) (RlR.imp (fun _ _ z => stR_b b0 z) sx6) (ry6.below b0) (RlR.imp (fun _ _ z => stR_b b0 z) sy6))
      have x0 := cellRow hx 0
      have y0 := cellRow hy 0
      have x1 := cellRow hx 1
      have y1 := cellRow hy 1
      have x2 := cellRow hx 2
      have y2 := cellRow hy 2
      have x3 := cellRow hx 3
      have y3 := cellRow hy 3
      have x4 := cellRow hx 4
      have y4 := cellRow hy 4
      have x5 := cellRow hx 5
      have y5 := cellRow hy 5
      have x6 := cellRow hx 6
      have y6 := cellRow hy 6
      have x7 := cellRow hx 7
      have y7 := cellRow hy 7
      simp at x0 y0 x1 y1 x2 y2 x3 y3 x4 y4 x5 y5 x6 y6 x7 y7
      have HB0 := Lib.hid (HD.out.trans (b0.mono HD.out.size))
      clear ex ey hc hd bA hw0 hx hy b0 hpx hpy rx5 ry5 rx6 ry6 sx6 sy6 d0 d1 d2 d3 d4 d5 d6 d7
      cases hxy : decide (x = y)
      · have HN := Lib.hid (HX.out (of_decide_eq_false hxy))
        rw [hxy] at HSE
        clear HX HY hxy
        go_wp2_with fail
        rw [HW0.out]
        go_wp2_with fail
        refine HSE.out.mono ?_
        rintro e w2 ⟨rfl, d2⟩
        have b2 := HB0.out.trans (d2.mono HB0.out.size)
        go_wp2
        go_ret
        rw [HN.out]
        exact ⟨rfl, b2⟩
      · have HN := Lib.hid (HY.out (of_decide_eq_true hxy))
        rw [hxy] at HSE
        clear HX HY hxy
        go_wp2_with fail
        rw [HW0.out]
        go_wp2_with fail
        refine HSE.out.mono ?_
        rintro e w2 ⟨rfl, d2⟩
        have HB2 := Lib.hid (HB0.out.trans (d2.mono HB0.out.size))
        clear d2
        go_wp2
        go_roundg g
        case measure => omega
        case rel => exact ⟨i + 1, by omega, HN.out, by simp, HB2.out⟩
end PQ
end Go.Proofs.YtaeglmgpoboihaaGreatDoor
