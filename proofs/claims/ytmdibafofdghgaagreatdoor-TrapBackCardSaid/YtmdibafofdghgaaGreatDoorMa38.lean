/- Texts on the program and on the document, joined: TrqE, TrqF. -/
import Derived.Test.YtmdibafofdghgaaGreatDoorMa34
import Derived.Test.YtmdibafofdghgaaGreatDoorMa37
import Derived.Test.YtmdibafofdghgaaGreatDoorMa31
import Derived.StillTailTactics
/- The program's isTrap, walked. -/
namespace Go.Proofs.YtmdibafofdghgaaGreatDoor
open Go.ChangeShapes Go.WideShapes Go.ChangeAt Go.RowKit K P1 B5
open D8 (Bd Un lst deU)
open T9 (Tr bU bI msg msgB ofU m3 deM)
set_option linter.unusedVariables false

theorem ten_bd {z : World} {p q : Nat} {x y : Bd} (h : Bq z p x) (h2 : Bq z q y) : z.cell? ⟨p, 0, none⟩ = some (.string (bs x.o)) ∧ z.cell? ⟨p, 1, none⟩ = some (.int .i64 x.k) ∧ z.cell? ⟨p, 2, none⟩ = some (.int .i64 x.n) ∧ z.cell? ⟨p, 3, none⟩ = some (.string (bs x.s)) ∧ z.cell? ⟨q, 0, none⟩ = some (.string (bs y.o)) ∧ z.cell? ⟨q, 1, none⟩ = some (.int .i64 y.k) ∧ z.cell? ⟨q, 2, none⟩ = some (.int .i64 y.n) ∧ z.cell? ⟨q, 3, none⟩ = some (.string (bs y.s)) :=
  ⟨h.cells.1, h.cells.2.1, h.cells.2.2.1, h.cells.2.2.2, h2.cells.1, h2.cells.2.1, h2.cells.2.2.1, h2.cells.2.2.2⟩
set_option maxRecDepth 100000 in
set_option maxHeartbeats 4000000 in
theorem istrap_go (u : Un) (bo : Option Addr) (cb : Nat) (hl : u.l.length ≤ 140737488351232) (w : World) (hr : RdB w bo u.l) (ht : (u.t == 167 || u.t == 166) = true) (x y : Bd) (l : List Bd) (hul : u.l = x :: y :: l) :
    Calls Tryz.prog 46 #[.agg #[.int .i64 u.t, .int .i64 u.r, .int .i64 u.a, .int .i64 u.i, .slice bo u.l.length cb]] w fun e w' => e = .returned (.bool (eqB x (bU x.n) && eqB y (bI y.s))) ∧ Below w.heap.size w w' := by
  have bw := alloc_in w (.cells #[.int .i64 u.t, .int .i64 u.r, .int .i64 u.a, .int .i64 u.i, .slice bo u.l.length cb] 41)
  have hq := Uq.new 41 w u bo cb
  have hr2 := hr.below bw
  have hs1 : (w.alloc (.cells #[.int .i64 u.t, .int .i64 u.r, .int .i64 u.a, .int .i64 u.i, .slice bo u.l.length cb] 41)).heap.size = w.heap.size + 1 := by simp
  obtain ⟨w2, hw2⟩ : ∃ w2, w.alloc (.cells #[.int .i64 u.t, .int .i64 u.r, .int .i64 u.a, .int .i64 u.i, .slice bo u.l.length cb] 41) = w2 := ⟨_, rfl⟩
  rw [hw2] at bw hq hr2 hs1
  have HW := Lib.hid hw2
  clear hw2
  have hlen : u.l.length = l.length + 2 := by rw [hul]; rfl
  have hways : (u.t = 167) ∨ (u.t = 166) := by simpa using ht
  obtain ⟨b, off, rfl, hbl, x0, x1, x2, x3⟩ := hr2.at (i := 0) (by omega) (x := x) (by rw [hul]; rfl)
  obtain ⟨b', off', hbo, _, y0, y1, y2, y3⟩ := hr2.at (i := 1) (by omega) (x := y) (by rw [hul]; rfl)
  simp only [Option.some.injEq, Addr.mk.injEq, and_true] at hbo
  obtain ⟨rfl, rfl⟩ := hbo
  simp only [Nat.zero_mul, Nat.add_zero, Nat.one_mul] at x0 x1 x2 x3 y0 y1 y2 y3
  have hn0 : (0 : Int) < ((u.l.length : Nat) : Int) := by omega
  have hn1 : (1 : Int) < ((u.l.length : Nat) : Int) := by omega
  have hn2 : (2 : Int) ≤ ((u.l.length : Nat) : Int) := by omega
  have hn3 : 0 < u.l.length := by omega
  have hn4 : 1 < u.l.length := by omega
  have HU := Lib.hid (fun w1 => uptimebind_walk x.n w1)
  have HI := Lib.hid (fun w1 => idbind_walk y.s w1)
  have hqx : ∀ w1, (Op.equalIn 10000 48 (.agg #[.string (bs x.o), .int .i64 x.k, .int .i64 x.n, .string (bs x.s)]) (.agg #[.string (bs T9.UPT), .int .i64 67, .int .i64 x.n, .string (bs [])])).run Tryz.prog w1 = .ok (eqB x (bU x.n)) w1 := fun w1 => run_equal_bind x (bU x.n) w1
  have hqy : ∀ w1, (Op.equalIn 10000 48 (.agg #[.string (bs y.o), .int .i64 y.k, .int .i64 y.n, .string (bs y.s)]) (.agg #[.string (bs T9.IDO), .int .i64 6, .int .i64 0, .string (bs y.s)])).run Tryz.prog w1 = .ok (eqB y (bI y.s)) w1 := fun w1 => run_equal_bind y (bI y.s) w1
  obtain ⟨z0, z1, z2, z3, z4⟩ := hq.cells
  clear hr hr2 hul ht hlen
  have hcase : ((u.t != 167) = false) ∨ ((u.t != 167) = true ∧ (u.t != 166) = false) := by
    rcases hways with h | h
    · exact .inl (by rw [h]; rfl)
    · exact .inr ⟨by rw [h]; rfl, by rw [h]; rfl⟩
  clear hways
  have y5 : w2.cell? ⟨b, off + 5, none⟩ = some (.int .i64 y.k) := y1
  have y6 : w2.cell? ⟨b, off + 6, none⟩ = some (.int .i64 y.n) := y2
  have y7 : w2.cell? ⟨b, off + 7, none⟩ = some (.string (bs y.s)) := y3
  have zS := And.intro z4 (And.intro x0 (And.intro x1 (And.intro x2 (And.intro x3 (And.intro y0 (And.intro y5 (And.intro y6 y7)))))))
  have hP1 := Bq.new w2 x
  have hP2 := Bq.new (w2.alloc (.cells (cellsB x).toArray 48)) y
  have hQ1 := Bq.new w2 y
  have hQ2 := Bq.new (w2.alloc (.cells (cellsB y).toArray 48)) x
  have kP := alloc_in (w2.alloc (.cells (cellsB x).toArray 48)) (.cells (cellsB y).toArray 48)
  have kQ := alloc_in (w2.alloc (.cells (cellsB y).toArray 48)) (.cells (cellsB x).toArray 48)
  have kP0 := alloc_in w2 (.cells (cellsB x).toArray 48)
  have kQ0 := alloc_in w2 (.cells (cellsB y).toArray 48)
  have HPQ := Lib.hid (And.intro (And.intro (hP1.below kP) (And.intro hP2 (kP0.trans (kP.mono kP0.size)))) (And.intro (hQ1.below kQ) (And.intro hQ2 (kQ0.trans (kQ.mono kQ0.size)))))
  clear hP1 hP2 hQ1 hQ2 kP kQ kP0 kQ0
  rcases hcase with ht | ⟨ht, ht2⟩
  all_goals
    go_enter Tryz.func46, Tryz.ntmps46
    go_wp2_with fail
    try rw [HW.out]
    go_cut [3, 4] (fun v6 v7 wx => ∃ p q, v6 = .pointer (some ⟨p, 0, none⟩) ∧ v7 = .pointer (some ⟨q, 0, none⟩) ∧ Bq wx p x ∧ Bq wx q y ∧ Below w2.heap.size w2 wx)
    case first =>
      go_region_held3 (fun x' => x'.cell? ⟨w.heap.size, 4, none⟩ = some (.slice (some ⟨b, off, none⟩) u.l.length cb) ∧ x'.cell? ⟨b, off, none⟩ = some (.string (bs x.o)) ∧ x'.cell? ⟨b, off + 1, none⟩ = some (.int .i64 x.k) ∧ x'.cell? ⟨b, off + 2, none⟩ = some (.int .i64 x.n) ∧ x'.cell? ⟨b, off + 3, none⟩ = some (.string (bs x.s)) ∧ x'.cell? ⟨b, off + 4, none⟩ = some (.string (bs y.o)) ∧ x'.cell? ⟨b, off + 5, none⟩ = some (.int .i64 y.k) ∧ x'.cell? ⟨b, off + 6, none⟩ = some (.int .i64 y.n) ∧ x'.cell? ⟨b, off + 7, none⟩ = some (.string (bs y.s))) (first | exact zS | go_keep) (fail)
      all_goals
        go_wp2_with fail
        go_meet
      · obtain ⟨p1, p2, p3⟩ := HPQ.out.1
        rw [show (w2.alloc (.cells (cellsB x).toArray 48)).heap.size = w.heap.size + 1 + 1 by simp [hs1]] at p2
        exact ⟨w.heap.size + 1, w.heap.size + 1 + 1, rfl, rfl, by rw [← hs1]; exact p1, p2, ⟨p3.os, p3.tape, p3.output, p3.size, p3.block⟩⟩
      · obtain ⟨p1, p2, p3⟩ := HPQ.out.2
        rw [show (w2.alloc (.cells (cellsB y).toArray 48)).heap.size = w.heap.size + 1 + 1 by simp [hs1]] at p2
        exact ⟨w.heap.size + 1 + 1, w.heap.size + 1, rfl, rfl, p2, by rw [← hs1]; exact p1, ⟨p3.os, p3.tape, p3.output, p3.size, p3.block⟩⟩
    case rest =>
      obtain ⟨p, q, rfl, rfl, hp, hq2, bx⟩ := hcut
      obtain ⟨w5, rfl⟩ : ∃ x : World, x = wc := ⟨_, rfl⟩
      have hb5 := bw.trans (bx.mono bw.size)
      clear x0 x1 x2 x3 y0 y1 y2 y3 y5 y6 y7 zS HPQ HW bx hq bw z0 z1 z2 z3 z4
      cases hx : eqB x (bU x.n)
      · rw [hx] at hqx
        obtain ⟨p0, p1, p2, p3⟩ := hp.cells
        obtain ⟨q0, q1, q2, q3⟩ := hq2.cells
        clear hqy HI
        go_wp2_with fail
        first
          | (go_region_with (first
              | (go_at_call 53; refine (HU.out _).mono ?_; rintro e x1 ⟨rfl, j1⟩; have k1 : Below w5.heap.size w5 x1 := ⟨j1.os, j1.tape, j1.output, j1.size, j1.block⟩; have hp1 := hp.below k1; have hq1 := hq2.below k1; have b1 := hb5.trans (k1.mono hb5.size); obtain ⟨s0, s1, s2, s3⟩ := hp1.cells; obtain ⟨r0, r1, r2, r3⟩ := hq1.cells)))
          | fail
        all_goals
          go_wp2
          go_ret
          exact ⟨by rw [hx]; rfl, b1⟩
      · rw [hx] at hqx
        have zS := ten_bd hp hq2
        go_wp2_with fail
        go_region_held3 (fun x' => x'.cell? ⟨p, 0, none⟩ = some (.string (bs x.o)) ∧ x'.cell? ⟨p, 1, none⟩ = some (.int .i64 x.k) ∧ x'.cell? ⟨p, 2, none⟩ = some (.int .i64 x.n) ∧ x'.cell? ⟨p, 3, none⟩ = some (.string (bs x.s)) ∧ x'.cell? ⟨q, 0, none⟩ = some (.string (bs y.o)) ∧ x'.cell? ⟨q, 1, none⟩ = some (.int .i64 y.k) ∧ x'.cell? ⟨q, 2, none⟩ = some (.int .i64 y.n) ∧ x'.cell? ⟨q, 3, none⟩ = some (.string (bs y.s))) (first | exact zS | exact zS1 | exact zS2)
          (first
            | (go_at_call 53; refine (HU.out _).mono ?_; rintro e x1 ⟨rfl, j1⟩; have k1 : Below w5.heap.size w5 x1 := ⟨j1.os, j1.tape, j1.output, j1.size, j1.block⟩; have hp1 := hp.below k1; have hq1 := hq2.below k1; have b1 := hb5.trans (k1.mono hb5.size); have zS1 := ten_bd hp1 hq1)
            | (go_at_call 54; refine (HI.out _).mono ?_; rintro e x2 ⟨rfl, j2⟩; have k2 : Below x1.heap.size x1 x2 := ⟨j2.os, j2.tape, j2.output, j2.size, j2.block⟩; have hp2 := hp1.below k2; have hq2' := hq1.below k2; have b2 := b1.trans (k2.mono b1.size); have zS2 := ten_bd hp2 hq2'))
        all_goals
          go_wp2
          go_ret
          exact ⟨by rw [hx]; rfl, b2⟩
theorem istrap_walk (u : Un) (bo : Option Addr) (cb : Nat) (hl : u.l.length ≤ 140737488351232) (w : World) (hr : RdB w bo u.l) :
    Calls Tryz.prog 46 #[.agg #[.int .i64 u.t, .int .i64 u.r, .int .i64 u.a, .int .i64 u.i, .slice bo u.l.length cb]] w fun e w' => e = .returned (.bool (isTr u)) ∧ Below w.heap.size w w' := by
  cases ht : (u.t == 167 || u.t == 166)
  · rw [show isTr u = false by unfold isTr; rw [ht]; rfl]
    have bw := alloc_in w (.cells #[.int .i64 u.t, .int .i64 u.r, .int .i64 u.a, .int .i64 u.i, .slice bo u.l.length cb] 41)
    obtain ⟨z0, z1, z2, z3, z4⟩ := (Uq.new 41 w u bo cb).cells
    rw [Bool.or_eq_false_iff] at ht
    have e1 : (u.t != 167) = true := by rw [bne, ht.1]; rfl
    have e2 : (u.t != 166) = true := by rw [bne, ht.2]; rfl
    clear ht
    go_enter Tryz.func46, Tryz.ntmps46
    go_wp2
    go_ret
    exact ⟨rfl, bw⟩
  · by_cases hl2 : u.l.length < 2
    · rw [show isTr u = false by unfold isTr; rw [ht, decide_eq_false (by omega)]; rfl]
      have bw := alloc_in w (.cells #[.int .i64 u.t, .int .i64 u.r, .int .i64 u.a, .int .i64 u.i, .slice bo u.l.length cb] 41)
      obtain ⟨z0, z1, z2, z3, z4⟩ := (Uq.new 41 w u bo cb).cells
      have hl3 : ((u.l.length : Nat) : Int) < 2 := by omega
      have hcase : ((u.t != 167) = false) ∨ ((u.t != 167) = true ∧ (u.t != 166) = false) := by
        have hw : u.t = 167 ∨ u.t = 166 := by simpa using ht
        rcases hw with h | h
        · exact .inl (by rw [h]; rfl)
        · exact .inr ⟨by rw [h]; rfl, by rw [h]; rfl⟩
      clear ht hl2
      rcases hcase with ht | ⟨ht, ht2⟩
      all_goals
        go_enter Tryz.func46, Tryz.ntmps46
        go_wp2
        go_ret
        exact ⟨rfl, bw⟩
    · match hu : u.l with
      | [] => rw [hu] at hl2; simp at hl2
      | [x] => rw [hu] at hl2; simp at hl2
      | x :: y :: l =>
        rw [← hu, show isTr u = (eqB x (bU x.n) && eqB y (bI y.s)) by unfold isTr; rw [ht, hu, decide_eq_true (by simp : 2 ≤ (x :: y :: l).length)]; rfl]
        exact istrap_go u bo cb hl w hr ht x y l hu
end Go.Proofs.YtmdibafofdghgaaGreatDoor
/- The program's read of a trap, walked. -/
namespace Go.Proofs.YtmdibafofdghgaaGreatDoor
open Go.ChangeShapes Go.WideShapes Go.ChangeAt Go.RowKit K P1 B5
open D8 (Bd Un lst deU)
open T9 (Tr bU bI msg msgB ofU m3 deM)
set_option linter.unusedVariables false

theorem opn_some {s : List UInt8} {c : List UInt8} {p : Nat × List UInt8} (h : opn s = some (c, p)) : s.length ≤ 65535 ∧ m3 s = some (c, p) ∧ comB c = true ∧ p.2.length ≤ 65535 := by
  unfold opn at h
  split at h
  · next hs =>
    split at h
    · next m hm =>
      split at h
      · next hc =>
        obtain rfl := Option.some.inj h
        refine ⟨hs, hm, hc, ?_⟩
        obtain ⟨n1, _, _, l1, n4, _, _⟩ := m3_inv hm
        have h1 := (prt_mem _ _ (nxB s) _ (Nat.le_refl _) n4 p (by simp)).2
        have h2 := (nx_of n1).2.2.2.2
        omega
      · cases h
    · cases h
  · cases h
theorem opn_none {s : List UInt8} (h : opn s = none) (hs : s.length ≤ 65535) : deM s = none := by
  unfold opn at h
  rw [if_pos hs] at h
  cases hm : m3 s with
  | none => exact T9.deM_no hm
  | some m =>
    obtain ⟨c, p⟩ := m
    rw [hm] at h
    have h' : (if comB c = true then some (c, p) else none) = none := h
    have hc : ¬ comB c = true := fun e => by rw [if_pos e] at h'; cases h'
    rw [deM_go hm]
    cases hd : deU (p.1 : Nat) p.2 with
    | none => rfl
    | some u => exact ofU_com (fun e => hc ((comB_iff c).2 e))
def RePost (s : List UInt8) (w : World) (e : Ending) (w' : World) : Prop :=
  ∃ (t : Tr) (ao : Option Addr) (cap : Nat) (ok : Bool), e = .returned (.tuple #[.agg #[.string (bs t.c), .bool t.f, .int .i64 t.r, .int .i64 t.n, .string (bs t.o), .slice ao t.l.length cap], .bool ok]) ∧ RdB w' ao t.l ∧ Below w.heap.size w w' ∧ (ok = true → s.length ≤ 65535 ∧ deM s = some t) ∧ (ok = false → s.length ≤ 65535 → deM s = none)
/-- A list of binds is not in a trap's block. -/
theorem RdB.apartT {w : World} {a : Addr} {xs : List Bd} {b : Nat} {t : Tr} {bo : Option Addr} {cb : Nat} (h : RdB w (some a) xs) (ht : Tq w b t bo cb) (hl : 0 < xs.length) : b ≠ a.block := by
  rcases h with h | ⟨b', off, ha, hb, hc⟩
  · omega
  · injection ha with ha
    subst ha
    show b ≠ b'
    rintro rfl
    obtain ⟨c0, c1, _, _⟩ := hc 0 hl
    rw [show off + 0 * 4 = off by omega] at c0
    rw [show off + (0 * 4 + 1) = off + 1 by omega] at c1
    obtain ⟨z0, z1, z2, z3, z4, z5⟩ := ht.cells
    match off with
    | 0 => rw [z1] at c1; cases c1
    | 1 => rw [z1] at c0; cases c0
    | 2 => rw [z2] at c0; cases c0
    | 3 => rw [z3] at c0; cases c0
    | 4 => rw [z5] at c1; cases c1
    | 5 => rw [z5] at c0; cases c0
    | k + 6 =>
      have : w.cell? ⟨b, k + 6, none⟩ = none := by
        rw [cell_of_row w b (k + 6) _ _ _ ht]; simp
      rw [this] at c0; cases c0
theorem RdB.set6 {w : World} {ao : Option Addr} {xs : List Bd} {b : Nat} {t : Tr} {bo : Option Addr} {cb : Nat} (h : RdB w ao xs) (ht : Tq w b t bo cb) (v0 v1 v2 v3 v4 v5 : Value) :
    RdB ((((((w.setCell ⟨b, 0, none⟩ v0).setCell ⟨b, 1, none⟩ v1).setCell ⟨b, 2, none⟩ v2).setCell ⟨b, 3, none⟩ v3).setCell ⟨b, 4, none⟩ v4).setCell ⟨b, 5, none⟩ v5) ao xs := by
  by_cases h0 : xs.length = 0
  · exact .inl h0
  · have hne : ∀ a, ao = some a → b ≠ a.block := fun a ha => by subst ha; exact h.apartT ht (by omega)
    exact (((((h.far hne 0 v0).far hne 1 v1).far hne 2 v2).far hne 3 v3).far hne 4 v4).far hne 5 v5
theorem Tq.drew {w : World} {b : Nat} {t : Tr} {ao : Option Addr} {cap : Nat} (h : Tq w b t ao cap) : Tq w.drew b t ao cap := h
theorem RdB.drew {w : World} {ao : Option Addr} {xs : List Bd} (h : RdB w ao xs) : RdB w.drew ao xs := h
theorem below_drew {B : Nat} {w w' : World} (h : Below B w w') : Below B w w'.drew := ⟨h.os, h.tape, h.output, h.size, h.block⟩
set_option maxRecDepth 100000 in
set_option maxHeartbeats 4000000 in
theorem read9_walk (s : List UInt8) (hs : s.length ≤ 140737488351232) (w : World) (T : Tw w) :
    Calls Tryz.prog 25 #[.string (bs s)] w (RePost s w) := by
  have HNo := Lib.hid (fun (h : s.length ≤ 65535 → deM s = none) (w' : World) (k : Below w.heap.size w w') => (show RePost s w (.returned (.tuple #[.agg #[.string (bs []), .bool false, .int .i64 0, .int .i64 0, .string (bs []), .slice none 0 0], .bool false])) w' from ⟨not9, none, 0, false, rfl, .inl rfl, k, fun h => Bool.noConfusion h, fun _ => h⟩))
  obtain ⟨w2, hw2, ht, hb⟩ := trap_block w
  have HW := Lib.hid hw2
  have HT := Lib.hid (T.below hb)
  have HO := Lib.hid (fun w1 (T1 : Tw w1) => open9_walk s hs w1 T1)
  unfold OpPost at HO
  clear hw2 T
  go_enter Tryz.func25, Tryz.ntmps25
  go_wp2_with fail
  rw [HW.out]
  refine (HO.out _ HT.out).mono ?_
  rintro e w3 (⟨c, p, ho, rfl, d3⟩ | ⟨ho, rfl, d3⟩)
  rotate_left
  · have HE := Lib.hid (fun h => opn_none ho h)
    have a3 := alloc_in w3 (.cells #[.int .i64 0, .string (bs [])] 72)
    replace ht := (ht.below d3).below a3
    replace hb := (hb.trans (d3.mono hb.size)).trans (a3.mono (hb.trans (d3.mono hb.size)).size)
    clear ho d3 a3 HO HW HT
    have PX := ht.set not9 none 0
    have bb := below_set6 hb (b := w.heap.size) (Nat.le_refl _) (.string (bs [])) (.bool false) (.int .i64 0) (.int .i64 0) (.string (bs [])) (.slice none 0 0)
    obtain ⟨c0, c1, c2, c3, c4, c5⟩ := ht.cells
    have f0 := ht.free 0
    have f1 := ht.free 1
    have f2 := ht.free 2
    have f3 := ht.free 3
    have f4 := ht.free 4
    have f5 := ht.free 5
    clear ht hb
    go_wp2
    refine bodyPost_ret (results_cell_row2 rfl _ _ w.heap.size _ _ _ _ rfl PX Tryz.underlying27 rfl (by kernel_rfl)) rfl ?_
    exact HNo.out HE.out _ bb
  obtain ⟨h65, hm, hc, hp⟩ := opn_some ho
  have HD := Lib.hid (fun w1 (T1 : Tw w1) => decode8_walkc (p.1 : Nat) p.2 (by omega) w1 T1.1)
  unfold DuPc at HD
  have HM := Lib.hid (deM_go hm)
  have a3 := alloc_in w3 (.cells #[.int .i64 (p.1 : Nat), .string (bs p.2)] 72)
  have hpq := Prt.new w3 72 (p.1 : Nat) p.2
  replace ht := (ht.below d3).below a3
  replace HT := Lib.hid ((HT.out.below d3).below a3)
  replace hb := (hb.trans (d3.mono hb.size)).trans (a3.mono (hb.trans (d3.mono hb.size)).size)
  have HC := Lib.hid hc
  have H65 := Lib.hid h65
  obtain ⟨x0, x1, _, _⟩ := hpq.cells
  clear ho d3 a3 HO HW hm hp hc h65
  go_wp2_with fail
  refine (HD.out _ HT.out).mono ?_
  rintro e w4 ⟨bo, cb, rfl, hr, d4, hcap, hsh⟩
  cases hd : deU (p.1 : Nat) p.2 with
  | none =>
    have e80 : duE (p.1 : Nat) p.2 = 80 := (du_none hd).2
    rw [e80]
    have HE := Lib.hid (show s.length ≤ 65535 → deM s = none from fun _ => by rw [HM.out, hd])
    generalize duU (p.1 : Nat) p.2 = u at *
    have a4 := alloc_in w4 (.cells #[.int .i64 u.t, .int .i64 u.r, .int .i64 u.a, .int .i64 u.i, .slice bo u.l.length cb] 41)
    replace ht := (ht.below d4).below a4
    replace hb := (hb.trans (d4.mono hb.size)).trans (a4.mono (hb.trans (d4.mono hb.size)).size)
    clear hd e80 x0 x1 hpq d4 a4 HD HT HM hr hcap hsh
    have PX := ht.set not9 none 0
    have bb := below_set6 hb (b := w.heap.size) (Nat.le_refl _) (.string (bs [])) (.bool false) (.int .i64 0) (.int .i64 0) (.string (bs [])) (.slice none 0 0)
    obtain ⟨c0, c1, c2, c3, c4, c5⟩ := ht.cells
    have f0 := ht.free 0
    have f1 := ht.free 1
    have f2 := ht.free 2
    have f3 := ht.free 3
    have f4 := ht.free 4
    have f5 := ht.free 5
    clear ht hb
    go_wp2
    refine bodyPost_ret (results_cell_row2 rfl _ _ w.heap.size _ _ _ _ rfl PX Tryz.underlying27 rfl (by kernel_rfl)) rfl ?_
    exact HNo.out HE.out _ bb
  | some u =>
    rw [(du_some hd).2, (du_some hd).1]
    rw [(du_some hd).1] at hr hcap hsh
    have hu := (D8.unit_told hd).1
    have hul := ((D8.Un.ok_iff u).1 hu).2.2.2.2.1
    have a4 := alloc_in w4 (.cells #[.int .i64 u.t, .int .i64 u.r, .int .i64 u.a, .int .i64 u.i, .slice bo u.l.length cb] 41)
    have huq := Uq.new 41 w4 u bo cb
    replace ht := (ht.below d4).below a4
    replace hb := (hb.trans (d4.mono hb.size)).trans (a4.mono (hb.trans (d4.mono hb.size)).size)
    replace hr := hr.below a4
    have hI := fun w1 (h : RdB w1 bo u.l) => istrap_walk u bo cb (by omega) w1 h
    have HM2 := Lib.hid (show deM s = ofU c u by rw [HM.out, hd])
    have HU := Lib.hid hu
    clear hd x0 x1 hpq d4 a4 HD HT HM hu
    obtain ⟨x0, x1, x2, x3, x4⟩ := huq.cells
    cases hi : isTr u
    · rw [hi] at hI
      have HI := Lib.hid hI
      have HE := Lib.hid (show s.length ≤ 65535 → deM s = none from fun _ => by rw [HM2.out]; exact ofU_un HU.out hi)
      clear hI hi HM2
      go_wp2_with fail
      refine (HI.out _ hr).mono ?_
      rintro e w5 ⟨rfl, d5⟩
      replace ht := ht.below d5
      replace hb := hb.trans (d5.mono hb.size)
      clear x0 x1 x2 x3 x4 huq hr d5
      have PX := ht.set not9 none 0
      have bb := below_set6 hb (b := w.heap.size) (Nat.le_refl _) (.string (bs [])) (.bool false) (.int .i64 0) (.int .i64 0) (.string (bs [])) (.slice none 0 0)
      obtain ⟨c0, c1, c2, c3, c4, c5⟩ := ht.cells
      have f0 := ht.free 0
      have f1 := ht.free 1
      have f2 := ht.free 2
      have f3 := ht.free 3
      have f4 := ht.free 4
      have f5 := ht.free 5
      clear ht hb
      go_wp2
      refine bodyPost_ret (results_cell_row2 rfl _ _ w.heap.size _ _ _ _ rfl PX Tryz.underlying27 rfl (by kernel_rfl)) rfl ?_
      exact HNo.out HE.out _ bb
    · rw [hi] at hI
      have HI := Lib.hid hI
      have HY := Lib.hid (show deM s = some (trOf c u) by rw [HM2.out]; exact ofU_yes HU.out ((comB_iff c).1 HC.out) hi)
      have hlen : 2 ≤ u.l.length := by
        unfold isTr at hi
        simp only [Bool.and_eq_true, decide_eq_true_eq] at hi
        exact hi.1.2
      clear hI hi HM2
      go_wp2_with fail
      refine (HI.out _ hr).mono ?_
      rintro e w5 ⟨rfl, d5⟩
      replace ht := ht.below d5
      replace hb := hb.trans (d5.mono hb.size)
      replace hr := hr.below d5
      replace huq := huq.below d5
      clear x0 x1 x2 x3 x4 d5 HI
      obtain ⟨x, y, l, hl2⟩ : ∃ x y l, u.l = x :: y :: l := by
        match hh : u.l, hlen with
        | x :: y :: l, _ => exact ⟨x, y, l, rfl⟩
      have hlen2 : u.l.length = l.length + 2 := by rw [hl2]; rfl
      have htr : trOf c u = ⟨c, u.t == 166, u.r, x.n, y.s, l⟩ := by unfold trOf; rw [hl2]; rfl
      rw [htr] at HY
      have hulx := hul
      rw [hlen2] at hcap hulx
      obtain ⟨b, off, rfl, hbl, p0, p1, p2, p3⟩ := hr.at (i := 0) (by omega) (x := x) (by rw [hl2]; rfl)
      obtain ⟨b', off', hbo, _, q0, q1, q2, q3⟩ := hr.at (i := 1) (by omega) (x := y) (by rw [hl2]; rfl)
      simp only [Option.some.injEq, Addr.mk.injEq, and_true] at hbo
      obtain ⟨rfl, rfl⟩ := hbo
      simp only [Nat.zero_mul, Nat.add_zero, Nat.one_mul] at p0 p1 p2 p3 q0 q1 q2 q3
      rw [hl2] at hr
      obtain ⟨x0, x1, x2, x3, x4⟩ := huq.cells
      rw [hlen2] at x4
      have q7 : w5.cell? ⟨b, off + 7, none⟩ = some (.string (bs y.s)) := q3
      have p7 : w5.cell? ⟨b, off + 2, none⟩ = some (.int .i64 x.n) := p2
      have hn0 : (0 : Int) < ((l.length + 2 : Nat) : Int) := by omega
      have hn1 : (1 : Int) < ((l.length + 2 : Nat) : Int) := by omega
      have hn2 : (2 : Int) ≤ ((l.length + 2 : Nat) : Int) := by omega
      have hn5 : (2 : Int) ≤ ((l.length : Nat) : Int) + 2 := by omega
      have hn6 : (1 : Int) < ((l.length : Nat) : Int) + 2 := by omega
      have hn7 : (0 : Int) < ((l.length : Nat) : Int) + 2 := by omega
      by_cases h2 : cb = 2
      · subst h2
        obtain rfl : l = [] := List.length_eq_zero_iff.1 (by omega)
        have hTl : RdB w5 (some (⟨b, off, none⟩ : Addr)) [] := .inl rfl
        have PX := (ht.set ⟨c, u.t == 166, u.r, x.n, y.s, []⟩ (some (⟨b, off, none⟩ : Addr)) (0)).drew
        have bb := below_drew (below_set6 hb (b := w.heap.size) (Nat.le_refl _) (.string (bs c)) (.bool (u.t == 166)) (.int .i64 u.r) (.int .i64 x.n) (.string (bs y.s)) (.slice (some (⟨b, off, none⟩ : Addr)) 0 (0)))
        have HRR := Lib.hid (hTl.set6 ht (.string (bs c)) (.bool (u.t == 166)) (.int .i64 u.r) (.int .i64 x.n) (.string (bs y.s)) (.slice (some (⟨b, off, none⟩ : Addr)) 0 (0))).drew
        have HQ := Lib.hid (And.intro PX bb)
        have HTD := Lib.hid ht
        have d0 : ({ heap := w5.heap, tape := w5.tape, drawn := w5.drawn + 1, os := w5.os, output := w5.output } : World).cell? ⟨w4.heap.size, 0, none⟩ = some (.int .i64 u.t) := x0
        have d1 : ({ heap := w5.heap, tape := w5.tape, drawn := w5.drawn + 1, os := w5.os, output := w5.output } : World).cell? ⟨w4.heap.size, 1, none⟩ = some (.int .i64 u.r) := x1
        have d4 : ({ heap := w5.heap, tape := w5.tape, drawn := w5.drawn + 1, os := w5.os, output := w5.output } : World).cell? ⟨w4.heap.size, 4, none⟩ = some (.slice (some ⟨b, off, none⟩) 2 2) := x4
        have d5 : ({ heap := w5.heap, tape := w5.tape, drawn := w5.drawn + 1, os := w5.os, output := w5.output } : World).cell? ⟨b, off + 2, none⟩ = some (.int .i64 x.n) := p7
        have d6 : ({ heap := w5.heap, tape := w5.tape, drawn := w5.drawn + 1, os := w5.os, output := w5.output } : World).cell? ⟨b, off + 7, none⟩ = some (.string (bs y.s)) := q7
        clear hl2 hlen htr hr hTl ht hb huq p0 p1 p2 p3 q0 q1 q2 q3 hlen2 PX bb HNo HU HC hsh hul
        go_wp2_with fail
        go_still_tail 22, (by kernel_rfl)
        change wpList _ _ _ _ _ w5.drew
        clear d0 d1 d4 d5 d6 x0 x1 x2 x3 x4 p7 q7
        have ht := HTD.out
        obtain ⟨c0, c1, c2, c3, c4, c5⟩ := ht.cells
        have f0 := ht.free 0
        have f1 := ht.free 1
        have f2 := ht.free 2
        have f3 := ht.free 3
        have f4 := ht.free 4
        have f5 := ht.free 5
        clear ht
        go_wp2_with fail
        refine bodyPost_ret (results_cell_row2 rfl _ _ w.heap.size _ _ _ _ rfl HQ.out.1 Tryz.underlying27 rfl (by kernel_rfl)) rfl ?_
        refine ⟨⟨c, u.t == 166, u.r, x.n, y.s, []⟩, some (⟨b, off, none⟩ : Addr), 0, true, rfl, ?_, ?_, fun _ => ⟨H65.out, HY.out⟩, fun h => Bool.noConfusion h⟩
        · exact HRR.out
        · exact HQ.out.2
      · have hTl : RdB w5 (some (⟨b, off + 8, none⟩ : Addr)) l := hr.drop2
        have PX := (ht.set ⟨c, u.t == 166, u.r, x.n, y.s, l⟩ (some (⟨b, off + 8, none⟩ : Addr)) (cb - 2)).drew
        have bb := below_drew (below_set6 hb (b := w.heap.size) (Nat.le_refl _) (.string (bs c)) (.bool (u.t == 166)) (.int .i64 u.r) (.int .i64 x.n) (.string (bs y.s)) (.slice (some (⟨b, off + 8, none⟩ : Addr)) l.length (cb - 2)))
        have HRR := Lib.hid (hTl.set6 ht (.string (bs c)) (.bool (u.t == 166)) (.int .i64 u.r) (.int .i64 x.n) (.string (bs y.s)) (.slice (some (⟨b, off + 8, none⟩ : Addr)) l.length (cb - 2))).drew
        have HQ := Lib.hid (And.intro PX bb)
        have HTD := Lib.hid ht
        have d0 : ({ heap := w5.heap, tape := w5.tape, drawn := w5.drawn + 1, os := w5.os, output := w5.output } : World).cell? ⟨w4.heap.size, 0, none⟩ = some (.int .i64 u.t) := x0
        have d1 : ({ heap := w5.heap, tape := w5.tape, drawn := w5.drawn + 1, os := w5.os, output := w5.output } : World).cell? ⟨w4.heap.size, 1, none⟩ = some (.int .i64 u.r) := x1
        have d4 : ({ heap := w5.heap, tape := w5.tape, drawn := w5.drawn + 1, os := w5.os, output := w5.output } : World).cell? ⟨w4.heap.size, 4, none⟩ = some (.slice (some ⟨b, off, none⟩) (l.length + 2) cb) := x4
        have d5 : ({ heap := w5.heap, tape := w5.tape, drawn := w5.drawn + 1, os := w5.os, output := w5.output } : World).cell? ⟨b, off + 2, none⟩ = some (.int .i64 x.n) := p7
        have d6 : ({ heap := w5.heap, tape := w5.tape, drawn := w5.drawn + 1, os := w5.os, output := w5.output } : World).cell? ⟨b, off + 7, none⟩ = some (.string (bs y.s)) := q7
        clear hl2 hlen htr hr hTl ht hb huq p0 p1 p2 p3 q0 q1 q2 q3 hlen2 PX bb HNo HU HC hsh hul
        go_wp2_with fail
        go_still_tail 22, (by kernel_rfl)
        change wpList _ _ _ _ _ w5.drew
        clear d0 d1 d4 d5 d6 x0 x1 x2 x3 x4 p7 q7
        have ht := HTD.out
        obtain ⟨c0, c1, c2, c3, c4, c5⟩ := ht.cells
        have f0 := ht.free 0
        have f1 := ht.free 1
        have f2 := ht.free 2
        have f3 := ht.free 3
        have f4 := ht.free 4
        have f5 := ht.free 5
        clear ht
        go_wp2_with fail
        refine bodyPost_ret (results_cell_row2 rfl _ _ w.heap.size _ _ _ _ rfl HQ.out.1 Tryz.underlying27 rfl (by kernel_rfl)) rfl ?_
        refine ⟨⟨c, u.t == 166, u.r, x.n, y.s, l⟩, some (⟨b, off + 8, none⟩ : Addr), cb - 2, true, rfl, ?_, ?_, fun _ => ⟨H65.out, HY.out⟩, fun h => Bool.noConfusion h⟩
        · exact HRR.out
        · exact HQ.out.2
end Go.Proofs.YtmdibafofdghgaaGreatDoor
