/- Texts on the program and on the document, joined: PaqW, LxqJ, LexO, LexS. -/
import Derived.Test.YtaeglmgpoboihaaGreatDoorMa32
import Derived.Test.YtaeglmgpoboihaaGreatDoorMa28
import Derived.Test.YtaeglmgpoboihaaGreatDoorMa27
import Derived.Test.YtaeglmgpoboihaaGreatDoorMa29
/- The program's Same, walked. gen_paqu.py writes it. -/
namespace Go.Proofs.YtaeglmgpoboihaaGreatDoor
open Go.ChangeShapes Go.WideShapes Go.ChangeAt Go.RowKit K L15
set_option linter.unusedVariables false
set_option linter.unusedSimpArgs false
namespace PQ
/-- Lists that a memory can hold. -/
def BkL (b : Bk) : Prop := (b.tb.length ≤ 140737488351232 ∧ b.ru.length ≤ 140737488351232 ∧ b.wt.length ≤ 140737488351232) ∧ (∀ t ∈ b.tb, t.ks.length ≤ 140737488351232) ∧ ∀ x ∈ b.ru, x.ts.length ≤ 140737488351232 ∧ x.ss.length ≤ 140737488351232 ∧ ∀ s ∈ x.ss, s.ps.length ≤ 140737488351232
set_option maxRecDepth 100000 in
set_option maxHeartbeats 4000000 in
theorem psame_walk (a b : Bk) (va vb : Value) (w : World) (ma : BkL a) (mb : BkL b) (ha : BkR w va a) (hb : BkR w vb b) :
    Calls Tryz.prog 8 #[va, vb] w fun e w' => e = .returned (.bool (decide (a = b))) ∧ Below w.heap.size w w' := by
  obtain ⟨xp0, xc0, xp1, xc1, xp2, xc2, rs0, rs1, rfl, rx0, sx0, rx1, sx1, rx2⟩ := ha
  obtain ⟨yp0, yc0, yp1, yc1, yp2, yc2, qs0, qs1, rfl, ry0, sy0, ry1, sy1, ry2⟩ := hb
  obtain ⟨w0, hw0, hx, hy, b0⟩ := two_box w #[.slice xp0 a.tb.length xc0, .slice xp1 a.ru.length xc1, .slice xp2 a.wt.length xc2] #[.slice yp0 b.tb.length yc0, .slice yp1 b.ru.length yc1, .slice yp2 b.wt.length yc2] 27
  obtain ⟨⟨la0, la1, la2⟩, ka0, ka1⟩ := ma
  obtain ⟨⟨lb0, lb1, lb2⟩, kb0, kb1⟩ := mb
  obtain ⟨x0, x1, x2⟩ := a
  obtain ⟨y0, y1, y2⟩ := b
  simp only at *
  have HW0 := Lib.hid hw0
  have B0 := Lib.hid b0
  have E0 := Lib.hid (fun w1 (d : Below w.heap.size w w1) => eqfTb_walk x0 y0 rs0 qs0 xp0 yp0 xc0 yc0 la0 lb0 ka0 kb0 w1 (rx0.below d) (RlR.imp (fun _ _ z => tbR_b d z) sx0) (ry0.below d) (RlR.imp (fun _ _ z => tbR_b d z) sy0))
  have E1 := Lib.hid (fun w1 (d : Below w.heap.size w w1) => eqfRu_walk x1 y1 rs1 qs1 xp1 yp1 xc1 yc1 la1 lb1 ka1 kb1 w1 (rx1.below d) (RlR.imp (fun _ _ z => ruR_b d z) sx1) (ry1.below d) (RlR.imp (fun _ _ z => ruR_b d z) sy1))
  have E2 := Lib.hid (fun w1 (d : Below w.heap.size w w1) => eqWt_walk x2 y2 xp2 yp2 xc2 yc2 la2 lb2 w1 (rx2.below d) (ry2.below d))
  have RX0 := Lib.hid hx
  have RY0 := Lib.hid hy
  have cx0 := cellRow hx 0
  have cy0 := cellRow hy 0
  simp at cx0 cy0
  clear hw0 b0 hx hy rx0 sx0 rx1 sx1 rx2 ry0 sy0 ry1 sy1 ry2 ka0 ka1 kb0 kb1 la0 la1 la2 lb0 lb1 lb2
  by_cases h0 : x0 = y0
  · subst h0
    by_cases h1 : x1 = y1
    · subst h1
      by_cases h2 : x2 = y2
      · subst h2
        have HN := Lib.hid (decide_eq_true (rfl : (⟨x0, x1, x2⟩ : Bk) = ⟨x0, x1, x2⟩))
        rw [decide_eq_true (rfl : x0 = x0)] at E0
        rw [decide_eq_true (rfl : x1 = x1)] at E1
        rw [decide_eq_true (rfl : x2 = x2)] at E2
        go_enter Tryz.func8, Tryz.ntmps8
        go_wp2_with fail
        rw [HW0.out]
        go_wp2_with fail
        refine (E0.out _ B0.out).mono ?_
        rintro e u0 ⟨rfl, d0⟩
        have e0 := d0
        have B1 := Lib.hid (B0.out.trans (e0.mono B0.out.size))
        have hx := (e0.block _ (lt_of_block RX0.out)).trans RX0.out
        have hy := (e0.block _ (lt_of_block RY0.out)).trans RY0.out
        clear d0 e0 cx0 cy0
        have cx1 := cellRow hx 1
        have cy1 := cellRow hy 1
        simp at cx1 cy1
        have RX1 := Lib.hid hx
        have RY1 := Lib.hid hy
        clear hx hy
        go_wp2_with fail
        refine (E1.out _ B1.out).mono ?_
        rintro e u1 ⟨rfl, d1⟩
        have e1 := d1
        have B2 := Lib.hid (B1.out.trans (e1.mono B1.out.size))
        have hx := (e1.block _ (lt_of_block RX1.out)).trans RX1.out
        have hy := (e1.block _ (lt_of_block RY1.out)).trans RY1.out
        clear d1 e1 cx1 cy1
        have cx2 := cellRow hx 2
        have cy2 := cellRow hy 2
        simp at cx2 cy2
        have RX2 := Lib.hid hx
        have RY2 := Lib.hid hy
        clear hx hy
        go_wp2_with fail
        refine (E2.out _ B2.out).mono ?_
        rintro e u2 ⟨rfl, d2⟩
        have e2 := d2.below
        have B3 := Lib.hid (B2.out.trans (e2.mono B2.out.size))
        clear d2 e2 cx2 cy2
        go_wp2
        go_ret
        rw [HN.out]
        exact ⟨rfl, B3.out⟩
      · rw [decide_eq_false h2] at E2
        have HN := Lib.hid (decide_eq_false (fun e : (⟨x0, x1, x2⟩ : Bk) = ⟨x0, x1, y2⟩ => h2 (congrArg Bk.wt e)))
        clear h2
        rw [decide_eq_true (rfl : x0 = x0)] at E0
        rw [decide_eq_true (rfl : x1 = x1)] at E1
        go_enter Tryz.func8, Tryz.ntmps8
        go_wp2_with fail
        rw [HW0.out]
        go_wp2_with fail
        refine (E0.out _ B0.out).mono ?_
        rintro e u0 ⟨rfl, d0⟩
        have e0 := d0
        have B1 := Lib.hid (B0.out.trans (e0.mono B0.out.size))
        have hx := (e0.block _ (lt_of_block RX0.out)).trans RX0.out
        have hy := (e0.block _ (lt_of_block RY0.out)).trans RY0.out
        clear d0 e0 cx0 cy0
        have cx1 := cellRow hx 1
        have cy1 := cellRow hy 1
        simp at cx1 cy1
        have RX1 := Lib.hid hx
        have RY1 := Lib.hid hy
        clear hx hy
        go_wp2_with fail
        refine (E1.out _ B1.out).mono ?_
        rintro e u1 ⟨rfl, d1⟩
        have e1 := d1
        have B2 := Lib.hid (B1.out.trans (e1.mono B1.out.size))
        have hx := (e1.block _ (lt_of_block RX1.out)).trans RX1.out
        have hy := (e1.block _ (lt_of_block RY1.out)).trans RY1.out
        clear d1 e1 cx1 cy1
        have cx2 := cellRow hx 2
        have cy2 := cellRow hy 2
        simp at cx2 cy2
        have RX2 := Lib.hid hx
        have RY2 := Lib.hid hy
        clear hx hy
        go_wp2_with fail
        refine (E2.out _ B2.out).mono ?_
        rintro e u2 ⟨rfl, d2⟩
        have e2 := d2.below
        have B3 := Lib.hid (B2.out.trans (e2.mono B2.out.size))
        clear d2 e2 cx2 cy2
        go_wp2
        go_ret
        rw [HN.out]
        exact ⟨rfl, B3.out⟩
    · rw [decide_eq_false h1] at E1
      have HN := Lib.hid (decide_eq_false (fun e : (⟨x0, x1, x2⟩ : Bk) = ⟨x0, y1, y2⟩ => h1 (congrArg Bk.ru e)))
      clear h1
      rw [decide_eq_true (rfl : x0 = x0)] at E0
      go_enter Tryz.func8, Tryz.ntmps8
      go_wp2_with fail
      rw [HW0.out]
      go_wp2_with fail
      refine (E0.out _ B0.out).mono ?_
      rintro e u0 ⟨rfl, d0⟩
      have e0 := d0
      have B1 := Lib.hid (B0.out.trans (e0.mono B0.out.size))
      have hx := (e0.block _ (lt_of_block RX0.out)).trans RX0.out
      have hy := (e0.block _ (lt_of_block RY0.out)).trans RY0.out
      clear d0 e0 cx0 cy0
      have cx1 := cellRow hx 1
      have cy1 := cellRow hy 1
      simp at cx1 cy1
      have RX1 := Lib.hid hx
      have RY1 := Lib.hid hy
      clear hx hy
      go_wp2_with fail
      refine (E1.out _ B1.out).mono ?_
      rintro e u1 ⟨rfl, d1⟩
      have e1 := d1
      have B2 := Lib.hid (B1.out.trans (e1.mono B1.out.size))
      have hx := (e1.block _ (lt_of_block RX1.out)).trans RX1.out
      have hy := (e1.block _ (lt_of_block RY1.out)).trans RY1.out
      clear d1 e1 cx1 cy1
      have cx2 := cellRow hx 2
      have cy2 := cellRow hy 2
      simp at cx2 cy2
      have RX2 := Lib.hid hx
      have RY2 := Lib.hid hy
      clear hx hy
      go_wp2
      go_ret
      rw [HN.out]
      exact ⟨rfl, B2.out⟩
  · rw [decide_eq_false h0] at E0
    have HN := Lib.hid (decide_eq_false (fun e : (⟨x0, x1, x2⟩ : Bk) = ⟨y0, y1, y2⟩ => h0 (congrArg Bk.tb e)))
    clear h0
    go_enter Tryz.func8, Tryz.ntmps8
    go_wp2_with fail
    rw [HW0.out]
    go_wp2_with fail
    refine (E0.out _ B0.out).mono ?_
    rintro e u0 ⟨rfl, d0⟩
    have e0 := d0
    have B1 := Lib.hid (B0.out.trans (e0.mono B0.out.size))
    have hx := (e0.block _ (lt_of_block RX0.out)).trans RX0.out
    have hy := (e0.block _ (lt_of_block RY0.out)).trans RY0.out
    clear d0 e0 cx0 cy0
    have cx1 := cellRow hx 1
    have cy1 := cellRow hy 1
    simp at cx1 cy1
    have RX1 := Lib.hid hx
    have RY1 := Lib.hid hy
    clear hx hy
    go_wp2
    go_ret
    rw [HN.out]
    exact ⟨rfl, B1.out⟩
end PQ
end Go.Proofs.YtaeglmgpoboihaaGreatDoor
/- The program's quote and Quote, walked. -/
namespace Go.Proofs.YtaeglmgpoboihaaGreatDoor
open Go.ChangeShapes Go.WideShapes Go.ChangeAt Go.RowKit K L14
set_option linter.unusedVariables false

theorem hx_get (n : Nat) (h : n < 16) : ({ data := #[48, 49, 50, 51, 52, 53, 54, 55, 56, 57, 97, 98, 99, 100, 101, 102] } : ByteArray)[n]'(by exact h) = hxd n := by
  obtain rfl | rfl | rfl | rfl | rfl | rfl | rfl | rfl | rfl | rfl | rfl | rfl | rfl | rfl | rfl | rfl : n = 0 ∨ n = 1 ∨ n = 2 ∨ n = 3 ∨ n = 4 ∨ n = 5 ∨ n = 6 ∨ n = 7 ∨ n = 8 ∨ n = 9 ∨ n = 10 ∨ n = 11 ∨ n = 12 ∨ n = 13 ∨ n = 14 ∨ n = 15 := by omega
  all_goals rfl
def QbPost (B b : Nat) (l : List UInt8) (w : World) (e : Ending) (w' : World) : Prop := e = .returned (.tuple #[]) ∧ Bld B b l w' ∧ Below B w w'
def QtRel (s : List UInt8) (w : World) (g : Nat) (v : Value) (wr : World) : Prop :=
  ∃ i, i + g = s.length ∧ v = .int .i64 (i : Nat) ∧ Bld w.heap.size w.heap.size (34 :: qbd (s.take i)) wr ∧ Below w.heap.size w wr
theorem lqbd_take (s : List UInt8) (i : Nat) (h : i < s.length) : qbd (s.take (i + 1)) = qbd (s.take i) ++ qb (s.getD i 0) := by
  rw [List.take_succ_eq_append_getElem h, qbd_app]
  simp [qbd, List.getD, h]
theorem lbyt_getD (s : List UInt8) (i : Nat) : byt s i = (s.getD i 0).toNat := by simp [byt, List.getD]
end Go.Proofs.YtaeglmgpoboihaaGreatDoor
/- alike: the same tokens, but for their lines. -/
namespace Go.Proofs.YtaeglmgpoboihaaGreatDoor
open Go.ChangeShapes Go.WideShapes Go.ChangeAt Go.RowKit K L14
set_option linter.unusedVariables false

/-- Tokens without their lines. -/
def kt (l : List Tq) : List (Int × List UInt8) := l.map fun x => (x.k, x.t)
theorem kt_len {l m : List Tq} (h : kt l = kt m) : l.length = m.length := by
  have := congrArg List.length h
  simpa [kt] using this
theorem kt_at {l m : List Tq} (h : kt l = kt m) (i : Nat) (hi : i < l.length) : (l.getD i noQ).k = (m.getD i noQ).k ∧ (l.getD i noQ).t = (m.getD i noQ).t := by
  have hm : i < m.length := by rw [← kt_len h]; exact hi
  have := congrArg (fun x : List (Int × List UInt8) => x[i]?) h
  simp [kt, hi, hm] at this
  simp [List.getD, hi, hm, this.1, this.2]
end Go.Proofs.YtaeglmgpoboihaaGreatDoor
/- Tokens there and back: what LexBack wants. Plain mathematics, of no program but for the tokens' form. -/
namespace Go.Proofs.YtaeglmgpoboihaaGreatDoor
open Go.ChangeShapes Go.WideShapes Go.ChangeAt Go.RowKit K L14
set_option linter.unusedVariables false

theorem txt_o : ∀ (f : Nat) (s o : List UInt8) (n : Nat), txt f s = some (o, n) → o.length + 1 ≤ n
  | 0, _, _, _, h => by cases h
  | f + 1, [], _, _, h => by cases h
  | f + 1, c :: t, o, n, h => by
    simp only [txt] at h
    split at h
    · injection h with h; injection h with h1 h; subst h h1; simp
    · split at h
      · cases h
      · split at h
        · cases he : esc t with
          | none => rw [he] at h; cases h
          | some y =>
            obtain ⟨b, k⟩ := y
            rw [he] at h
            simp only at h
            obtain ⟨z, hz, h⟩ := Option.map_eq_some_iff.1 h
            obtain ⟨z1, z2⟩ := z
            have := txt_o f _ _ _ hz
            injection h with h1 h
            simp only at h h1
            subst h h1
            simp only [List.length_cons]; omega
        · obtain ⟨z, hz, h⟩ := Option.map_eq_some_iff.1 h
          obtain ⟨z1, z2⟩ := z
          have := txt_o f _ _ _ hz
          injection h with h1 h
          simp only at h h1
          subst h h1
          simp only [List.length_cons]; omega
theorem nxt_o {s : List UInt8} {k : Nat} {t : List UInt8} {n : Nat} (h : nxt s = some ((k, t), n)) : t.length ≤ n := by
  cases s with
  | nil => cases h
  | cons c r =>
    simp only [nxt] at h
    split at h
    · injection h with h; injection h with h1 h2; injection h1 with _ h1; subst h1 h2; simp
    · split at h
      · injection h with h; injection h with h1 h2; injection h1 with _ h1; subst h1 h2; rw [List.length_take]; omega
      · split at h
        · injection h with h; injection h with h1 h2; injection h1 with _ h1; subst h1 h2; rw [List.length_take]; omega
        · split at h
          · split at h
            · cases h
            · injection h with h; injection h with h1 h2; injection h1 with _ h1; subst h1 h2; rw [List.length_take]; omega
          · split at h
            · obtain ⟨z, hz, h⟩ := Option.map_eq_some_iff.1 h
              obtain ⟨z1, z2⟩ := z
              have := txt_o _ _ _ _ hz
              injection h with h1 h2
              injection h1 with _ h1
              simp only at h1 h2
              subst h1 h2; omega
            · cases h
theorem split_o : ∀ (n m ln : Nat) (s : List UInt8) (k : List Tk), s.length ≤ n → split m ln s = .ok k → ∀ x ∈ k, x.t.length ≤ n := by
  intro n
  induction n with
  | zero =>
    intro m ln s k hs h
    have : s = [] := List.length_eq_zero_iff.1 (by omega)
    subst this
    rw [split_end (by rfl)] at h
    injection h with h; subst h
    intro x hx; cases hx
  | succ n ih =>
    intro m ln s k hs h
    by_cases hr : rst s = []
    · rw [split_end hr] at h
      injection h with h; subst h
      intro x hx; cases hx
    · cases hx : nxt (rst s) with
      | none => rw [split_no hr hx] at h; cases h
      | some z =>
        obtain ⟨⟨kk, t⟩, j⟩ := z
        cases m with
        | zero => rw [split_full hr hx] at h; cases h
        | succ m =>
          rw [split_go hr hx] at h
          have hn := nxt_n hx
          have ho := nxt_o hx
          have hl := rst_len s
          cases hs2 : split m (lin ln s) ((rst s).drop j) with
          | error e => rw [hs2] at h; cases h
          | ok q =>
            rw [hs2] at h
            injection h with h; subst h
            have h1 := ih m _ _ q (by rw [List.length_drop]; omega) hs2
            intro x hx
            rcases List.mem_cons.1 hx with rfl | hx
            · show t.length ≤ n + 1; omega
            · have := h1 x hx; omega
/-- The answer's tokens are tokens, and short. -/
theorem pgL_is (s : List UInt8) : allT (bare (pgL s)) = true ∧ (pgL s).length ≤ 4096 ∧ ∀ x ∈ pgL s, x.t.length ≤ 65536 := by
  have h0 : pgL s = [] → allT (bare (pgL s)) = true ∧ (pgL s).length ≤ 4096 ∧ ∀ x ∈ pgL s, x.t.length ≤ 65536 := fun h => by rw [h]; exact ⟨rfl, by simp, fun x hx => by cases hx⟩
  by_cases hs : s.length ≤ 65536
  · cases hx : all14 s with
    | error e => exact h0 (pg_er hs hx).2.2
    | ok l =>
      by_cases hl : 4096 < l.length
      · exact h0 (pg_many hs hx hl).2.2
      · rw [(pg_all hs hx (by omega)).2.2]
        obtain ⟨h1, h2⟩ := split_is s.length (s.length + 1) 1 s l (Nat.le_refl _) hx
        exact ⟨h1, by omega, fun x hx2 => by have := split_o s.length (s.length + 1) 1 s l (Nat.le_refl _) hx x hx2; omega⟩
  · exact h0 (pg_long (by omega)).2.2
theorem kN_tok {k : Int} {t : List UInt8} (h : isT (kN k) t = true) : ((kN k : Nat) : Int) = k := by
  unfold kN at h ⊢
  by_cases k1 : k = 1
  · rw [if_pos k1, k1]; rfl
  rw [if_neg k1] at h ⊢
  by_cases k2 : k = 2
  · rw [if_pos k2, k2]; rfl
  rw [if_neg k2] at h ⊢
  by_cases k3 : k = 3
  · rw [if_pos k3, k3]; rfl
  rw [if_neg k3] at h ⊢
  by_cases k4 : k = 4
  · rw [if_pos k4, k4]; rfl
  rw [if_neg k4] at h ⊢
  by_cases k5 : k = 5
  · rw [if_pos k5, k5]; rfl
  rw [if_neg k5] at h
  cases h
theorem tok_kN {k : Nat} {t : List UInt8} (h : isT k t = true) : kN (k : Int) = k := by
  unfold isT at h
  by_cases k1 : k = 1
  · subst k1; rfl
  rw [if_neg k1] at h
  by_cases k2 : k = 2
  · subst k2; rfl
  rw [if_neg k2] at h
  by_cases k3 : k = 3
  · subst k3; rfl
  rw [if_neg k3] at h
  by_cases k4 : k = 4
  · subst k4; rfl
  rw [if_neg k4] at h
  by_cases k5 : k = 5
  · subst k5; rfl
  rw [if_neg k5] at h
  cases h
theorem bq_kt (l : List Tq) : bq l = (kt l).map fun x => (kN x.1, x.2) := by simp [bq, kt]
theorem kt_bq : ∀ (l : List Tq), allT (bq l) = true → kt l = (bq l).map fun x => (((x.1 : Nat) : Int), x.2)
  | [], _ => rfl
  | x :: l, h => by
    have h' : isT (kN x.k) x.t = true ∧ allT (bq l) = true := by simpa [bq, allT] using h
    show (x.k, x.t) :: kt l = (((kN x.k : Nat) : Int), x.t) :: (bq l).map _
    rw [kN_tok h'.1, kt_bq l h'.2]
theorem kt_tq (k : List Tk) : kt (tq k) = (bare k).map fun x => (((x.1 : Nat) : Int), x.2) := by simp [kt, tq, bare]
theorem bq_tq : ∀ (k : List Tk), allT (bare k) = true → bq (tq k) = bare k
  | [], _ => rfl
  | x :: l, h => by
    have h' : isT x.k x.t = true ∧ allT (bare l) = true := by simpa [bare, allT] using h
    show (kN (x.k : Nat), x.t) :: bq (tq l) = (x.k, x.t) :: bare l
    rw [tok_kN h'.1, bq_tq l h'.2]
/-- What is printed is split as it was. -/
theorem back_k {l : List Tq} (hT : allT (bq l) = true) (hl : l.length ≤ 4096) (hf : (file (bq l)).length ≤ 65536) : pgE (file (bq l)) = 0 ∧ pgN (file (bq l)) = 0 ∧ kt (tq (pgL (file (bq l)))) = kt l := by
  obtain ⟨k, hk, hb⟩ := split_file (bq l) [] 4096 1 clo_nil hT (by simpa [bq] using hl)
  rw [List.nil_append] at hk
  obtain ⟨h1, h2, h3⟩ := pg_ok hf hk
  exact ⟨h1, h2, by rw [h3, kt_tq, hb, kt_bq l hT]⟩
theorem pr_kt {l m : List Tq} (h : kt l = kt m) : prS l = prS m ∧ prE l = prE m := by
  unfold prS prE
  rw [bq_kt l, bq_kt m, h]; exact ⟨rfl, rfl⟩
/-- A file that is split and printed. -/
theorem back_s (s : List UInt8) : prS (tq (pgL s)) = file (bq (tq (pgL s))) ∧ prE (tq (pgL s)) = 0 ∧ allT (bq (tq (pgL s))) = true := by
  have h := (pgL_is s).1
  have h2 : allT (bq (tq (pgL s))) = true := by rw [bq_tq _ h]; exact h
  unfold prS prE
  rw [h2]; exact ⟨rfl, rfl, rfl⟩
theorem back_m (s : List UInt8) : (pgE (prS (tq (pgL s))) = 2 ∧ pgL (prS (tq (pgL s))) = []) ∨ (pgE (prS (tq (pgL s))) = 0 ∧ kt (tq (pgL (prS (tq (pgL s))))) = kt (tq (pgL s)) ∧ prS (tq (pgL (prS (tq (pgL s))))) = prS (tq (pgL s)) ∧ prE (tq (pgL (prS (tq (pgL s))))) = 0) := by
  obtain ⟨h1, h2, h3⟩ := back_s s
  by_cases hf : (file (bq (tq (pgL s)))).length ≤ 65536
  · obtain ⟨q1, q2, q3⟩ := back_k h3 (by rw [tq_len]; exact (pgL_is s).2.1) hf
    rw [← h1] at q1 q2 q3
    obtain ⟨p1, p2⟩ := pr_kt q3
    exact .inr ⟨q1, q3, p1, by rw [p2, h2]⟩
  · rw [h1]
    generalize file (bq (tq (pgL s))) = T at hf
    have hf2 : 65536 < T.length := by omega
    exact .inl ⟨(pg_long hf2).1, (pg_long hf2).2.2⟩
/-- The bytes of all texts. -/
def tot (l : List Tq) : Nat := (l.map fun x => x.t.length).sum
theorem file_tot : ∀ l : List Tq, (file (bq l)).length ≤ 4 * tot l + 3 * l.length
  | [] => by simp [bq, file]
  | x :: l => by
    have := file_tot l
    have h1 := put_len (kN x.k) x.t
    have h2 : (bhd (kN x.k) x.t).length = 1 := by rcases bhd_two (kN x.k) x.t with h | h <;> rw [h] <;> rfl
    show (put (kN x.k) x.t ++ (bhd (kN x.k) x.t ++ file (bq l))).length ≤ 4 * (x.t.length + tot l) + 3 * (l.length + 1)
    rw [List.length_append, List.length_append]; omega
end Go.Proofs.YtaeglmgpoboihaaGreatDoor
