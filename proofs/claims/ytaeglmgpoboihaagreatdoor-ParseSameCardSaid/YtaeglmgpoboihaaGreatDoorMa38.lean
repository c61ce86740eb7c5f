/- Texts on the program and on the document, joined: Psv, ParOk, LexTb. -/
import Derived.Test.YtaeglmgpoboihaaGreatDoorMa35
import Derived.Test.YtaeglmgpoboihaaGreatDoorMa37
import Derived.Test.YtaeglmgpoboihaaGreatDoorMa30
import Derived.Test.YtaeglmgpoboihaaGreatDoorMa33
import Derived.Test.YtaeglmgpoboihaaGreatDoorMa34
import Derived.Test.YtaeglmgpoboihaaGreatDoorCards
import Derived.Test.YtaeglmgpoboihaaGreatDoorTie
import Derived.Deep.DeepHandedRow
import Derived.Lib.LaidTab
import Derived.MakeChecks
import Derived.Lay
import Derived.Stop.LaidErr
/- ParseSame: what its calls are to answer; the copy, changed in one place. -/
namespace Go.Proofs.YtaeglmgpoboihaaGreatDoor
open Go.ChangeShapes Go.WideShapes Go.ChangeAt Go.RowKit K L15
set_option linter.unusedVariables false
set_option linter.unusedSimpArgs false
/-- Same of any books that a memory can hold. -/
structure POkS (I : World → Prop) : Prop extends POkO I where
  sameM : ∀ (a b : Bk) (va vb : Value) (w : World), BkM a → BkM b → BkR w va a → BkR w vb b → I w → Calls Tryz.prog 8 #[va, vb] w fun e w' => e = .returned (.bool (decide (a = b))) ∧ Below w.heap.size w w'
/-- Names are of a bearable length. -/
def BkN (b : Bk) : Prop := ∀ t ∈ b.tb, t.n.length ≤ 140737488351232 ∧ t.e.length ≤ 140737488351232
/-- The copy's block, its lists. -/
def CpB (W : World) (b : Bk) (rt rr : List (List Value)) (v5 : Value) (X : World) : Prop :=
  ∃ (bu : Nat) (vt vr vw : Value), v5 = .pointer (some ⟨bu, 0, none⟩) ∧ W.heap.size ≤ bu ∧ X.heap[bu]? = some (.cells #[vt, vr, vw] 27 (0, 0)) ∧ OwnR X W.heap.size 34 4 vt rt ∧ OwnR X W.heap.size 38 8 vr rr ∧ OwnR X W.heap.size 40 10 vw (b.wt.map wtRow) ∧ Below W.heap.size W X
theorem rl_rows {α : Type} {R : List Value → α → Prop} {Q : List Value → Prop} (h : ∀ r s, R r s → Q r) : ∀ {rs : List (List Value)} {ss : List α}, RlR R rs ss → ∀ r ∈ rs, Q r
  | [], [], _ => fun s hs => by simp at hs
  | [], _ :: _, k => k.elim
  | _ :: _, [], k => k.elim
  | r :: rs, s :: ss, ⟨h1, h3⟩ => fun x hx => by
    rcases List.mem_cons.1 hx with rfl | hx
    · exact h _ _ h1
    · exact rl_rows h h3 x hx
theorem tb_ok {w : World} {r : List Value} {t : Tb} (h : TbR0 w r t) : r.length = 4 ∧ ∀ u ∈ r, u.oneCell' = true := by
  obtain ⟨po, pc, rfl, -⟩ := h
  exact ⟨rfl, by intro u hu; simp at hu; rcases hu with rfl | rfl | rfl | rfl <;> rfl⟩
theorem ru_ok {w : World} {r : List Value} {t : Ru} (h : RuR0 w r t) : r.length = 8 ∧ ∀ u ∈ r, u.oneCell' = true := by
  obtain ⟨po, pc, qo, qc, rs, rfl, -, -, -⟩ := h
  exact ⟨rfl, by intro u hu; simp at hu; rcases hu with rfl | rfl | rfl | rfl | rfl | rfl | rfl | rfl <;> rfl⟩
theorem wt_ok (x : Wt) : (wtRow x).length = 10 ∧ ∀ u ∈ wtRow x, u.oneCell' = true :=
  ⟨rfl, by intro u hu; simp [wtRow] at hu; rcases hu with rfl | rfl | rfl | rfl | rfl | rfl | rfl | rfl | rfl | rfl <;> rfl⟩
theorem smB_len {b : Bk} (h : smB b = true) : b.tb.length < 300 ∧ b.ru.length < 300 ∧ b.wt.length < 100 := by
  unfold smB at h
  simp only [Bool.and_eq_true, decide_eq_true_eq] at h
  exact ⟨h.1.1.2, h.1.2, h.2⟩
theorem tdiv9 {x : Int} (h0 : -9223372036854775808 ≤ x) (h1 : x ≤ 9223372036854775807) : -9223372036854775808 ≤ x.tdiv 9 ∧ x.tdiv 9 ≤ 9223372036854775807 := by
  rcases Int.le_total 0 x with h | h
  · rw [Int.tdiv_eq_ediv_of_nonneg h]; omega
  · obtain ⟨y, rfl⟩ : ∃ y, x = -y := ⟨-x, by omega⟩
    rw [Int.neg_tdiv, Int.tdiv_eq_ediv_of_nonneg (by omega)]; omega
/-- The copy is another book now. -/
def CpD (W : World) (b : Bk) (bu : Nat) (X : World) : Prop := ∃ (xa ya za : Option Addr) (xc yc zc : Nat) (c : Bk), c ≠ b ∧ BkM c ∧ X.heap[bu]? = some (.cells #[.slice xa c.tb.length xc, .slice ya c.ru.length yc, .slice za c.wt.length zc] 27 (0, 0)) ∧ BkR X (.agg #[.slice xa c.tb.length xc, .slice ya c.ru.length yc, .slice za c.wt.length zc]) c ∧ Below W.heap.size W X
theorem rl_set {α : Type} {R : List Value → α → Prop} : ∀ {rs : List (List Value)} {ss : List α} {r : List Value} {s : α} (j : Nat), RlR R rs ss → R r s → RlR R (rs.set j r) (ss.set j s)
  | [], [], _, _, _, h, _ => trivial
  | [], _ :: _, _, _, _, h, _ => h.elim
  | _ :: _, [], _, _, _, h, _ => h.elim
  | x :: rs, y :: ss, r, s, 0, ⟨h1, h3⟩, h => ⟨h, h3⟩
  | x :: rs, y :: ss, r, s, j + 1, ⟨h1, h3⟩, h => ⟨h1, rl_set j h3 h⟩
theorem set_ne {α : Type} {l : List α} {j : Nat} {y : α} (h : j < l.length) (hne : y ≠ l[j]) : l.set j y ≠ l := by
  intro e
  have := congrArg (fun x => x[j]?) e
  simp [h] at this
  exact hne this
theorem own_free {w : World} {B : Nat} {T : TypeId} {c g n cap : Nat} {rows : List (List Value)} (h : OwnR w B T c (.slice (some ⟨g, 0, none⟩) n cap) rows) (k : Nat) : w.frozen? ⟨g, k, none⟩ = false := by
  rcases h.1.2 with ⟨hv, -⟩ | ⟨g', cap', cur, hv, hB, hh, -⟩
  · cases hv
  · injection hv with e1 _ _
    injection e1 with e1
    injection e1 with e1
    subst e1
    exact freeRow hh k
theorem own_blk {w : World} {B : Nat} {T : TypeId} {c g n cap : Nat} {rows : List (List Value)} (h : OwnR w B T c (.slice (some ⟨g, 0, none⟩) n cap) rows) : ∃ cur, w.heap[g]? = some (.cells cur T (0, 0)) := by
  rcases h.1.2 with ⟨hv, -⟩ | ⟨g', cap', cur, hv, hB, hh, -⟩
  · cases hv
  · injection hv with e1 _ _
    injection e1 with e1
    injection e1 with e1
    subst e1
    exact ⟨cur, hh⟩
section
variable {W w5 : World} {b : Bk} {bu B : Nat} {rt rr : List (List Value)}
theorem cpd_tb {ya za : Option Addr} {g xc yc zc j k : Nat} {u : Value} {y : Tb} (hcl : w5.heap[bu]? = some (.cells #[(.slice (some ⟨g, 0, none⟩) b.tb.length xc), (.slice ya b.ru.length yc), (.slice za b.wt.length zc)] 27 (0, 0))) (o1 : OwnR w5 B 34 4 (.slice (some ⟨g, 0, none⟩) b.tb.length xc) rt) (o2 : OwnR w5 B 38 8 (.slice ya b.ru.length yc) rr) (o3 : OwnR w5 B 40 10 (.slice za b.wt.length zc) (b.wt.map wtRow))
    (h2 : RlR (TbR0 W) rt b.tb) (h4 : RlR (RuR0 W) rr b.ru) (kb : Below W.heap.size W w5) (hB : W.heap.size ≤ B) (hM : BkM b) (hj : j < b.tb.length) (hk : k < 4) (hrow : ∀ r, TbR0 W r b.tb[j] → TbR0 W (r.set k u) y) (hks : y.ks = b.tb[j].ks) (hne : y ≠ b.tb[j]) : CpD W b bu (w5.setCell ⟨g, j * 4 + k, none⟩ u) := by
  obtain ⟨cur, hcur⟩ := own_blk o1
  have hg := (World.ownsRow.lt o1.1 g rfl).1
  have hbg : bu ≠ g := fun e => by
    rw [e, hcur] at hcl
    injection hcl with hcl
    injection hcl with _ hcl
    exact absurd hcl (by decide)
  have kX : Below W.heap.size W (w5.setCell ⟨g, j * 4 + k, none⟩ u) := kb.setCell (Nat.le_trans hB hg) u
  have n := own_setAt o1 (i := j) (j := k) (by rw [RlR.len h2]; exact hj) hk u
  have p1 := o2.set hcur (by decide) (j * 4 + k) u
  have p2 := o3.set hcur (by decide) (j * 4 + k) u
  have q2 := rl_set j h2 (hrow _ (rl_at h2 hj))
  obtain ⟨a0, d0, e0, -, m0, -⟩ := n.form (by decide)
  injection e0 with f0 _ g0
  subst f0 g0
  obtain ⟨a1, d1, e1, -, m1, -⟩ := p1.form (by decide)
  injection e1 with f1 _ g1
  subst f1 g1
  obtain ⟨a2, d2, e2, -, m2, -⟩ := p2.form (by decide)
  injection e2 with f2 _ g2
  subst f2 g2
  have hMc : BkM { b with tb := b.tb.set j y } := ⟨⟨by rw [List.length_set]; exact hM.1.1, hM.1.2⟩, fun t ht => by
    rcases List.mem_or_eq_of_mem_set ht with ht | rfl
    · exact hM.2.1 t ht
    · rw [hks]; exact hM.2.1 _ (List.getElem_mem hj), hM.2.2⟩
  have hlen : ({ b with tb := b.tb.set j y } : Bk).tb.length = b.tb.length := List.length_set
  refine ⟨some ⟨g, 0, none⟩, ya, za, xc, yc, zc, { b with tb := b.tb.set j y }, fun e => set_ne hj hne (congrArg (·.tb) e), hMc, ?_, ?_, kX⟩
  · rw [hlen]; exact (Below.heap_setCell _ _ _ _ hbg).trans hcl
  · exact ⟨_, _, _, _, _, _, _, _, rfl, rdr_read m0, RlR.imp (fun r s ⟨po, pc, e, h⟩ => ⟨po, pc, e, h.below kX⟩) q2, rdr_read m1, RlR.imp (fun r s ⟨po, pc, qo, qc, rs, e, h1, h2, h3⟩ => ⟨po, pc, qo, qc, rs, e, h1.below kX, h2.below kX, RlR.imp (fun r s ⟨po, pc, e, h⟩ => ⟨po, pc, e, h.below kX⟩) h3⟩) h4, rdr_read m2⟩
theorem cpd_ru {xa za : Option Addr} {g xc yc zc j k : Nat} {u : Value} {y : Ru} (hcl : w5.heap[bu]? = some (.cells #[(.slice xa b.tb.length xc), (.slice (some ⟨g, 0, none⟩) b.ru.length yc), (.slice za b.wt.length zc)] 27 (0, 0))) (o1 : OwnR w5 B 34 4 (.slice xa b.tb.length xc) rt) (o2 : OwnR w5 B 38 8 (.slice (some ⟨g, 0, none⟩) b.ru.length yc) rr) (o3 : OwnR w5 B 40 10 (.slice za b.wt.length zc) (b.wt.map wtRow))
    (h2 : RlR (TbR0 W) rt b.tb) (h4 : RlR (RuR0 W) rr b.ru) (kb : Below W.heap.size W w5) (hB : W.heap.size ≤ B) (hM : BkM b) (hj : j < b.ru.length) (hk : k < 8) (hrow : ∀ r, RuR0 W r b.ru[j] → RuR0 W (r.set k u) y) (hks : y.ts = b.ru[j].ts ∧ y.ss = b.ru[j].ss) (hne : y ≠ b.ru[j]) : CpD W b bu (w5.setCell ⟨g, j * 8 + k, none⟩ u) := by
  obtain ⟨cur, hcur⟩ := own_blk o2
  have hg := (World.ownsRow.lt o2.1 g rfl).1
  have hbg : bu ≠ g := fun e => by
    rw [e, hcur] at hcl
    injection hcl with hcl
    injection hcl with _ hcl
    exact absurd hcl (by decide)
  have kX : Below W.heap.size W (w5.setCell ⟨g, j * 8 + k, none⟩ u) := kb.setCell (Nat.le_trans hB hg) u
  have n := own_setAt o2 (i := j) (j := k) (by rw [RlR.len h4]; exact hj) hk u
  have p0 := o1.set hcur (by decide) (j * 8 + k) u
  have p2 := o3.set hcur (by decide) (j * 8 + k) u
  have q4 := rl_set j h4 (hrow _ (rl_at h4 hj))
  obtain ⟨a0, d0, e0, -, m0, -⟩ := p0.form (by decide)
  injection e0 with f0 _ g0
  subst f0 g0
  obtain ⟨a1, d1, e1, -, m1, -⟩ := n.form (by decide)
  injection e1 with f1 _ g1
  subst f1 g1
  obtain ⟨a2, d2, e2, -, m2, -⟩ := p2.form (by decide)
  injection e2 with f2 _ g2
  subst f2 g2
  have hMc : BkM { b with ru := b.ru.set j y } := ⟨⟨hM.1.1, by rw [List.length_set]; exact hM.1.2.1, hM.1.2.2⟩, hM.2.1, fun t ht => by
    rcases List.mem_or_eq_of_mem_set ht with ht | rfl
    · exact hM.2.2 t ht
    · rw [hks.1, hks.2]; exact hM.2.2 _ (List.getElem_mem hj)⟩
  have hlen : ({ b with ru := b.ru.set j y } : Bk).ru.length = b.ru.length := List.length_set
  refine ⟨xa, some ⟨g, 0, none⟩, za, xc, yc, zc, { b with ru := b.ru.set j y }, fun e => set_ne hj hne (congrArg (·.ru) e), hMc, ?_, ?_, kX⟩
  · rw [hlen]; exact (Below.heap_setCell _ _ _ _ hbg).trans hcl
  · exact ⟨_, _, _, _, _, _, _, _, rfl, rdr_read m0, RlR.imp (fun r s ⟨po, pc, e, h⟩ => ⟨po, pc, e, h.below kX⟩) h2, rdr_read m1, RlR.imp (fun r s ⟨po, pc, qo, qc, rs, e, h1, h2, h3⟩ => ⟨po, pc, qo, qc, rs, e, h1.below kX, h2.below kX, RlR.imp (fun r s ⟨po, pc, e, h⟩ => ⟨po, pc, e, h.below kX⟩) h3⟩) q4, rdr_read m2⟩
theorem cpd_wt {xa ya : Option Addr} {g xc yc zc j k : Nat} {u : Value} {y : Wt} (hcl : w5.heap[bu]? = some (.cells #[(.slice xa b.tb.length xc), (.slice ya b.ru.length yc), (.slice (some ⟨g, 0, none⟩) b.wt.length zc)] 27 (0, 0))) (o1 : OwnR w5 B 34 4 (.slice xa b.tb.length xc) rt) (o2 : OwnR w5 B 38 8 (.slice ya b.ru.length yc) rr) (o3 : OwnR w5 B 40 10 (.slice (some ⟨g, 0, none⟩) b.wt.length zc) (b.wt.map wtRow))
    (h2 : RlR (TbR0 W) rt b.tb) (h4 : RlR (RuR0 W) rr b.ru) (kb : Below W.heap.size W w5) (hB : W.heap.size ≤ B) (hM : BkM b) (hj : j < b.wt.length) (hk : k < 10) (hrow : wtRow y = (wtRow b.wt[j]).set k u) (hne : y ≠ b.wt[j]) : CpD W b bu (w5.setCell ⟨g, j * 10 + k, none⟩ u) := by
  obtain ⟨cur, hcur⟩ := own_blk o3
  have hg := (World.ownsRow.lt o3.1 g rfl).1
  have hbg : bu ≠ g := fun e => by
    rw [e, hcur] at hcl
    injection hcl with hcl
    injection hcl with _ hcl
    exact absurd hcl (by decide)
  have kX : Below W.heap.size W (w5.setCell ⟨g, j * 10 + k, none⟩ u) := kb.setCell (Nat.le_trans hB hg) u
  have n := own_setAt o3 (i := j) (j := k) (by rw [List.length_map]; exact hj) hk u
  have p0 := o1.set hcur (by decide) (j * 10 + k) u
  have p1 := o2.set hcur (by decide) (j * 10 + k) u
  have q5 : (b.wt.map wtRow).set j (((b.wt.map wtRow).getD j []).set k u) = (b.wt.set j y).map wtRow := by rw [map_at hj, ← hrow, List.map_set]
  rw [q5] at n
  obtain ⟨a0, d0, e0, -, m0, -⟩ := p0.form (by decide)
  injection e0 with f0 _ g0
  subst f0 g0
  obtain ⟨a1, d1, e1, -, m1, -⟩ := p1.form (by decide)
  injection e1 with f1 _ g1
  subst f1 g1
  obtain ⟨a2, d2, e2, -, m2, -⟩ := n.form (by decide)
  injection e2 with f2 _ g2
  subst f2 g2
  have hMc : BkM { b with wt := b.wt.set j y } := ⟨⟨hM.1.1, hM.1.2.1, by rw [List.length_set]; exact hM.1.2.2⟩, hM.2.1, hM.2.2⟩
  have hlen : ({ b with wt := b.wt.set j y } : Bk).wt.length = b.wt.length := List.length_set
  refine ⟨xa, ya, some ⟨g, 0, none⟩, xc, yc, zc, { b with wt := b.wt.set j y }, fun e => set_ne hj hne (congrArg (·.wt) e), hMc, ?_, ?_, kX⟩
  · rw [hlen]; exact (Below.heap_setCell _ _ _ _ hbg).trans hcl
  · exact ⟨_, _, _, _, _, _, _, _, rfl, rdr_read m0, RlR.imp (fun r s ⟨po, pc, e, h⟩ => ⟨po, pc, e, h.below kX⟩) h2, rdr_read m1, RlR.imp (fun r s ⟨po, pc, qo, qc, rs, e, h1, h2, h3⟩ => ⟨po, pc, qo, qc, rs, e, h1.below kX, h2.below kX, RlR.imp (fun r s ⟨po, pc, e, h⟩ => ⟨po, pc, e, h.below kX⟩) h3⟩) h4, rdr_read m2⟩
end
end Go.Proofs.YtaeglmgpoboihaaGreatDoor
/- The program's Parse and Same, and strings.Count, keep their word. -/
namespace Go.Proofs.YtaeglmgpoboihaaGreatDoor
open Go.ChangeShapes Go.WideShapes Go.ChangeAt Go.RowKit K L15
set_option linter.unusedVariables false
abbrev PaI (w : World) : Prop := PQ.PaI w
theorem bks_l {b : Bk} (h : BkS b) : PQ.BkL b := by
  obtain ⟨h1, h2, h3, h4, h5⟩ := h
  exact ⟨⟨by omega, by omega, by omega⟩, fun t ht => by have := h4 t ht; omega, fun x hx => by obtain ⟨a, b, c⟩ := h5 x hx; exact ⟨by omega, by omega, fun s hs => by have := c s hs; omega⟩⟩
theorem bkm_l {b : Bk} (h : BkM b) : PQ.BkL b := ⟨h.1, fun t ht => (h.2.1 t ht).1, h.2.2⟩
theorem bko_v {w : World} {B : Nat} {p : Bv} (h : BkO w B p) : BkV w p.v p.b := by
  obtain ⟨ta, tc, ra, rc, wa, wc, e1, e2, e3, r1, r2, r3⟩ := h.form
  exact ⟨ta, tc, ra, rc, wa, wc, p.rt, p.rr, by show Value.agg #[p.vt, p.vr, p.vw] = _; rw [e1, e2, e3], r1, h.2.1, r2, h.2.2.2.1, r3⟩
theorem par_ok : POkS PaI :=
  { keepI := fun a b h k => PQ.PaI.below h k
    parse := fun s w hs hw => (PQ.pparse_walk s hs w hw).mono fun e w' ⟨h1, p, h2, h3, h4⟩ => ⟨h1, p.v, h2, by rw [← h4]; exact bko_v h3⟩
    same := fun a b va vb w ha hb h1 h2 hw => PQ.psame_walk a b va vb w (bks_l ha) (bks_l hb) h1 h2
    parseO := fun s w hs hw => (PQ.pparse_walk s hs w hw).mono fun e w' ⟨h1, p, h2, h3, h4⟩ => ⟨h1, p, h2, h3, h4⟩
    sameM := fun a b va vb w ha hb h1 h2 hw => PQ.psame_walk a b va vb w (bkm_l ha) (bkm_l hb) h1 h2 }
theorem par_cnt : HCnt15 PaI := fun s w hs hw => lex_cnt s w (by omega) hw.1
end Go.Proofs.YtaeglmgpoboihaaGreatDoor
/- What the library's variables hold, as the rows list them. -/
namespace Go.Proofs.YtaeglmgpoboihaaGreatDoor
open Go.ChangeShapes Go.WideShapes Go.ChangeAt Go.RowKit K
set_option linter.unusedVariables false

theorem starE14 : "*" ++ "errors.errorString" = "*errors.errorString" := by decide
theorem rowE14 (u : TypeId) (h : Tryz.prog.typeName? 3 u = some "*errors.errorString") : u = 174 :=
  typeName_ptr_named (nm := "errors.errorString") (by rw [starE14]; kernel_rfl) (by kernel_rfl) (by decide) u (by rw [starE14]; exact h)
/-- One of a row's errors. -/
theorem errOf14 {W : World} {n : String} {text : List UInt8} {r : List (String × DataW Unit)} {g : Nat} (h : laidMet Tryz.prog ((n, .iface "*errors.errorString" (.ptr (.agg [.lit (.string text)]))) :: r) W)
    (hg : Tryz.prog.globalNamed n = some g) (ht : (Tryz.prog.globals[g]?).map (·.type) = some 125) : ∃ te pe, W.cell? ⟨g, 0, none⟩ = some (.iface te pe) := by
  obtain ⟨a0, s0, hv0, -, -, -⟩ := laid_sentinel h hg ht Tryz.underlying125 rowE14 Tryz.underlying174 Tryz.underlying176 rfl rfl Tryz.underlying9 (by kernel_rfl) (by kernel_rfl)
  exact ⟨_, _, by have h0 := World.var?_cell hg hv0 0; simpa using h0⟩
theorem tabs14Of {W : World} (h : laidMetH Tryz.prog [("math/bits.deBruijn32tab", Rows.laid_math_bits_deBruijn32tab), ("math/bits.deBruijn64tab", Rows.laid_math_bits_deBruijn64tab), ("internal/strconv.uint64pow10", Rows.laid_internal_strconv_uint64pow10), ("unicode/utf8.acceptRanges", Rows.laid_unicode_utf8_acceptRanges), ("strconv.ErrRange", Rows.laid_strconv_ErrRange), ("strconv.ErrSyntax", Rows.laid_strconv_ErrSyntax), ("unicode/utf8.first", Rows.laid_unicode_utf8_first)] W) (hS : W.ShapedOpen Tryz.prog) : LxI W := by
  have hm : laidMet Tryz.prog [("math/bits.deBruijn32tab", Rows.laid_math_bits_deBruijn32tab), ("math/bits.deBruijn64tab", Rows.laid_math_bits_deBruijn64tab), ("internal/strconv.uint64pow10", Rows.laid_internal_strconv_uint64pow10), ("unicode/utf8.acceptRanges", Rows.laid_unicode_utf8_acceptRanges), ("strconv.ErrRange", Rows.laid_strconv_ErrRange), ("strconv.ErrSyntax", Rows.laid_strconv_ErrSyntax), ("unicode/utf8.first", Rows.laid_unicode_utf8_first)] W := by
    have h2 := h
    rw [MakeChecks.laidMetH_plain _ _ _ (by kernel_rfl)] at h2
    exact h2
  exact ⟨Tryz.laysM145.s1_3 W hS, errOf14 hm.tail.tail.tail.tail.tail (by kernel_rfl) (by kernel_rfl)⟩
end Go.Proofs.YtaeglmgpoboihaaGreatDoor
