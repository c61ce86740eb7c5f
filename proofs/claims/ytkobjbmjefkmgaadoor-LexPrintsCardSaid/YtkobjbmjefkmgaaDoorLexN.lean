/- LexPrints, walked on calls that keep their word. -/
import Derived.Test.YtkobjbmjefkmgaaDoorLexK
import Derived.Test.YtkobjbmjefkmgaaDoorLexM
import Derived.Laws.OwnMore
namespace Go.Proofs.YtkobjbmjefkmgaaDoor
open Go.ChangeShapes Go.WideShapes Go.ChangeAt Go.RowKit K L14
set_option linter.unusedVariables false

theorem tinfo2 : (Tryd.prog.info? 33).map (fun i => (i.zero, i.size, i.bytes)) = some (some (.agg #[.int .i64 0, .string .empty, .int .i64 0]), 3, 32) := by kernel_rfl
theorem ownQ_empty (w : World) (B : Nat) (T : TypeId) (hb : B ≤ w.heap.size) : OwnQ (w.alloc (.cells #[] T)) B T (.slice (some ⟨w.heap.size, 0, none⟩) 0 0) [] :=
  ⟨rfl, .inr ⟨w.heap.size, 0, #[], rfl, hb, rowNew w _, Nat.le_refl _, by unfold maxLen; omega, rfl, rfl⟩⟩
theorem RdQ.each {w : World} {a : Addr} {l : List Tq} (h : RdQ w (some a) l) : ∀ j u, (tqL l)[j]? = some u → w.cell? (a.add j) = some u := by
  intro j u hj
  have hlt : j < (tqL l).length := by
    rcases Nat.lt_or_ge j (tqL l).length with h | h
    · exact h
    · rw [List.getElem?_eq_none h] at hj; cases hj
  rw [tqL_len] at hlt
  rcases h with h | ⟨b, off, ha, hb, hc⟩
  · omega
  · injection ha with ha
    subst ha
    have hi : j / 3 < l.length := by omega
    have hg := tqL_get l (j / 3) (j % 3) hi (by omega)
    rw [show j / 3 * 3 + j % 3 = j by omega] at hg
    have hadd : (⟨b, off, none⟩ : Addr).add j = ⟨b, off + j, none⟩ := by
      by_cases h0 : j = 0
      · subst h0; simp [Addr.add]
      · simp [Addr.add, h0]
    rw [hadd, show off + j = off + j / 3 * 3 + j % 3 by omega, hc (j / 3) hi (j % 3) (by omega), ← hg]
    exact hj
/-- Tokens behind tokens. -/
theorem spreadT {o : Oper} {a : Act} {K : Act → World → Prop} {Q : Exit → Act → World → Prop} {W : World} {s x : Operand} (ho : o.op = .call { callee := .builtin .append, args := #[s, x], argTypes := #[23, 23] }) (v : Value) (hs : a.eval s = v) {B : Nat} {xs ys : List Tq} (hown : OwnQ W B 33 v xs) (hBW : B ≤ W.heap.size)
    {ao : Option Addr} {ca : Nat} (hx : a.eval x = .slice ao ys.length ca) (hr : RdQ W ao ys) (hsh : (ao = none ∧ ys.length = 0 ∧ ca = 0) ∨ ∃ a, ao = some a) (hn : xs.length + ys.length ≤ 1000000)
    (h : ∀ v' w', OwnQ w' B 33 v' (xs ++ ys) → (∀ y, Below B y W → Below B y w') → K (a.put o.dst v') w') : o.wp Tryd.prog a W K Q := by
  obtain ⟨i0, hi, hz0, hz1, hz2⟩ := info_of tinfo2
  rcases hsh with ⟨rfl, h0, rfl⟩ | ⟨ad, rfl⟩
  · have hys : ys = [] := List.length_eq_zero_iff.1 h0
    subst hys
    have hrun := run_append_owned_none (P := Tryd.prog) (w := W) B 23 o.type 33 i0 3 Tryd.underlying23 hi _ _ _ hown
    unfold Oper.wp
    simp [execOp, ho, resolve, invoke, builtin, hs, hx, hrun, Result.andThen]
    exact h _ _ (by rw [List.append_nil]; exact hown) (fun y b => b)
  · refine wp_append_own W s x 23 ho B 33 i0 (.agg #[.int .i64 0, .string .empty, .int .i64 0]) 3 32 Tryd.underlying23 hi hz0 hz1 hz2 rfl (by decide) v xs.length (tqL xs) hs hown ad ys.length ca (tqL ys) hx (tqL_len ys) hr.each (tqL_one ys) (by unfold maxLen; omega) (by omega) hBW ?_
    intro v' w' hown' hg _
    refine h v' w' ?_ fun y b => b.grown hg hBW (fun k hk => (World.ownsRow.lt hown k hk).1)
    unfold OwnQ
    rw [List.length_append, tqL_app]
    exact hown'
theorem spreadTL {ops : Array Oper} {rest : List Oper} {o : Oper} {a : Act} {Q : Exit → Act → World → Prop} {W : World} (hgd : o.guard = none) {s x : Operand} (ho : o.op = .call { callee := .builtin .append, args := #[s, x], argTypes := #[23, 23] }) (v : Value) (hs : a.eval s = v) {B : Nat} {xs ys : List Tq} (hown : OwnQ W B 33 v xs) (hBW : B ≤ W.heap.size)
    {ao : Option Addr} {ca : Nat} (hx : a.eval x = .slice ao ys.length ca) (hr : RdQ W ao ys) (hsh : (ao = none ∧ ys.length = 0 ∧ ca = 0) ∨ ∃ a, ao = some a) (hn : xs.length + ys.length ≤ 1000000)
    (h : ∀ v' w', OwnQ w' B 33 v' (xs ++ ys) → (∀ y, Below B y W → Below B y w') → wpList Tryd.prog ops Q rest (a.put o.dst v') w') : wpList Tryd.prog ops Q (o :: rest) a W :=
  wpList_plain hgd fun K hK => spreadT ho v hs hown hBW hx hr hsh hn fun v' w' h1 h2 => hK _ _ (h v' w' h1 h2)
def LpRel (w : World) (len : Nat) (ok : Nat → Prop) (g : Nat) (v : Value) (wr : World) : Prop := ∃ i : Nat, i + g = len ∧ v = .int .i64 (i : Nat) ∧ (∀ j, j < i → ok j) ∧ Below w.heap.size w wr
set_option maxRecDepth 100000 in
set_option maxHeartbeats 1000000 in
theorem lexPrints_walk (I : World → Prop) (F : LOk I) (l : List Tq) (hl : l.length ≤ 140737488351232) (ao : Option Addr) (cap : Nat) (hsh : (ao = none ∧ l.length = 0 ∧ cap = 0) ∨ ∃ a, ao = some a) (s : List UInt8) (hs : s.length ≤ 140737488351232) (w : World) (hw : I w) (h : RdQ w ao l) :
    Calls Tryd.prog 4 #[.slice ao l.length cap, .string (bs s)] w fun e w' => e = .returned (.bool true) ∧ Below w.heap.size w w' := by
  have HW := Lib.hid (fun w1 (h : I w1) => works14_walk I F w1 h)
  have HI := Lib.hid (fun w1 (b : Below w.heap.size w w1) => F.keepI w w1 hw b)
  have HRQ := Lib.hid h
  have HF := Lib.hid F
  clear h F
  by_cases c1 : 200 < l.length ∨ 1000 < s.length
  · have HWW := Lib.hid (HW.out w hw)
    have hg : (200 : Int) < ((l.length : Nat) : Int) ∨ (¬ (200 : Int) < ((l.length : Nat) : Int) ∧ (1000 : Int) < ((s.length : Nat) : Int)) := by omega
    clear c1 hw
    rcases hg with g1 | ⟨g1, g2⟩
    all_goals
      go_enter Tryd.func4, Tryd.ntmps4
      go_wp2_with fail
      refine HWW.out.mono ?_
      rintro e w1 ⟨rfl, b1⟩
      go_wp2
      go_ret
      exact ⟨rfl, b1⟩
  · have g1 : ¬ (200 : Int) < ((l.length : Nat) : Int) := by omega
    have g2 : ¬ (1000 : Int) < ((s.length : Nat) : Int) := by omega
    have hl2 : l.length ≤ 200 := by omega
    have hs2 : s.length ≤ 1000 := by omega
    clear c1 hw
    go_enter Tryd.func4, Tryd.ntmps4
    go_wp2
    have H0 := Lib.hid (show LpRel w l.length (fun j => (l.getD j noQ).t.length ≤ 1000) l.length (.int .i64 (0 : Nat)) w from ⟨0, by omega, rfl, fun j hj => by omega, Below.refl _ _⟩)
    go_loopg [5] l.length (fun g v5 wr => LpRel w l.length (fun j => (l.getD j noQ).t.length ≤ 1000) g v5 wr)
    case atStart => exact H0.out
    case round =>
      obtain ⟨i, hig, rfl, hall, hb⟩ := hrel
      clear H0
      have HB := Lib.hid hb
      have hBs := hb.size
      have HALL := Lib.hid hall
      by_cases hi : i < l.length
      · obtain ⟨G, rfl⟩ : ∃ G, gk = G + 1 := ⟨gk - 1, by omega⟩
        have hi2 : ((i : Nat) : Int) < ((l.length : Nat) : Int) := by omega
        obtain ⟨q, o, rfl, hqs, a0, a1, a2⟩ := (HRQ.out.below hb).at hi
        obtain ⟨x, hx⟩ : ∃ x, l.getD i noQ = x := ⟨_, rfl⟩
        rw [hx] at a0 a1 a2
        by_cases h1 : 1000 < x.t.length
        · have h2 : (1000 : Int) < ((x.t.length : Nat) : Int) := by omega
          have HWW := Lib.hid (HW.out wr (HI.out _ hb))
          clear hall hx hb
          go_wp2_with fail
          refine HWW.out.mono ?_
          rintro e w1 ⟨rfl, b1⟩
          have HB1 := Lib.hid (HB.out.trans (b1.mono hBs))
          clear b1 a0 a1 a2
          go_wp2
          go_ret
          exact ⟨rfl, HB1.out⟩
        · have h2 : ¬ (1000 : Int) < ((x.t.length : Nat) : Int) := by omega
          have HX := Lib.hid (show LpRel w l.length (fun j => (l.getD j noQ).t.length ≤ 1000) G (.int .i64 ((i : Int) + 1)) wr from ⟨i + 1, by omega, rfl, fun j hj => by
            rcases Nat.lt_or_ge j i with h | h
            · exact hall j h
            · obtain rfl : j = i := by omega
              rw [hx]; omega, hb⟩)
          clear hall hx hb
          go_wp2
          go_roundg G
          case measure => omega
          case rel => exact HX.out
      · have hi2 : ¬ ((i : Nat) : Int) < ((l.length : Nat) : Int) := by omega
        have hll : ∀ j, j < l.length → (l.getD j noQ).t.length ≤ 1000 := fun j hj => hall j (by omega)
        have HLL := Lib.hid hll
        have HE0 := Lib.hid (ownQ_empty wr w.heap.size 33 hBs)
        have hBe := hb.alloc hBs (.cells #[] 33)
        have HBE := Lib.hid hBe
        have hRE := Lib.hid (HRQ.out.below hBe)
        have hBs2 := hBe.size
        have hn1 : 0 + l.length ≤ 1000000 := by omega
        have HSH := Lib.hid hsh
        clear hall hb hll hBe hsh
        go_wp2_with (at_builtin; refine spreadTL rfl rfl _ rfl HE0.out hBs2 rfl hRE.out HSH.out hn1 ?_)
        intro v' w1 hown hbb
        have HB1 := Lib.hid (hbb _ HBE.out)
        obtain ⟨bo, cb, rfl, hrd⟩ := hown.form
        have HR1 := Lib.hid (show RdQ w1 bo l from hrd)
        have HLL2 := Lib.hid (show ∀ j, j < l.length → (l.getD j noQ).t.length ≤ 2000000 from fun j hj => Nat.le_trans (HLL.out j hj) (by omega))
        have HLL3 := Lib.hid (show ∀ j, j < l.length → (l.getD j noQ).t.length ≤ 1000000 from fun j hj => Nat.le_trans (HLL.out j hj) (by omega))
        have HPR := Lib.hid (fun ao ca w1 (h : I w1) hr => HF.out.print l ao ca w1 (by omega) HLL2.out h hr)
        have HQP := Lib.hid (fun ao ca w1 hr => qprint14_walk l (by omega) HLL3.out ao ca w1 hr)
        have HOF := Lib.hid (fun ao ca w1 hr => of14_walk l (by omega) ao ca w1 hr)
        clear hown hbb hrd
        go_wp2_with fail
        refine (HPR.out _ _ _ (HI.out _ HB1.out) HR1.out).mono ?_
        rintro e w2 ⟨rfl, b2⟩
        have HR2 := Lib.hid (HR1.out.below b2)
        have HB2 := Lib.hid (HB1.out.trans (b2.mono HB1.out.size))
        clear b2
        go_wp2_with fail
        refine (HOF.out _ _ _ (HRQ.out.below HB2.out)).mono ?_
        rintro e w3 ⟨b3, do_, cd, rfl, hrd3⟩
        have HR3 := Lib.hid (HR2.out.below b3)
        have HD3 := Lib.hid hrd3
        have HB3 := Lib.hid (HB2.out.trans (b3.mono HB2.out.size))
        clear b3 hrd3
        go_wp2_with fail
        refine (HQP.out _ _ _ HD3.out).mono ?_
        rintro e w4 ⟨rfl, b4⟩
        have HR4 := Lib.hid (HR3.out.below b4)
        have HB4 := Lib.hid (HB3.out.trans (b4.mono HB3.out.size))
        clear b4
        generalize prS l = S at *
        generalize prE l = E at *
        have HQ1 := Lib.hid (fun w1 (h : I w1) => HF.out.quote s w1 (by omega) h)
        have HQ2 := Lib.hid (fun w1 => qquote_walk s (by omega) w1)
        have hsm := fun w1 ao bo ca cb h1 h2 => same14_walk l (by omega) ao bo ca cb w1 h1 h2
        have HSM := Lib.hid hsm
        clear hsm HPR HQP
        generalize quo s = QS at *
        have hE := eq_self E
        go_wp2_with fail
        refine (HQ1.out _ (HI.out _ HB4.out)).mono ?_
        rintro e w5 ⟨rfl, b5⟩
        have HR5 := Lib.hid (HR4.out.below b5)
        have HB5 := Lib.hid (HB4.out.trans (b5.mono HB4.out.size))
        clear b5
        go_wp2_with fail
        refine (HQ2.out _).mono ?_
        rintro e w6 ⟨rfl, b6⟩
        have HR6 := Lib.hid (HR5.out.below b6)
        have HB6 := Lib.hid (HB5.out.trans (b6.mono HB5.out.size))
        clear b6
        go_wp2_with fail
        refine (HOF.out _ _ _ (HRQ.out.below HB6.out)).mono ?_
        rintro e w7 ⟨b7, eo, ce, rfl, hrd7⟩
        have HR7 := Lib.hid (HR6.out.below b7)
        have HD7 := Lib.hid hrd7
        have HB7 := Lib.hid (HB6.out.trans (b7.mono HB6.out.size))
        clear b7 hrd7
        go_wp2_with fail
        refine (HSM.out _ _ _ _ _ HR7.out HD7.out).mono ?_
        rintro e w8 ⟨rfl, b8⟩
        have HB8 := Lib.hid (HB7.out.trans (b8.mono HB7.out.size))
        clear b8
        go_wp2_with fail
        refine (HW.out _ (HI.out _ HB8.out)).mono ?_
        rintro e w9 ⟨rfl, b9⟩
        have HB9 := Lib.hid (HB8.out.trans (b9.mono HB8.out.size))
        clear b9
        go_wp2
        go_ret
        exact ⟨rfl, HB9.out⟩
end Go.Proofs.YtkobjbmjefkmgaaDoor
