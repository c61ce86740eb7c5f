/- copied: data of their own; QuoteWrites, on calls that keep their word. -/
import Derived.Test.YtkpcfbadhoiigaaDoorQuoX
import Derived.Deep.RegionHeld3
import Derived.Deep.RegionWith
namespace Go.Proofs.YtkpcfbadhoiigaaDoor
open Go.ChangeShapes Go.WideShapes Go.ChangeAt Go.RowKit K Q10 U4
set_option linter.unusedVariables false

/-- 'append(a, b...)' of params, whatever the second list's place and capacity are. -/
theorem spreadPN {o : Oper} {a : Act} {K : Act → World → Prop} {Q : Exit → Act → World → Prop} {W : World} {s x : Operand} (ho : o.op = .call { callee := .builtin .append, args := #[s, x], argTypes := #[43, 43] }) (v : Value) (hs : a.eval s = v) {B : Nat} {xs ys : List Pm} (hown : OwnM W B 47 v xs) (hBW : B ≤ W.heap.size)
    {ao : Option Addr} {ca : Nat} (hx : a.eval x = .slice ao ys.length ca) (hr : RdP W ao ys) (hn : (xs.length + ys.length) * 32 ≤ 140737488355328)
    (h : ∀ v' w', OwnM w' B 47 v' (xs ++ ys) → W.grownBy w' v.ownBlock → K (a.put o.dst v') w') : o.wp Tryd.prog a W K Q := by
  rcases ao with _ | ad
  · have hys : ys = [] := by
      rcases hr with h0 | ⟨b, off, ha, _⟩
      · exact List.length_eq_zero_iff.1 h0
      · cases ha
    subst hys
    obtain ⟨i0, hi, hz0, hz1, hz2⟩ := info_parts info_pm
    have hrun : (Builtin.append_ #[43, 43] o.type #[v, .slice none 0 ca]).run Tryd.prog W = .ok v W := by
      have ht := Tryd.underlying43
      rcases hown.2 with ⟨rfl, _⟩ | ⟨g, cap, cur, rfl, _, _, hnc, _⟩
      · simp [Builtin.append_, run_underlying ht, sizeOf, typeInfo, hi, Builtin.lenOf, Builtin.firstCells]
      · simp [Builtin.append_, run_underlying ht, sizeOf, typeInfo, hi, Builtin.lenOf, Builtin.firstCells, hnc, storeCells]
    unfold Oper.wp
    simp only [List.length_nil] at hx
    simp [execOp, ho, resolve, invoke, builtin, hs, hx, hrun, Result.andThen]
    exact h _ _ (by rw [List.append_nil]; exact hown) ⟨rfl, rfl, rfl, Nat.le_refl _, fun _ _ _ => rfl⟩
  · exact spreadP ho v hs hown hBW hx hr (.inr ⟨ad, rfl⟩) hn h
theorem copy1 {o : Oper} {a : Act} {K : Act → World → Prop} {Q : Exit → Act → World → Prop} {wr W : World} {s y : Operand} {x : El} {po : Option Addr} {pc : Nat} (ho : o.op = .call { callee := .builtin .append, args := #[s, y], argTypes := #[43, 43] }) (hs : a.eval s = .slice (some ⟨wr.heap.size, 0, none⟩) 0 0) (hy : a.eval y = .slice po x.ps.length pc)
    (hown : OwnM W wr.heap.size 47 (.slice (some ⟨wr.heap.size, 0, none⟩) 0 0) []) (bW : Below wr.heap.size wr W) (hr : RdP W po x.ps) (hn : x.ps.length * 32 ≤ 140737488355328)
    (h : ∀ p1 c1 x1, RdP x1 p1 x.ps → (∀ B, Prv x1 B 47 p1) → Below wr.heap.size wr x1 → K (a.put o.dst (.slice p1 x.ps.length c1)) x1) : o.wp Tryd.prog a W K Q := by
  refine spreadPN (B := wr.heap.size) (xs := []) (ys := x.ps) ho _ hs hown bW.size hy hr (by simp; omega) ?_
  intro v1 x1 ho1 hg1
  have B1 : Below wr.heap.size wr x1 := bW.grown hg1 bW.size (fun k hk => by simp [Value.ownBlock] at hk; omega)
  obtain ⟨p1, c1, rfl, rp1, -, -, pv1, -⟩ := (show OwnM x1 wr.heap.size 47 v1 x.ps from ho1).form
  exact h p1 c1 x1 rp1 pv1 B1
theorem copy2 {o : Oper} {a : Act} {K : Act → World → Prop} {Q : Exit → Act → World → Prop} {w wr x1 : World} {s y : Operand} {x : El} {p1 : Option Addr} {c1 : Nat} {es : List El} {v : Value} (ho : o.op = .call { callee := .builtin .append, args := #[s, y], argTypes := #[23, 23] }) (hs : a.eval s = v) (hy : a.eval y = .slice (some ⟨x1.heap.size, 0, none⟩) 1 1)
    (hO : OwnE wr w.heap.size 45 47 v es) (bw : Below w.heap.size w wr) (B1 : Below wr.heap.size wr x1) (rp1 : RdP x1 p1 x.ps) (pv1 : ∀ B, Prv x1 B 47 p1) (hn : (es.length + 1) * 40 ≤ 140737488355328)
    (h : ∀ v2 x2, OwnE x2 w.heap.size 45 47 v2 (es ++ [x]) → Below w.heap.size w x2 → K (a.put o.dst v2) x2) : o.wp Tryd.prog a (x1.alloc (.cells #[.string (bs x.id), .slice p1 x.ps.length c1] 45)) K Q := by
  have aM := alloc_in' x1 (.cells #[.string (bs x.id), .slice p1 x.ps.length c1] 45)
  have B1M := B1.trans (aM.mono B1.size)
  obtain ⟨zs, hz1, hownM, hzpM⟩ := hO.below B1M
  have hzl : zs.length = es.length := by rw [← hz1, List.length_map]
  have rpM := rp1.below aM
  have pvM := (pv1 w.heap.size).below aM
  have hCM := rowNew x1 (.cells #[.string (bs x.id), .slice p1 x.ps.length c1] 45)
  have hRM : RdEz (x1.alloc (.cells #[.string (bs x.id), .slice p1 x.ps.length c1] 45)) (some ⟨x1.heap.size, 0, none⟩) [(x, ⟨p1, c1⟩)] := ⟨.inr ⟨x1.heap.size, 0, rfl, lt_of_block hCM, fun j hj => by
    obtain rfl : j = 0 := by simpa using hj
    exact ⟨cellRow hCM 0, cellRow hCM 1⟩⟩, fun q hq => by simp at hq; subst hq; exact rpM⟩
  have hsz : w.heap.size ≤ (x1.alloc (.cells #[.string (bs x.id), .slice p1 x.ps.length c1] 45)).heap.size := Nat.le_trans bw.size B1M.size
  refine spreadE (B := w.heap.size) (zs := zs) (ys := [(x, ⟨p1, c1⟩)]) ho v hs hownM hsz hy hRM (.inr ⟨_, rfl⟩) (by rw [hzl]; simp; omega) ?_
  intro v2 x2 hown2 hg2
  have o2 := OwnE.grown hownM hzpM (fun q hq => by simp at hq; subst hq; exact ⟨rpM, .inr pvM⟩) (by decide) hg2 hown2
  rw [hz1] at o2
  exact h v2 x2 o2 ((bw.trans (B1M.mono bw.size)).grown hg2 hsz (fun k hk => (World.ownsRow.lt hownM k hk).1))
def CoRel (l : List El) (w : World) (g : Nat) (v3 v4 : Value) (wr : World) : Prop :=
  ∃ i, i + g = l.length ∧ v4 = .int .i64 (i : Nat) ∧ OwnE wr w.heap.size 45 47 v3 (l.take i) ∧ Below w.heap.size w wr
set_option maxRecDepth 100000 in
set_option maxHeartbeats 4000000 in
theorem copied10_walk (l : List El) (ao : Option Addr) (cap : Nat) (hB : Bnds l) (w : World) (hr : RdE w ao l) :
    Calls Tryd.prog 17 #[.slice ao l.length cap] w fun e w' => ∃ v, e = .returned v ∧ OwnE w' w.heap.size 45 47 v l ∧ Below w.heap.size w w' := by
  have HB := Lib.hid hB
  have HR := Lib.hid (fun w1 (b : Below w.heap.size w w1) => hr.below b)
  have hn40 := hB.1
  have hn : l.length ≤ 140737488351232 := by omega
  clear hB hr
  go_enter Tryd.func17, Tryd.ntmps17
  go_wp2
  go_loopg [3, 4] l.length (fun g v3 v4 wr => CoRel l w g v3 v4 wr)
  case atStart => exact ⟨0, by omega, rfl, OwnE.nil _ _ _ _, Below.refl _ _⟩
  case round =>
    obtain ⟨i, hg, rfl, ho, hb⟩ := hrel
    have HG := Lib.hid hg
    have HO := Lib.hid ho
    have HBL := Lib.hid hb
    clear hg ho hb
    cases gk with
    | zero =>
      have hi : l.length ≤ i := by have := HG.out; omega
      have HOO := Lib.hid (show OwnE wr w.heap.size 45 47 _ l by have := HO.out; rw [List.take_of_length_le hi] at this; exact this)
      go_wp2
      go_ret
      exact ⟨_, rfl, HOO.out, HBL.out⟩
    | succ g =>
      have hlt : i < l.length := by have := HG.out; omega
      obtain ⟨x, hx⟩ : ∃ x, l.getD i noe = x := ⟨_, rfl⟩
      obtain ⟨c, off, po, pc, rfl, hcw, c0w, c1w, hrpw⟩ := (HR.out w (Below.refl _ _)).at hlt hx
      have hc : c < wr.heap.size := Nat.lt_of_lt_of_le hcw HBL.out.size
      have c0 := (HBL.out.cell (p := ⟨c, off + i * 2, none⟩) hcw).trans c0w
      have c1 := (HBL.out.cell (p := ⟨c, off + i * 2 + 1, none⟩) hcw).trans c1w
      have hrp := hrpw.below HBL.out
      have HX := Lib.hid hx
      have HRP := Lib.hid hrp
      clear hx hrp
      have aE := alloc_in' wr (.cells #[] 47)
      have oE := OwnM.empty wr wr.heap.size 47 (Nat.le_refl _)
      have rE := HRP.out.below aE
      have sE := aE.size
      have zE0 := (aE.cell (p := ⟨c, off + i * 2, none⟩) hc).trans c0
      have zE1 := (aE.cell (p := ⟨c, off + i * 2 + 1, none⟩) hc).trans c1
      have hbx := HB.out.2 x (by rw [← HX.out]; exact getD_mem hlt)
      have hps : x.ps.length * 32 ≤ 140737488355328 := by have := hbx.2.1; omega
      have hlen : ((l.take i).length + 1) * 40 ≤ 140737488355328 := by rw [List.length_take]; omega
      have HXX := Lib.hid (show l.take i ++ [x] = l.take (i + 1) by rw [takeD l i noe hlt, HX.out])
      have hil : (l.take i).length = i := by rw [List.length_take]; omega
      have HIL := Lib.hid hil
      clear hil hbx
      go_wp2_with fail
      go_region_held3 (fun y => y.cell? ⟨c, off + i * 2, none⟩ = some (.string (bs x.id)) ∧ y.cell? ⟨c, off + i * 2 + 1, none⟩ = some (.slice po x.ps.length pc)) (first | exact ⟨c0, c1⟩ | exact ⟨zE0, zE1⟩ | exact ⟨z10, z11⟩ | exact ⟨zM0, zM1⟩ | exact ⟨z20, z21⟩)
        (first
          | (rw [if_pos (by rfl)]
             refine copy2 (by rfl) (by rfl) (by rfl) HO.out HBL.out B1 rp1 pv1 hlen ?_
             intro v2 x2 o2 b2
             have z20 := (b2.cell (p := ⟨c, off + i * 2, none⟩) hcw).trans c0w
             have z21 := (b2.cell (p := ⟨c, off + i * 2 + 1, none⟩) hcw).trans c1w)
          | (rw [if_pos (by rfl)]
             refine copy1 (by rfl) (by rfl) (by rfl) oE ⟨aE.os, aE.tape, aE.output, aE.size, aE.block⟩ rE hps ?_
             intro p1 q1 x1 rp1 pv1 B1
             have z10 := (B1.cell (p := ⟨c, off + i * 2, none⟩) hc).trans c0
             have z11 := (B1.cell (p := ⟨c, off + i * 2 + 1, none⟩) hc).trans c1
             have aM := alloc_in' x1 (.cells #[.string (bs x.id), .slice p1 x.ps.length q1] 45)
             have zM0 := (aM.cell (p := ⟨c, off + i * 2, none⟩) (Nat.lt_of_lt_of_le hc B1.size)).trans z10
             have zM1 := (aM.cell (p := ⟨c, off + i * 2 + 1, none⟩) (Nat.lt_of_lt_of_le hc B1.size)).trans z11
             clear aM))
      all_goals
        rw [HXX.out] at o2
        have HO2 := Lib.hid o2
        have HB2 := Lib.hid b2
        clear o2 b2
        go_wp2
        go_roundg g
        case measure => have := HG.out; omega
        case rel => exact ⟨i + 1, by have := HG.out; omega, by simp, HO2.out, HB2.out⟩
end Go.Proofs.YtkpcfbadhoiigaaDoor
