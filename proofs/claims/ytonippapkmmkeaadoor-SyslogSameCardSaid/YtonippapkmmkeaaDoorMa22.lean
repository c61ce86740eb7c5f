/- Texts on the program and on the document, joined: SyqC, QuoX, Arr, Stq. -/
import Derived.Test.YtonippapkmmkeaaDoorMa08
import Derived.Test.YtonippapkmmkeaaDoorMa21
import Derived.Test.YtonippapkmmkeaaDoorMa16
import Derived.Test.YtonippapkmmkeaaDoorMa12
import Derived.OpenShut
import Derived.WideShapes
import Derived.ChangeArms
/- The program's reader of messages, walked on: time, name, data, end. -/
namespace Go.Proofs.YtonippapkmmkeaaDoor
open Go.ChangeShapes Go.WideShapes Go.ChangeAt Go.RowKit K Q10 S3 U4
set_option linter.unusedVariables false

theorem stl_v : prsV STL = 1065910455003000000 ∧ prsC STL = 0 := by decide +kernel
set_option maxRecDepth 100000 in
theorem time_walk (b : Nat) (l r : List UInt8) (hc : CutAt 32 l STL r) (hl : l.length ≤ 100000) (w : World) (hm : MxL w) (hM : Months w) (h : RY w b l false) (hb2 : 2 ≠ b) (hb3 : 3 ≠ b) :
    Calls Tryd.prog 16 #[.pointer (some ⟨b, 0, none⟩)] w fun e w' => e = .returned (.int .i64 1065910455003000000) ∧ Kp [b] w w' ∧ RY w' b r false := by
  have HW := Lib.hid (word_walk b l _ r false hc hl w hm h)
  have hp := fun w1 h1 => parse_walk STL (by decide) w1 h1
  rw [stl_v.1, stl_v.2] at hp
  have HP := Lib.hid hp
  have HF := Lib.hid fraction_walk
  have H4 := Lib.hid (must_walk b)
  have hne : ¬ (STL : List UInt8) = [45] := by decide
  have hne2 : ((STL : List UInt8) == [45]) = false := by decide
  have HMM := Lib.hid (fun w1 (k : Kp [b] w w1) => show Months w1 from fun i hi => k.cell (hM i hi) (by simpa using hb2))
  have HML := Lib.hid (fun w1 (k : Kp [b] w w1) => show MxL w1 from let ⟨m, hm⟩ := hm; ⟨m, k.cell hm (by simpa using hb3)⟩)
  clear hp hc h hm hM
  generalize STL = L at *
  go_enter Tryd.func16, Tryd.ntmps16
  go_wp2_with fail
  refine HW.out.mono ?_
  rintro e w1 ⟨rfl, k1, r1⟩
  go_wp2_with fail
  refine (HP.out _ (HMM.out _ k1)).mono ?_
  rintro e w2 ⟨rfl, b2⟩
  have k2 := k1.trans (Kp.ofBelow b2 _)
  have r2 := r1.below b2
  go_wp2_with fail
  refine (HF.out _ (HML.out _ k2)).mono ?_
  rintro e w3 ⟨rfl, b3⟩
  have k3 := k2.trans (Kp.ofBelow b3 _)
  have r3 := r2.below b3
  go_wp2_with fail
  refine (H4.out _).mono ?_
  rintro e w4 ⟨rfl, rfl⟩
  go_wp2
  go_ret
  exact ⟨rfl, k3, r3⟩
/-- A name, as it is read. -/
def nmO (a : List UInt8) : List UInt8 := if a = [45] then [] else a
set_option maxRecDepth 100000 in
theorem name_walk (b : Nat) (l a r : List UInt8) (hc : CutAt 32 l a r) (hl : l.length ≤ 100000) (ha : a ≠ []) (w : World) (hm : MxL w) (h : RY w b l false) :
    Calls Tryd.prog 17 #[.pointer (some ⟨b, 0, none⟩)] w fun e w' => e = .returned (.string (bs (nmO a))) ∧ Kp [b] w w' ∧ RY w' b r false := by
  have HW := Lib.hid (word_walk b l a r false hc hl w hm h)
  have H4 := Lib.hid (must_walk b)
  have hne : a.isEmpty = false := by simpa using ha
  clear hc h hm
  by_cases h45 : a = [45]
  · have HN := Lib.hid (show nmO a = [] by unfold nmO; rw [if_pos h45])
    subst h45
    go_enter Tryd.func17, Tryd.ntmps17
    go_wp2_with fail
    refine HW.out.mono ?_
    rintro e w1 ⟨rfl, k1, r1⟩
    go_wp2_with fail
    refine (H4.out _).mono ?_
    rintro e w2 ⟨rfl, rfl⟩
    go_wp2
    go_ret
    rw [HN.out]
    exact ⟨rfl, k1, r1⟩
  · have HN := Lib.hid (show nmO a = a by unfold nmO; rw [if_neg h45])
    have h46 : (a == [45]) = false := beq_eq_false_iff_ne.2 h45
    go_enter Tryd.func17, Tryd.ntmps17
    go_wp2_with fail
    refine HW.out.mono ?_
    rintro e w1 ⟨rfl, k1, r1⟩
    go_wp2_with fail
    refine (H4.out _).mono ?_
    rintro e w2 ⟨rfl, rfl⟩
    go_wp2
    go_ret
    rw [HN.out]
    exact ⟨rfl, k1, r1⟩
set_option maxRecDepth 100000 in
theorem data_walk11 (b : Nat) (l r : List UInt8) (hp : paL l = [] ∧ paR l = r ∧ paE l = 0) (hl : l.length ≤ 100000) (w : World) (ht : Leads w) (h : RY w b l false) :
    Calls Tryd.prog 18 #[.pointer (some ⟨b, 0, none⟩)] w fun e w' => ∃ ao cap, e = .returned (.slice ao 0 cap) ∧ Kp [b] w w' ∧ RY w' b r false := by
  have hq := kparse_walk l (by omega) w ht
  unfold PaQ at hq
  rw [hp.1, hp.2.1, hp.2.2] at hq
  have HQ := Lib.hid hq
  have H4 := Lib.hid (must_walk b)
  obtain ⟨c0, c1, f0, f1⟩ := h.cells
  have H := Lib.hid h
  clear hq hp h ht c1 f0 f1
  go_enter Tryd.func18, Tryd.ntmps18
  go_wp2_with fail
  refine HQ.out.mono ?_
  rintro e w1 ⟨ao, cap, rfl, -, b1⟩
  have r1 := H.out.below b1
  have k1 := Kp.ofBelow b1 [b]
  obtain ⟨d0, d1, f0, f1⟩ := r1.cells
  have R1 := Lib.hid r1
  clear r1 b1 d1 f1 c0
  go_wp2_with fail
  refine (H4.out _).mono ?_
  rintro e w2 ⟨rfl, rfl⟩
  go_wp2
  go_ret
  exact ⟨ao, cap, rfl, k1.set _ (by simp) _, R1.out.set0 _⟩
set_option maxRecDepth 100000 in
theorem end_walk11 (b : Nat) (l : List UInt8) (w : World) (h : RY w b (32 :: l) false) :
    Calls Tryd.prog 20 #[.pointer (some ⟨b, 0, none⟩)] w fun e w' => e = .returned (.string (bs l)) ∧ w = w' := by
  have h1 := fun w1 => cutp_walk (32 :: l) [32] w1
  rw [show Lib.trimPrefix (32 :: l) [32] = l by simp [Lib.trimPrefix, Lib.hasPrefix], show Lib.hasPrefix (32 :: l) [32] = true by simp [Lib.hasPrefix]] at h1
  have H1 := Lib.hid h1
  have H4 := Lib.hid (must_walk b)
  obtain ⟨c0, c1, f0, f1⟩ := h.cells
  clear h h1 f0 f1
  generalize (32 :: l) = L at *
  go_enter Tryd.func20, Tryd.ntmps20
  go_wp2_with fail
  refine (H1.out _).mono ?_
  rintro e w1 ⟨rfl, rfl⟩
  go_wp2_with fail
  refine (H4.out _).mono ?_
  rintro e w2 ⟨rfl, rfl⟩
  go_wp2
  go_ret
  exact ⟨rfl, rfl⟩
end Go.Proofs.YtonippapkmmkeaaDoor
/- Elements and params one behind another by the builtin append; QuoteGet, on calls that keep their word. -/
namespace Go.Proofs.YtonippapkmmkeaaDoor
open Go.ChangeShapes Go.WideShapes Go.ChangeAt Go.RowKit K Q10 U4
set_option linter.unusedVariables false

/-- 'append(a, b...)' of elements: a is a list that the call made. -/
theorem spreadE {o : Oper} {a : Act} {K : Act → World → Prop} {Q : Exit → Act → World → Prop} {W : World} {s x : Operand} (ho : o.op = .call { callee := .builtin .append, args := #[s, x], argTypes := #[22, 22] }) (v : Value) (hs : a.eval s = v) {B : Nat} {zs ys : List (El × Pl)} (hown : W.ownsRow B 30 2 v zs.length (elms zs)) (hBW : B ≤ W.heap.size)
    {ao : Option Addr} {ca : Nat} (hx : a.eval x = .slice ao ys.length ca) (hr : RdEz W ao ys) (hsh : (ao = none ∧ ys.length = 0 ∧ ca = 0) ∨ ∃ a, ao = some a) (hn : (zs.length + ys.length) * 40 ≤ 140737488355328)
    (h : ∀ v' w', w'.ownsRow B 30 2 v' (zs.length + ys.length) (elms zs ++ elms ys) → W.grownBy w' v.ownBlock → K (a.put o.dst v') w') : o.wp Tryd.prog a W K Q := by
  obtain ⟨i0, hi, hz0, hz1, hz2⟩ := info_parts info_el
  rcases hsh with ⟨rfl, h0, rfl⟩ | ⟨ad, rfl⟩
  · have hys : ys = [] := List.length_eq_zero_iff.1 h0
    subst hys
    have hrun := run_append_owned_none (P := Tryd.prog) (w := W) B 22 o.type 30 i0 2 Tryd.underlying22 hi _ _ _ hown
    unfold Oper.wp
    simp [execOp, ho, resolve, invoke, builtin, hs, hx, hrun, Result.andThen]
    exact h _ _ (by simpa [elms] using hown) ⟨rfl, rfl, rfl, Nat.le_refl _, fun _ _ _ => rfl⟩
  · refine wp_append_own W s x 22 ho B 30 i0 (.agg #[.string .empty, .slice none 0 0]) 2 40 Tryd.underlying22 hi hz0 hz1 hz2 rfl (by decide) v zs.length (elms zs) hs hown ad ys.length ca (elms ys) hx (elms_len ys) hr.each (elms_one ys) (by unfold maxLen; omega) (by omega) hBW ?_
    intro v' w' hown' hg _
    exact h v' w' hown' hg
theorem spreadEL {ops : Array Oper} {rest : List Oper} {o : Oper} {a : Act} {Q : Exit → Act → World → Prop} {W : World} (hgd : o.guard = none) {s x : Operand} (ho : o.op = .call { callee := .builtin .append, args := #[s, x], argTypes := #[22, 22] }) (v : Value) (hs : a.eval s = v) {B : Nat} {zs ys : List (El × Pl)} (hown : W.ownsRow B 30 2 v zs.length (elms zs)) (hBW : B ≤ W.heap.size)
    {ao : Option Addr} {ca : Nat} (hx : a.eval x = .slice ao ys.length ca) (hr : RdEz W ao ys) (hsh : (ao = none ∧ ys.length = 0 ∧ ca = 0) ∨ ∃ a, ao = some a) (hn : (zs.length + ys.length) * 40 ≤ 140737488355328)
    (h : ∀ v' w', w'.ownsRow B 30 2 v' (zs.length + ys.length) (elms zs ++ elms ys) → W.grownBy w' v.ownBlock → wpList Tryd.prog ops Q rest (a.put o.dst v') w') : wpList Tryd.prog ops Q (o :: rest) a W :=
  wpList_plain hgd fun _ hK => spreadE ho v hs hown hBW hx hr hsh hn fun v' w' h1 h2 => hK _ _ (h v' w' h1 h2)
/-- 'append(a, b...)' of params. -/
theorem spreadP {o : Oper} {a : Act} {K : Act → World → Prop} {Q : Exit → Act → World → Prop} {W : World} {s x : Operand} (ho : o.op = .call { callee := .builtin .append, args := #[s, x], argTypes := #[28, 28] }) (v : Value) (hs : a.eval s = v) {B : Nat} {xs ys : List Pm} (hown : OwnM W B 56 v xs) (hBW : B ≤ W.heap.size)
    {ao : Option Addr} {ca : Nat} (hx : a.eval x = .slice ao ys.length ca) (hr : RdP W ao ys) (hsh : (ao = none ∧ ys.length = 0 ∧ ca = 0) ∨ ∃ a, ao = some a) (hn : (xs.length + ys.length) * 32 ≤ 140737488355328)
    (h : ∀ v' w', OwnM w' B 56 v' (xs ++ ys) → W.grownBy w' v.ownBlock → K (a.put o.dst v') w') : o.wp Tryd.prog a W K Q := by
  obtain ⟨i0, hi, hz0, hz1, hz2⟩ := info_parts info_pm
  rcases hsh with ⟨rfl, h0, rfl⟩ | ⟨ad, rfl⟩
  · have hys : ys = [] := List.length_eq_zero_iff.1 h0
    subst hys
    have hrun := run_append_owned_none (P := Tryd.prog) (w := W) B 28 o.type 56 i0 2 Tryd.underlying28 hi _ _ _ hown
    unfold Oper.wp
    simp [execOp, ho, resolve, invoke, builtin, hs, hx, hrun, Result.andThen]
    exact h _ _ (by rw [List.append_nil]; exact hown) ⟨rfl, rfl, rfl, Nat.le_refl _, fun _ _ _ => rfl⟩
  · refine wp_append_own W s x 28 ho B 56 i0 (.agg #[.string .empty, .string .empty]) 2 32 Tryd.underlying28 hi hz0 hz1 hz2 rfl (by decide) v xs.length (prms xs) hs hown ad ys.length ca (prms ys) hx (prms_len ys) hr.each (prms_one ys) (by unfold maxLen; omega) (by omega) hBW ?_
    intro v' w' hown' hg _
    exact h v' w' (OwnM.put hown') hg
theorem own_one (w : World) (B : Nat) (hb : B ≤ w.heap.size) (x : El) (q : Pl) : (w.alloc (.cells #[.string (bs x.id), .slice q.o x.ps.length q.c] 30)).ownsRow B 30 2 (.slice (some ⟨w.heap.size, 0, none⟩) 1 1) [(x, q)].length (elms [(x, q)]) :=
  ⟨rfl, .inr ⟨w.heap.size, 1, #[.string (bs x.id), .slice q.o x.ps.length q.c], rfl, hb, rowNew w _, Nat.le_refl _, by unfold maxLen; omega, rfl, rfl⟩⟩
theorem Bnds.cons {x : El} {l : List El} (h : Bnds l) (hl : l.length ≤ 1000000) (h1 : x.id.length ≤ 140737488355327) (h2 : x.ps.length * 32 ≤ 140737488351232) (h3 : ∀ p ∈ x.ps, p.n.length ≤ 140737488351232 ∧ p.v.length ≤ 140737488351232) : Bnds (x :: l) := by
  refine ⟨by simp; omega, fun y hy => ?_⟩
  rcases List.mem_cons.1 hy with rfl | hy
  · exact ⟨h1, h2, h3⟩
  · exact h.2 y hy
theorem gt_x {l : List El} {id n : List UInt8} : gt (⟨id ++ [120], []⟩ :: l) id n = gt l id n := gt_front (by
  intro e
  have := congrArg List.length e
  simp at this)
def FRONT : List UInt8 := [102, 114, 111, 110, 116]
end Go.Proofs.YtonippapkmmkeaaDoor
/- An array among the arguments, and a slice that is nil or not: what the reading gives. Of no program. -/
namespace Go.Proofs.YtonippapkmmkeaaDoor
open Go.RowKit
namespace K
set_option linter.unusedVariables false
section
variable {P : Program} {w : World} {t e : TypeId} {cs : List Value}
theorem okWide_agg {n : Nat} {r : Reach} {base : Nat} {v : Value} (ht : P.underlying t = some (.array n e)) (h : Value.okWide P w r base t v) : ∃ xs : Array Value, v = .agg xs ∧ xs.size = P.cellsOf t := by
  unfold Value.okWide at h
  rw [ht] at h
  obtain ⟨xs, h1, h2, _⟩ := h
  exact ⟨xs, h1, h2⟩
theorem Rdg.array {n : Nat} (h : Rdg P w t cs) (ht : P.underlying t = some (.array n e)) :
    cs.length = P.cellsOf t ∧ ∀ i, i < n → Rdg P w e ((cs.drop (i * P.cellsOf e)).take (P.cellsOf e)) := by
  obtain ⟨H, enc, fuel, x, hx, hw⟩ := h
  obtain ⟨xs, m, _, hxx, hl, hn, hf⟩ := DataW.trod_array ht hx
  refine ⟨hl, fun i hi => ?_⟩
  have h1 := hf i hi
  have hil : i < xs.length := by omega
  rw [List.getElem?_eq_getElem hil] at h1
  refine ⟨H, enc, m, _, h1, fun q hq => hw q ?_⟩
  subst hxx
  simp only [DataW.weights, ht]
  have hrep : ∀ (ds : List (DataW H)) (i : Nat) (d : DataW H), ds[i]? = some d → ∀ q ∈ d.weights P e, q ∈ DataW.weightsAll P e ds := by
    intro ds
    induction ds with
    | nil => intro i d h; simp at h
    | cons a ds ih =>
      intro i d h q hq
      cases i with
      | zero => simp at h; subst h; simp [DataW.weightsAll, hq]
      | succ i => simp at h; simp [DataW.weightsAll, ih i d h q hq]
  exact hrep _ i _ (by simp [List.getElem?_eq_getElem hil]) q hq
/-- Two texts. -/
theorem Rdg.strs2 {x y : Value} (h : Rdg P w t [x, y]) (ht : P.underlying t = some (.array 2 e)) (he : P.underlying e = some .string) (hC : P.cellsOf e = 1) :
    ∃ a b : List UInt8, x = .string (bs a) ∧ y = .string (bs b) ∧ a.length ≤ reachBytes ∧ b.length ≤ reachBytes := by
  obtain ⟨_, hf⟩ := h.array ht
  rw [hC] at hf
  obtain ⟨a, ea, la⟩ := (show Rdg P w e [x] from hf 0 (by omega)).string he
  obtain ⟨b, eb, lb⟩ := (show Rdg P w e [y] from hf 1 (by omega)).string he
  simp at ea eb
  exact ⟨a, b, ea, eb, la, lb⟩
/-- A slice is nil, or has a place. -/
theorem Rdg.shape {ao : Option Addr} {len cap : Nat} (h : Rdg P w t [.slice ao len cap]) (ht : P.underlying t = some (.slice e)) : (ao = none ∧ len = 0 ∧ cap = 0) ∨ ∃ a, ao = some a := by
  obtain ⟨H, enc, fuel, x, hx, hw⟩ := h
  rcases Deep.open_slice ht hx with ⟨h1, _⟩ | ⟨a, len', cap', m, n, D, Pl, hcs, _⟩
  · simp at h1; exact .inl h1
  · simp at hcs; exact .inr ⟨a, hcs.1⟩
end
end K
end Go.Proofs.YtonippapkmmkeaaDoor
/- Structured data among the arguments: what the reading gives. -/
namespace Go.Proofs.YtonippapkmmkeaaDoor
open Go.WideShapes Go.RowKit K Q10
set_option linter.unusedVariables false

theorem choose_list {α : Type} (d : α) {n : Nat} {R : Nat → α → Prop} (h : ∀ i, i < n → ∃ x, R i x) : ∃ l : List α, l.length = n ∧ ∀ i, i < n → R i (l.getD i d) := by
  refine ⟨(List.range n).map fun i => if hi : i < n then (h i hi).choose else d, by simp, fun i hi => ?_⟩
  have e : ((List.range n).map fun i => if hi : i < n then (h i hi).choose else d).getD i d = (h i hi).choose := by
    simp [List.getD, hi]
  rw [e]
  exact (h i hi).choose_spec
theorem mem_getD {α : Type} {l : List α} {x : α} (d : α) (h : x ∈ l) : ∃ i, i < l.length ∧ l.getD i d = x := by
  obtain ⟨i, hi, e⟩ := List.mem_iff_getElem.1 h
  exact ⟨i, hi, by rw [List.getD_eq_getElem?_getD, List.getElem?_eq_getElem hi]; exact e⟩
set_option maxRecDepth 1000000 in
theorem params_of {w : World} {v : Value} (g : Rdg Tryd.prog w 28 [v]) : ∃ (ps : List Pm) (ao : Option Addr) (cap : Nat), v = .slice ao ps.length cap ∧ RdP w ao ps ∧ ps.length * 32 ≤ 140737488351232 ∧ ∀ p ∈ ps, p.n.length ≤ 140737488351232 ∧ p.v.length ≤ 140737488351232 := by
  obtain ⟨ao, len, cap, hv, hlc, hcb, _, hr⟩ := g.slice (C := 2) Tryd.underlying28 (by kernel_rfl) (by omega)
  simp only [List.cons.injEq, and_true] at hv
  subst hv
  rw [show Tryd.prog.bytesOf 56 = 32 by kernel_rfl] at hcb
  unfold reachBytes at hcb
  have hl : len * 32 ≤ 140737488351232 := by omega
  rcases hr with h0 | ⟨b, off, f, rfl, hrow, hel⟩
  · subst h0
    exact ⟨[], ao, cap, rfl, .inl rfl, by simp, fun p hp => by cases hp⟩
  · have hty : ∀ i, i < len → ∃ p : Pm, (f (i * 2) = .string (bs p.n) ∧ f (i * 2 + 1) = .string (bs p.v)) ∧ p.n.length ≤ 140737488351232 ∧ p.v.length ≤ 140737488351232 := by
      intro i hi
      have hE : Rdg Tryd.prog w 56 [f (i * 2 + 0), f (i * 2 + 1)] := hel i hi
      obtain ⟨_, hf⟩ := hE.fields Tryd.underlying56 (by kernel_rfl)
      obtain ⟨u0, e0, r0⟩ := hf 0 9 (by kernel_rfl) (by simp)
      obtain ⟨u1, e1, r1⟩ := hf 1 9 (by kernel_rfl) (by simp)
      obtain ⟨s0, k0, l0⟩ := r0.string Tryd.underlying9
      obtain ⟨s1, k1, l1⟩ := r1.string Tryd.underlying9
      simp at e0 e1 k0 k1
      unfold reachBytes at l0 l1
      exact ⟨⟨s0, s1⟩, ⟨by rw [e0, k0], by rw [e1, k1]⟩, l0, l1⟩
    obtain ⟨ps, hpl, hps⟩ := choose_list nop hty
    refine ⟨ps, _, cap, by rw [hpl], .inr ⟨b, off, rfl, hrow.1, fun i hi => ?_⟩, by rw [hpl]; exact hl, fun p hp => ?_⟩
    · rw [hpl] at hi
      obtain ⟨⟨a1, a2⟩, _⟩ := hps i hi
      refine ⟨(hrow.2 (i * 2) (by omega)).trans (by rw [a1]), ?_⟩
      rw [Nat.add_assoc]
      exact (hrow.2 (i * 2 + 1) (by omega)).trans (by rw [a2])
    · obtain ⟨i, hi, rfl⟩ := mem_getD nop hp
      rw [hpl] at hi
      exact (hps i hi).2
set_option maxRecDepth 1000000 in
theorem argE {w : World} {B : Nat} {v : Value} (g : Rdg Tryd.prog w 22 v.cells.toList) (ok : Value.okWide Tryd.prog w .any B 22 v) :
    ∃ (es : List El) (ao : Option Addr) (cap : Nat), v = .slice ao es.length cap ∧ RdE w ao es ∧ Bnds es ∧ ((ao = none ∧ es.length = 0 ∧ cap = 0) ∨ ∃ a, ao = some a) := by
  obtain ⟨ao, len, cap, rfl⟩ := okWide_slice Tryd.underlying22 ok
  have hsh := Rdg.shape g Tryd.underlying22
  obtain ⟨ao', len', cap', hv, hlc, hcb, _, hr⟩ := (show Rdg Tryd.prog w 22 [.slice ao len cap] from g).slice (C := 2) Tryd.underlying22 (by kernel_rfl) (by omega)
  simp only [List.cons.injEq, Value.slice.injEq, and_true] at hv
  obtain ⟨rfl, rfl, rfl⟩ := hv
  rw [show Tryd.prog.bytesOf 30 = 40 by kernel_rfl] at hcb
  unfold reachBytes at hcb
  have hl : len * 40 ≤ 140737488351232 := by omega
  rcases hr with h0 | ⟨b, off, f, ha, hrow, hel⟩
  · subst h0
    exact ⟨[], ao, cap, rfl, ⟨[], rfl, .inl rfl, fun z hz => by cases hz⟩, ⟨by simp, fun x hx => by cases hx⟩, hsh⟩
  · have hty : ∀ i, i < len → ∃ z : El × Pl, (f (i * 2) = .string (bs z.1.id) ∧ f (i * 2 + 1) = .slice z.2.o z.1.ps.length z.2.c ∧ RdP w z.2.o z.1.ps) ∧ z.1.id.length ≤ 140737488355327 ∧ z.1.ps.length * 32 ≤ 140737488351232 ∧ ∀ p ∈ z.1.ps, p.n.length ≤ 140737488351232 ∧ p.v.length ≤ 140737488351232 := by
      intro i hi
      have hE : Rdg Tryd.prog w 30 [f (i * 2 + 0), f (i * 2 + 1)] := hel i hi
      obtain ⟨_, hf⟩ := hE.fields Tryd.underlying30 (by kernel_rfl)
      obtain ⟨u0, e0, r0⟩ := hf 0 9 (by kernel_rfl) (by simp)
      obtain ⟨u1, e1, r1⟩ := hf 1 28 (by kernel_rfl) (by simp)
      obtain ⟨s0, k0, l0⟩ := r0.string Tryd.underlying9
      obtain ⟨ps, po, pc, k1, hrp, l1, l2⟩ := params_of r1
      simp at e0 e1 k0
      unfold reachBytes at l0
      exact ⟨(⟨s0, ps⟩, ⟨po, pc⟩), ⟨by rw [e0, k0], by rw [e1, k1], hrp⟩, by show s0.length ≤ _; omega, l1, l2⟩
    obtain ⟨zs, hzl, hzs⟩ := choose_list (noe, noq) hty
    refine ⟨zs.map Prod.fst, ao, cap, by rw [List.length_map, hzl], ⟨zs, rfl, .inr ⟨b, off, ha, hrow.1, fun i hi => ?_⟩, fun z hz => ?_⟩, ⟨by rw [List.length_map, hzl]; exact hl, fun x hx => ?_⟩, by rw [List.length_map, hzl]; exact hsh⟩
    · rw [hzl] at hi
      obtain ⟨⟨a1, a2, _⟩, _⟩ := hzs i hi
      refine ⟨(hrow.2 (i * 2) (by omega)).trans (by rw [a1]), ?_⟩
      rw [Nat.add_assoc]
      exact (hrow.2 (i * 2 + 1) (by omega)).trans (by rw [a2])
    · obtain ⟨i, hi, rfl⟩ := mem_getD (noe, noq) hz
      rw [hzl] at hi
      exact (hzs i hi).1.2.2
    · obtain ⟨z, hz, rfl⟩ := List.mem_map.1 hx
      obtain ⟨i, hi, rfl⟩ := mem_getD (noe, noq) hz
      rw [hzl] at hi
      exact (hzs i hi).2
end Go.Proofs.YtonippapkmmkeaaDoor
