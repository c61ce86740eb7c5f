/- Structured data among the arguments: what the reading gives. -/
import Derived.Test.YtkpcfbadhoiigaaDoorQuoW
import Derived.Test.YtkpcfbadhoiigaaDoorArg
import Derived.Test.YtkpcfbadhoiigaaDoorArr
import Derived.WideShapes
import Derived.ChangeArms
namespace Go.Proofs.YtkpcfbadhoiigaaDoor
open Go.WideShapes Go.RowKit K Q10
set_option linter.unusedVariables false

theorem choose_list {α : Type} (d : α) {n : Nat} {R : Nat → α → Prop} (h : ∀ i, i < n → ∃ x, R i x) : ∃ l : List α, l.length = n ∧ ∀ i, i < n → R i (l.getD i d) := by
  refine ⟨(List.range n).map fun i => if hi : i < n then (h i hi).choose else d, by simp, fun i hi => ?_⟩
  have e : ((List.range n).map fun i => if hi : i < n then (h i hi).choose else d).getD i d = (h i hi).choose := by
    simp [List.getD, hi]
  rw [e]
  exact (h i hi).choose_spec
theorem mem_getD {α : Type} {l : List α} {x : α} (d : α) (h : x ∈ l) : ∃ i, i < l.length ∧ l.getD i d = x := by
  obtain ⟨i, hi, e⟩ := List.mem_iff_getElem.1 h
  exact ⟨i, hi, by rw [List.getD_eq_getElem?_getD, List.getElem?_eq_getElem hi]; exact e⟩
set_option maxRecDepth 1000000 in
theorem params_of {w : World} {v : Value} (g : Rdg Tryd.prog w 43 [v]) : ∃ (ps : List Pm) (ao : Option Addr) (cap : Nat), v = .slice ao ps.length cap ∧ RdP w ao ps ∧ ps.length * 32 ≤ 140737488351232 ∧ ∀ p ∈ ps, p.n.length ≤ 140737488351232 ∧ p.v.length ≤ 140737488351232 := by
  obtain ⟨ao, len, cap, hv, hlc, hcb, _, hr⟩ := g.slice (C := 2) Tryd.underlying43 (by kernel_rfl) (by omega)
  simp only [List.cons.injEq, and_true] at hv
  subst hv
  rw [show Tryd.prog.bytesOf 47 = 32 by kernel_rfl] at hcb
  unfold reachBytes at hcb
  have hl : len * 32 ≤ 140737488351232 := by omega
  rcases hr with h0 | ⟨b, off, f, rfl, hrow, hel⟩
  · subst h0
    exact ⟨[], ao, cap, rfl, .inl rfl, by simp, fun p hp => by cases hp⟩
  · have hty : ∀ i, i < len → ∃ p : Pm, (f (i * 2) = .string (bs p.n) ∧ f (i * 2 + 1) = .string (bs p.v)) ∧ p.n.length ≤ 140737488351232 ∧ p.v.length ≤ 140737488351232 := by
      intro i hi
      have hE : Rdg Tryd.prog w 47 [f (i * 2 + 0), f (i * 2 + 1)] := hel i hi
      obtain ⟨_, hf⟩ := hE.fields Tryd.underlying47 (by kernel_rfl)
      obtain ⟨u0, e0, r0⟩ := hf 0 9 (by kernel_rfl) (by simp)
      obtain ⟨u1, e1, r1⟩ := hf 1 9 (by kernel_rfl) (by simp)
      obtain ⟨s0, k0, l0⟩ := r0.string Tryd.underlying9
      obtain ⟨s1, k1, l1⟩ := r1.string Tryd.underlying9
      simp at e0 e1 k0 k1
      unfold reachBytes at l0 l1
      exact ⟨⟨s0, s1⟩, ⟨by rw [e0, k0], by rw [e1, k1]⟩, l0, l1⟩
    obtain ⟨ps, hpl, hps⟩ := choose_list nop hty
    refine ⟨ps, _, cap, by rw [hpl], .inr ⟨b, off, rfl, hrow.1, fun i hi => ?_⟩, by rw [hpl]; exact hl, fun p hp => ?_⟩
    · rw [hpl] at hi
      obtain ⟨⟨a1, a2⟩, _⟩ := hps i hi
      refine ⟨(hrow.2 (i * 2) (by omega)).trans (by rw [a1]), ?_⟩
      rw [Nat.add_assoc]
      exact (hrow.2 (i * 2 + 1) (by omega)).trans (by rw [a2])
    · obtain ⟨i, hi, rfl⟩ := mem_getD nop hp
      rw [hpl] at hi
      exact (hps i hi).2
set_option maxRecDepth 1000000 in
theorem argE {w : World} {B : Nat} {v : Value} (g : Rdg Tryd.prog w 23 v.cells.toList) (ok : Value.okWide Tryd.prog w .any B 23 v) :
    ∃ (es : List El) (ao : Option Addr) (cap : Nat), v = .slice ao es.length cap ∧ RdE w ao es ∧ Bnds es ∧ ((ao = none ∧ es.length = 0 ∧ cap = 0) ∨ ∃ a, ao = some a) := by
  obtain ⟨ao, len, cap, rfl⟩ := okWide_slice Tryd.underlying23 ok
  have hsh := Rdg.shape g Tryd.underlying23
  obtain ⟨ao', len', cap', hv, hlc, hcb, _, hr⟩ := (show Rdg Tryd.prog w 23 [.slice ao len cap] from g).slice (C := 2) Tryd.underlying23 (by kernel_rfl) (by omega)
  simp only [List.cons.injEq, Value.slice.injEq, and_true] at hv
  obtain ⟨rfl, rfl, rfl⟩ := hv
  rw [show Tryd.prog.bytesOf 45 = 40 by kernel_rfl] at hcb
  unfold reachBytes at hcb
  have hl : len * 40 ≤ 140737488351232 := by omega
  rcases hr with h0 | ⟨b, off, f, ha, hrow, hel⟩
  · subst h0
    exact ⟨[], ao, cap, rfl, ⟨[], rfl, .inl rfl, fun z hz => by cases hz⟩, ⟨by simp, fun x hx => by cases hx⟩, hsh⟩
  · have hty : ∀ i, i < len → ∃ z : El × Pl, (f (i * 2) = .string (bs z.1.id) ∧ f (i * 2 + 1) = .slice z.2.o z.1.ps.length z.2.c ∧ RdP w z.2.o z.1.ps) ∧ z.1.id.length ≤ 140737488355327 ∧ z.1.ps.length * 32 ≤ 140737488351232 ∧ ∀ p ∈ z.1.ps, p.n.length ≤ 140737488351232 ∧ p.v.length ≤ 140737488351232 := by
      intro i hi
      have hE : Rdg Tryd.prog w 45 [f (i * 2 + 0), f (i * 2 + 1)] := hel i hi
      obtain ⟨_, hf⟩ := hE.fields Tryd.underlying45 (by kernel_rfl)
      obtain ⟨u0, e0, r0⟩ := hf 0 9 (by kernel_rfl) (by simp)
      obtain ⟨u1, e1, r1⟩ := hf 1 43 (by kernel_rfl) (by simp)
      obtain ⟨s0, k0, l0⟩ := r0.string Tryd.underlying9
      obtain ⟨ps, po, pc, k1, hrp, l1, l2⟩ := params_of r1
      simp at e0 e1 k0
      unfold reachBytes at l0
      exact ⟨(⟨s0, ps⟩, ⟨po, pc⟩), ⟨by rw [e0, k0], by rw [e1, k1], hrp⟩, by show s0.length ≤ _; omega, l1, l2⟩
    obtain ⟨zs, hzl, hzs⟩ := choose_list (noe, noq) hty
    refine ⟨zs.map Prod.fst, ao, cap, by rw [List.length_map, hzl], ⟨zs, rfl, .inr ⟨b, off, ha, hrow.1, fun i hi => ?_⟩, fun z hz => ?_⟩, ⟨by rw [List.length_map, hzl]; exact hl, fun x hx => ?_⟩, by rw [List.length_map, hzl]; exact hsh⟩
    · rw [hzl] at hi
      obtain ⟨⟨a1, a2, _⟩, _⟩ := hzs i hi
      refine ⟨(hrow.2 (i * 2) (by omega)).trans (by rw [a1]), ?_⟩
      rw [Nat.add_assoc]
      exact (hrow.2 (i * 2 + 1) (by omega)).trans (by rw [a2])
    · obtain ⟨i, hi, rfl⟩ := mem_getD (noe, noq) hz
      rw [hzl] at hi
      exact (hzs i hi).1.2.2
    · obtain ⟨z, hz, rfl⟩ := List.mem_map.1 hx
      obtain ⟨i, hi, rfl⟩ := mem_getD (noe, noq) hz
      rw [hzl] at hi
      exact (hzs i hi).2
set_option maxRecDepth 1000000 in
/-- Two texts in an array. -/
theorem argN {w : World} {B : Nat} {v : Value} (g : Rdg Tryd.prog w 30 v.cells.toList) (ok : Value.okWide Tryd.prog w .any B 30 v) :
    ∃ a b : List UInt8, v = .agg #[.string (bs a), .string (bs b)] ∧ a.length ≤ 140737488351232 ∧ b.length ≤ 140737488351232 := by
  obtain ⟨xs, rfl, hsz⟩ := okWide_agg Tryd.underlying30 ok
  rw [show Tryd.prog.cellsOf 30 = 2 by kernel_rfl] at hsz
  obtain ⟨x0, x1, rfl⟩ : ∃ x0 x1, xs = #[x0, x1] := by
    obtain ⟨l⟩ := xs
    match l, hsz with
    | [x0, x1], _ => exact ⟨x0, x1, rfl⟩
  obtain ⟨a, b, ea, eb, la, lb⟩ := Rdg.strs2 (show Rdg Tryd.prog w 30 [x0, x1] from g) Tryd.underlying30 Tryd.underlying9 (by kernel_rfl)
  unfold reachBytes at la lb
  exact ⟨a, b, by rw [ea, eb], la, lb⟩
end Go.Proofs.YtkpcfbadhoiigaaDoor
