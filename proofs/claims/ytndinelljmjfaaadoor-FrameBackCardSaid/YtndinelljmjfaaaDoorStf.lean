/- Lists of texts, of turns, of numbers among the arguments of stage 12: what the reading gives. -/
import Derived.Test.YtndinelljmjfaaaDoorFrmI
import Derived.Test.YtndinelljmjfaaaDoorArg
import Derived.Test.YtndinelljmjfaaaDoorTxt
import Derived.WideShapes
import Derived.ChangeArms
namespace Go.Proofs.YtndinelljmjfaaaDoor
open Go.WideShapes Go.RowKit K F12
set_option linter.unusedVariables false

set_option maxRecDepth 1000000 in
theorem argS12 {w : World} {B : Nat} {v : Value} (g : Rdg Tryd.prog w 37 v.cells.toList) (ok : Value.okWide Tryd.prog w .any B 37 v) :
    ∃ (ls : List (List UInt8)) (ao : Option Addr) (cap : Nat), v = .slice ao ls.length cap ∧ ls.length ≤ 140737488351232 ∧ RdS w ao ls ∧ (∀ l ∈ ls, l.length ≤ 140737488351232) := by
  obtain ⟨ao, len, cap, rfl⟩ := okWide_slice Tryd.underlying37 ok
  obtain ⟨ss, hss⟩ := Rdg.strs (show Rdg Tryd.prog w 37 [.slice ao len cap] from g) Tryd.underlying37 Tryd.underlying9 (by kernel_rfl) (by rw [show Tryd.prog.bytesOf 9 = 16 by kernel_rfl]; omega)
  obtain ⟨ls, rfl, hl, hr, hm⟩ := strs_list hss
  exact ⟨ls, ao, cap, rfl, hl, hr, hm⟩
set_option maxRecDepth 1000000 in
theorem argI12 {w : World} {B : Nat} {v : Value} (g : Rdg Tryd.prog w 61 v.cells.toList) (ok : Value.okWide Tryd.prog w .any B 61 v) :
    ∃ (n : Nat) (ns : Nat → Int) (ao : Option Addr) (cap : Nat), v = .slice ao n cap ∧ Nums .i64 w ao n ns := by
  obtain ⟨ao, len, cap, rfl⟩ := okWide_slice Tryd.underlying61 ok
  obtain ⟨ns, ha⟩ := Rdg.nums (show Rdg Tryd.prog w 61 [.slice ao len cap] from g) Tryd.underlying61 Tryd.underlying3 (by kernel_rfl) (by rw [show Tryd.prog.bytesOf 3 = 8 by kernel_rfl]; omega) (by decide)
  exact ⟨len, ns, ao, cap, rfl, ha⟩
theorem choose_list12 {α : Type} (d : α) {n : Nat} {R : Nat → α → Prop} (h : ∀ i, i < n → ∃ x, R i x) : ∃ l : List α, l.length = n ∧ ∀ i, i < n → R i (l.getD i d) := by
  refine ⟨(List.range n).map fun i => if hi : i < n then (h i hi).choose else d, by simp, fun i hi => ?_⟩
  have e : ((List.range n).map fun i => if hi : i < n then (h i hi).choose else d).getD i d = (h i hi).choose := by
    simp [List.getD, hi]
  rw [e]
  exact (h i hi).choose_spec
set_option maxRecDepth 1000000 in
theorem argT12 {w : World} {B : Nat} {v : Value} (g : Rdg Tryd.prog w 22 v.cells.toList) (ok : Value.okWide Tryd.prog w .any B 22 v) :
    ∃ (xs : List Tn) (ao : Option Addr) (cap : Nat), v = .slice ao xs.length cap ∧ xs.length ≤ 140737488351232 ∧ RdT w ao xs ∧ (∀ x ∈ xs, x.c.length ≤ 140737488351232) := by
  obtain ⟨ao, len, cap, rfl⟩ := okWide_slice Tryd.underlying22 ok
  obtain ⟨ao', len', cap', hv, hlc, hcb, _, hr⟩ := (show Rdg Tryd.prog w 22 [.slice ao len cap] from g).slice (C := 2) Tryd.underlying22 (by kernel_rfl) (by omega)
  simp only [List.cons.injEq, Value.slice.injEq, and_true] at hv
  obtain ⟨rfl, rfl, rfl⟩ := hv
  rw [show Tryd.prog.bytesOf 34 = 24 by kernel_rfl] at hcb
  unfold reachBytes at hcb
  have hl : len ≤ 140737488351232 := by omega
  rcases hr with h0 | ⟨b, off, f, ha, hrow, hel⟩
  · subst h0
    exact ⟨[], ao, cap, rfl, by simp, .inl rfl, fun z hz => by cases hz⟩
  · have hty : ∀ i, i < len → ∃ z : Tn, (f (i * 2) = .string (bs z.c) ∧ f (i * 2 + 1) = .bool z.f) ∧ z.c.length ≤ 140737488351232 := by
      intro i hi
      have hE : Rdg Tryd.prog w 34 [f (i * 2 + 0), f (i * 2 + 1)] := hel i hi
      obtain ⟨_, hf⟩ := hE.fields Tryd.underlying34 (by kernel_rfl)
      obtain ⟨u0, e0, r0⟩ := hf 0 9 (by kernel_rfl) (by simp)
      obtain ⟨u1, e1, r1⟩ := hf 1 4 (by kernel_rfl) (by simp)
      obtain ⟨s0, k0, l0⟩ := r0.string Tryd.underlying9
      obtain ⟨b1, k1⟩ := r1.bool Tryd.underlying4
      simp at e0 e1 k0 k1
      unfold reachBytes at l0
      exact ⟨⟨s0, b1⟩, ⟨by rw [e0, k0], by rw [e1, k1]⟩, l0⟩
    obtain ⟨xs, hxl, hxs⟩ := choose_list12 notn hty
    refine ⟨xs, ao, cap, by rw [hxl], by rw [hxl]; exact hl, .inr ⟨b, off, ha, hrow.1, fun i hi => ?_⟩, fun x hx => ?_⟩
    · rw [hxl] at hi
      obtain ⟨⟨a1, a2⟩, _⟩ := hxs i hi
      refine ⟨(hrow.2 (i * 2) (by omega)).trans (by rw [a1]), ?_⟩
      rw [Nat.add_assoc]
      exact (hrow.2 (i * 2 + 1) (by omega)).trans (by rw [a2])
    · obtain ⟨i, hi, e⟩ := List.mem_iff_getElem.1 hx
      have h2 := (hxs i (by rw [← hxl]; exact hi)).2
      rw [List.getD_eq_getElem?_getD, List.getElem?_eq_getElem hi] at h2
      rw [← e]; exact h2
theorem byte_of {a : Int} (w : (Lit.int .u8 a).wf = true) : ∃ b : UInt8, a = ((b.toNat : Nat) : Int) := by
  have h : 0 ≤ a ∧ a ≤ 255 := by simp [Lit.wf, IntKind.min, IntKind.max, IntKind.bits, IntKind.signed] at w; omega
  refine ⟨UInt8.ofNat a.toNat, ?_⟩
  rw [show (UInt8.ofNat a.toNat).toNat = a.toNat by simp; omega]
  omega
theorem int_of {a : Int} (w : (Lit.int .i64 a).wf = true) : -9223372036854775808 ≤ a ∧ a ≤ 9223372036854775807 := by
  simp [Lit.wf, IntKind.min, IntKind.max, IntKind.bits, IntKind.signed] at w; omega
end Go.Proofs.YtndinelljmjfaaaDoor
