/- Lists of texts, of turns, of numbers among the arguments of stage 12: what the reading gives. -/
import Derived.Test.YtndinelljmjfaaaFrmI
import Derived.Test.YtndinelljmjfaaaArg
import Derived.Test.YtndinelljmjfaaaTxt
import Derived.WideShapes
import Derived.ChangeArms
namespace Go.Proofs.Ytndinelljmjfaaa
open Go.WideShapes Go.RowKit K F12
set_option linter.unusedVariables false

set_option maxRecDepth 1000000 in
theorem argS12 {w : World} {B : Nat} {v : Value} (g : Rdg Try.prog w 25 v.cells.toList) (ok : Value.okWide Try.prog w .any B 25 v) :
    ∃ (ls : List (List UInt8)) (ao : Option Addr) (cap : Nat), v = .slice ao ls.length cap ∧ ls.length ≤ 140737488351232 ∧ RdS w ao ls ∧ (∀ l ∈ ls, l.length ≤ 140737488351232) := by
  obtain ⟨ao, len, cap, rfl⟩ := okWide_slice Try.underlying25 ok
  obtain ⟨ss, hss⟩ := Rdg.strs (show Rdg Try.prog w 25 [.slice ao len cap] from g) Try.underlying25 Try.underlying9 (by kernel_rfl) (by rw [show Try.prog.bytesOf 9 = 16 by kernel_rfl]; omega)
  obtain ⟨ls, rfl, hl, hr, hm⟩ := strs_list hss
  exact ⟨ls, ao, cap, rfl, hl, hr, hm⟩
set_option maxRecDepth 1000000 in
theorem argI12 {w : World} {B : Nat} {v : Value} (g : Rdg Try.prog w 22 v.cells.toList) (ok : Value.okWide Try.prog w .any B 22 v) :
    ∃ (n : Nat) (ns : Nat → Int) (ao : Option Addr) (cap : Nat), v = .slice ao n cap ∧ Nums .i64 w ao n ns := by
  obtain ⟨ao, len, cap, rfl⟩ := okWide_slice Try.underlying22 ok
  obtain ⟨ns, ha⟩ := Rdg.nums (show Rdg Try.prog w 22 [.slice ao len cap] from g) Try.underlying22 Try.underlying3 (by kernel_rfl) (by rw [show Try.prog.bytesOf 3 = 8 by kernel_rfl]; omega) (by decide)
  exact ⟨len, ns, ao, cap, rfl, ha⟩
theorem choose_list12 {α : Type} (d : α) {n : Nat} {R : Nat → α → Prop} (h : ∀ i, i < n → ∃ x, R i x) : ∃ l : List α, l.length = n ∧ ∀ i, i < n → R i (l.getD i d) := by
  refine ⟨(List.range n).map fun i => if hi : i < n then (h i hi).choose else d, by simp, fun i hi => ?_⟩
  have e : ((List.range n).map fun i => if hi : i < n then (h i hi).choose else d).getD i d = (h i hi).choose := by
    simp [List.getD, hi]
  rw [e]
  exact (h i hi).choose_spec
theorem byte_of {a : Int} (w : (Lit.int .u8 a).wf = true) : ∃ b : UInt8, a = ((b.toNat : Nat) : Int) := by
  have h : 0 ≤ a ∧ a ≤ 255 := by simp [Lit.wf, IntKind.min, IntKind.max, IntKind.bits, IntKind.signed] at w; omega
  refine ⟨UInt8.ofNat a.toNat, ?_⟩
  rw [show (UInt8.ofNat a.toNat).toNat = a.toNat by simp; omega]
  omega
theorem int_of {a : Int} (w : (Lit.int .i64 a).wf = true) : -9223372036854775808 ≤ a ∧ a ≤ 9223372036854775807 := by
  simp [Lit.wf, IntKind.min, IntKind.max, IntKind.bits, IntKind.signed] at w; omega
end Go.Proofs.Ytndinelljmjfaaa
