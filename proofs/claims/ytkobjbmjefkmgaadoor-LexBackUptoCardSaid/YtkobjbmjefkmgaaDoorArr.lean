/- An array among the arguments, and a slice that is nil or not: what the reading gives. Of no program. -/
import Derived.Test.YtkobjbmjefkmgaaDoorArg
import Derived.OpenShut
namespace Go.Proofs.YtkobjbmjefkmgaaDoor
open Go.RowKit
namespace K
set_option linter.unusedVariables false
section
variable {P : Program} {w : World} {t e : TypeId} {cs : List Value}
theorem okWide_agg {n : Nat} {r : Reach} {base : Nat} {v : Value} (ht : P.underlying t = some (.array n e)) (h : Value.okWide P w r base t v) : ∃ xs : Array Value, v = .agg xs ∧ xs.size = P.cellsOf t := by
  unfold Value.okWide at h
  rw [ht] at h
  obtain ⟨xs, h1, h2, _⟩ := h
  exact ⟨xs, h1, h2⟩
theorem Rdg.array {n : Nat} (h : Rdg P w t cs) (ht : P.underlying t = some (.array n e)) :
    cs.length = P.cellsOf t ∧ ∀ i, i < n → Rdg P w e ((cs.drop (i * P.cellsOf e)).take (P.cellsOf e)) := by
  obtain ⟨H, enc, fuel, x, hx, hw⟩ := h
  obtain ⟨xs, m, _, hxx, hl, hn, hf⟩ := DataW.trod_array ht hx
  refine ⟨hl, fun i hi => ?_⟩
  have h1 := hf i hi
  have hil : i < xs.length := by omega
  rw [List.getElem?_eq_getElem hil] at h1
  refine ⟨H, enc, m, _, h1, fun q hq => hw q ?_⟩
  subst hxx
  simp only [DataW.weights, ht]
  have hrep : ∀ (ds : List (DataW H)) (i : Nat) (d : DataW H), ds[i]? = some d → ∀ q ∈ d.weights P e, q ∈ DataW.weightsAll P e ds := by
    intro ds
    induction ds with
    | nil => intro i d h; simp at h
    | cons a ds ih =>
      intro i d h q hq
      cases i with
      | zero => simp at h; subst h; simp [DataW.weightsAll, hq]
      | succ i => simp at h; simp [DataW.weightsAll, ih i d h q hq]
  exact hrep _ i _ (by simp [List.getElem?_eq_getElem hil]) q hq
/-- Two texts. -/
theorem Rdg.strs2 {x y : Value} (h : Rdg P w t [x, y]) (ht : P.underlying t = some (.array 2 e)) (he : P.underlying e = some .string) (hC : P.cellsOf e = 1) :
    ∃ a b : List UInt8, x = .string (bs a) ∧ y = .string (bs b) ∧ a.length ≤ reachBytes ∧ b.length ≤ reachBytes := by
  obtain ⟨_, hf⟩ := h.array ht
  rw [hC] at hf
  obtain ⟨a, ea, la⟩ := (show Rdg P w e [x] from hf 0 (by omega)).string he
  obtain ⟨b, eb, lb⟩ := (show Rdg P w e [y] from hf 1 (by omega)).string he
  simp at ea eb
  exact ⟨a, b, ea, eb, la, lb⟩
/-- A slice is nil, or has a place. -/
theorem Rdg.shape {ao : Option Addr} {len cap : Nat} (h : Rdg P w t [.slice ao len cap]) (ht : P.underlying t = some (.slice e)) : (ao = none ∧ len = 0 ∧ cap = 0) ∨ ∃ a, ao = some a := by
  obtain ⟨H, enc, fuel, x, hx, hw⟩ := h
  rcases Deep.open_slice ht hx with ⟨h1, _⟩ | ⟨a, len', cap', m, n, D, Pl, hcs, _⟩
  · simp at h1; exact .inl h1
  · simp at hcs; exact .inr ⟨a, hcs.1⟩
end
end K
end Go.Proofs.YtkobjbmjefkmgaaDoor
