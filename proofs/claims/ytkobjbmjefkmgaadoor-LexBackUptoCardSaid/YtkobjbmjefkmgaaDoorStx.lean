/- Tokens among the arguments: what the reading gives. -/
import Derived.Test.YtkobjbmjefkmgaaDoorLexJ
import Derived.Test.YtkobjbmjefkmgaaDoorArr
import Derived.Laws.OwnMore
import Derived.Laws.AppendOwn
import Derived.Below
import Derived.Deep.AppendLies
import Derived.Deep.Onto
import Derived.WideShapes
namespace Go.Proofs.YtkobjbmjefkmgaaDoor
open Go.WideShapes Go.RowKit K L14
set_option linter.unusedVariables false
section
variable {P : Program} {w : World} {t e : TypeId}
theorem rdg_toks {fs : Array Field} {ti ts : TypeId} {ao : Option Addr} {len cap : Nat} (h : Rdg P w t [.slice ao len cap]) (ht : P.underlying t = some (.slice e)) (he : P.underlying e = some (.struct fs)) (hC : P.cellsOf e = 3) (hB : 0 < P.bytesOf e) (hone : Deep.oneCellFields P fs = true)
    (h0 : (fs[0]?).map (·.type) = some ti) (h1 : (fs[1]?).map (·.type) = some ts) (h2 : (fs[2]?).map (·.type) = some ti) (hi : P.underlying ti = some (.int .i64)) (hs : P.underlying ts = some .string) :
    ∃ xs : List Tq, len = xs.length ∧ len ≤ 140737488351232 ∧ RdQ w ao xs ∧ ∀ x ∈ xs, x.t.length ≤ 140737488351232 := by
  obtain ⟨ao', len', cap', hcs, hl, hb, _, hr⟩ := h.slice (C := 3) ht hC (by omega)
  simp only [List.cons.injEq, Value.slice.injEq, and_true] at hcs
  obtain ⟨rfl, rfl, rfl⟩ := hcs
  have hle : len ≤ 140737488351232 := by
    unfold reachBytes at hb
    have := Nat.le_mul_of_pos_right cap hB
    omega
  rcases hr with h5 | ⟨b, off, f, ha, hrow, hel⟩
  · exact ⟨[], by simpa using h5, hle, .inl rfl, fun x hx => by cases hx⟩
  · have hty : ∀ i, i < len → ∃ x : Tq, f (i * 3) = .int .i64 x.k ∧ f (i * 3 + 1) = .string (bs x.t) ∧ f (i * 3 + 2) = .int .i64 x.l ∧ x.t.length ≤ 140737488351232 := by
      intro i hi'
      have hE : Rdg P w e [f (i * 3 + 0), f (i * 3 + 1), f (i * 3 + 2)] := hel i hi'
      obtain ⟨_, hf⟩ := hE.fields he hone
      obtain ⟨u0, e0, r0⟩ := hf 0 ti h0 (by simp)
      obtain ⟨u1, e1, r1⟩ := hf 1 ts h1 (by simp)
      obtain ⟨u2, e2, r2⟩ := hf 2 ti h2 (by simp)
      obtain ⟨k, ek, _⟩ := r0.int hi
      obtain ⟨s, es, ls⟩ := r1.string hs
      obtain ⟨n, en, _⟩ := r2.int hi
      simp at e0 e1 e2 ek en es
      unfold reachBytes at ls
      exact ⟨⟨k, s, n⟩, by rw [e0, ek], by rw [e1, es], by rw [e2, en], by show s.length ≤ _; omega⟩
    have hch : ∃ g : Nat → Tq, ∀ i, i < len → f (i * 3) = .int .i64 (g i).k ∧ f (i * 3 + 1) = .string (bs (g i).t) ∧ f (i * 3 + 2) = .int .i64 (g i).l ∧ (g i).t.length ≤ 140737488351232 :=
      ⟨fun i => if hi' : i < len then (hty i hi').choose else noQ, fun i hi' => by simp only [dif_pos hi']; exact (hty i hi').choose_spec⟩
    obtain ⟨g, hg⟩ := hch
    have hln : ((List.range len).map g).length = len := by simp
    have hget : ∀ i, i < len → ((List.range len).map g).getD i noQ = g i := by
      intro i hi'
      simp [List.getD, hi']
    refine ⟨(List.range len).map g, hln.symm, hle, .inr ⟨b, off, ha, hrow.1, fun i hi' j hj => ?_⟩, fun x hx => ?_⟩
    · rw [hln] at hi'
      rw [hget i hi']
      obtain ⟨q0, q1, q2, _⟩ := hg i hi'
      rw [Nat.add_assoc, hrow.2 (i * 3 + j) (by omega)]
      match j, hj with
      | 0, _ => rw [Nat.add_zero, q0]; rfl
      | 1, _ => rw [q1]; rfl
      | 2, _ => rw [q2]; rfl
    · obtain ⟨i, hi', rfl⟩ := List.mem_map.1 hx
      exact (hg i (List.mem_range.1 hi')).2.2.2
end
set_option maxRecDepth 1000000 in
theorem argT14 {w : World} {B : Nat} {v : Value} (g : Rdg Tryd.prog w 23 v.cells.toList) (ok : Value.okWide Tryd.prog w .any B 23 v) :
    ∃ (xs : List Tq) (ao : Option Addr) (cap : Nat), v = .slice ao xs.length cap ∧ xs.length ≤ 140737488351232 ∧ RdQ w ao xs ∧ (∀ i, i < xs.length → (xs.getD i noQ).t.length ≤ 140737488351232) ∧ ((ao = none ∧ xs.length = 0 ∧ cap = 0) ∨ ∃ a, ao = some a) := by
  obtain ⟨ao, len, cap, rfl⟩ := okWide_slice Tryd.underlying23 ok
  have g' : Rdg Tryd.prog w 23 [.slice ao len cap] := g
  obtain ⟨xs, hl, hle, hr, hx⟩ := rdg_toks (ti := 3) (ts := 9) g' Tryd.underlying23 Tryd.underlying33 (by kernel_rfl) (by rw [show Tryd.prog.bytesOf 33 = 32 by kernel_rfl]; omega) (by kernel_rfl) (by kernel_rfl) (by kernel_rfl) (by kernel_rfl) Tryd.underlying3 Tryd.underlying9
  have hsh := Rdg.shape g' Tryd.underlying23
  subst hl
  refine ⟨xs, ao, cap, rfl, hle, hr, fun i hi => hx _ ?_, hsh⟩
  rw [show xs.getD i noQ = xs[i] by simp [List.getD, hi]]
  exact List.getElem_mem hi
end Go.Proofs.YtkobjbmjefkmgaaDoor
