/- Lists of texts: as they come in, as a call makes them, what keeps them. Of no program. -/
import Derived.Test.YtkobjbmjefkmgaaDoorArg
import Derived.Laws.OwnMore
import Derived.Laws.AppendOwn
import Derived.Below
import Derived.Deep.AppendLies
import Derived.Deep.Onto
namespace Go.Proofs.YtkobjbmjefkmgaaDoor
open Go.RowKit
set_option linter.unusedVariables false
namespace K

def txts (ls : List (List UInt8)) : List Value := ls.map fun l => Value.string (bs l)
theorem txts_len (ls : List (List UInt8)) : (txts ls).length = ls.length := by simp [txts]
theorem txts_app (a b : List (List UInt8)) : txts (a ++ b) = txts a ++ txts b := by simp [txts]
theorem txts_get (ls : List (List UInt8)) (i : Nat) (h : i < ls.length) : (txts ls)[i]? = some (.string (bs (ls.getD i []))) := by
  simp [txts, List.getElem?_eq_getElem h, List.getD]
theorem txts_one (ls : List (List UInt8)) : ∀ u ∈ txts ls, u.oneCell' = true := by
  intro u hu
  obtain ⟨l, _, rfl⟩ := List.mem_map.1 hu
  rfl
/-- A slice that reads as these texts. -/
def RdS (w : World) (ao : Option Addr) (ls : List (List UInt8)) : Prop :=
  ls.length = 0 ∨ ∃ b off, ao = some ⟨b, off, none⟩ ∧ b < w.heap.size ∧ ∀ i, i < ls.length → w.cell? ⟨b, off + i, none⟩ = some (.string (bs (ls.getD i [])))
theorem RdS.below {w w' : World} {ao : Option Addr} {ls : List (List UInt8)} (h : RdS w ao ls) (k : Below w.heap.size w w') : RdS w' ao ls := by
  rcases h with h0 | ⟨b, off, ha, hb, hc⟩
  · exact .inl h0
  · exact .inr ⟨b, off, ha, Nat.lt_of_lt_of_le hb k.size, fun i hi => (k.cell (p := ⟨b, off + i, none⟩) hb).trans (hc i hi)⟩
theorem RdS.at {w : World} {ao : Option Addr} {ls : List (List UInt8)} (h : RdS w ao ls) {i : Nat} (hi : i < ls.length) {l : List UInt8} (hl : ls.getD i [] = l) :
    ∃ b off, ao = some ⟨b, off, none⟩ ∧ b < w.heap.size ∧ w.cell? ⟨b, off + i, none⟩ = some (.string (bs l)) := by
  subst hl
  rcases h with h0 | ⟨b, off, ha, hb, hc⟩
  · omega
  · exact ⟨b, off, ha, hb, hc i hi⟩
/-- The cells that a list has, one by one. -/
theorem RdS.each {w : World} {a : Addr} {ls : List (List UInt8)} (h : RdS w (some a) ls) : ∀ j u, (txts ls)[j]? = some u → w.cell? (a.add j) = some u := by
  intro j u hj
  have hlt : j < ls.length := by
    rcases Nat.lt_or_ge j (txts ls).length with h | h
    · rw [txts_len] at h; exact h
    · rw [List.getElem?_eq_none h] at hj; cases hj
  rcases h with h | ⟨b, off, ha, hb, hc⟩
  · omega
  · injection ha with ha
    subst ha
    rw [txts_get ls j hlt] at hj
    have hadd : (⟨b, off, none⟩ : Addr).add j = ⟨b, off + j, none⟩ := by simp [Addr.add]
    rw [hadd, hc j hlt, hj]
theorem RdS.pre {w : World} {ao : Option Addr} {xs ys : List (List UInt8)} (h : RdS w ao (xs ++ ys)) : RdS w ao xs := by
  by_cases h0 : xs.length = 0
  · exact .inl h0
  rcases h with h | ⟨b, off, ha, hb, hc⟩
  · rw [List.length_append] at h; omega
  · refine .inr ⟨b, off, ha, hb, fun i hi => ?_⟩
    have := hc i (by rw [List.length_append]; omega)
    rw [List.getD_eq_getElem?_getD, List.getElem?_append_left hi, ← List.getD_eq_getElem?_getD] at this
    exact this
theorem RdS.last {w : World} {g : Nat} {xs : List (List UInt8)} {x : List UInt8} (h : RdS w (some ⟨g, 0, none⟩) (xs ++ [x])) : w.cell? ⟨g, xs.length, none⟩ = some (.string (bs x)) := by
  rcases h with h | ⟨b, off, ha, hb, hc⟩
  · simp at h
  · injection ha with ha
    injection ha with h1 h2 _
    subst h1 h2
    have := hc xs.length (by simp)
    have hg : (xs ++ [x]).getD xs.length [] = x := by simp [List.getD]
    rw [hg] at this
    simpa using this
/-- A slice that the call made itself, behind block B, of these texts; T is the type of its elements. -/
def OwnS (w : World) (B : Nat) (T : TypeId) (v : Value) (ls : List (List UInt8)) : Prop := w.ownsRow B T 1 v ls.length (txts ls)
theorem OwnS.nil (w : World) (B : Nat) (T : TypeId) : OwnS w B T (.slice none 0 0) [] := World.ownsRow_nil w B T 1
theorem OwnS.empty (w : World) (B : Nat) (T : TypeId) (hb : B ≤ w.heap.size) : OwnS (w.alloc (.cells #[] T)) B T (.slice (some ⟨w.heap.size, 0, none⟩) 0 0) [] :=
  ⟨by simp [txts], .inr ⟨w.heap.size, 0, #[], rfl, hb, rowNew w _, Nat.le_refl _, by unfold maxLen; omega, by simp, by simp [txts]⟩⟩
theorem OwnS.below {w w' : World} {B : Nat} {T : TypeId} {v : Value} {ls : List (List UInt8)} (h : OwnS w B T v ls) (k : Below w.heap.size w w') : OwnS w' B T v ls := by
  refine ⟨h.1, ?_⟩
  rcases h.2 with hn | ⟨g, cap, cur, h1, h2, h3, h4⟩
  · exact .inl hn
  · exact .inr ⟨g, cap, cur, h1, h2, (k.block g (lt_of_block h3)).trans h3, h4⟩
theorem OwnS.mono {w : World} {B B' : Nat} {T : TypeId} {v : Value} {ls : List (List UInt8)} (h : OwnS w B T v ls) (hb : B' ≤ B) : OwnS w B' T v ls := World.ownsRow.mono h hb
theorem OwnS.form {w : World} {B : Nat} {T : TypeId} {v : Value} {ls : List (List UInt8)} (h : OwnS w B T v ls) : ∃ ao cap, v = .slice ao ls.length cap ∧ ls.length ≤ cap ∧ cap ≤ maxLen ∧ RdS w ao ls ∧ ((ao = none ∧ ls.length = 0 ∧ cap = 0) ∨ ∃ g, ao = some ⟨g, 0, none⟩ ∧ B ≤ g) := by
  rcases h.2 with ⟨hv, h0⟩ | ⟨g, cap, cur, hv, hB, hh, hle, hm, hs, ht⟩
  · exact ⟨none, 0, by rw [hv, h0], by omega, by unfold maxLen; omega, .inl h0, .inl ⟨rfl, h0, rfl⟩⟩
  · refine ⟨some ⟨g, 0, none⟩, cap, hv, hle, hm, .inr ⟨g, 0, rfl, lt_of_block hh, fun i hi => ?_⟩, .inr ⟨g, rfl, hB⟩⟩
    rw [Nat.zero_add, cellRow hh, ← Array.getElem?_toList, ← txts_get ls i hi, ← ht, List.getElem?_take_of_lt (by omega)]
theorem OwnS.put {w : World} {B : Nat} {T : TypeId} {v : Value} {a b : List (List UInt8)} (h : w.ownsRow B T 1 v (a.length + b.length) (txts a ++ txts b)) : OwnS w B T v (a ++ b) := by
  unfold OwnS
  rw [List.length_append, txts_app]
  exact h
theorem strs_list {w : World} {ao : Option Addr} {n : Nat} {ss : Nat → List UInt8} (h : Strs w ao n ss) : ∃ ls : List (List UInt8), n = ls.length ∧ ls.length ≤ 140737488351232 ∧ RdS w ao ls ∧ ∀ l ∈ ls, l.length ≤ 140737488351232 := by
  obtain ⟨h1, h2, h3⟩ := h
  have hln : ((List.range n).map ss).length = n := by simp
  refine ⟨(List.range n).map ss, hln.symm, by omega, ?_, fun l hl => ?_⟩
  · rcases h2 with h | ⟨b, off, ha, hr⟩
    · exact .inl (by omega)
    · refine .inr ⟨b, off, ha, hr.1, fun i hi => ?_⟩
      rw [hln] at hi
      rw [hr.2 i hi]
      simp [List.getD, hi]
  · obtain ⟨i, _, rfl⟩ := List.mem_map.1 hl
    exact h3 i
end K
end Go.Proofs.YtkobjbmjefkmgaaDoor
