/- A list of numbers that a call made itself: its cells, and what keeps them. Of no program. -/
import Derived.Test.YtkobjbmjefkmgaaDoorLib
import Derived.Below
import Derived.Laws.OwnMore
import Derived.Laws.AppendOwn
import Derived.Deep.AppendLies
import Derived.Deep.Onto
namespace Go.Proofs.YtkobjbmjefkmgaaDoor
open Go.RowKit
namespace K

/-- Numbers as cells. -/
def nums (cs : List Nat) : List Value := cs.map fun c => Value.int .i64 (c : Nat)
theorem nums_len (cs : List Nat) : (nums cs).length = cs.length := by simp [nums]
theorem nums_app (a b : List Nat) : nums (a ++ b) = nums a ++ nums b := by simp [nums]
theorem nums_get (cs : List Nat) (i : Nat) (h : i < cs.length) : (nums cs)[i]? = some (.int .i64 ((cs.getD i 0 : Nat) : Int)) := by
  simp [nums, List.getElem?_eq_getElem h, List.getD]
/-- A slice that the call made itself, behind block B, of these numbers; T is the type of its elements. -/
def OwnI (w : World) (B : Nat) (T : TypeId) (v : Value) (cs : List Nat) : Prop := w.ownsRow B T 1 v cs.length (nums cs)
theorem OwnI.nil (w : World) (B : Nat) (T : TypeId) : OwnI w B T (.slice none 0 0) [] := World.ownsRow_nil w B T 1
theorem OwnI.below {w w' : World} {B : Nat} {T : TypeId} {v : Value} {cs : List Nat} (h : OwnI w B T v cs) (k : Below w.heap.size w w') : OwnI w' B T v cs := by
  refine ⟨h.1, ?_⟩
  rcases h.2 with hn | ⟨g, cap, cur, h1, h2, h3, h4⟩
  · exact .inl hn
  · exact .inr ⟨g, cap, cur, h1, h2, (k.block g (lt_of_block h3)).trans h3, h4⟩
theorem OwnI.drewN {w : World} {B : Nat} {T : TypeId} {v : Value} {cs : List Nat} (h : OwnI w B T v cs) (n : Nat) : OwnI (w.drewN n) B T v cs := h
theorem OwnI.mono {w : World} {B B' : Nat} {T : TypeId} {v : Value} {cs : List Nat} (h : OwnI w B T v cs) (hb : B' ≤ B) : OwnI w B' T v cs := World.ownsRow.mono h hb
/-- Its shape: where it lies, and its cells. -/
theorem OwnI.form {w : World} {B : Nat} {T : TypeId} {v : Value} {cs : List Nat} (h : OwnI w B T v cs) :
    ∃ ao cap, v = .slice ao cs.length cap ∧ (cs.length = 0 ∨ ∃ g, ao = some ⟨g, 0, none⟩ ∧ B ≤ g ∧ g < w.heap.size ∧ ∀ i, i < cs.length → w.cell? ⟨g, i, none⟩ = some (.int .i64 ((cs.getD i 0 : Nat) : Int)) ∧ w.frozen? ⟨g, i, none⟩ = false) := by
  rcases h.2 with ⟨hv, h0⟩ | ⟨g, cap, cur, hv, hB, hh, hle, hm, hs, ht⟩
  · exact ⟨none, 0, by rw [hv, h0], .inl h0⟩
  · refine ⟨some ⟨g, 0, none⟩, cap, hv, .inr ⟨g, rfl, hB, lt_of_block hh, fun i hi => ⟨?_, freeRow hh i⟩⟩⟩
    rw [cellRow hh, ← Array.getElem?_toList]
    have h1 := congrArg (fun x : List Value => x[i]?) ht
    simp only [Nat.mul_one] at h1
    rw [List.getElem?_take_of_lt hi, nums_get cs i hi] at h1
    exact h1
/-- One more number. -/
theorem OwnI.put {w : World} {B : Nat} {T : TypeId} {v : Value} {cs : List Nat} {c : Nat} (h : w.ownsRow B T 1 v (cs.length + 1) (nums cs ++ [.int .i64 (c : Nat)])) : OwnI w B T v (cs ++ [c]) := by
  unfold OwnI
  rw [List.length_append, nums_app]
  exact h
theorem info_of {P : Program} {T : TypeId} {z : Value} {s b : Nat} (h : (P.info? T).map (fun i => (i.zero, i.size, i.bytes)) = some (some z, s, b)) : ∃ i, P.info? T = some i ∧ i.zero = some z ∧ i.size = s ∧ i.bytes = b := by
  obtain ⟨i, h1, h2⟩ := Option.map_eq_some_iff.1 h
  simp only [Prod.mk.injEq] at h2
  exact ⟨i, h1, h2.1, h2.2.1, h2.2.2⟩
/-- Two lists of as many members, that are the same each, are the same. -/
theorem same_of {a b : List Nat} (hl : a.length = b.length) (h : ∀ i, i < a.length → a.getD i 0 = b.getD i 0) : a = b := by
  apply List.ext_getElem hl
  intro i h1 h2
  have := h i h1
  simpa [List.getD, List.getElem?_eq_getElem h1, List.getElem?_eq_getElem h2] using this
end K
end Go.Proofs.YtkobjbmjefkmgaaDoor
