/- A list of texts that a call made itself, in a block that is known: cells, a shorter slice of it, a member that is turned. Of no program. -/
import Derived.Test.YtepgkoafjeacnaaLib
import Derived.Below
import Derived.Laws.OwnMore
import Derived.Laws.AppendOwn
namespace Go.Proofs.Ytepgkoafjeacnaa
open Go.RowKit
namespace K

def strs (ss : List (List UInt8)) : List Value := ss.map fun s => Value.string (bs s)
theorem strs_len (ss : List (List UInt8)) : (strs ss).length = ss.length := by simp [strs]
theorem strs_app (a b : List (List UInt8)) : strs (a ++ b) = strs a ++ strs b := by simp [strs]
/-- Block g, behind B, begins with these texts; T is the type of its elements. -/
def StkAt (w : World) (B : Nat) (T : TypeId) (g cap : Nat) (ss : List (List UInt8)) : Prop :=
  B ≤ g ∧ ss.length ≤ cap ∧ cap ≤ maxLen ∧ ∃ C, w.heap[g]? = some (.cells C T (0, 0)) ∧ C.size = cap ∧ C.toList.take ss.length = strs ss
section
variable {w w' : World} {B : Nat} {T : TypeId} {g cap : Nat} {ss : List (List UInt8)}
theorem StkAt.lt (h : StkAt w B T g cap ss) : g < w.heap.size := by
  obtain ⟨_, _, _, C, hC, _⟩ := h
  exact lt_of_block hC
theorem StkAt.cell (h : StkAt w B T g cap ss) (i : Nat) (hi : i < ss.length) : w.cell? ⟨g, i, none⟩ = some (.string (bs (ss.getD i []))) := by
  obtain ⟨_, _, _, C, hC, _, ht⟩ := h
  rw [cellRow hC, ← Array.getElem?_toList]
  have h1 := congrArg (fun x : List Value => x[i]?) ht
  rw [List.getElem?_take_of_lt hi] at h1
  rw [h1]
  simp [strs, List.getD, List.getElem?_eq_getElem hi]
theorem StkAt.free (h : StkAt w B T g cap ss) (i : Nat) : w.frozen? ⟨g, i, none⟩ = false := by
  obtain ⟨_, _, _, C, hC, _⟩ := h
  exact freeRow hC i
theorem StkAt.below (h : StkAt w B T g cap ss) (k : Below w.heap.size w w') : StkAt w' B T g cap ss := by
  obtain ⟨h1, h2, h3, C, hC, h4⟩ := h
  exact ⟨h1, h2, h3, C, (k.block g (lt_of_block hC)).trans hC, h4⟩
theorem StkAt.cut {a b : List (List UInt8)} (h : StkAt w B T g cap (a ++ b)) : StkAt w B T g cap a := by
  obtain ⟨h1, h2, h3, C, hC, h4, h5⟩ := h
  rw [List.length_append] at h2
  refine ⟨h1, by omega, h3, C, hC, h4, ?_⟩
  have h6 := congrArg (List.take a.length) h5
  rw [List.take_take, List.length_append, Nat.min_eq_left (by omega), strs_app, List.take_append_of_le_length (by rw [strs_len]; omega), List.take_of_length_le (l := strs a) (by rw [strs_len]; omega)] at h6
  exact h6
theorem StkAt.set (h : StkAt w B T g cap ss) (i : Nat) (s : List UInt8) : StkAt (w.setCell ⟨g, i, none⟩ (.string (bs s))) B T g cap (ss.set i s) := by
  obtain ⟨h1, h2, h3, C, hC, h4, h5⟩ := h
  refine ⟨h1, by rw [List.length_set]; exact h2, h3, _, rowSet hC i _, by rw [Array.size_setIfInBounds]; exact h4, ?_⟩
  rw [Array.toList_setIfInBounds, List.length_set, List.take_set, h5]
  unfold strs
  rw [List.map_set]
theorem StkAt.own (h : StkAt w B T g cap ss) : w.ownsRow B T 1 (.slice (some ⟨g, 0, none⟩) ss.length cap) ss.length (strs ss) := by
  obtain ⟨h1, h2, h3, C, hC, h4, h5⟩ := h
  exact ⟨by rw [strs_len]; omega, .inr ⟨g, cap, C, rfl, h1, hC, h2, h3, by omega, by rw [Nat.mul_one]; exact h5⟩⟩
theorem StkAt.ofOwn {v : Value} {n : Nat} (hn : n = ss.length) (h0 : 0 < ss.length) (h : w.ownsRow B T 1 v n (strs ss)) : ∃ g cap, v = .slice (some ⟨g, 0, none⟩) ss.length cap ∧ StkAt w B T g cap ss := by
  subst hn
  rcases h.2 with ⟨_, hz⟩ | ⟨g, cap, C, hv, h1, hC, h2, h3, h4, h5⟩
  · omega
  · exact ⟨g, cap, hv, h1, h2, h3, C, hC, by omega, by rw [Nat.mul_one] at h5; exact h5⟩
theorem StkAt.new (w : World) (B : Nat) (T : TypeId) (s : List UInt8) (hB : B ≤ w.heap.size) : StkAt (w.alloc (.cells #[.string (bs s)] T)) B T w.heap.size 1 [s] :=
  ⟨hB, Nat.le_refl _, by unfold maxLen; omega, _, rowNew w _, rfl, rfl⟩
end
end K
end Go.Proofs.Ytepgkoafjeacnaa
