/- A list of pairs (a number, a text) that a call made itself: its cells, and what keeps them. Of no program. -/
import Derived.Test.YtepgkoafjeacnaaLib
import Derived.Below
import Derived.Laws.OwnMore
import Derived.Laws.AppendOwn
import Derived.Deep.Onto
namespace Go.Proofs.Ytepgkoafjeacnaa
open Go.RowKit
namespace K

def pairs (ps : List (Nat × List UInt8)) : List Value := ps.flatMap fun p => [Value.int .i64 (p.1 : Nat), Value.string (bs p.2)]
theorem pairs_app (a b : List (Nat × List UInt8)) : pairs (a ++ b) = pairs a ++ pairs b := by simp [pairs]
theorem pairs_len (ps : List (Nat × List UInt8)) : (pairs ps).length = ps.length * 2 := by
  induction ps with
  | nil => rfl
  | cons p ps ih =>
    show ([Value.int .i64 (p.1 : Nat), Value.string (bs p.2)] ++ pairs ps).length = _
    rw [List.length_append, ih, List.length_cons]; simp; omega
theorem pairs_get : ∀ (ps : List (Nat × List UInt8)) (i : Nat), i < ps.length → (pairs ps)[i * 2]? = some (.int .i64 ((ps.getD i (0, [])).1 : Nat)) ∧ (pairs ps)[i * 2 + 1]? = some (.string (bs (ps.getD i (0, [])).2))
  | [], i, h => by simp at h
  | p :: ps, 0, _ => by constructor <;> rfl
  | p :: ps, i + 1, h => by
    have := pairs_get ps i (by simpa using h)
    have e : pairs (p :: ps) = Value.int .i64 (p.1 : Nat) :: Value.string (bs p.2) :: pairs ps := rfl
    rw [e, show (i + 1) * 2 = i * 2 + 1 + 1 by omega]
    simpa [List.getD] using this
/-- A slice that the call made itself, behind block B, of these pairs; T is the type of its elements. -/
def OwnP (w : World) (B : Nat) (T : TypeId) (v : Value) (ps : List (Nat × List UInt8)) : Prop := w.ownsRow B T 2 v ps.length (pairs ps)
theorem OwnP.nil (w : World) (B : Nat) (T : TypeId) : OwnP w B T (.slice none 0 0) [] := World.ownsRow_nil w B T 2
theorem OwnP.below {w w' : World} {B : Nat} {T : TypeId} {v : Value} {ps : List (Nat × List UInt8)} (h : OwnP w B T v ps) (k : Below w.heap.size w w') : OwnP w' B T v ps := by
  refine ⟨h.1, ?_⟩
  rcases h.2 with hn | ⟨g, cap, cur, h1, h2, h3, h4⟩
  · exact .inl hn
  · exact .inr ⟨g, cap, cur, h1, h2, (k.block g (lt_of_block h3)).trans h3, h4⟩
theorem OwnP.mono {w : World} {B B' : Nat} {T : TypeId} {v : Value} {ps : List (Nat × List UInt8)} (h : OwnP w B T v ps) (hb : B' ≤ B) : OwnP w B' T v ps := World.ownsRow.mono h hb
theorem OwnP.form {w : World} {B : Nat} {T : TypeId} {v : Value} {ps : List (Nat × List UInt8)} (h : OwnP w B T v ps) :
    ∃ ao cap, v = .slice ao ps.length cap ∧ (ps.length = 0 ∨ ∃ g, ao = some ⟨g, 0, none⟩ ∧ B ≤ g ∧ g < w.heap.size ∧
      ∀ i, i < ps.length → w.cell? ⟨g, i * 2, none⟩ = some (.int .i64 ((ps.getD i (0, [])).1 : Nat)) ∧ w.cell? ⟨g, i * 2 + 1, none⟩ = some (.string (bs (ps.getD i (0, [])).2))) := by
  rcases h.2 with ⟨hv, h0⟩ | ⟨g, cap, cur, hv, hB, hh, hle, hm, hs, ht⟩
  · exact ⟨none, 0, by rw [hv, h0], .inl h0⟩
  · refine ⟨some ⟨g, 0, none⟩, cap, hv, .inr ⟨g, rfl, hB, lt_of_block hh, fun i hi => ?_⟩⟩
    obtain ⟨p1, p2⟩ := pairs_get ps i hi
    rw [cellRow hh, cellRow hh, ← Array.getElem?_toList, ← Array.getElem?_toList, ← p1, ← p2, ← ht]
    rw [List.getElem?_take_of_lt (by omega), List.getElem?_take_of_lt (by omega)]
    exact ⟨rfl, rfl⟩
theorem OwnP.put {w : World} {B : Nat} {T : TypeId} {v : Value} {ps : List (Nat × List UInt8)} {t : Nat} {b : List UInt8} (h : w.ownsRow B T 2 v (ps.length + 1) (pairs ps ++ [.int .i64 (t : Nat), .string (bs b)])) : OwnP w B T v (ps ++ [(t, b)]) := by
  unfold OwnP
  rw [List.length_append, pairs_app]
  exact h
end K
end Go.Proofs.Ytepgkoafjeacnaa
