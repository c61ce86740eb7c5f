/- Lists of structs as rows of cells: as a call makes them, what keeps them, one more. Of no program. -/
import Derived.Test.YtmhmipbbbccfgaaLib
import Derived.Test.YtmhmipbbbccfgaaRow
import Derived.Below
import Derived.Laws.OwnMore
import Derived.Laws.AppendOwn
import Derived.Deep.AppendLies
import Derived.Deep.Onto
namespace Go.Proofs.Ytmhmipbbbccfgaa
open Go.RowKit
set_option linter.unusedVariables false
namespace K

/-- Rows of c cells each. -/
def RowsC (c : Nat) (rows : List (List Value)) : Prop := ∀ r ∈ rows, r.length = c
theorem flat_len {c : Nat} : ∀ {rows : List (List Value)}, RowsC c rows → rows.flatten.length = rows.length * c
  | [], _ => by simp
  | r :: rs, h => by
    rw [List.flatten_cons, List.length_append, h r (by simp), flat_len (rows := rs) (fun x hx => h x (by simp [hx])), List.length_cons]
    rw [Nat.add_mul]; omega
theorem flat_get {c : Nat} : ∀ {rows : List (List Value)} (i j : Nat), RowsC c rows → i < rows.length → j < c → rows.flatten[i * c + j]? = (rows.getD i [])[j]?
  | [], i, j, _, h, _ => by simp at h
  | r :: rs, 0, j, hc, _, hj => by
    rw [List.flatten_cons, Nat.zero_mul, Nat.zero_add, List.getElem?_append_left (by rw [hc r (by simp)]; exact hj)]; rfl
  | r :: rs, i + 1, j, hc, h, hj => by
    have hr := hc r (by simp)
    have ih := flat_get (rows := rs) i j (fun x hx => hc x (by simp [hx])) (by simpa using h) hj
    rw [List.flatten_cons, List.getElem?_append_right (by rw [hr, Nat.add_mul]; omega), hr, show (i + 1) * c + j - c = i * c + j by rw [Nat.add_mul]; omega, ih]
    simp [List.getD]
/-- A slice that reads as these rows, in a block of this type. -/
def RdRw (w : World) (T : TypeId) (c : Nat) (ao : Option Addr) (rows : List (List Value)) : Prop :=
  rows.length = 0 ∨ ∃ g o, ao = some ⟨g, o, none⟩ ∧ (∃ cs fr, w.heap[g]? = some (.cells cs T fr)) ∧ ∀ i, i < rows.length → ∀ j, j < c → w.cell? ⟨g, o + i * c + j, none⟩ = (rows.getD i [])[j]?
theorem RdRw.keep {w w' : World} {T : TypeId} {c : Nat} {ao : Option Addr} {rows : List (List Value)} (h : RdRw w T c ao rows) (k : ∀ g cs fr, w.heap[g]? = some (.cells cs T fr) → (∃ a, ao = some a ∧ a.block = g) → w'.heap[g]? = w.heap[g]?) : RdRw w' T c ao rows := by
  rcases h with h | ⟨g, o, ha, ⟨cs, fr, hb⟩, hc⟩
  · exact .inl h
  · have e := k g cs fr hb ⟨_, ha, rfl⟩
    exact .inr ⟨g, o, ha, ⟨cs, fr, e.trans hb⟩, fun i hi j hj => (World.cell?_of_block (a := ⟨g, o + i * c + j, none⟩) e).trans (hc i hi j hj)⟩
theorem RdRw.kp {w w' : World} {T : TypeId} {c : Nat} {ao : Option Addr} {rows : List (List Value)} (h : RdRw w T c ao rows) {S : List Nat} (k : Kp S w w') (hS : ∀ x ∈ S, ∀ cs fr, w.heap[x]? ≠ some (.cells cs T fr)) : RdRw w' T c ao rows :=
  h.keep fun g cs fr hb _ => k.block g (lt_of_block hb) (fun hm => hS g hm cs fr hb)
theorem RdRw.below {w w' : World} {T : TypeId} {c : Nat} {ao : Option Addr} {rows : List (List Value)} (h : RdRw w T c ao rows) (k : Below w.heap.size w w') : RdRw w' T c ao rows :=
  h.keep fun g cs fr hb _ => k.block g (lt_of_block hb)
/-- Another type's block grown, or set. -/
theorem RdRw.grown {w w' : World} {T U : TypeId} {c n : Nat} {ao : Option Addr} {rows : List (List Value)} (h : RdRw w T c ao rows) {B m : Nat} {v : Value} {xs : List Value} (k : w.grownBy w' v.ownBlock) (ho : w.ownsRow B U n v m xs) (hT : T ≠ U) : RdRw w' T c ao rows :=
  h.keep fun g cs fr hb _ => k.block g (lt_of_block hb) (fun e => by
    rcases ho.2 with ⟨rfl, _⟩ | ⟨g', cap, cur, rfl, _, hg, _⟩
    · simp [Value.ownBlock] at e
    · simp [Value.ownBlock] at e
      subst e
      rw [hb] at hg
      injection hg with hg
      injection hg with _ hg
      exact hT hg)
theorem RdRw.set {w : World} {T U : TypeId} {c : Nat} {ao : Option Addr} {rows : List (List Value)} (h : RdRw w T c ao rows) {r : Nat} {cs : Array Value} {fr : Nat × Nat} (hr : w.heap[r]? = some (.cells cs U fr)) (hT : T ≠ U) (i : Nat) (u : Value) : RdRw (w.setCell ⟨r, i, none⟩ u) T c ao rows :=
  h.keep fun g ds fs hb _ => Below.heap_setCell _ _ _ _ (fun e => by
    have e' : g = r := e
    subst e'
    rw [hb] at hr
    injection hr with hr
    injection hr with _ hr
    exact hT hr)
/-- A slice that the call made itself, behind block B, of these rows. -/
def OwnR (w : World) (B : Nat) (T : TypeId) (c : Nat) (v : Value) (rows : List (List Value)) : Prop := w.ownsRow B T c v rows.length rows.flatten ∧ RowsC c rows
theorem OwnR.nil (w : World) (B : Nat) (T : TypeId) (c : Nat) : OwnR w B T c (.slice none 0 0) [] := ⟨World.ownsRow_nil w B T c, fun r hr => by simp at hr⟩
theorem OwnR.keep {w w' : World} {B : Nat} {T : TypeId} {c : Nat} {v : Value} {rows : List (List Value)} (h : OwnR w B T c v rows) (k : ∀ g cs fr, w.heap[g]? = some (.cells cs T fr) → v.ownBlock = some g → w'.heap[g]? = w.heap[g]?) : OwnR w' B T c v rows := by
  refine ⟨⟨h.1.1, ?_⟩, h.2⟩
  rcases h.1.2 with hn | ⟨g, cap, cur, h1, h2, h3, h4⟩
  · exact .inl hn
  · exact .inr ⟨g, cap, cur, h1, h2, (k g cur _ h3 (by rw [h1]; rfl)).trans h3, h4⟩
theorem OwnR.kp {w w' : World} {B : Nat} {T : TypeId} {c : Nat} {v : Value} {rows : List (List Value)} (h : OwnR w B T c v rows) {S : List Nat} (k : Kp S w w') (hS : ∀ x ∈ S, ∀ cs fr, w.heap[x]? ≠ some (.cells cs T fr)) : OwnR w' B T c v rows :=
  h.keep fun g cs fr hb _ => k.block g (lt_of_block hb) (fun hm => hS g hm cs fr hb)
theorem OwnR.below {w w' : World} {B : Nat} {T : TypeId} {c : Nat} {v : Value} {rows : List (List Value)} (h : OwnR w B T c v rows) (k : Below w.heap.size w w') : OwnR w' B T c v rows :=
  h.keep fun g cs fr hb _ => k.block g (lt_of_block hb)
theorem OwnR.mono {w : World} {B B' : Nat} {T : TypeId} {c : Nat} {v : Value} {rows : List (List Value)} (h : OwnR w B T c v rows) (hb : B' ≤ B) : OwnR w B' T c v rows := ⟨World.ownsRow.mono h.1 hb, h.2⟩
theorem OwnR.set {w : World} {B : Nat} {T U : TypeId} {c : Nat} {v : Value} {rows : List (List Value)} (h : OwnR w B T c v rows) {r : Nat} {cs : Array Value} {fr : Nat × Nat} (hr : w.heap[r]? = some (.cells cs U fr)) (hT : T ≠ U) (i : Nat) (u : Value) : OwnR (w.setCell ⟨r, i, none⟩ u) B T c v rows :=
  h.keep fun g ds fs hb _ => Below.heap_setCell _ _ _ _ (fun e => by
    have e' : g = r := e
    subst e'
    rw [hb] at hr
    injection hr with hr
    injection hr with _ hr
    exact hT hr)
theorem OwnR.grown {w w' : World} {B B' : Nat} {T U : TypeId} {c n m : Nat} {v u : Value} {rows : List (List Value)} {xs : List Value} (h : OwnR w B T c v rows) (k : w.grownBy w' u.ownBlock) (ho : w.ownsRow B' U n u m xs) (hT : T ≠ U) : OwnR w' B T c v rows :=
  h.keep fun g cs fr hb _ => k.block g (lt_of_block hb) (fun e => by
    rcases ho.2 with ⟨rfl, _⟩ | ⟨g', cap, cur, rfl, _, hg, _⟩
    · simp [Value.ownBlock] at e
    · simp [Value.ownBlock] at e
      subst e
      rw [hb] at hg
      injection hg with hg
      injection hg with _ hg
      exact hT hg)
/-- Its shape: where it lies, and its cells. -/
theorem OwnR.form {w : World} {B : Nat} {T : TypeId} {c : Nat} {v : Value} {rows : List (List Value)} (h : OwnR w B T c v rows) (hc : 0 < c) : ∃ ao cap, v = .slice ao rows.length cap ∧ rows.length ≤ cap ∧ RdRw w T c ao rows ∧ ((ao = none ∧ rows.length = 0 ∧ cap = 0) ∨ ∃ g, ao = some ⟨g, 0, none⟩ ∧ B ≤ g) := by
  rcases h.1.2 with ⟨hv, h0⟩ | ⟨g, cap, cur, hv, hB, hh, hle, hm, hs, ht⟩
  · exact ⟨none, 0, by rw [hv, h0], by omega, .inl h0, .inl ⟨rfl, h0, rfl⟩⟩
  · refine ⟨some ⟨g, 0, none⟩, cap, hv, hle, .inr ⟨g, 0, rfl, ⟨cur, _, hh⟩, fun i hi j hj => ?_⟩, .inr ⟨g, rfl, hB⟩⟩
    have hlt : i * c + j < rows.length * c := by
      have : (i + 1) * c ≤ rows.length * c := Nat.mul_le_mul_right c hi
      rw [Nat.add_mul] at this
      omega
    rw [Nat.zero_add, cellRow hh, ← Array.getElem?_toList, ← flat_get i j h.2 hi hj, ← ht, List.getElem?_take_of_lt hlt]
section
variable {P : Program} {Q : Exit → Act → World → Prop}
/-- One row more. -/
theorem appRw {o : Oper} {a : Act} {K : Act → World → Prop} {W : World} {s x : Operand} {TS T : TypeId} {c bytes : Nat} {z : Value} (ho : o.op = .call { callee := .builtin .append, args := #[s, x], argTypes := #[TS, TS] }) (hu : P.underlying TS = some (.slice T))
    (hi : (P.info? T).map (fun i => (i.zero, i.size, i.bytes)) = some (some z, c, bytes)) (hz : z.cells.size = c) (hc : 0 < c) (hby : bytes ≤ 1000) (v : Value) (hs : a.eval s = v) {B : Nat} {rows : List (List Value)} (hO : OwnR W B T c v rows) (km : Nat) (row : List Value)
    (hx : a.eval x = .slice (some ⟨km, 0, none⟩) 1 1) {cs : Array Value} {fr : Nat × Nat} (hm : W.heap[km]? = some (.cells cs T (0, 0))) (hcs : cs.toList = row) (hrow : row.length = c) (h1 : ∀ u ∈ row, u.oneCell' = true) (hn : rows.length ≤ 1000000) (hB : B ≤ W.heap.size)
    (h : ∀ v' w', OwnR w' B T c v' (rows ++ [row]) → W.grownBy w' v.ownBlock → K (a.put o.dst v') w') : o.wp P a W K Q := by
  obtain ⟨i0, hi0, hz0, hz1, hz2⟩ := info_of hi
  refine wp_append_own W s x TS ho B T i0 z c bytes hu hi0 hz0 hz1 hz2 hz hc v rows.length rows.flatten hs hO.1 ⟨km, 0, none⟩ 1 1 row hx (by rw [hrow]; omega) ?_ h1 (by unfold maxLen; omega) ?_ hB ?_
  · intro j u hj
    have ha : (⟨km, 0, none⟩ : Addr).add j = ⟨km, j, none⟩ := by
      by_cases hj0 : j = 0
      · subst hj0; simp [Addr.add]
      · simp [Addr.add, hj0]
    rw [ha, cellRow hm j, ← Array.getElem?_toList, hcs]
    exact hj
  · have : (rows.length + 1) * bytes ≤ 1000001 * 1000 := Nat.mul_le_mul (by omega) hby
    omega
  · intro v' w' hown hg _
    refine h v' w' ⟨?_, fun r hr => ?_⟩ hg
    · rw [List.length_append, List.flatten_append]
      simpa using hown
    · rcases List.mem_append.1 hr with hr | hr
      · exact hO.2 r hr
      · rw [List.mem_singleton.1 hr]; exact hrow
theorem appRwL {ops : Array Oper} {rest : List Oper} {o : Oper} {a : Act} {W : World} {s x : Operand} {TS T : TypeId} {c bytes : Nat} {z : Value} (hgd : o.guard = none) (ho : o.op = .call { callee := .builtin .append, args := #[s, x], argTypes := #[TS, TS] }) (hu : P.underlying TS = some (.slice T))
    (hi : (P.info? T).map (fun i => (i.zero, i.size, i.bytes)) = some (some z, c, bytes)) (hz : z.cells.size = c) (hc : 0 < c) (hby : bytes ≤ 1000) (v : Value) (hs : a.eval s = v) {B : Nat} {rows : List (List Value)} (hO : OwnR W B T c v rows) (km : Nat) (row : List Value)
    (hx : a.eval x = .slice (some ⟨km, 0, none⟩) 1 1) {cs : Array Value} (hm : W.heap[km]? = some (.cells cs T (0, 0))) (hcs : cs.toList = row) (hrow : row.length = c) (h1 : ∀ u ∈ row, u.oneCell' = true) (hn : rows.length ≤ 1000000) (hB : B ≤ W.heap.size)
    (h : ∀ v' w', OwnR w' B T c v' (rows ++ [row]) → W.grownBy w' v.ownBlock → wpList P ops Q rest (a.put o.dst v') w') : wpList P ops Q (o :: rest) a W :=
  wpList_plain hgd fun K hK => appRw (fr := (0, 0)) ho hu hi hz hc hby v hs hO km row hx hm hcs hrow h1 hn hB fun v' w' h2 h3 => hK _ _ (h v' w' h2 h3)
end
end K
end Go.Proofs.Ytmhmipbbbccfgaa
