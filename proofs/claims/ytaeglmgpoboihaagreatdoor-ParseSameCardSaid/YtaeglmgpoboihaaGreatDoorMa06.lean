/- Texts on the program and on the document, joined: ParE, ParF, ParG, ParH, Rws, ParL, StpD. -/
import Derived.Test.YtaeglmgpoboihaaGreatDoorMa05
import Derived.Test.YtaeglmgpoboihaaGreatDoorMa01
import Derived.Test.YtaeglmgpoboihaaGreatDoorMa03
import Derived.Below
import Derived.Laws.OwnMore
import Derived.Laws.AppendOwn
import Derived.Deep.AppendLies
import Derived.Deep.Onto
import Derived.Test.YtaeglmgpoboihaaGreatDoorMa02
import Derived.Test.YtaeglmgpoboihaaGreatDoorShelf
import Derived.Deep.LoopGhost
import Derived.Laws.Rows
/- The document's reader of rules: number, span, walked. gen_pare.py writes it. -/
namespace Go.Proofs.YtaeglmgpoboihaaGreatDoor
open Go.ChangeShapes Go.WideShapes Go.ChangeAt Go.RowKit K L15 S3
open L14 (Tk)
set_option linter.unusedVariables false

theorem ok_long {x : List UInt8} (h : 6 < x.length) : numOk x = false := by unfold numOk; rw [show decide (x.length ≤ 6) = false by rw [decide_eq_false_iff_not]; omega]; simp
theorem ok_neg {x : List UInt8} (h : numI x < 0) : numOk x = false := by unfold numOk; rw [show decide (0 ≤ numI x) = false by rw [decide_eq_false_iff_not]; omega]; rfl
theorem ok_zero : numOk [48] = true := by decide +kernel
theorem ok_first {x : List UInt8} (h : 0 ≤ numI x) (h6 : x.length ≤ 6) (h2 : byt x 0 ≠ 48) : numOk x = true := by unfold numOk; simp [h, h6, h2]
theorem ok_lead {x : List UInt8} (h2 : byt x 0 = 48) (h3 : x ≠ [48]) : numOk x = false := by unfold numOk; simp [h2, h3]
theorem numI_pos {x : List UInt8} (h : 0 ≤ numI x) : 0 < x.length := by
  cases x with
  | nil => exact absurd h (by decide)
  | cons _ _ => simp
end Go.Proofs.YtaeglmgpoboihaaGreatDoor
/- The document's reader of rules: span, walked. -/
namespace Go.Proofs.YtaeglmgpoboihaaGreatDoor
open Go.ChangeShapes Go.WideShapes Go.ChangeAt Go.RowKit K L15 S3
open L14 (Tk)
set_option linter.unusedVariables false

theorem spanQ_no {T : List Tk} {last : Nat} {s : Pi} (h : at_ T s 2 [] = false) : span T last s = (0, fail T last s) := by unfold span; rw [h]; rfl
theorem spanQ_bad {T : List Tk} {last : Nat} {s : Pi} (h : spC (txt T s) ≠ 0) : span T last s = (0, fail T last s) := by unfold span; simp [h]
theorem spanQ_ok {T : List Tk} {last : Nat} {s : Pi} (h : at_ T s 2 [] = true) (h2 : spC (txt T s) = 0) : span T last s = (spV (txt T s), nx s) := by unfold span; rw [h, h2]; rfl
end Go.Proofs.YtaeglmgpoboihaaGreatDoor
/- The document's reader of rules: piece, test, walked. -/
namespace Go.Proofs.YtaeglmgpoboihaaGreatDoor
open Go.ChangeShapes Go.WideShapes Go.ChangeAt Go.RowKit K L15 S3
open L14 (Tk)
set_option linter.unusedVariables false

def pieceC (x : Pc) : Array Value := #[.int .i64 x.k, .string (bs x.t), .string (bs x.b)]
theorem kp_row15 {w w' : World} {b r : Nat} (k : Kp [b] w w') {o : Obj} (h : w.heap[r]? = some o) (hr : r ≠ b) : w'.heap[r]? = some o := k.heap h (by simp; exact hr)
end Go.Proofs.YtaeglmgpoboihaaGreatDoor
/- The document's reader of rules: at and isText once more, as steps. -/
namespace Go.Proofs.YtaeglmgpoboihaaGreatDoor
open Go.ChangeShapes Go.WideShapes Go.ChangeAt Go.RowKit K L15 S3
open L14 (Tk)
set_option linter.unusedVariables false

theorem hs_ne {T U : TypeId} {w : World} {r v : Nat} {c d : Array Value} {p q : Nat × Nat} (h1 : w.heap[r]? = some (.cells c T p)) (h2 : w.heap[v]? = some (.cells d U q)) (h : T ≠ U) : r ≠ v := by
  intro e
  subst e
  rw [h1] at h2
  injection h2 with h2
  injection h2 with _ h2
  exact h h2
theorem row_to {w : World} {r : Nat} {A B : Array Value} {T : TypeId} {fr : Nat × Nat} (h : w.heap[r]? = some (.cells A T fr)) (e : A = B) : w.heap[r]? = some (.cells B T fr) := by rw [← e]; exact h
end Go.Proofs.YtaeglmgpoboihaaGreatDoor
/- Lists of structs as rows of cells: as a call makes them, what keeps them, one more. Of no program. -/
namespace Go.Proofs.YtaeglmgpoboihaaGreatDoor
open Go.RowKit
set_option linter.unusedVariables false
namespace K

/-- Rows of c cells each. -/
def RowsC (c : Nat) (rows : List (List Value)) : Prop := ∀ r ∈ rows, r.length = c
theorem flat_len {c : Nat} : ∀ {rows : List (List Value)}, RowsC c rows → rows.flatten.length = rows.length * c
  | [], _ => by simp
  | r :: rs, h => by
    rw [List.flatten_cons, List.length_append, h r (by simp), flat_len (rows := rs) (fun x hx => h x (by simp [hx])), List.length_cons]
    rw [Nat.add_mul]; omega
theorem flat_get {c : Nat} : ∀ {rows : List (List Value)} (i j : Nat), RowsC c rows → i < rows.length → j < c → rows.flatten[i * c + j]? = (rows.getD i [])[j]?
  | [], i, j, _, h, _ => by simp at h
  | r :: rs, 0, j, hc, _, hj => by
    rw [List.flatten_cons, Nat.zero_mul, Nat.zero_add, List.getElem?_append_left (by rw [hc r (by simp)]; exact hj)]; rfl
  | r :: rs, i + 1, j, hc, h, hj => by
    have hr := hc r (by simp)
    have ih := flat_get (rows := rs) i j (fun x hx => hc x (by simp [hx])) (by simpa using h) hj
    rw [List.flatten_cons, List.getElem?_append_right (by rw [hr, Nat.add_mul]; omega), hr, show (i + 1) * c + j - c = i * c + j by rw [Nat.add_mul]; omega, ih]
    simp [List.getD]
/-- A slice that reads as these rows, in a block of this type. -/
def RdRw (w : World) (T : TypeId) (c : Nat) (ao : Option Addr) (rows : List (List Value)) : Prop :=
  rows.length = 0 ∨ ∃ g o, ao = some ⟨g, o, none⟩ ∧ (∃ cs fr, w.heap[g]? = some (.cells cs T fr)) ∧ ∀ i, i < rows.length → ∀ j, j < c → w.cell? ⟨g, o + i * c + j, none⟩ = (rows.getD i [])[j]?
theorem RdRw.keep {w w' : World} {T : TypeId} {c : Nat} {ao : Option Addr} {rows : List (List Value)} (h : RdRw w T c ao rows) (k : ∀ g cs fr, w.heap[g]? = some (.cells cs T fr) → (∃ a, ao = some a ∧ a.block = g) → w'.heap[g]? = w.heap[g]?) : RdRw w' T c ao rows := by
  rcases h with h | ⟨g, o, ha, ⟨cs, fr, hb⟩, hc⟩
  · exact .inl h
  · have e := k g cs fr hb ⟨_, ha, rfl⟩
    exact .inr ⟨g, o, ha, ⟨cs, fr, e.trans hb⟩, fun i hi j hj => (World.cell?_of_block (a := ⟨g, o + i * c + j, none⟩) e).trans (hc i hi j hj)⟩
theorem RdRw.kp {w w' : World} {T : TypeId} {c : Nat} {ao : Option Addr} {rows : List (List Value)} (h : RdRw w T c ao rows) {S : List Nat} (k : Kp S w w') (hS : ∀ x ∈ S, ∀ cs fr, w.heap[x]? ≠ some (.cells cs T fr)) : RdRw w' T c ao rows :=
  h.keep fun g cs fr hb _ => k.block g (lt_of_block hb) (fun hm => hS g hm cs fr hb)
theorem RdRw.below {w w' : World} {T : TypeId} {c : Nat} {ao : Option Addr} {rows : List (List Value)} (h : RdRw w T c ao rows) (k : Below w.heap.size w w') : RdRw w' T c ao rows :=
  h.keep fun g cs fr hb _ => k.block g (lt_of_block hb)
/-- Another type's block grown, or set. -/
theorem RdRw.grown {w w' : World} {T U : TypeId} {c n : Nat} {ao : Option Addr} {rows : List (List Value)} (h : RdRw w T c ao rows) {B m : Nat} {v : Value} {xs : List Value} (k : w.grownBy w' v.ownBlock) (ho : w.ownsRow B U n v m xs) (hT : T ≠ U) : RdRw w' T c ao rows :=
  h.keep fun g cs fr hb _ => k.block g (lt_of_block hb) (fun e => by
    rcases ho.2 with ⟨rfl, _⟩ | ⟨g', cap, cur, rfl, _, hg, _⟩
    · simp [Value.ownBlock] at e
    · simp [Value.ownBlock] at e
      subst e
      rw [hb] at hg
      injection hg with hg
      injection hg with _ hg
      exact hT hg)
theorem RdRw.set {w : World} {T U : TypeId} {c : Nat} {ao : Option Addr} {rows : List (List Value)} (h : RdRw w T c ao rows) {r : Nat} {cs : Array Value} {fr : Nat × Nat} (hr : w.heap[r]? = some (.cells cs U fr)) (hT : T ≠ U) (i : Nat) (u : Value) : RdRw (w.setCell ⟨r, i, none⟩ u) T c ao rows :=
  h.keep fun g ds fs hb _ => Below.heap_setCell _ _ _ _ (fun e => by
    have e' : g = r := e
    subst e'
    rw [hb] at hr
    injection hr with hr
    injection hr with _ hr
    exact hT hr)
/-- A slice that the call made itself, behind block B, of these rows. -/
def OwnR (w : World) (B : Nat) (T : TypeId) (c : Nat) (v : Value) (rows : List (List Value)) : Prop := w.ownsRow B T c v rows.length rows.flatten ∧ RowsC c rows
theorem OwnR.nil (w : World) (B : Nat) (T : TypeId) (c : Nat) : OwnR w B T c (.slice none 0 0) [] := ⟨World.ownsRow_nil w B T c, fun r hr => by simp at hr⟩
theorem OwnR.keep {w w' : World} {B : Nat} {T : TypeId} {c : Nat} {v : Value} {rows : List (List Value)} (h : OwnR w B T c v rows) (k : ∀ g cs fr, w.heap[g]? = some (.cells cs T fr) → v.ownBlock = some g → w'.heap[g]? = w.heap[g]?) : OwnR w' B T c v rows := by
  refine ⟨⟨h.1.1, ?_⟩, h.2⟩
  rcases h.1.2 with hn | ⟨g, cap, cur, h1, h2, h3, h4⟩
  · exact .inl hn
  · exact .inr ⟨g, cap, cur, h1, h2, (k g cur _ h3 (by rw [h1]; rfl)).trans h3, h4⟩
theorem OwnR.kp {w w' : World} {B : Nat} {T : TypeId} {c : Nat} {v : Value} {rows : List (List Value)} (h : OwnR w B T c v rows) {S : List Nat} (k : Kp S w w') (hS : ∀ x ∈ S, ∀ cs fr, w.heap[x]? ≠ some (.cells cs T fr)) : OwnR w' B T c v rows :=
  h.keep fun g cs fr hb _ => k.block g (lt_of_block hb) (fun hm => hS g hm cs fr hb)
theorem OwnR.below {w w' : World} {B : Nat} {T : TypeId} {c : Nat} {v : Value} {rows : List (List Value)} (h : OwnR w B T c v rows) (k : Below w.heap.size w w') : OwnR w' B T c v rows :=
  h.keep fun g cs fr hb _ => k.block g (lt_of_block hb)
theorem OwnR.mono {w : World} {B B' : Nat} {T : TypeId} {c : Nat} {v : Value} {rows : List (List Value)} (h : OwnR w B T c v rows) (hb : B' ≤ B) : OwnR w B' T c v rows := ⟨World.ownsRow.mono h.1 hb, h.2⟩
theorem OwnR.set {w : World} {B : Nat} {T U : TypeId} {c : Nat} {v : Value} {rows : List (List Value)} (h : OwnR w B T c v rows) {r : Nat} {cs : Array Value} {fr : Nat × Nat} (hr : w.heap[r]? = some (.cells cs U fr)) (hT : T ≠ U) (i : Nat) (u : Value) : OwnR (w.setCell ⟨r, i, none⟩ u) B T c v rows :=
  h.keep fun g ds fs hb _ => Below.heap_setCell _ _ _ _ (fun e => by
    have e' : g = r := e
    subst e'
    rw [hb] at hr
    injection hr with hr
    injection hr with _ hr
    exact hT hr)
theorem OwnR.grown {w w' : World} {B B' : Nat} {T U : TypeId} {c n m : Nat} {v u : Value} {rows : List (List Value)} {xs : List Value} (h : OwnR w B T c v rows) (k : w.grownBy w' u.ownBlock) (ho : w.ownsRow B' U n u m xs) (hT : T ≠ U) : OwnR w' B T c v rows :=
  h.keep fun g cs fr hb _ => k.block g (lt_of_block hb) (fun e => by
    rcases ho.2 with ⟨rfl, _⟩ | ⟨g', cap, cur, rfl, _, hg, _⟩
    · simp [Value.ownBlock] at e
    · simp [Value.ownBlock] at e
      subst e
      rw [hb] at hg
      injection hg with hg
      injection hg with _ hg
      exact hT hg)
/-- Its shape: where it lies, and its cells. -/
theorem OwnR.form {w : World} {B : Nat} {T : TypeId} {c : Nat} {v : Value} {rows : List (List Value)} (h : OwnR w B T c v rows) (hc : 0 < c) : ∃ ao cap, v = .slice ao rows.length cap ∧ rows.length ≤ cap ∧ RdRw w T c ao rows ∧ ((ao = none ∧ rows.length = 0 ∧ cap = 0) ∨ ∃ g, ao = some ⟨g, 0, none⟩ ∧ B ≤ g) := by
  rcases h.1.2 with ⟨hv, h0⟩ | ⟨g, cap, cur, hv, hB, hh, hle, hm, hs, ht⟩
  · exact ⟨none, 0, by rw [hv, h0], by omega, .inl h0, .inl ⟨rfl, h0, rfl⟩⟩
  · refine ⟨some ⟨g, 0, none⟩, cap, hv, hle, .inr ⟨g, 0, rfl, ⟨cur, _, hh⟩, fun i hi j hj => ?_⟩, .inr ⟨g, rfl, hB⟩⟩
    have hlt : i * c + j < rows.length * c := by
      have : (i + 1) * c ≤ rows.length * c := Nat.mul_le_mul_right c hi
      rw [Nat.add_mul] at this
      omega
    rw [Nat.zero_add, cellRow hh, ← Array.getElem?_toList, ← flat_get i j h.2 hi hj, ← ht, List.getElem?_take_of_lt hlt]
section
variable {P : Program} {Q : Exit → Act → World → Prop}
/-- One row more. -/
theorem appRw {o : Oper} {a : Act} {K : Act → World → Prop} {W : World} {s x : Operand} {TS T : TypeId} {c bytes : Nat} {z : Value} (ho : o.op = .call { callee := .builtin .append, args := #[s, x], argTypes := #[TS, TS] }) (hu : P.underlying TS = some (.slice T))
    (hi : (P.info? T).map (fun i => (i.zero, i.size, i.bytes)) = some (some z, c, bytes)) (hz : z.cells.size = c) (hc : 0 < c) (hby : bytes ≤ 1000) (v : Value) (hs : a.eval s = v) {B : Nat} {rows : List (List Value)} (hO : OwnR W B T c v rows) (km : Nat) (row : List Value)
    (hx : a.eval x = .slice (some ⟨km, 0, none⟩) 1 1) {cs : Array Value} {fr : Nat × Nat} (hm : W.heap[km]? = some (.cells cs T (0, 0))) (hcs : cs.toList = row) (hrow : row.length = c) (h1 : ∀ u ∈ row, u.oneCell' = true) (hn : rows.length ≤ 1000000) (hB : B ≤ W.heap.size)
    (h : ∀ v' w', OwnR w' B T c v' (rows ++ [row]) → W.grownBy w' v.ownBlock → K (a.put o.dst v') w') : o.wp P a W K Q := by
  obtain ⟨i0, hi0, hz0, hz1, hz2⟩ := info_of hi
  refine wp_append_own W s x TS ho B T i0 z c bytes hu hi0 hz0 hz1 hz2 hz hc v rows.length rows.flatten hs hO.1 ⟨km, 0, none⟩ 1 1 row hx (by rw [hrow]; omega) ?_ h1 (by unfold maxLen; omega) ?_ hB ?_
  · intro j u hj
    have ha : (⟨km, 0, none⟩ : Addr).add j = ⟨km, j, none⟩ := by
      by_cases hj0 : j = 0
      · subst hj0; simp [Addr.add]
      · simp [Addr.add, hj0]
    rw [ha, cellRow hm j, ← Array.getElem?_toList, hcs]
    exact hj
  · have : (rows.length + 1) * bytes ≤ 1000001 * 1000 := Nat.mul_le_mul (by omega) hby
    omega
  · intro v' w' hown hg _
    refine h v' w' ⟨?_, fun r hr => ?_⟩ hg
    · rw [List.length_append, List.flatten_append]
      simpa using hown
    · rcases List.mem_append.1 hr with hr | hr
      · exact hO.2 r hr
      · rw [List.mem_singleton.1 hr]; exact hrow
theorem appRwL {ops : Array Oper} {rest : List Oper} {o : Oper} {a : Act} {W : World} {s x : Operand} {TS T : TypeId} {c bytes : Nat} {z : Value} (hgd : o.guard = none) (ho : o.op = .call { callee := .builtin .append, args := #[s, x], argTypes := #[TS, TS] }) (hu : P.underlying TS = some (.slice T))
    (hi : (P.info? T).map (fun i => (i.zero, i.size, i.bytes)) = some (some z, c, bytes)) (hz : z.cells.size = c) (hc : 0 < c) (hby : bytes ≤ 1000) (v : Value) (hs : a.eval s = v) {B : Nat} {rows : List (List Value)} (hO : OwnR W B T c v rows) (km : Nat) (row : List Value)
    (hx : a.eval x = .slice (some ⟨km, 0, none⟩) 1 1) {cs : Array Value} (hm : W.heap[km]? = some (.cells cs T (0, 0))) (hcs : cs.toList = row) (hrow : row.length = c) (h1 : ∀ u ∈ row, u.oneCell' = true) (hn : rows.length ≤ 1000000) (hB : B ≤ W.heap.size)
    (h : ∀ v' w', OwnR w' B T c v' (rows ++ [row]) → W.grownBy w' v.ownBlock → wpList P ops Q rest (a.put o.dst v') w') : wpList P ops Q (o :: rest) a W :=
  wpList_plain hgd fun K hK => appRw (fr := (0, 0)) ho hu hi hz hc hby v hs hO km row hx hm hcs hrow h1 hn hB fun v' w' h2 h3 => hK _ _ (h v' w' h2 h3)
end
end K
end Go.Proofs.YtaeglmgpoboihaaGreatDoor
/- The document's reader of rules: what keeps lists beside it; where it stands grows. -/
namespace Go.Proofs.YtaeglmgpoboihaaGreatDoor
open Go.ChangeShapes Go.WideShapes Go.ChangeAt Go.RowKit K L15 S3
open L14 (Tk)
set_option linter.unusedVariables false

theorem take_p (T : List Tk) (last k : Nat) (t : List UInt8) (s : Pi) : s.p ≤ (L15.take T last k t s).2.p := by
  unfold L15.take
  split
  · exact Nat.le_succ _
  · rw [fail_p]; exact Nat.le_refl _
theorem sign_p (T : List Tk) (last : Nat) (t : List UInt8) (s : Pi) : s.p ≤ (sign T last t s).p := take_p T last 5 t s
theorem text_p (T : List Tk) (last : Nat) (s : Pi) : s.p ≤ (L15.text T last s).2.p := take_p T last 4 [] s
theorem word_p (T : List Tk) (t : List UInt8) (s : Pi) : s.p ≤ (word T t s).2.p := by
  unfold word
  split
  · exact Nat.le_succ _
  · exact Nat.le_refl _
theorem row_grown {w w' : World} {U V : TypeId} {c B m r : Nat} {v : Value} {xs : List Value} {cs : Array Value} {fr : Nat × Nat} (h : w.heap[r]? = some (.cells cs V fr)) (k : w.grownBy w' v.ownBlock) (ho : w.ownsRow B U c v m xs) (hT : V ≠ U) : w'.heap[r]? = some (.cells cs V fr) :=
  (k.block r (lt_of_block h) (fun e => by
    rcases ho.2 with ⟨rfl, _⟩ | ⟨g', cap, cur, rfl, _, hg, _⟩
    · simp [Value.ownBlock] at e
    · simp [Value.ownBlock] at e
      subst e
      rw [h] at hg
      injection hg with hg
      injection hg with _ hg
      exact hT hg)).trans h
end Go.Proofs.YtaeglmgpoboihaaGreatDoor
/- stamp.Span, walked. -/
namespace Go.Proofs.YtaeglmgpoboihaaGreatDoor
open Go.ChangeShapes Go.WideShapes Go.ChangeAt Go.RowKit K S3
set_option linter.unusedVariables false

/-- What the variable 'units' holds. -/
def UC : Array Value := #[.string (bs [100]), .int .i64 86400000000000, .string (bs [104]), .int .i64 3600000000000, .string (bs [109]), .int .i64 60000000000, .string (bs [115]), .int .i64 1000000000, .string (bs [109, 115]), .int .i64 1000000, .string (bs [117, 115]), .int .i64 1000, .string (bs [110, 115]), .int .i64 1]
def Units (w : World) : Prop := ∃ t fr, w.heap[2]? = some (.cells UC t fr)
theorem Units.below {w w' : World} (h : Units w) (k : Below w.heap.size w w') : Units w' := by
  obtain ⟨t, fr, h⟩ := h
  exact ⟨t, fr, (k.block _ (lt_of_block h)).trans h⟩
set_option maxRecDepth 100000 in
theorem unit_at (k : Nat) (h : k < 7) : ∀ w, (Instr.index 135 (.agg UC) (.int .i64 k)).run Tryz.prog w = .ok (.agg #[.string (bs (nmU k)), .int .i64 (byU k : Nat)]) w := by
  obtain rfl | rfl | rfl | rfl | rfl | rfl | rfl : k = 0 ∨ k = 1 ∨ k = 2 ∨ k = 3 ∨ k = 4 ∨ k = 5 ∨ k = 6 := by omega
  all_goals exact fun w => by kernel_rfl

theorem suffix_walk (l u : List UInt8) (hl : l.length ≤ 140737488351232) (w : World) :
    Calls Tryz.prog 79 #[.string (bs l), .string (bs u)] w fun e w' => e = .returned (.tuple #[.string (bs (Lib.trimSuffix l u)), .bool (Lib.hasSuffix l u)]) ∧ w = w' := by
  have h := Tryz.strings_CutSuffix (bs l) (bs u) w (by rw [bs_size]; omega)
  rw [bs_toList, bs_toList] at h
  exact h.mono fun _ _ ⟨a, b⟩ => ⟨a, b.symm⟩

theorem fits_walk (X : List UInt8) (hl : X.length ≤ 140737488351232) (w : World) :
    Calls Tryz.prog 80 #[.string (bs X)] w fun e w' => e = .returned (.bool (fitB X)) ∧ w = w' := by
  by_cases hn : X = []
  · subst hn
    go_enter Tryz.func80, Tryz.ntmps80
    go_wp2
    go_ret
    exact ⟨rfl, rfl⟩
  · by_cases hz : X = [48]
    · subst hz
      go_enter Tryz.func80, Tryz.ntmps80
      go_wp2
      go_ret
      exact ⟨rfl, rfl⟩
    · have hpos : 0 < X.length := List.length_pos_iff.2 hn
      have hx : (X == [48]) = false := by simpa using hz
      have hx2 : X.isEmpty = false := by simpa using hn
      by_cases h9 : X.length ≤ 9
      · by_cases h0 : byt X 0 = 48
        · have e : fitB X = false := by unfold fitB; rw [hx, hx2]; simp [h0]
          have hb : (((byt X 0 : Nat) : Int) != 48) = false := by rw [h0]; rfl
          rw [e]
          clear e h0
          go_enter Tryz.func80, Tryz.ntmps80
          go_wp2
          go_ret
          exact ⟨rfl, rfl⟩
        · have e : fitB X = true := by unfold fitB; rw [hx, hx2]; simp [h0, h9]
          have hb : (((byt X 0 : Nat) : Int) != 48) = true := by rw [bne_iff_ne]; omega
          rw [e]
          clear e h0
          go_enter Tryz.func80, Tryz.ntmps80
          go_wp2
          go_ret
          exact ⟨rfl, rfl⟩
      · have e : fitB X = false := by unfold fitB; rw [hx, hx2]; simp [h9]
        have h9' : decide ((X.length : Int) ≤ 9) = false := decide_eq_false (by omega)
        rw [e]
        clear e h9
        go_enter Tryz.func80, Tryz.ntmps80
        go_wp2
        go_ret
        exact ⟨rfl, rfl⟩

def SRel (w : World) (l : List UInt8) (g : Nat) (v11 : Value) (wr : World) : Prop :=
  ∃ k, k + g = 7 ∧ v11 = .int .i64 k ∧ Below w.heap.size w wr ∧ spGo (unitL.drop k) l = spGo unitL l
def IRel (X : List UInt8) (w2 : World) (g : Nat) (v8 v30 : Value) (wr : World) : Prop :=
  ∃ j, j + g = X.length ∧ v30 = .int .i64 j ∧ v8 = .int .i64 (vl (X.take j) : Nat) ∧ (X.take j).all isD = true ∧ w2 = wr
set_option maxRecDepth 100000 in
set_option maxHeartbeats 4000000 in
theorem span_walk (l : List UInt8) (hl : l.length ≤ 140737488351232) (w : World) (hU : Units w) :
    Calls Tryz.prog 57 #[.string (bs l)] w fun e w' => e = .returned (.tuple #[.int .i64 (spV l), .int .i64 (spC l)]) ∧ Below w.heap.size w w' := by
  obtain ⟨tU, fU, hU⟩ := hU
  have hsp : spV l = (spGo unitL l).1 ∧ spC l = (spGo unitL l).2 := ⟨rfl, rfl⟩
  have HSP := Lib.hid hsp; clear hsp
  go_enter Tryz.func57, Tryz.ntmps57
  go_wp2
  go_step3
  go_wp2
  go_step3
  go_wp2_with (refine wpList_load_row rfl 135 _ rfl 2 rfl tU UC fU _ hU Tryz.underlying135 rfl (by kernel_rfl) ?_)
  clear hU
  go_loopg [11] 7 (fun g v11 wr => SRel w l g v11 wr)
  case atStart => exact ⟨0, by omega, rfl, Below.refl _ _, rfl⟩
  case round =>
    obtain ⟨k, hkg, rfl, hb, hs⟩ := hrel
    cases gk with
    | zero =>
      obtain rfl : k = 7 := by omega
      have hs2 : spGo unitL l = (0, 30) := hs.symm
      have HS := Lib.hid hs2
      clear hs hs2
      go_wp2
      go_ret2
      rw [HSP.out.1, HSP.out.2, HS.out]
      exact ⟨rfl, hb⟩
    | succ g =>
      have hk7 : k < 7 := by omega
      have hix := unit_at k hk7
      have hui := unit_in k hk7
      rw [unit_drop k hk7] at hs
      have hsz := hb.size
      generalize nmU k = nm at hix hui hs
      generalize byU k = by' at hix hui hs
      have hcut := fun w1 => suffix_walk l nm hl w1
      have hct : ∀ h : Lib.hasSuffix l nm = true, Lib.trimSuffix l nm = cutU l nm := fun h => cutU_trim h
      have HCT := Lib.hid hct; have HC := Lib.hid hcut
      obtain ⟨u1, u2, u3, u4⟩ := hui
      clear hct hcut
      cases hsf : Lib.hasSuffix l nm
      · have hno := spGo_no nm by' (unitL.drop (k + 1)) l (by unfold hitU; rw [hsf]; rfl)
        rw [hno] at hs
        have HS := Lib.hid hs
        have HC0 := HC.out
        rw [hsf] at HC0
        have HC1 := Lib.hid HC0
        clear hs hno hsf HC HC0 HCT
        go_wp2_with fail
        refine (HC1.out _).mono ?_
        rintro e w1 ⟨rfl, rfl⟩
        go_wp2
        go_roundg g
        case measure => omega
        case rel => exact ⟨k + 1, by omega, by simp, hb.alloc hsz _, HS.out⟩
      · have HC0 := HC.out
        rw [hsf, HCT.out hsf] at HC0
        have hXl : (cutU l nm).length ≤ l.length := by unfold cutU; exact List.length_take_le' _ _
        have hhit : hitU l nm = (fitB (cutU l nm) && (cutU l nm).all isD) := by unfold hitU; rw [hsf]; rfl
        have hN := fun h => spGo_no nm by' (unitL.drop (k + 1)) l h
        have hBg := fun h h2 => spGo_big nm by' (unitL.drop (k + 1)) l h h2
        have hY := fun h h2 => spGo_yes nm by' (unitL.drop (k + 1)) l h h2
        rw [hhit] at hN hBg hY
        generalize cutU l nm = X at HC0 hXl hN hBg hY
        have HC1 := Lib.hid HC0; have HN := Lib.hid hN; have HBg := Lib.hid hBg; have HY := Lib.hid hY
        clear HC0 hN hBg hY hhit hsf HC HCT
        have hF := fun w1 => fits_walk X (by omega) w1
        cases hfx : fitB X
        · have hs2 := hs
          rw [HN.out (by rw [hfx]; rfl)] at hs2
          have HS := Lib.hid hs2
          have hF0 := hF
          rw [hfx] at hF0
          have HF := Lib.hid hF0
          clear hs hs2 hF hF0 hfx HN HBg HY
          go_wp2_with fail
          refine (HC1.out _).mono ?_
          rintro e w1 ⟨rfl, rfl⟩
          go_wp2_with fail
          refine (HF.out _).mono ?_
          rintro e w1 ⟨rfl, rfl⟩
          go_wp2
          go_roundg g
          case measure => omega
          case rel => exact ⟨k + 1, by omega, by simp, hb.alloc hsz _, HS.out⟩
        · have hX9 := fitB_len hfx
          have hF0 := hF
          rw [hfx] at hF0
          have HF := Lib.hid hF0
          have HS := Lib.hid hs
          have HFX := Lib.hid hfx
          clear hs hF hF0 hfx
          obtain ⟨x1, x9⟩ := hX9
          go_wp2_with fail
          refine (HC1.out _).mono ?_
          rintro e w1 ⟨rfl, rfl⟩
          go_wp2_with fail
          refine (HF.out _).mono ?_
          rintro e w1 ⟨rfl, rfl⟩
          go_wp2
          have hb2 : Below w.heap.size w (wr.alloc (.cells #[.string (bs nm), .int .i64 (by' : Nat)] 134)) := hb.alloc hsz _
          have hcell : (wr.alloc (.cells #[.string (bs nm), .int .i64 (by' : Nat)] 134)).cell? ⟨wr.heap.size, 1, none⟩ = some (.int .i64 (by' : Nat)) := cellRow (rowNew _ _) 1
          generalize wr.alloc (.cells #[.string (bs nm), .int .i64 (by' : Nat)] 134) = w2 at hb2 hcell ⊢
          clear hix HC1 HF
          go_loopg [8, 30] X.length (fun g v8 v30 wy => IRel X w2 g v8 v30 wy)
          case atStart => exact ⟨0, by omega, rfl, rfl, rfl, rfl⟩
          case round =>
            obtain ⟨j, hjg, rfl, rfl, ha, rfl⟩ := hrel
            cases gk with
            | zero =>
              obtain rfl : j = X.length := by omega
              rw [List.take_length] at ha
              have hv := vl_lt X ha
              have hv9 : vl X < 1000000000 := by
                have : 10 ^ X.length ≤ 10 ^ 9 := Nat.pow_le_pow_right (by omega) x9
                omega
              clear hv
              simp only [List.take_length]
              by_cases hbig : 2305843009213693952 / by' < vl X
              · have hs2 := HS.out
                rw [HBg.out (by rw [HFX.out, ha]; rfl) hbig] at hs2
                have HS2 := Lib.hid hs2.symm
                have hbig' : 2305843009213693952 / (by' : Int) < (vl X : Int) := by
                  have : ((2305843009213693952 / by' : Nat) : Int) < (vl X : Int) := by omega
                  simpa using this
                clear hs2 hbig HS HBg HY HN HFX ha
                generalize vl X = V at *
                have hnz : (((by' : Nat) : Int) == 0) = false := by rw [beq_eq_false_iff_ne]; omega
                go_wp2
                rw [Exit.noGoto_ret]
                go_ret2
                rw [HSP.out.1, HSP.out.2, HS2.out]
                exact ⟨rfl, hb2⟩
              · have hs2 := HS.out
                rw [HY.out (by rw [HFX.out, ha]; rfl) hbig] at hs2
                have HS2 := Lib.hid hs2.symm
                have hbig' : (vl X : Int) ≤ 2305843009213693952 / (by' : Int) := by
                  have : (vl X : Int) ≤ ((2305843009213693952 / by' : Nat) : Int) := by omega
                  simpa using this
                have hm : vl X * by' ≤ 2305843009213693952 := by
                  have h1 : vl X * by' ≤ 2305843009213693952 / by' * by' := Nat.mul_le_mul_right _ (by omega)
                  exact Nat.le_trans h1 (Nat.div_mul_le_self _ _)
                have hm' : (vl X : Int) * (by' : Int) ≤ 2305843009213693952 := by rw [← Int.natCast_mul]; omega
                have hm0 : 0 ≤ (vl X : Int) * (by' : Int) := by rw [← Int.natCast_mul]; omega
                clear hs2 hbig HS HBg HY HN HFX ha hm
                generalize vl X = V at *
                have hnz : (((by' : Nat) : Int) == 0) = false := by rw [beq_eq_false_iff_ne]; omega
                go_wp2
                rw [Exit.noGoto_ret]
                go_ret2
                rw [HSP.out.1, HSP.out.2, HS2.out]
                exact ⟨rfl, hb2⟩
            | succ g2 =>
              have hjl : j < X.length := by omega
              have hv := vl_lt (X.take j) ha
              have hv9 : vl (X.take j) < 1000000000 := by
                have : 10 ^ (X.take j).length ≤ 10 ^ 9 := Nat.pow_le_pow_right (by omega) (by rw [List.length_take]; omega)
                omega
              clear hv
              have hts := vl_take X j hjl
              have hta := all_take X j hjl
              have hbt := byt_lt X j
              have hD := fun w1 => isDigit_walk (byt X j) w1
              cases hdg : isDn (byt X j)
              · have hall := all_of_take hjl hdg
                have hs2 := HS.out
                rw [HN.out (by rw [HFX.out, hall]; rfl)] at hs2
                have HS2 := Lib.hid hs2
                rw [hdg] at hD
                have HD := Lib.hid hD
                clear hs2 HS HBg HY HN HFX ha hdg hts hta hD hall
                go_wp2_with fail
                refine (HD.out _).mono ?_
                rintro e w1 ⟨rfl, rfl⟩
                go_wp2
                go_roundg g
                case measure => omega
                case rel => exact ⟨k + 1, by omega, by simp, hb2, HS2.out⟩
              · have hd2 : 48 ≤ byt X j ∧ byt X j ≤ 57 := by simpa [isDn] using hdg
                rw [hdg] at hD
                rw [ha, hdg] at hta
                have HD := Lib.hid hD; have HTS := Lib.hid hts; have HTA := Lib.hid hta
                clear ha hdg hts hta hD
                obtain ⟨d1, d2⟩ := hd2
                generalize vl (X.take j) = V at *
                go_wp2_with fail
                refine (HD.out _).mono ?_
                rintro e w1 ⟨rfl, rfl⟩
                go_wp2
                go_roundg g2
                case measure => omega
                case rel =>
                  refine ⟨j + 1, by omega, by simp, ?_, by rw [HTA.out]; rfl, rfl⟩
                  rw [HTS.out]; congr 1; omega
end Go.Proofs.YtaeglmgpoboihaaGreatDoor
