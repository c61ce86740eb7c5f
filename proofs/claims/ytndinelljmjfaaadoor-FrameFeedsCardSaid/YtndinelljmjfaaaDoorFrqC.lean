/- The program's take, walked: a text's bytes behind a list of bytes that lies where it lay, or anew. -/
import Derived.Test.YtndinelljmjfaaaDoorFrqA
import Derived.Lib.AppendStr
import Derived.RegionTactic
import Derived.Deep.RegionWith
namespace Go.Proofs.YtndinelljmjfaaaDoor
open Go.ChangeShapes Go.WideShapes Go.ChangeAt Go.RowKit K F12
set_option linter.unusedVariables false

theorem str_byts (l : List UInt8) : Lib.strCells (bs l) = byts l := by
  unfold Lib.strCells byts
  rw [bs_toList]
/-- Some bytes of a text more: where the list lies then. -/
theorem run_str_at (ty : TypeId) (W : World) {v : Value} {l ys : List UInt8} (hO : OwnY W 0 v l) (hn : l.length + ys.length ≤ 100000000) :
    ∃ v' w', (Builtin.append_ #[46, 9] ty #[v, .string (bs ys)]).run Tryd.prog W = .ok v' w' ∧ OwnY w' 0 v' (l ++ ys) ∧ W.grownBy w' v.ownBlock ∧ (∀ g, v'.ownBlock = some g → v.ownBlock = some g ∨ W.heap.size ≤ g) := by
  obtain ⟨i0, hi, hz0, hz1, hz2⟩ := info_of yinfo
  have hsz : (bs ys).size = ys.length := bs_size ys
  have e1 : ∀ w' v', w'.ownsRow 0 5 1 v' (l.length + (bs ys).size) (byts l ++ Lib.strCells (bs ys)) → OwnY w' 0 v' (l ++ ys) := by
    intro w' v' h
    unfold OwnY
    rw [List.length_append, byts_app]
    rw [hsz, str_byts] at h
    exact h
  rcases hO.2 with ⟨hv, h0⟩ | ⟨g, cap, cur, hv, hB, hh, hle, hm, hs, ht⟩
  · have hl : l = [] := List.length_eq_zero_iff.1 h0
    subst hl
    subst hv
    obtain ⟨v', w', hr, h2, h3, h4⟩ := Lib.run_append_own_string (P := Tryd.prog) W W.heap.size 46 9 ty 5 i0 Tryd.underlying46 Tryd.underlying9 hi hz0 hz1 hz2 (.slice none 0 0) 0 [] (World.ownsRow_nil W _ _ _) (bs ys) (by unfold maxLen; omega) (by omega) (Nat.le_refl _)
    refine ⟨v', w', hr, e1 _ _ (World.ownsRow.mono h2 (Nat.zero_le _)), h3, fun g hg => .inr (World.ownsRow.lt h2 g hg).1⟩
  · subst hv
    obtain ⟨v', w', hr, h2, h3, h4⟩ := Lib.run_append_own_string (P := Tryd.prog) W 0 46 9 ty 5 i0 Tryd.underlying46 Tryd.underlying9 hi hz0 hz1 hz2 _ l.length (byts l) hO (bs ys) (by unfold maxLen; omega) (by omega) (Nat.zero_le _)
    refine ⟨v', w', hr, e1 _ _ h2, h3, fun g' hg' => ?_⟩
    by_cases hroom : l.length + (bs ys).size ≤ cap
    · have hr2 := Lib.run_append_room_string (P := Tryd.prog) W 46 9 ty 5 i0 Tryd.underlying46 Tryd.underlying9 hi hz1 g l.length cap cur hh (bs ys) hroom (by omega)
      rw [hr] at hr2
      injection hr2 with hr2 _
      rw [hr2] at hg'
      exact .inl hg'
    · have holds : ∀ j u, (byts l)[j]? = some u → W.cell? ((⟨g, 0, none⟩ : Addr).add j) = some u := World.ownsRow.cells hO (g := g) rfl
      have hr2 := Lib.run_append_grow_string (P := Tryd.prog) W 46 9 ty 5 i0 (.int .u8 0) Tryd.underlying46 Tryd.underlying9 hi hz0 ⟨g, 0, none⟩ l.length cap (byts l) (by rw [hz1, byts_len]; omega) holds (bs ys) (by omega) (by omega) (by rw [hz2]; exact growslice_fits (by omega) (by omega))
      rw [hr] at hr2
      injection hr2 with hr2 _
      rw [hr2] at hg'
      simp [Value.ownBlock] at hg'
      exact .inr (by omega)
theorem appYs {o : Oper} {a : Act} {K : Act → World → Prop} {Q : Exit → Act → World → Prop} {W : World} {s x : Operand} (ho : o.op = .call { callee := .builtin .append, args := #[s, x], argTypes := #[46, 9] }) {v : Value} {l ys : List UInt8} (hs : a.eval s = v) (hO : OwnY W 0 v l) (hx : a.eval x = .string (bs ys)) (hn : l.length + ys.length ≤ 100000000)
    (h : ∀ v' w', OwnY w' 0 v' (l ++ ys) → W.grownBy w' v.ownBlock → (∀ g, v'.ownBlock = some g → v.ownBlock = some g ∨ W.heap.size ≤ g) → K (a.put o.dst v') w') : o.wp Tryd.prog a W K Q := by
  obtain ⟨v', w', hr, h2, h3, h4⟩ := run_str_at o.type W hO hn
  unfold Oper.wp execOp
  simp only [ho, resolve, invoke, builtin, Sem.run_bind, Sem.run_pure, Result.andThen_ok, List.map_toArray, List.map_cons, List.map_nil, hs, hx, hr]
  exact h v' w' h2 h3 h4
/-- A list's own block is none of another type. -/
theorem OwnY.ne {w : World} {B : Nat} {v : Value} {l : List UInt8} (h : OwnY w B v l) {k : Nat} {cs : Array Value} {T : TypeId} {fr : Nat × Nat} (hk : w.heap[k]? = some (.cells cs T fr)) (hT : T ≠ 5) : some k ≠ v.ownBlock := by
  intro e
  rcases h.2 with ⟨rfl, _⟩ | ⟨g, cap, cur, rfl, hB, hg, _⟩
  · simp [Value.ownBlock] at e
  · simp [Value.ownBlock] at e
    subst e
    rw [hk] at hg
    injection hg with hg
    injection hg with _ hg
    exact hT hg
theorem OwnY.set {w : World} {B : Nat} {v : Value} {l : List UInt8} (h : OwnY w B v l) {k : Nat} {cs : Array Value} {T : TypeId} {fr : Nat × Nat} (hk : w.heap[k]? = some (.cells cs T fr)) (hT : T ≠ 5) (i : Nat) (u : Value) : OwnY (w.setCell ⟨k, i, none⟩ u) B v l := by
  refine ⟨h.1, ?_⟩
  rcases h.2 with hn | ⟨g, cap, cur, h1, h2, h3, h4⟩
  · exact .inl hn
  · refine .inr ⟨g, cap, cur, h1, h2, (Below.heap_setCell _ _ _ _ ?_).trans h3, h4⟩
    intro hgk
    have hgk' : g = k := hgk
    rw [hgk', hk] at h3
    injection h3 with h3
    injection h3 with _ h3
    exact hT h3
theorem OwnY.keep {w w' : World} {B : Nat} {v : Value} {l : List UInt8} (h : OwnY w B v l) {S : List Nat} (k : Kp S w w') (hn : ∀ g, v.ownBlock = some g → g ∉ S) : OwnY w' B v l := by
  refine ⟨h.1, ?_⟩
  rcases h.2 with h0 | ⟨g, cap, cur, h1, h2, h3, h4⟩
  · exact .inl h0
  · exact .inr ⟨g, cap, cur, h1, h2, k.heap h3 (hn g (by rw [h1]; rfl)), h4⟩
theorem OwnY.form {w : World} {B : Nat} {v : Value} {l : List UInt8} (h : OwnY w B v l) : ∃ ao cap, v = .slice ao l.length cap ∧ l.length ≤ cap := by
  rcases h.2 with ⟨hv, h0⟩ | ⟨g, cap, cur, hv, hB, hh, hle, hm, hs, ht⟩
  · exact ⟨none, 0, by rw [hv, h0], by omega⟩
  · exact ⟨_, cap, hv, hle⟩
/-- What take leaves. -/
def TkPost (w : World) (b most dr lg ah : Nat) (v : Value) (bt c : List UInt8) (e : Ending) (w' : World) : Prop :=
  ∃ v', e = .returned (.string (bs (c.drop (lg - bt.length)))) ∧ FrB w' b most false dr 2 lg ah v' ∧ OwnY w' 0 v' (bt ++ c.take (lg - bt.length)) ∧ Kp (b :: v.ownBlock.toList) w w' ∧ (∀ g, v'.ownBlock = some g → v.ownBlock = some g ∨ w.heap.size ≤ g)
theorem kp_grown12 {S : List Nat} {a b c : World} {row : Option Nat} (h : Kp S a b) (k : b.grownBy c row) (hr : ∀ j, row = some j → j ∈ S ∨ a.heap.size ≤ j) : Kp S a c :=
  ⟨k.os.trans h.os, k.tape.trans h.tape, k.output.trans h.output, Nat.le_trans h.size k.size, fun i hi hn => (k.block i (Nat.lt_of_lt_of_le hi h.size) (fun e => by rcases hr i e.symm with h1 | h1; exact hn h1; omega)).trans (h.block i hi hn)⟩
end Go.Proofs.YtndinelljmjfaaaDoor
