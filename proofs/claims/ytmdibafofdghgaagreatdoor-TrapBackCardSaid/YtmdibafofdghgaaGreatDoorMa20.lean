/- Texts on the program and on the document, joined: OidF, OidN, PduR, Sprd, PduC. -/
import Derived.Test.YtmdibafofdghgaaGreatDoorMa18
import Derived.Test.YtmdibafofdghgaaGreatDoorMa19
import Derived.Test.YtmdibafofdghgaaGreatDoorMa17
import Derived.Laws.OwnMore
import Derived.Laws.AppendOwn
import Derived.Test.YtmdibafofdghgaaGreatDoorMa14
/- The document's own Rest, walked. -/
namespace Go.Proofs.YtmdibafofdghgaaGreatDoor
open Go.ChangeShapes Go.WideShapes Go.ChangeAt Go.RowKit K O6
set_option linter.unusedVariables false

theorem OwnI.cap {w : World} {B : Nat} {T : TypeId} {ao : Option Addr} {n cap : Nat} {cs : List Nat} (h : OwnI w B T (.slice ao n cap) cs) : n ≤ cap := by
  rcases h.2 with ⟨hv, h0⟩ | ⟨g, cap', cur, hv, hB, hh, hle, hm, hs, ht⟩
  · cases hv; exact Nat.le_refl _
  · cases hv; omega
def rsS (r s : List UInt8) : List UInt8 := if wi r s then put ((arL s).drop (arL r).length) else []
def rsE (r s : List UInt8) : Nat := if wi r s then 0 else 60
end Go.Proofs.YtmdibafofdghgaaGreatDoor
/- oid's both, cut, behind, Within, Rest, walked. -/
namespace Go.Proofs.YtmdibafofdghgaaGreatDoor
open Go.ChangeShapes Go.WideShapes Go.ChangeAt Go.RowKit K O6
set_option linter.unusedVariables false

/-- What both tells. -/
def BoPost (a b : List UInt8) (w : World) (e : Ending) (w' : World) : Prop :=
  ∃ va vb, e = .returned (.tuple #[va, vb, .bool ((arcs a).isSome && (arcs b).isSome)]) ∧ Below w.heap.size w w' ∧ (∃ o n c, va = .slice o n c) ∧ (∃ o n c, vb = .slice o n c) ∧
    (((arcs a).isSome && (arcs b).isSome) = true → OwnI w' w.heap.size 3 va (arL a) ∧ OwnI w' w.heap.size 3 vb (arL b))
theorem own_shape {w : World} {B : Nat} {T : TypeId} {v : Value} {cs : List Nat} (h : OwnI w B T v cs) : ∃ o n c, v = .slice o n c := by
  obtain ⟨ao, cap, hv, _⟩ := h.form
  exact ⟨_, _, _, hv⟩
/-- What behind tells. -/
def BhPost (r s : List UInt8) (w : World) (e : Ending) (w' : World) : Prop :=
  ∃ o n c, e = .returned (.tuple #[.slice o n c, .bool (wi r s)]) ∧ Below w.heap.size w w' ∧ (wi r s = true → n = ((arL s).drop (arL r).length).length ∧ RdZ w' o n (fz ((arL s).drop (arL r).length)))
theorem ints_take (a b : List Nat) (h : a.length ≤ b.length) : ((b.map (fun x : Nat => (x : Int))).take a.length == (a.map (fun x : Nat => (x : Int))).take a.length) = O6.within a b := by
  rw [List.take_of_length_le (l := a.map (fun x : Nat => (x : Int))) (by simp)]
  rw [Bool.eq_iff_iff, beq_iff_eq, O6.within_iff]
  constructor
  · intro e
    rw [← List.map_take] at e
    have h2 : b.take a.length = a := by
      have h3 := congrArg (List.map Int.toNat) e
      rw [List.map_map, List.map_map] at h3
      have h4 : (Int.toNat ∘ fun x : Nat => (x : Int)) = id := by funext x; simp
      rw [h4, List.map_id, List.map_id] at h3
      exact h3
    refine ⟨b.drop a.length, ?_⟩
    have h5 := List.take_append_drop a.length b
    rw [h2] at h5
    exact h5.symm
  · rintro ⟨t, rfl⟩
    rw [List.map_append, List.take_left' (by simp)]
end Go.Proofs.YtmdibafofdghgaaGreatDoor
/- Find, the document's and the program's, walked. -/
namespace Go.Proofs.YtmdibafofdghgaaGreatDoor
open Go.ChangeShapes Go.WideShapes Go.ChangeAt Go.RowKit K P1 B5
open D8 (Bd Un lst)
set_option linter.unusedVariables false

def fnd (r : List UInt8) (xs : List Bd) : List Bd := xs.filter fun x => wi r x.o
theorem fnd_take {r : List UInt8} {xs : List Bd} {i : Nat} (hi : i < xs.length) : fnd r (xs.take (i + 1)) = if wi r (xs.getD i nob).o = true then fnd r (xs.take i) ++ [xs.getD i nob] else fnd r (xs.take i) := by
  unfold fnd
  rw [List.take_succ_eq_append_getElem hi, List.filter_append, List.getD_eq_getElem?_getD, List.getElem?_eq_getElem hi]
  show _ ++ List.filter _ [xs[i]] = if wi r (xs[i]).o = true then _ ++ [xs[i]] else _
  cases h : wi r (xs[i]).o
  · rw [if_neg (by simp)]
    show _ ++ (match wi r (xs[i]).o with | true => [xs[i]] | false => []) = _
    rw [h, List.append_nil]
  · rw [if_pos rfl]
    show _ ++ (match wi r (xs[i]).o with | true => [xs[i]] | false => []) = _
    rw [h]
theorem fnd_len (r : List UInt8) (xs : List Bd) : (fnd r xs).length ≤ xs.length := List.length_filter_le _ _
theorem bind_info : (Tryz.prog.info? 48).map (fun i => (i.zero, i.size, i.bytes)) = some (some (.agg #[.string .empty, .int .i64 0, .int .i64 0, .string .empty]), 4, 48) := by kernel_rfl
theorem bind_parts : ∃ i, Tryz.prog.info? 48 = some i ∧ i.zero = some (.agg #[.string .empty, .int .i64 0, .int .i64 0, .string .empty]) ∧ i.size = 4 ∧ i.bytes = 48 := by
  obtain ⟨i, h1, h2⟩ := Option.map_eq_some_iff.1 bind_info
  simp only [Prod.mk.injEq] at h2
  exact ⟨i, h1, h2.1, h2.2.1, h2.2.2⟩
theorem one_cell (x : Bd) : ∀ u ∈ cellsB x, u.oneCell' = true := by
  intro u hu
  simp [cellsB] at hu
  rcases hu with rfl | rfl | rfl | rfl <;> rfl
theorem Bq.each {w : World} {b : Nat} {x : Bd} (h : Bq w b x) : ∀ j u, (cellsB x)[j]? = some u → w.cell? ((⟨b, 0, none⟩ : Addr).add j) = some u := by
  obtain ⟨c0, c1, c2, c3⟩ := h.cells
  intro j u hj
  match j, hj with
  | 0, hj => simp [cellsB] at hj; subst hj; exact c0
  | 1, hj => simp [cellsB] at hj; subst hj; exact c1
  | 2, hj => simp [cellsB] at hj; subst hj; exact c2
  | 3, hj => simp [cellsB] at hj; subst hj; exact c3
  | j + 4, hj => simp [cellsB] at hj
def FdRel (r : List UInt8) (xs : List Bd) (w : World) (g : Nat) (vo vi : Value) (wr : World) : Prop :=
  ∃ i : Nat, i + g = xs.length ∧ vi = .int .i64 (i : Nat) ∧ OwnB wr w.heap.size 48 vo (fnd r (xs.take i)) ∧ Below w.heap.size w wr
end Go.Proofs.YtmdibafofdghgaaGreatDoor
/- Lists of binds: beginnings, one behind another by the builtin append. -/
namespace Go.Proofs.YtmdibafofdghgaaGreatDoor
open Go.ChangeShapes Go.WideShapes Go.ChangeAt Go.RowKit K P1 B5
open D8 (Bd)
set_option linter.unusedVariables false

theorem RdB.pre {w : World} {ao : Option Addr} {xs ys : List Bd} (h : RdB w ao (xs ++ ys)) : RdB w ao xs := by
  by_cases h0 : xs.length = 0
  · exact .inl h0
  rcases h with h | ⟨b, off, ha, hb, hc⟩
  · rw [List.length_append] at h; omega
  · refine .inr ⟨b, off, ha, hb, fun i hi => ?_⟩
    have := hc i (by rw [List.length_append]; omega)
    rw [List.getD_eq_getElem?_getD, List.getElem?_append_left hi, ← List.getD_eq_getElem?_getD] at this
    exact this
theorem RdB.last {w : World} {g : Nat} {xs : List Bd} {x : Bd} (h : RdB w (some ⟨g, 0, none⟩) (xs ++ [x])) : w.cell? ⟨g, xs.length * 4, none⟩ = some (.string (bs x.o)) := by
  rcases h with h | ⟨b, off, ha, hb, hc⟩
  · simp at h
  · injection ha with ha
    injection ha with h1 h2 _
    subst h1 h2
    have := (hc xs.length (by simp)).1
    have hg : (xs ++ [x]).getD xs.length nob = x := by simp [List.getD]
    rw [hg] at this
    simpa using this
/-- The cells that a list has, one by one. -/
theorem RdB.each {w : World} {a : Addr} {xs : List Bd} (h : RdB w (some a) xs) : ∀ j u, (bnds xs)[j]? = some u → w.cell? (a.add j) = some u := by
  intro j u hj
  have hlt : j < (bnds xs).length := by
    rcases Nat.lt_or_ge j (bnds xs).length with h | h
    · exact h
    · rw [List.getElem?_eq_none h] at hj; cases hj
  rw [bnds_len] at hlt
  rcases h with h | ⟨b, off, ha, hb, hc⟩
  · omega
  · injection ha with ha
    subst ha
    have hi : j / 4 < xs.length := by omega
    have hg := bnds_get xs (j / 4) (j % 4) hi (by omega)
    rw [show j / 4 * 4 + j % 4 = j by omega] at hg
    rw [hg] at hj
    obtain ⟨c0, c1, c2, c3⟩ := hc (j / 4) hi
    have hadd : (⟨b, off, none⟩ : Addr).add j = ⟨b, off + j, none⟩ := by simp [Addr.add]
    rw [hadd]
    have hm : j % 4 = 0 ∨ j % 4 = 1 ∨ j % 4 = 2 ∨ j % 4 = 3 := by omega
    rcases hm with hm | hm | hm | hm
    · rw [hm] at hj
      simp [cellsB] at hj
      rw [← hj, show off + j = off + j / 4 * 4 by omega]; exact c0
    · rw [hm] at hj
      simp [cellsB] at hj
      rw [← hj, show off + j = off + (j / 4 * 4 + 1) by omega]; exact c1
    · rw [hm] at hj
      simp [cellsB] at hj
      rw [← hj, show off + j = off + (j / 4 * 4 + 2) by omega]; exact c2
    · rw [hm] at hj
      simp [cellsB] at hj
      rw [← hj, show off + j = off + (j / 4 * 4 + 3) by omega]; exact c3
theorem ownB_empty (w : World) (B : Nat) (T : TypeId) (hb : B ≤ w.heap.size) : OwnB (w.alloc (.cells #[] T)) B T (.slice (some ⟨w.heap.size, 0, none⟩) 0 0) [] :=
  ⟨by simp [bnds], .inr ⟨w.heap.size, 0, #[], rfl, hb, rowNew w _, Nat.le_refl _, by unfold maxLen; omega, by simp, by simp [bnds]⟩⟩
theorem cells_all : ∀ (xs : List Bd), ∀ u ∈ bnds xs, u.oneCell' = true
  | [], u, hu => by simp [bnds] at hu
  | x :: xs, u, hu => by
    have hu' : u ∈ cellsB x ++ bnds xs := hu
    rcases List.mem_append.1 hu' with h | h
    · exact one_cell x u h
    · exact cells_all xs u h
theorem own_some {w : World} {B : Nat} {v : Value} {xs : List Bd} (h : OwnB w B 48 v xs) (h0 : 0 < xs.length) : ∃ g cap, v = .slice (some ⟨g, 0, none⟩) xs.length cap ∧ B ≤ g ∧ xs.length ≤ cap ∧ cap ≤ maxLen := by
  rcases h.2 with ⟨_, hn⟩ | ⟨g, cap, cur, hv, hB, _, hle, hm, _⟩
  · omega
  · exact ⟨g, cap, hv, hB, hle, hm⟩
/-- 'append(a, b...)': a is a list that the call made. -/
theorem spread {o : Oper} {a : Act} {K : Act → World → Prop} {Q : Exit → Act → World → Prop} {W : World} {s x : Operand} (ho : o.op = .call { callee := .builtin .append, args := #[s, x], argTypes := #[25, 25] }) (v : Value) (hs : a.eval s = v) {B : Nat} {xs ys : List Bd} (hown : OwnB W B 48 v xs) (hBW : B ≤ W.heap.size)
    {ao : Option Addr} {ca : Nat} (hx : a.eval x = .slice ao ys.length ca) (hr : RdB W ao ys) (hsh : (ao = none ∧ ys.length = 0 ∧ ca = 0) ∨ ∃ a, ao = some a) (hn : (xs.length + ys.length) * 48 ≤ 140737488355328)
    (h : ∀ v' w', OwnB w' B 48 v' (xs ++ ys) → W.grownBy w' v.ownBlock → K (a.put o.dst v') w') : o.wp Tryz.prog a W K Q := by
  obtain ⟨i0, hi, hz0, hz1, hz2⟩ := bind_parts
  rcases hsh with ⟨rfl, h0, rfl⟩ | ⟨ad, rfl⟩
  · have hys : ys = [] := List.length_eq_zero_iff.1 h0
    subst hys
    have hrun := run_append_owned_none (P := Tryz.prog) (w := W) B 25 o.type 48 i0 4 Tryz.underlying25 hi _ _ _ hown
    unfold Oper.wp
    simp [execOp, ho, resolve, invoke, builtin, hs, hx, hrun, Result.andThen]
    exact h _ _ (by rw [List.append_nil]; exact hown) ⟨rfl, rfl, rfl, Nat.le_refl _, fun _ _ _ => rfl⟩
  · refine wp_append_own W s x 25 ho B 48 i0 (.agg #[.string .empty, .int .i64 0, .int .i64 0, .string .empty]) 4 48 Tryz.underlying25 hi hz0 hz1 hz2 rfl (by decide) v xs.length (bnds xs) hs hown ad ys.length ca (bnds ys) hx (bnds_len ys) hr.each (cells_all ys) (by unfold maxLen; omega) (by omega) hBW ?_
    intro v' w' hown' hg _
    refine h v' w' ?_ hg
    unfold OwnB
    rw [List.length_append, bnds_app]
    exact hown'
theorem spreadL {ops : Array Oper} {rest : List Oper} {o : Oper} {a : Act} {Q : Exit → Act → World → Prop} {W : World} (hgd : o.guard = none) {s x : Operand} (ho : o.op = .call { callee := .builtin .append, args := #[s, x], argTypes := #[25, 25] }) (v : Value) (hs : a.eval s = v) {B : Nat} {xs ys : List Bd} (hown : OwnB W B 48 v xs) (hBW : B ≤ W.heap.size)
    {ao : Option Addr} {ca : Nat} (hx : a.eval x = .slice ao ys.length ca) (hr : RdB W ao ys) (hsh : (ao = none ∧ ys.length = 0 ∧ ca = 0) ∨ ∃ a, ao = some a) (hn : (xs.length + ys.length) * 48 ≤ 140737488355328)
    (h : ∀ v' w', OwnB w' B 48 v' (xs ++ ys) → W.grownBy w' v.ownBlock → wpList Tryz.prog ops Q rest (a.put o.dst v') w') : wpList Tryz.prog ops Q (o :: rest) a W :=
  wpList_plain hgd fun _ hK => spread ho v hs hown hBW hx hr hsh hn fun v' w' h1 h2 => hK _ _ (h v' w' h1 h2)
/-- The same, whatever the second list's place and capacity are. -/
theorem spreadN {o : Oper} {a : Act} {K : Act → World → Prop} {Q : Exit → Act → World → Prop} {W : World} {s x : Operand} (ho : o.op = .call { callee := .builtin .append, args := #[s, x], argTypes := #[25, 25] }) (v : Value) (hs : a.eval s = v) {B : Nat} {xs ys : List Bd} (hown : OwnB W B 48 v xs) (hBW : B ≤ W.heap.size)
    {ao : Option Addr} {ca : Nat} (hx : a.eval x = .slice ao ys.length ca) (hr : RdB W ao ys) (hn : (xs.length + ys.length) * 48 ≤ 140737488355328)
    (h : ∀ v' w', OwnB w' B 48 v' (xs ++ ys) → W.grownBy w' v.ownBlock → K (a.put o.dst v') w') : o.wp Tryz.prog a W K Q := by
  rcases ao with _ | ad
  · have hys : ys = [] := by
      rcases hr with h0 | ⟨b, off, ha, _⟩
      · exact List.length_eq_zero_iff.1 h0
      · cases ha
    subst hys
    obtain ⟨i0, hi, hz0, hz1, hz2⟩ := bind_parts
    have hrun : (Builtin.append_ #[25, 25] o.type #[v, .slice none 0 ca]).run Tryz.prog W = .ok v W := by
      have ht := Tryz.underlying25
      rcases hown.2 with ⟨rfl, _⟩ | ⟨g, cap, cur, rfl, _, _, hnc, _⟩
      · simp [Builtin.append_, run_underlying ht, sizeOf, typeInfo, hi, Builtin.lenOf, Builtin.firstCells]
      · simp [Builtin.append_, run_underlying ht, sizeOf, typeInfo, hi, Builtin.lenOf, Builtin.firstCells, hnc, storeCells]
    unfold Oper.wp
    simp only [List.length_nil] at hx
    simp [execOp, ho, resolve, invoke, builtin, hs, hx, hrun, Result.andThen]
    exact h _ _ (by rw [List.append_nil]; exact hown) ⟨rfl, rfl, rfl, Nat.le_refl _, fun _ _ _ => rfl⟩
  · exact spread ho v hs hown hBW hx hr (.inr ⟨ad, rfl⟩) hn h
theorem spreadNL {ops : Array Oper} {rest : List Oper} {o : Oper} {a : Act} {Q : Exit → Act → World → Prop} {W : World} (hgd : o.guard = none) {s x : Operand} (ho : o.op = .call { callee := .builtin .append, args := #[s, x], argTypes := #[25, 25] }) (v : Value) (hs : a.eval s = v) {B : Nat} {xs ys : List Bd} (hown : OwnB W B 48 v xs) (hBW : B ≤ W.heap.size)
    {ao : Option Addr} {ca : Nat} (hx : a.eval x = .slice ao ys.length ca) (hr : RdB W ao ys) (hn : (xs.length + ys.length) * 48 ≤ 140737488355328)
    (h : ∀ v' w', OwnB w' B 48 v' (xs ++ ys) → W.grownBy w' v.ownBlock → wpList Tryz.prog ops Q rest (a.put o.dst v') w') : wpList Tryz.prog ops Q (o :: rest) a W :=
  wpList_plain hgd fun _ hK => spreadN ho v hs hown hBW hx hr hn fun v' w' h1 h2 => hK _ _ (h v' w' h1 h2)
/-- Behind an append: what the call's list grew to, and what stays. -/
theorem spread_keep {W w' : World} {B : Nat} {v : Value} {xs : List Bd} (hown : OwnB W B 48 v xs) (hg : W.grownBy w' v.ownBlock) {k : Nat} {cs : Array Value} {T : TypeId} {fr : Nat × Nat} (hk : W.heap[k]? = some (.cells cs T fr)) (hT : T ≠ 48) : w'.heap[k]? = some (.cells cs T fr) := by
  refine (hg.block k (lt_of_block hk) ?_).trans hk
  intro e
  rcases hown.2 with ⟨rfl, _⟩ | ⟨g, cap, cur, rfl, _, h3, _⟩
  · simp [Value.ownBlock] at e
  · simp [Value.ownBlock] at e
    subst e
    rw [hk] at h3
    injection h3 with h3
    injection h3 with _ h3
    exact hT h3
end Go.Proofs.YtmdibafofdghgaaGreatDoor
/- The document's Put and Encode of units, walked. -/
namespace Go.Proofs.YtmdibafofdghgaaGreatDoor
open Go.ChangeShapes Go.WideShapes Go.ChangeAt Go.RowKit K P1 B5
open D8 (Bd Un lst)
set_option linter.unusedVariables false

theorem lst_app (a b : List Bd) : lst (a ++ b) = lst a ++ lst b := by
  unfold lst
  rw [List.map_append, List.flatMap_append]
theorem lst_one (x : Bd) : lst [x] = put 48 x.body := by
  show put 48 x.body ++ [] = _
  rw [List.append_nil]
theorem lst_take {xs : List Bd} {i : Nat} (hi : i < xs.length) : lst (xs.take (i + 1)) = lst (xs.take i) ++ put 48 (xs.getD i nob).body := by
  rw [List.take_succ_eq_append_getElem hi, lst_app, lst_one, List.getD_eq_getElem?_getD, List.getElem?_eq_getElem hi]; rfl
theorem ok_at {xs : List Bd} (h : ∀ x ∈ xs, x.ok = true) {i : Nat} (hi : i < xs.length) : (xs.getD i nob).ok = true := by
  rw [List.getD_eq_getElem?_getD, List.getElem?_eq_getElem hi]
  exact h _ (List.getElem_mem hi)
/-- What the element of a bind that may be comes to. -/
theorem bd_puts {x : Bd} (h : x.ok = true) : enS x.o = V7.ob x.o ∧ arE x.o = 0 ∧ V7.ckV x.k x.n x.s = true ∧ x.body = put 6 (V7.ob x.o) ++ V7.enT x.k x.n x.s ∧ (V7.ob x.o).length ≤ 640 ∧ x.body.length ≤ 66300 ∧ x.o.length ≤ 140737488351232 := by
  have h1 := (D8.bd_parts h).2
  have h0 := h
  unfold Bd.ok at h
  rw [Bool.and_eq_true] at h
  obtain ⟨l, hl⟩ := Option.isSome_iff_exists.1 h.1
  have hL := (D8.ob_facts h.1).2.2
  obtain ⟨a1, a2⟩ := (O6.arcs_iff _ _).1 hl
  have p1 := O6.put_len l (O6.isArcs_le a1)
  have p2 := (O6.isArcs_len a1).2
  refine ⟨?_, (ar_some hl).1, h.2, ?_, hL, h1, by rw [← a2]; omega⟩
  · unfold enS V7.ob; rw [hl, (ar_some hl).2]; rfl
  · unfold Bd.body; rw [(V7.en_next h.2).1]
theorem lst_take_len {xs : List Bd} (h : ∀ x ∈ xs, x.ok = true) (hl : xs.length ≤ 4096) (i : Nat) : (lst (xs.take i)).length ≤ 271605760 := by
  have h1 := D8.lst_len (xs.take i) (fun x hx => h x (List.mem_of_mem_take hx))
  rw [List.length_take] at h1
  have : min i xs.length ≤ xs.length := Nat.min_le_right _ _
  omega
theorem Uq.four {T : TypeId} {w : World} {b : Nat} {u : Un} {ao : Option Addr} {cap : Nat} (h : Uq T w b u ao cap) : w.cell? ⟨b, 0, none⟩ = some (.int .i64 u.t) ∧ w.cell? ⟨b, 1, none⟩ = some (.int .i64 u.r) ∧ w.cell? ⟨b, 2, none⟩ = some (.int .i64 u.a) ∧ w.cell? ⟨b, 3, none⟩ = some (.int .i64 u.i) :=
  ⟨cellRow h 0, cellRow h 1, cellRow h 2, cellRow h 3⟩
theorem cell_below {w w' : World} {p : Addr} {v : Value} (h : w.cell? p = some v) (k : Below w.heap.size w w') : w'.cell? p = some v := (k.cell (World.block_lt_of_cell? w _ h)).trans h
def P8Rel (u : Un) (ao : Option Addr) (cap : Nat) (w : World) (g : Nat) (vl vi : Value) (wr : World) : Prop :=
  ∃ i : Nat, i + g = u.l.length ∧ vi = .int .i64 (i : Nat) ∧ vl = .string (bs (lst (u.l.take i))) ∧ Uq 60 wr w.heap.size u ao cap ∧ Below w.heap.size w wr
set_option maxRecDepth 100000 in
set_option maxHeartbeats 2000000 in
theorem qput8_walk (u : Un) (ao : Option Addr) (cap : Nat) (hu : u.ok = true) (hx : Lim u.l) (w : World) (hr : RdB w ao u.l) :
    Calls Tryz.prog 56 #[.agg #[.int .i64 u.t, .int .i64 u.r, .int .i64 u.a, .int .i64 u.i, .slice ao u.l.length cap]] w fun e w' => e = .returned (.string (bs u.el)) ∧ Below w.heap.size w w' := by
  have hok := (D8.Un.ok_iff u).1 hu
  have hba := alloc_in w (.cells #[.int .i64 u.t, .int .i64 u.r, .int .i64 u.a, .int .i64 u.i, .slice ao u.l.length cap] 60)
  have huq := Uq.new 60 w u ao cap
  go_enter Tryz.func56, Tryz.ntmps56
  go_wp2_with fail
  generalize w.alloc (.cells #[.int .i64 u.t, .int .i64 u.r, .int .i64 u.a, .int .i64 u.i, .slice ao u.l.length cap] 60) = w0 at *
  go_loopg [3, 4] u.l.length (fun g vl vi wr => P8Rel u ao cap w g vl vi wr)
  case atStart => exact ⟨0, by omega, rfl, rfl, huq, hba⟩
  case round =>
    obtain ⟨i, hi, rfl, rfl, hq, hb⟩ := hrel
    clear huq hba
    obtain ⟨z0, z1, z2, z3, z4⟩ := hq.cells
    cases gk with
    | zero =>
      obtain rfl : i = u.l.length := by omega
      rw [List.take_length]
      have hln := D8.lst_len u.l hok.2.2.2.2.2
      have nr := (pn_ok u.r (by omega) (by omega)).2.2.2
      have na := (pn_ok u.a (by omega) (by omega)).2.2.2
      have ni := (pn_ok u.i (by omega) (by omega)).2.2.2
      have HR := Lib.hid (fun w1 => qnumber8_walk u.r (by omega) (by omega) w1)
      have HA := Lib.hid (fun w1 => qnumber8_walk u.a (by omega) (by omega) w1)
      have HI := Lib.hid (fun w1 => qnumber8_walk u.i (by omega) (by omega) w1)
      have hQ : ∀ w1, Calls Tryz.prog 55 #[.int .i64 48, .string (bs (lst u.l))] w1 fun e w' => e = .returned (.string (bs (put 48 (lst u.l)))) ∧ Below w1.heap.size w1 w' := fun w1 => qput_walk 48 (by omega) (lst u.l) (by omega) w1
      have HQ := Lib.hid hQ
      have s2 := D8.short_le8 (pn u.r).length
      have s3 := D8.short_le8 (pn u.a).length
      have s4 := D8.short_le8 (pn u.i).length
      have s5 := D8.short_le8 (lst u.l).length
      have hbd : u.body = put 2 (pn u.r) ++ put 2 (pn u.a) ++ put 2 (pn u.i) ++ put 48 (lst u.l) := by unfold Un.body; simp only [List.append_assoc]
      have l1 : (put 2 (pn u.r)).length ≤ 20 := by rw [put_len]; omega
      have l2 : (put 2 (pn u.a)).length ≤ 20 := by rw [put_len]; omega
      have l3 : (put 2 (pn u.i)).length ≤ 20 := by rw [put_len]; omega
      have l4 : (put 48 (lst u.l)).length ≤ 271700000 := by rw [put_len]; omega
      have ht : ((u.t.toNat : Nat) : Int) = u.t := by omega
      have hbl : u.body.length < 4294967296 := by rw [hbd]; simp only [List.length_append]; omega
      have hPt := fun w1 => qput_walk u.t.toNat (by omega) u.body hbl w1
      rw [ht, hbd, show put u.t.toNat (put 2 (pn u.r) ++ put 2 (pn u.a) ++ put 2 (pn u.i) ++ put 48 (lst u.l)) = u.el by unfold Un.el; rw [hbd]] at hPt
      have HPt := Lib.hid hPt
      clear hPt hQ hbd hbl ht s2 s3 s4 s5 nr na ni hln
      generalize put 2 (pn u.r) = R1 at *
      generalize put 2 (pn u.a) = R2 at *
      generalize put 2 (pn u.i) = R3 at *
      generalize put 48 (lst u.l) = R4 at *
      generalize lst u.l = L0 at *
      obtain ⟨EL, hEL⟩ : ∃ x, u.el = x := ⟨_, rfl⟩
      rw [hEL] at HPt
      have HEL := Lib.hid hEL
      clear hEL
      have hc1 : (9223372036854775807 < R1.length + R2.length) = False := eq_false (by omega)
      have hc2 : (9223372036854775807 < R1.length + R2.length + R3.length) = False := eq_false (by omega)
      have hc3 : (9223372036854775807 < R1.length + R2.length + R3.length + R4.length) = False := eq_false (by omega)
      have hc4 : (9223372036854775807 < R1.length + (R2.length + R3.length)) = False := eq_false (by omega)
      have hc5 : (9223372036854775807 < R1.length + (R2.length + (R3.length + R4.length))) = False := eq_false (by omega)
      have hc6 : (9223372036854775807 < R1.length + (R2.length + R3.length) + R4.length) = False := eq_false (by omega)
      rw [List.append_assoc, List.append_assoc] at HPt
      go_wp2_with fail
      have zS := Uq.four hq
      go_region_held3 (fun x' => x'.cell? ⟨w.heap.size, 0, none⟩ = some (.int .i64 u.t) ∧ x'.cell? ⟨w.heap.size, 1, none⟩ = some (.int .i64 u.r) ∧ x'.cell? ⟨w.heap.size, 2, none⟩ = some (.int .i64 u.a) ∧ x'.cell? ⟨w.heap.size, 3, none⟩ = some (.int .i64 u.i)) (first | exact zS | exact zS1 | exact zS2 | exact zS3 | exact zS4 | exact zS5)
        (first
          | (go_at_call 84; (with_reducible refine (HR.out _).mono ?_); rintro e x1 ⟨rfl, j1⟩; have k1 : Below wr.heap.size wr x1 := ⟨j1.os, j1.tape, j1.output, j1.size, j1.block⟩; have hb1 := hb.trans (k1.mono hb.size); have hq1 := hq.below k1; have zS1 := Uq.four hq1)
          | (go_at_call 84; (with_reducible refine (HA.out _).mono ?_); rintro e x2 ⟨rfl, j2⟩; have k2 : Below x1.heap.size x1 x2 := ⟨j2.os, j2.tape, j2.output, j2.size, j2.block⟩; have hb2 := hb1.trans (k2.mono hb1.size); have hq2 := hq1.below k2; have zS2 := Uq.four hq2)
          | (go_at_call 84; (with_reducible refine (HI.out _).mono ?_); rintro e x3 ⟨rfl, j3⟩; have k3 : Below x2.heap.size x2 x3 := ⟨j3.os, j3.tape, j3.output, j3.size, j3.block⟩; have hb3 := hb2.trans (k3.mono hb2.size); have hq3 := hq2.below k3; have zS3 := Uq.four hq3)
          | (go_at_call 55; (with_reducible refine (HQ.out _).mono ?_); rintro e x4 ⟨rfl, j4⟩; have k4 : Below x3.heap.size x3 x4 := ⟨j4.os, j4.tape, j4.output, j4.size, j4.block⟩; have hb4 := hb3.trans (k4.mono hb3.size); have hq4 := hq3.below k4; have zS4 := Uq.four hq4)
          | (go_at_call 55; (with_reducible refine (HPt.out _).mono ?_); rintro e x5 ⟨rfl, j5⟩; have k5 : Below x4.heap.size x4 x5 := ⟨j5.os, j5.tape, j5.output, j5.size, j5.block⟩; have hb5 := hb4.trans (k5.mono hb4.size); have hq5 := hq4.below k5; have zS5 := Uq.four hq5))
      go_wp2
      go_ret
      exact ⟨by rw [HEL.out]; rfl, hb5⟩
    | succ g =>
      have hlt : i < u.l.length := by omega
      have HLT := Lib.hid (lst_take hlt)
      have hln := lst_take_len hok.2.2.2.2.2 hok.2.2.2.2.1 i
      have hof := ok_at hok.2.2.2.2.2 hlt
      have hxf := (hx.at hlt).2.2
      obtain ⟨x, hxe⟩ : ∃ x, u.l.getD i nob = x := ⟨_, rfl⟩
      obtain ⟨b, off, hao, hbl, c0, c1, c2, c3⟩ := (hr.below hb).at hlt hxe
      subst hao
      rw [hxe] at HLT hof hxf
      obtain ⟨p1, p2, p3, p4, p5, p6, p7⟩ := bd_puts hof
      have hE := fun w1 => qencode_walk x.o p7 w1
      rw [p1, p2] at hE
      have hP : ∀ w1, Calls Tryz.prog 55 #[.int .i64 6, .string (bs (V7.ob x.o))] w1 fun e w' => e = .returned (.string (bs (put 6 (V7.ob x.o)))) ∧ Below w1.heap.size w1 w' := fun w1 => qput_walk 6 (by omega) (V7.ob x.o) (by omega) w1
      have HP := Lib.hid hP
      have HV := Lib.hid (fun w1 => qput7_walk x.k x.n x.s hxf.1 hxf.2 p3 w1)
      have hQ : ∀ w1, Calls Tryz.prog 55 #[.int .i64 48, .string (bs x.body)] w1 fun e w' => e = .returned (.string (bs (put 48 x.body))) ∧ Below w1.heap.size w1 w' := fun w1 => qput_walk 48 (by omega) x.body (by omega) w1
      rw [p4] at hQ HLT
      have hbl2 : (put 6 (V7.ob x.o) ++ V7.enT x.k x.n x.s).length ≤ 66300 := by rw [← p4]; exact p6
      have hbl3 : (put 48 (put 6 (V7.ob x.o) ++ V7.enT x.k x.n x.s)).length ≤ 66310 := by have := D8.short_le8 (put 6 (V7.ob x.o) ++ V7.enT x.k x.n x.s).length; rw [put_len]; omega
      have HE := Lib.hid hE
      have HQ := Lib.hid hQ
      rw [List.length_append] at hbl2
      clear hE hQ hP p1 p2 p3 p4 hof hxe
      generalize lst (u.l.take i) = L0 at *
      generalize put 6 (V7.ob x.o) = B6 at *
      generalize V7.enT x.k x.n x.s = BV at *
      generalize V7.ob x.o = OB at *
      generalize put 48 (B6 ++ BV) = B48 at *
      go_wp2_with fail
      refine (HE.out _).mono ?_
      rintro e w1 ⟨rfl, k1⟩
      have hb1 := hb.trans (k1.mono hb.size)
      have hq1 := hq.below k1
      have d1 := cell_below c1 k1
      have d2 := cell_below c2 k1
      have d3 := cell_below c3 k1
      obtain ⟨y0, y1, y2, y3, y4⟩ := hq1.cells
      clear c0 c1 c2 c3 z0 z1 z2 z3 z4 hq hb k1 HE
      go_wp2_with fail
      have hcat1 : (9223372036854775807 < B6.length + BV.length) = False := eq_false (by omega)
      have hcat2 : (9223372036854775807 < L0.length + B48.length) = False := eq_false (by omega)
      have zS := And.intro y4 (And.intro d1 (And.intro d2 d3))
      go_region_held3 (fun x' => x'.cell? ⟨w.heap.size, 4, none⟩ = some (.slice (some ⟨b, off, none⟩) u.l.length cap) ∧ x'.cell? ⟨b, off + i * 4 + 1, none⟩ = some (.int .i64 x.k) ∧ x'.cell? ⟨b, off + i * 4 + 2, none⟩ = some (.int .i64 x.n) ∧ x'.cell? ⟨b, off + i * 4 + 3, none⟩ = some (.string (bs x.s))) (first | exact zS | exact zS2 | exact zS3 | exact zS4)
        (first
          | (go_at_call 55; (with_reducible refine (HP.out _).mono ?_); rintro e x2 ⟨rfl, j2⟩; have k2 : Below w1.heap.size w1 x2 := ⟨j2.os, j2.tape, j2.output, j2.size, j2.block⟩; have hb2 := hb1.trans (k2.mono hb1.size); have hq2 := hq1.below k2; have zS2 := And.intro (cell_below zS.1 k2) (And.intro (cell_below zS.2.1 k2) (And.intro (cell_below zS.2.2.1 k2) (cell_below zS.2.2.2 k2))))
          | (go_at_call 83; refine (HV.out _).mono ?_; rintro e x3 ⟨rfl, j3⟩; have k3 : Below x2.heap.size x2 x3 := ⟨j3.os, j3.tape, j3.output, j3.size, j3.block⟩; have hb3 := hb2.trans (k3.mono hb2.size); have hq3 := hq2.below k3; have zS3 := And.intro (cell_below zS2.1 k3) (And.intro (cell_below zS2.2.1 k3) (And.intro (cell_below zS2.2.2.1 k3) (cell_below zS2.2.2.2 k3))))
          | (go_at_call 55; refine (HQ.out _).mono ?_; rintro e x4 ⟨rfl, j4⟩; have k4 : Below x3.heap.size x3 x4 := ⟨j4.os, j4.tape, j4.output, j4.size, j4.block⟩; have hb4 := hb3.trans (k4.mono hb3.size); have hq4 := hq3.below k4; have zS4 := And.intro (cell_below zS3.1 k4) (And.intro (cell_below zS3.2.1 k4) (And.intro (cell_below zS3.2.2.1 k4) (cell_below zS3.2.2.2 k4)))))
      go_wp2
      go_roundg g
      case measure => omega
      case rel => exact ⟨i + 1, by omega, by simp, by rw [HLT.out], hq4, hb4⟩
end Go.Proofs.YtmdibafofdghgaaGreatDoor
