/- Texts on the program and on the document, joined: PduFi. -/
import Derived.Test.YtgjmnlgjdgjdbaaDoorMa28
/- PduFind, walked. -/
namespace Go.Proofs.YtgjmnlgjdgjdbaaDoor
open Go.ChangeShapes Go.WideShapes Go.ChangeAt Go.RowKit K P1 B5
open D8 (Bd Un lst deB deL deU)
set_option linter.unusedVariables false

theorem RdB.pre {w : World} {ao : Option Addr} {xs ys : List Bd} (h : RdB w ao (xs ++ ys)) : RdB w ao xs := by
  by_cases h0 : xs.length = 0
  · exact .inl h0
  rcases h with h | ⟨b, off, ha, hb, hc⟩
  · rw [List.length_append] at h; omega
  · refine .inr ⟨b, off, ha, hb, fun i hi => ?_⟩
    have := hc i (by rw [List.length_append]; omega)
    rw [List.getD_eq_getElem?_getD, List.getElem?_append_left hi, ← List.getD_eq_getElem?_getD] at this
    exact this
theorem RdB.last {w : World} {g : Nat} {xs : List Bd} {x : Bd} (h : RdB w (some ⟨g, 0, none⟩) (xs ++ [x])) : w.cell? ⟨g, xs.length * 4, none⟩ = some (.string (bs x.o)) := by
  rcases h with h | ⟨b, off, ha, hb, hc⟩
  · simp at h
  · injection ha with ha
    injection ha with h1 h2 _
    subst h1 h2
    have := (hc xs.length (by simp)).1
    have hg : (xs ++ [x]).getD xs.length nob = x := by simp [List.getD]
    rw [hg] at this
    simpa using this
/-- The cells that a list has, one by one. -/
theorem RdB.each {w : World} {a : Addr} {xs : List Bd} (h : RdB w (some a) xs) : ∀ j u, (bnds xs)[j]? = some u → w.cell? (a.add j) = some u := by
  intro j u hj
  have hlt : j < (bnds xs).length := by
    rcases Nat.lt_or_ge j (bnds xs).length with h | h
    · exact h
    · rw [List.getElem?_eq_none h] at hj; cases hj
  rw [bnds_len] at hlt
  rcases h with h | ⟨b, off, ha, hb, hc⟩
  · omega
  · injection ha with ha
    subst ha
    have hi : j / 4 < xs.length := by omega
    have hg := bnds_get xs (j / 4) (j % 4) hi (by omega)
    rw [show j / 4 * 4 + j % 4 = j by omega] at hg
    rw [hg] at hj
    obtain ⟨c0, c1, c2, c3⟩ := hc (j / 4) hi
    have hadd : (⟨b, off, none⟩ : Addr).add j = ⟨b, off + j, none⟩ := by simp [Addr.add]
    rw [hadd]
    have hm : j % 4 = 0 ∨ j % 4 = 1 ∨ j % 4 = 2 ∨ j % 4 = 3 := by omega
    rcases hm with hm | hm | hm | hm
    · rw [hm] at hj
      simp [cellsB] at hj
      rw [← hj, show off + j = off + j / 4 * 4 by omega]; exact c0
    · rw [hm] at hj
      simp [cellsB] at hj
      rw [← hj, show off + j = off + (j / 4 * 4 + 1) by omega]; exact c1
    · rw [hm] at hj
      simp [cellsB] at hj
      rw [← hj, show off + j = off + (j / 4 * 4 + 2) by omega]; exact c2
    · rw [hm] at hj
      simp [cellsB] at hj
      rw [← hj, show off + j = off + (j / 4 * 4 + 3) by omega]; exact c3
theorem ownB_empty (w : World) (B : Nat) (T : TypeId) (hb : B ≤ w.heap.size) : OwnB (w.alloc (.cells #[] T)) B T (.slice (some ⟨w.heap.size, 0, none⟩) 0 0) [] :=
  ⟨by simp [bnds], .inr ⟨w.heap.size, 0, #[], rfl, hb, rowNew w _, Nat.le_refl _, by unfold maxLen; omega, by simp, by simp [bnds]⟩⟩
theorem cells_all : ∀ (xs : List Bd), ∀ u ∈ bnds xs, u.oneCell' = true
  | [], u, hu => by simp [bnds] at hu
  | x :: xs, u, hu => by
    have hu' : u ∈ cellsB x ++ bnds xs := hu
    rcases List.mem_append.1 hu' with h | h
    · exact one_cell x u h
    · exact cells_all xs u h
def mark : Bd := ⟨[109, 97, 114, 107], 0, 0, []⟩
theorem app1 {o : Oper} {a : Act} {K : Act → World → Prop} {Q : Exit → Act → World → Prop} {W : World} {s x : Operand} (ho : o.op = .call { callee := .builtin .append, args := #[s, x], argTypes := #[22, 22] }) (k : Nat) (hs : a.eval s = .slice (some ⟨k, 0, none⟩) 0 0) (hk : W.heap[k]? = some (.cells #[] 29 (0, 0))) (B : Nat) (hBk : B ≤ k) (hBW : B ≤ W.heap.size)
    {ao : Option Addr} {ca : Nat} {xs : List Bd} (hx : a.eval x = .slice ao xs.length ca) (hr : RdB W ao xs) (hsh : (ao = none ∧ xs.length = 0 ∧ ca = 0) ∨ ∃ a, ao = some a) (hn : xs.length ≤ 1000000)
    (h : ∀ v' w', OwnB w' B 29 v' xs → W.grownBy w' (some k) → K (a.put o.dst v') w') : o.wp Tryd.prog a W K Q := by
  obtain ⟨i0, hi, hz0, hz1, hz2⟩ := bind_parts
  have hown : W.ownsRow B 29 4 (.slice (some ⟨k, 0, none⟩) 0 0) 0 [] := ⟨by simp, .inr ⟨k, 0, #[], rfl, hBk, hk, Nat.le_refl _, by unfold maxLen; omega, by simp, by simp⟩⟩
  rcases hsh with ⟨rfl, h0, rfl⟩ | ⟨ad, rfl⟩
  · have hxs : xs = [] := List.length_eq_zero_iff.1 h0
    subst hxs
    have hrun := run_append_owned_none (P := Tryd.prog) (w := W) B 22 o.type 29 i0 4 Tryd.underlying22 hi _ 0 [] hown
    unfold Oper.wp
    simp [execOp, ho, resolve, invoke, builtin, hs, hx, hrun, Result.andThen]
    exact h _ _ hown ⟨rfl, rfl, rfl, Nat.le_refl _, fun _ _ _ => rfl⟩
  · refine wp_append_own W s x 22 ho B 29 i0 (.agg #[.string .empty, .int .i64 0, .int .i64 0, .string .empty]) 4 48 Tryd.underlying22 hi hz0 hz1 hz2 rfl (by decide) _ 0 [] hs hown ad xs.length ca (bnds xs) hx (bnds_len xs) hr.each (cells_all xs) (by unfold maxLen; omega) (by omega) hBW ?_
    intro v' w' hown' hg _
    rw [Nat.zero_add, List.nil_append] at hown'
    exact h v' w' hown' hg
theorem own_some {w : World} {B : Nat} {v : Value} {xs : List Bd} (h : OwnB w B 29 v xs) (h0 : 0 < xs.length) : ∃ g cap, v = .slice (some ⟨g, 0, none⟩) xs.length cap ∧ B ≤ g ∧ xs.length ≤ cap ∧ cap ≤ maxLen := by
  rcases h.2 with ⟨_, hn⟩ | ⟨g, cap, cur, hv, hB, _, hle, hm, _⟩
  · omega
  · exact ⟨g, cap, hv, hB, hle, hm⟩
theorem app2 {o : Oper} {a : Act} {K : Act → World → Prop} {Q : Exit → Act → World → Prop} {W : World} {s x : Operand} (ho : o.op = .call { callee := .builtin .append, args := #[s, x], argTypes := #[22, 22] }) (v : Value) (hs : a.eval s = v) {B : Nat} {xs : List Bd} (hown : OwnB W B 29 v xs) (hBW : B ≤ W.heap.size)
    (km : Nat) (hx : a.eval x = .slice (some ⟨km, 0, none⟩) 1 1) (y : Bd) (hm : Bq W km y) (hn : xs.length ≤ 1000000)
    (h : ∀ (g cap : Nat) (w' : World), OwnB w' B 29 (.slice (some ⟨g, 0, none⟩) (xs.length + 1) cap) (xs ++ [y]) → (xs.length : Int) + 1 ≤ (cap : Nat) → cap ≤ 9223372036854775807 → B ≤ g → Below B W w' → K (a.put o.dst (.slice (some ⟨g, 0, none⟩) (xs.length + 1) cap)) w') : o.wp Tryd.prog a W K Q := by
  obtain ⟨i0, hi, hz0, hz1, hz2⟩ := bind_parts
  refine wp_append_own W s x 22 ho B 29 i0 (.agg #[.string .empty, .int .i64 0, .int .i64 0, .string .empty]) 4 48 Tryd.underlying22 hi hz0 hz1 hz2 rfl (by decide) v xs.length (bnds xs) hs hown ⟨km, 0, none⟩ 1 1 (cellsB y) hx rfl hm.each (one_cell y) (by unfold maxLen; omega) (by omega) hBW ?_
  intro v' w' hown' hg _
  have ho2 : OwnB w' B 29 v' (xs ++ [y]) := OwnB.put hown'
  obtain ⟨g, cap, hv, hgB, hle, hmx⟩ := own_some ho2 (by simp)
  rw [List.length_append, List.length_singleton] at hv hle
  subst hv
  unfold maxLen at hmx
  exact h g cap w' ho2 (by omega) hmx hgB ((Below.refl B W).grown hg hBW (fun k hk => (World.ownsRow.lt hown k hk).1))
theorem app3 {o : Oper} {a : Act} {K : Act → World → Prop} {Q : Exit → Act → World → Prop} {W : World} {s x : Operand} (ho : o.op = .call { callee := .builtin .append, args := #[s, x], argTypes := #[22, 22] }) (v : Value) (hs : a.eval s = v) {B : Nat} {xs : List Bd} (hown : OwnB W B 29 v xs) (hBW : B ≤ W.heap.size)
    {bo : Option Addr} {cb : Nat} {ys : List Bd} (hx : a.eval x = .slice bo ys.length cb) (hr : RdB W bo ys) (hsh : (bo = none ∧ ys.length = 0 ∧ cb = 0) ∨ ∃ a, bo = some a) (hn : xs.length + ys.length ≤ 1000000)
    (h : ∀ v' w', OwnB w' B 29 v' (xs ++ ys) → Below B W w' → K (a.put o.dst v') w') : o.wp Tryd.prog a W K Q := by
  obtain ⟨i0, hi, hz0, hz1, hz2⟩ := bind_parts
  rcases hsh with ⟨rfl, h0, rfl⟩ | ⟨ad, rfl⟩
  · have hxs : ys = [] := List.length_eq_zero_iff.1 h0
    subst hxs
    have hrun := run_append_owned_none (P := Tryd.prog) (w := W) B 22 o.type 29 i0 4 Tryd.underlying22 hi v xs.length (bnds xs) hown
    unfold Oper.wp
    simp [execOp, ho, resolve, invoke, builtin, hs, hx, hrun, Result.andThen]
    exact h _ _ (by rw [List.append_nil]; exact hown) (Below.refl _ _)
  · refine wp_append_own W s x 22 ho B 29 i0 (.agg #[.string .empty, .int .i64 0, .int .i64 0, .string .empty]) 4 48 Tryd.underlying22 hi hz0 hz1 hz2 rfl (by decide) v xs.length (bnds xs) hs hown ad ys.length cb (bnds ys) hx (bnds_len ys) hr.each (cells_all ys) (by unfold maxLen; omega) (by omega) hBW ?_
    intro v' w' hown' hg _
    refine h v' w' ?_ ((Below.refl B W).grown hg hBW (fun k hk => (World.ownsRow.lt hown k hk).1))
    unfold OwnB
    rw [List.length_append, bnds_app]
    exact hown'
theorem app1L {ops : Array Oper} {rest : List Oper} {o : Oper} {a : Act} {Q : Exit → Act → World → Prop} {W : World} {s x : Operand} (hgd : o.guard = none) (ho : o.op = .call { callee := .builtin .append, args := #[s, x], argTypes := #[22, 22] }) (k : Nat) (hs : a.eval s = .slice (some ⟨k, 0, none⟩) 0 0) (hk : W.heap[k]? = some (.cells #[] 29 (0, 0))) (B : Nat) (hBk : B ≤ k) (hBW : B ≤ W.heap.size)
    {ao : Option Addr} {ca : Nat} {xs : List Bd} (hx : a.eval x = .slice ao xs.length ca) (hr : RdB W ao xs) (hsh : (ao = none ∧ xs.length = 0 ∧ ca = 0) ∨ ∃ a, ao = some a) (hn : xs.length ≤ 1000000)
    (h : ∀ v' w', OwnB w' B 29 v' xs → W.grownBy w' (some k) → wpList Tryd.prog ops Q rest (a.put o.dst v') w') : wpList Tryd.prog ops Q (o :: rest) a W :=
  wpList_plain hgd fun _ hK => app1 ho k hs hk B hBk hBW hx hr hsh hn fun v' w' h1 h2 => hK _ _ (h v' w' h1 h2)
theorem app3L {ops : Array Oper} {rest : List Oper} {o : Oper} {a : Act} {Q : Exit → Act → World → Prop} {W : World} {s x : Operand} (hgd : o.guard = none) (ho : o.op = .call { callee := .builtin .append, args := #[s, x], argTypes := #[22, 22] }) (v : Value) (hs : a.eval s = v) {B : Nat} {xs : List Bd} (hown : OwnB W B 29 v xs) (hBW : B ≤ W.heap.size)
    {bo : Option Addr} {cb : Nat} {ys : List Bd} (hx : a.eval x = .slice bo ys.length cb) (hr : RdB W bo ys) (hsh : (bo = none ∧ ys.length = 0 ∧ cb = 0) ∨ ∃ a, bo = some a) (hn : xs.length + ys.length ≤ 1000000)
    (h : ∀ v' w', OwnB w' B 29 v' (xs ++ ys) → Below B W w' → wpList Tryd.prog ops Q rest (a.put o.dst v') w') : wpList Tryd.prog ops Q (o :: rest) a W :=
  wpList_plain hgd fun _ hK => app3 ho v hs hown hBW hx hr hsh hn fun v' w' h1 h2 => hK _ _ (h v' w' h1 h2)
theorem fnd_app (r : List UInt8) (xs ys : List Bd) : fnd r (xs ++ ys) = fnd r xs ++ fnd r ys := List.filter_append ..
theorem fnd_in {r : List UInt8} {xs : List Bd} {i : Nat} (hi : i < (fnd r xs).length) : wi r ((fnd r xs).getD i nob).o = true := by
  rw [List.getD_eq_getElem?_getD, List.getElem?_eq_getElem hi]
  have := List.getElem_mem hi
  unfold fnd at this
  exact (List.mem_filter.1 this).2
theorem wi_child {r s : List UInt8} (h : chE r 1 = 0) (hw : wi (chS r 1) s = true) : wi r s = true := by
  cases hr : O6.arcs r with
  | none => rw [(ch_none hr 1).1] at h; cases h
  | some l =>
    obtain ⟨c1, c2⟩ := ch_some hr (show inR 1 = true by decide)
    by_cases hA : O6.isArcs (l ++ [(1 : Int).toNat]) = true
    · rw [if_pos hA] at c2
      rw [c2] at hw
      unfold wi at hw ⊢
      rw [Bool.and_eq_true, Bool.and_eq_true] at hw
      obtain ⟨h1, h2, h3⟩ := hw
      obtain ⟨t, ht⟩ := (O6.within_iff _ _).1 h3
      have ha : arL (O6.put (l ++ [(1 : Int).toNat])) = l ++ [(1 : Int).toNat] := by unfold arL; rw [O6.arcs_put hA]; rfl
      rw [ha] at ht
      have hl : arL r = l := by unfold arL; rw [hr]; rfl
      rw [hl, hr, h2]
      rw [(O6.within_iff l (arL s)).2 ⟨[(1 : Int).toNat] ++ t, by rw [ht, List.append_assoc]⟩]
      rfl
    · rw [if_neg hA] at c1
      rw [c1] at h; cases h
theorem fnd_child {r : List UInt8} (h : chE r 1 = 0) (xs : List Bd) : (fnd (chS r 1) xs).length ≤ (fnd r xs).length := by
  induction xs with
  | nil => exact Nat.le_refl _
  | cons x xs ih =>
    show (List.filter _ (x :: xs)).length ≤ (List.filter _ (x :: xs)).length
    by_cases h1 : wi (chS r 1) x.o = true
    · have h2 := wi_child h h1
      rw [List.filter_cons_of_pos (by exact h1), List.filter_cons_of_pos (by exact h2), List.length_cons, List.length_cons]
      exact Nat.succ_le_succ ih
    · rw [List.filter_cons_of_neg (by exact h1)]
      by_cases h2 : wi r x.o = true
      · rw [List.filter_cons_of_pos (by exact h2), List.length_cons]; exact Nat.le_succ_of_le ih
      · rw [List.filter_cons_of_neg (by exact h2)]; exact ih
theorem fnd_child2 {r : List UInt8} (h : chE r 1 = 0) (xs ys : List Bd) : (fnd (chS r 1) (xs ++ ys)).length ≤ (fnd r xs).length + (fnd r ys).length := by
  have h1 := fnd_child h (xs ++ ys)
  have h2 : (fnd r (xs ++ ys)).length = (fnd r xs).length + (fnd r ys).length := by rw [fnd_app, List.length_append]
  omega
theorem chS_len (r : List UInt8) (x : Int) : (chS r x).length ≤ 1000000 := by
  cases hr : O6.arcs r with
  | none => rw [(ch_none hr x).2]; simp
  | some l =>
    by_cases hi : inR x = true
    · rw [(ch_some hr hi).2]
      by_cases hA : O6.isArcs (l ++ [x.toNat]) = true
      · rw [if_pos hA]
        have q1 := O6.put_len _ (O6.isArcs_le hA)
        have q2 := (O6.isArcs_len hA).2
        omega
      · rw [if_neg hA]; simp
    · rw [(ch_far hr (by simpa using hi)).2]; simp
theorem wi_len {r s : List UInt8} (h : wi r s = true) : s.length ≤ 1000000 := by
  unfold wi at h
  rw [Bool.and_eq_true, Bool.and_eq_true] at h
  obtain ⟨l, hl⟩ := Option.isSome_iff_exists.1 h.2.1
  obtain ⟨a1, a2⟩ := (O6.arcs_iff _ _).1 hl
  have q1 := O6.put_len l (O6.isArcs_le a1)
  have q2 := (O6.isArcs_len a1).2
  rw [← a2]; omega
theorem keep8 {x y : World} {p1 p2 p3 p4 p5 p6 p7 p8 : Addr} {v1 v2 v3 v4 v5 v6 v7 v8 : Value} (h : x.cell? p1 = some v1 ∧ x.cell? p2 = some v2 ∧ x.cell? p3 = some v3 ∧ x.cell? p4 = some v4 ∧ x.cell? p5 = some v5 ∧ x.cell? p6 = some v6 ∧ x.cell? p7 = some v7 ∧ x.cell? p8 = some v8) (k : Below x.heap.size x y) :
    y.cell? p1 = some v1 ∧ y.cell? p2 = some v2 ∧ y.cell? p3 = some v3 ∧ y.cell? p4 = some v4 ∧ y.cell? p5 = some v5 ∧ y.cell? p6 = some v6 ∧ y.cell? p7 = some v7 ∧ y.cell? p8 = some v8 := by
  have f : ∀ {p : Addr} {v : Value}, x.cell? p = some v → y.cell? p = some v := fun hp => (k.cell (World.block_lt_of_cell? x _ hp)).trans hp
  obtain ⟨h1, h2, h3, h4, h5, h6, h7, h8⟩ := h
  exact ⟨f h1, f h2, f h3, f h4, f h5, f h6, f h7, f h8⟩
def FiRel (n : Nat) (w8 : World) (g : Nat) (v : Value) (wr : World) : Prop := ∃ i : Nat, i + g = n ∧ v = .int .i64 (i : Nat) ∧ Below w8.heap.size w8 wr
set_option maxRecDepth 100000 in
set_option maxHeartbeats 2000000 in
theorem pduFind_in (xs ys : List Bd) (ao bo : Option Addr) (ca cb : Nat) (r : List UInt8) (hrl : r.length ≤ 1000) (w : World) (T : Tp w) (hl : xs.length ≤ 140737488351232) (hl2 : ys.length ≤ 140737488351232) (hx : Lim xs) (hx2 : Lim ys) (hr : RdB w ao xs) (hr2 : RdB w bo ys) (hsh : (ao = none ∧ xs.length = 0 ∧ ca = 0) ∨ ∃ a, ao = some a) (hsh2 : (bo = none ∧ ys.length = 0 ∧ cb = 0) ∨ ∃ a, bo = some a) (hs1 : smB xs = true) (hs2 : smB ys = true) (h80 : xs.length + ys.length ≤ 80) :
    Calls Tryd.prog 3 #[.slice ao xs.length ca, .slice bo ys.length cb, .string (bs r)] w fun e w' => e = .returned (.bool true) ∧ Below w.heap.size w w' := by
  have HW := Lib.hid (fun w1 (h : Tp w1) => works8_walk w1 h)
  have hSm1 := fun w1 (h : RdB w1 ao xs) => small_walk xs ao ca hl hx w1 h
  rw [hs1] at hSm1
  have hSm2 := fun w1 (h : RdB w1 bo ys) => small_walk ys bo cb hl2 hx2 w1 h
  rw [hs2] at hSm2
  have HSm1 := Lib.hid hSm1
  have HSm2 := Lib.hid hSm2
  have hf1 := sm_facts hs1
  have hf2 := sm_facts hs2
  have hlp1 : LimP xs := fun x hx' => ⟨by have := (hf1.2.2 x hx').2; omega, by have := (hf1.2.2 x hx').1; omega, (hx x hx').2.2⟩
  have hlp2 : LimP ys := fun x hx' => ⟨by have := (hf2.2.2 x hx').2; omega, by have := (hf2.2.2 x hx').1; omega, (hx2 x hx').2.2⟩
  have hlp3 : LimP (xs ++ ys) := fun x hx' => by rcases List.mem_append.1 hx' with h | h; exact hlp1 x h; exact hlp2 x h
  have hr' : ((r.length : Nat) : Int) ≤ 1000 := by omega
  have h80' : ((xs.length : Nat) : Int) + ((ys.length : Nat) : Int) ≤ 80 := by omega
  have y0 : IntKind.i64.wrap (((xs.length : Nat) : Int) + ((ys.length : Nat) : Int)) = ((xs.length : Nat) : Int) + ((ys.length : Nat) : Int) := IntWalk.i64_in _ (by omega)
  have HF1 := Lib.hid (fun w1 (h : Tabs w1) (h1 : RdB w1 ao xs) => find_walk r xs ao ca (by omega) (by omega) hlp1 w1 h h1)
  have HF2 := Lib.hid (fun w1 (h : Tabs w1) (h1 : RdB w1 bo ys) => find_walk r ys bo cb (by omega) (by omega) hlp2 w1 h h1)
  have hF4 := fun (al : Option Addr) (cl : Nat) w1 (h : Tabs w1) (h1 : RdB w1 al (xs ++ ys)) => find_walk r (xs ++ ys) al cl (by omega) (by rw [List.length_append]; omega) hlp3 w1 h h1
  rw [fnd_app, List.length_append] at hF4
  have HF4 := Lib.hid hF4
  have hx8 := fnd_len r xs
  have hy8 := fnd_len r ys
  have hF3 := (fun (q : List UInt8) (hq : q.length ≤ 1000000) (al : Option Addr) (cl : Nat) w1 (h : Tabs w1) (h1 : RdB w1 al (xs ++ ys)) => find_walk q (xs ++ ys) al cl hq (by rw [List.length_append]; omega) hlp3 w1 h h1)
  rw [List.length_append] at hF3
  have HF3 := Lib.hid hF3
  have HCh := Lib.hid (fun w1 (h : Tabs w1) => child_walk r (by omega) 1 (by omega) (by omega) w1 h)
  have HT := Lib.hid T
  have HR := Lib.hid hr
  have HS := Lib.hid hr2
  have HSH := Lib.hid hsh
  have HSH2 := Lib.hid hsh2
  clear hF3 hF4 hsh hsh2 hSm1 hSm2 hs1 hs2 T hr hr2 hf1 hf2 hlp1 hlp2 hlp3
  go_enter Tryd.func3, Tryd.ntmps3
  go_wp2_with fail
  refine (HW.out _ HT.out).mono ?_
  rintro e w1 ⟨rfl, b1⟩
  have HT1 := Lib.hid (HT.out.below b1)
  have HR1 := Lib.hid (HR.out.below b1)
  have HS1 := Lib.hid (HS.out.below b1)
  clear HT HR HS
  go_wp2_with fail
  refine (HSm1.out _ HR1.out).mono ?_
  rintro e w2 ⟨rfl, d2⟩
  have b2 := b1.trans (d2.mono b1.size)
  have HT2 := Lib.hid (HT1.out.below d2)
  have HR2 := Lib.hid (HR1.out.below d2)
  have HS2 := Lib.hid (HS1.out.below d2)
  clear HT1 HR1 HS1 d2 b1
  go_wp2_with fail
  refine (HSm2.out _ HS2.out).mono ?_
  rintro e w3 ⟨rfl, d3⟩
  have b3 := b2.trans (d3.mono b2.size)
  have HT3 := Lib.hid (HT2.out.below d3)
  have HR3 := Lib.hid (HR2.out.below d3)
  have HS3 := Lib.hid (HS2.out.below d3)
  clear HT2 HR2 HS2 d3 b2
  have aE := alloc_in w3 (.cells #[] 29)
  have hE := rowNew w3 (.cells #[] 29)
  have rE := HR3.out.below aE
  have sE := HS3.out.below aE
  have bE := b3.trans (aE.mono b3.size)
  have hsz3 : w.heap.size ≤ w3.heap.size := b3.size
  have hn1 : xs.length ≤ 1000000 := by omega
  have hn2 : xs.length + ys.length ≤ 1000000 := by omega
  have kE : w3.heap.size ≤ (w3.alloc (.cells #[] 29)).heap.size := by simp
  go_wp2_with (at_builtin; refine app1L rfl rfl _ rfl hE w3.heap.size (Nat.le_refl _) kE rfl rE HSH.out hn1 ?_)
  intro v4 w4 ho4 hg4
  have d4 : Below w3.heap.size w3 w4 := aE.grown hg4 kE (fun k e => by have := Option.some.inj e; omega)
  have HS4 := Lib.hid (HS3.out.below d4)
  have HR4 := Lib.hid (HR3.out.below d4)
  have HT4 := Lib.hid (HT3.out.below d4)
  have b4 := b3.trans (d4.mono b3.size)
  have k4 : w3.heap.size ≤ w4.heap.size := d4.size
  clear hE rE sE aE hg4 kE bE
  go_wp2_with (at_builtin; refine app3L rfl rfl _ rfl ho4 k4 rfl HS4.out HSH2.out hn2 ?_)
  intro v5 w5 ho5 d5
  obtain ⟨al, cl, hv5, hr5⟩ := OwnB.form ho5
  subst hv5
  have d35 : Below w3.heap.size w3 w5 := d4.trans d5
  have d5' : Below w3.heap.size w4 w5 := d5
  have b5 := b3.trans (d35.mono hsz3)
  rw [List.length_append]
  have HA5 := Lib.hid (HR3.out.below d35)
  have HB5 := Lib.hid (HS3.out.below d35)
  have HT5 := Lib.hid (HT3.out.below d35)
  have HL5 := Lib.hid hr5
  clear ho4 ho5 d4 d5 d5' d35 HR3 HS3 HT3 HR4 HS4 HT4 b4 hr5 HSm1 HSm2 HSH HSH2
  go_wp2_with fail
  refine (HF1.out _ HT5.out.1 HA5.out).mono ?_
  rintro e w6 ⟨vx, rfl, hox, d6⟩
  obtain ⟨ax, cx, hvx, hrx⟩ := OwnB.form hox
  subst hvx
  have HT6 := Lib.hid (HT5.out.below d6)
  have HB6 := Lib.hid (HB5.out.below d6)
  have HL6 := Lib.hid (HL5.out.below d6)
  have b6 := b5.trans (d6.mono b5.size)
  clear hox HT5 HA5 HB5 HL5 d6 b5
  go_wp2_with fail
  refine (HF2.out _ HT6.out.1 HB6.out).mono ?_
  rintro e w7 ⟨vy, rfl, hoy, d7⟩
  obtain ⟨ay, cy, hvy, hry⟩ := OwnB.form hoy
  subst hvy
  have HT7 := Lib.hid (HT6.out.below d7)
  have HL7 := Lib.hid (HL6.out.below d7)
  have hrx7 := hrx.below d7
  have b7 := b6.trans (d7.mono b6.size)
  clear hoy HT6 HB6 HL6 d7 b6 hrx
  go_wp2_with fail
  refine (HF4.out _ _ _ HT7.out.1 HL7.out).mono ?_
  rintro e w8 ⟨vz, rfl, hoz, d8⟩
  obtain ⟨az, cz, hvz, hrz⟩ := OwnB.form hoz
  rw [List.length_append] at hvz
  subst hvz
  have HT8 := Lib.hid (HT7.out.below d8)
  have HL8 := Lib.hid (HL7.out.below d8)
  have HX8 := Lib.hid (hrx7.below d8)
  have HY8 := Lib.hid (hry.below d8)
  have HZ8 := Lib.hid hrz
  have b8 := b7.trans (d8.mono b7.size)
  clear hoz HT7 HL7 d8 b7 hrx7 hry hrz HF1 HF2 HF4
  have HIN := Lib.hid (fun (i : Nat) (hi : i < (fnd r xs ++ fnd r ys).length) => (show wi r ((fnd r xs ++ fnd r ys).getD i nob).o = true by rw [← fnd_app] at hi ⊢; exact fnd_in hi))
  have HLN := Lib.hid (fun h : chE r 1 = 0 => fnd_child2 h xs ys)
  generalize fnd r xs = FX at *
  generalize fnd r ys = FY at *
  have y1 : IntKind.i64.wrap (((FX.length : Nat) : Int) + ((FY.length : Nat) : Int)) = ((FX.length : Nat) : Int) + ((FY.length : Nat) : Int) := IntWalk.i64_in _ (by omega)
  have y2 : ((((FX.length + FY.length : Nat)) : Int) != ((FX.length : Nat) : Int) + ((FY.length : Nat) : Int)) = false := by simp
  have y3 : ((((FX.length : Nat) : Int) + ((FY.length : Nat) : Int)) != ((FX.length : Nat) : Int) + ((FY.length : Nat) : Int)) = false := by simp
  go_wp2_with fail
  go_loopg [62] (FX.length + FY.length) (fun g v wr => FiRel (FX.length + FY.length) w8 g v wr)
  case atStart => exact ⟨0, by omega, rfl, Below.refl _ _⟩
  case round =>
    obtain ⟨i, hi, rfl, hbl⟩ := hrel
    have bR := b8.trans (hbl.mono b8.size)
    have HTR := Lib.hid (HT8.out.below hbl)
    have HLR := Lib.hid (HL8.out.below hbl)
    cases gk with
    | zero =>
      have hCh := HCh.out wr HTR.out.1
      cases hce : (((chE r 1 : Nat) : Int) != 0)
      · have hz : chE r 1 = 0 := by
          have : ((chE r 1 : Nat) : Int) = 0 := by simpa using hce
          omega
        have hle := HLN.out hz
        have hcl := chS_len r 1
        have HFc := Lib.hid (fun w1 h h1 => HF3.out (chS r 1) hcl al cl w1 h h1)
        have hle' : (((fnd (chS r 1) (xs ++ ys)).length : Nat) : Int) ≤ ((FX.length : Nat) : Int) + ((FY.length : Nat) : Int) := by omega
        have HC := Lib.hid hCh
        clear hCh hle hz HF3 HCh HLN HIN
        generalize fnd (chS r 1) (xs ++ ys) = FC at *
        generalize chE r 1 = CE at *
        generalize chS r 1 = CS at *
        go_wp2_with fail
        refine HC.out.mono ?_
        rintro e w9 ⟨rfl, d9⟩
        have HT9 := Lib.hid (HTR.out.below d9)
        have HL9 := Lib.hid (HLR.out.below d9)
        have b9 := bR.trans (d9.mono bR.size)
        clear d9 bR HTR HLR
        go_wp2_with fail
        refine (HFc.out _ HT9.out.1 HL9.out).mono ?_
        rintro e w10 ⟨vc, rfl, hoc, d10⟩
        obtain ⟨ac, cc, hvc, _⟩ := OwnB.form hoc
        subst hvc
        have b10 := b9.trans (d10.mono b9.size)
        clear hoc d10 b9
        go_wp2
        go_ret
        exact ⟨rfl, b10⟩
      · have HC := Lib.hid hCh
        clear hCh HF3 HCh HLN HIN
        generalize chE r 1 = CE at *
        generalize chS r 1 = CS at *
        go_wp2_with fail
        refine HC.out.mono ?_
        rintro e w9 ⟨rfl, d9⟩
        go_wp2
        go_ret
        exact ⟨rfl, bR.trans (d9.mono bR.size)⟩
    | succ g =>
      have hlt : i < (FX ++ FY).length := by rw [List.length_append]; omega
      have hWi := HIN.out i hlt
      have hZR := HZ8.out.below hbl
      have hXR := HX8.out.below hbl
      have hYR := HY8.out.below hbl
      obtain ⟨x, hxe⟩ : ∃ x, (FX ++ FY).getD i nob = x := ⟨_, rfl⟩
      rw [hxe] at hWi
      obtain ⟨zb, zo, rfl, hzl, z0, z1, z2, z3⟩ := hZR.at hlt hxe
      have hq := run_equal_bind x x
      have haW := alloc_in wr (.cells #[.string (bs x.o), .int .i64 x.k, .int .i64 x.n, .string (bs x.s)] 29)
      have hWn := fun w1 (h : Tabs w1) => within_walk r x.o (by omega) (wi_len hWi) w1 h
      rw [hWi] at hWn
      have HWi := Lib.hid hWn
      have hvq := Bq.new wr x
      have HTV := Lib.hid (HTR.out.below haW)
      have blV := hbl.trans (haW.mono hbl.size)
      have z0' := cell_below z0 haW
      have z1' := cell_below z1 haW
      have z2' := cell_below z2 haW
      have z3' := cell_below z3 haW
      obtain ⟨v0, v1, v2, v3⟩ := hvq.cells
      have zS := And.intro z0' (And.intro z1' (And.intro z2' (And.intro z3' (And.intro v0 (And.intro v1 (And.intro v2 v3))))))
      have hse := eqB_self x
      rw [hse] at hq
      clear hWn hvq hWi hse v0 v1 v2 v3 z0' z1' z2' z3' HIN HLN hZR hlt bR HCh HF3
      by_cases hiX : i < FX.length
      · have hxx : FX.getD i nob = x := by
          rw [← hxe, List.getD_eq_getElem?_getD, List.getD_eq_getElem?_getD, List.getElem?_append_left hiX]
        obtain ⟨xb, xo, rfl, hxl, x0, x1, x2, x3⟩ := hXR.at hiX hxx
        have hii : ((i : Nat) : Int) < ((FX.length : Nat) : Int) := by omega
        clear hxx hxe hXR hYR
        go_wp2_with fail
        generalize wr.alloc (.cells #[.string (bs x.o), .int .i64 x.k, .int .i64 x.n, .string (bs x.s)] 29) = wv at *
        go_region_held3 (fun x' => x'.cell? ⟨zb, zo + i * 4, none⟩ = some (.string (bs x.o)) ∧ x'.cell? ⟨zb, zo + i * 4 + 1, none⟩ = some (.int .i64 x.k) ∧ x'.cell? ⟨zb, zo + i * 4 + 2, none⟩ = some (.int .i64 x.n) ∧ x'.cell? ⟨zb, zo + i * 4 + 3, none⟩ = some (.string (bs x.s)) ∧ x'.cell? ⟨wr.heap.size, 0, none⟩ = some (.string (bs x.o)) ∧ x'.cell? ⟨wr.heap.size, 1, none⟩ = some (.int .i64 x.k) ∧ x'.cell? ⟨wr.heap.size, 2, none⟩ = some (.int .i64 x.n) ∧ x'.cell? ⟨wr.heap.size, 3, none⟩ = some (.string (bs x.s))) (first | exact zS1 | exact zS)
          (first
            | (go_at_call 7; refine (HWi.out _ (by exact HTV.out.1)).mono ?_; rintro e x1 ⟨rfl, j1⟩; have k1 : Below wv.heap.size wv x1 := ⟨j1.os, j1.tape, j1.output, j1.size, j1.block⟩; have zS1 := keep8 zS k1; have bl1 := blV.trans (k1.mono blV.size)))
        go_wp2
        go_roundg g
        case measure => omega
        case rel => exact ⟨i + 1, by omega, by simp, bl1⟩
      · obtain ⟨j, hj⟩ : ∃ j, i = FX.length + j := ⟨i - FX.length, by omega⟩
        have hjy : j < FY.length := by omega
        have hyy : FY.getD j nob = x := by
          rw [← hxe, List.getD_eq_getElem?_getD, List.getD_eq_getElem?_getD, List.getElem?_append_right (by omega), show i - FX.length = j by omega]
        obtain ⟨yb, yo, rfl, hyl, x0, x1, x2, x3⟩ := hYR.at hjy hyy
        have hii : ((FX.length : Nat) : Int) ≤ ((i : Nat) : Int) := by omega
        have hsub : IntKind.i64.wrap (((i : Nat) : Int) - ((FX.length : Nat) : Int)) = ((j : Nat) : Int) := by rw [IntWalk.i64_in _ (by omega)]; omega
        have hjy' : ((j : Nat) : Int) < ((FY.length : Nat) : Int) := by omega
        have hj0 : (0 : Int) ≤ ((j : Nat) : Int) := by omega
        have HJ := Lib.hid hj
        clear hyy hxe hXR hYR hiX hj
        go_wp2_with fail
        generalize wr.alloc (.cells #[.string (bs x.o), .int .i64 x.k, .int .i64 x.n, .string (bs x.s)] 29) = wv at *
        go_region_held3 (fun x' => x'.cell? ⟨zb, zo + i * 4, none⟩ = some (.string (bs x.o)) ∧ x'.cell? ⟨zb, zo + i * 4 + 1, none⟩ = some (.int .i64 x.k) ∧ x'.cell? ⟨zb, zo + i * 4 + 2, none⟩ = some (.int .i64 x.n) ∧ x'.cell? ⟨zb, zo + i * 4 + 3, none⟩ = some (.string (bs x.s)) ∧ x'.cell? ⟨wr.heap.size, 0, none⟩ = some (.string (bs x.o)) ∧ x'.cell? ⟨wr.heap.size, 1, none⟩ = some (.int .i64 x.k) ∧ x'.cell? ⟨wr.heap.size, 2, none⟩ = some (.int .i64 x.n) ∧ x'.cell? ⟨wr.heap.size, 3, none⟩ = some (.string (bs x.s))) (first | exact zS1 | exact zS)
          (first
            | (go_at_call 7; refine (HWi.out _ (by exact HTV.out.1)).mono ?_; rintro e x1 ⟨rfl, j1⟩; have k1 : Below wv.heap.size wv x1 := ⟨j1.os, j1.tape, j1.output, j1.size, j1.block⟩; have zS1 := keep8 zS k1; have bl1 := blV.trans (k1.mono blV.size)))
        go_wp2
        go_roundg g
        case measure => omega
        case rel => exact ⟨i + 1, by omega, by simp, bl1⟩
theorem pduFind_out (xs ys : List Bd) (ao bo : Option Addr) (ca cb : Nat) (r : List UInt8) (w : World) (T : Tp w) (hl : xs.length ≤ 140737488351232) (hl2 : ys.length ≤ 140737488351232) (hx : Lim xs) (hx2 : Lim ys) (hr : RdB w ao xs) (hr2 : RdB w bo ys)
    (h : smB xs = false ∨ (smB xs = true ∧ smB ys = false) ∨ (smB xs = true ∧ smB ys = true ∧ 1000 < r.length) ∨ (smB xs = true ∧ smB ys = true ∧ r.length ≤ 1000 ∧ 80 < xs.length + ys.length)) :
    Calls Tryd.prog 3 #[.slice ao xs.length ca, .slice bo ys.length cb, .string (bs r)] w fun e w' => e = .returned (.bool true) ∧ Below w.heap.size w w' := by
  have HW := Lib.hid (fun w1 (h : Tp w1) => works8_walk w1 h)
  have hSm1 := fun w1 (h : RdB w1 ao xs) => small_walk xs ao ca hl hx w1 h
  have hSm2 := fun w1 (h : RdB w1 bo ys) => small_walk ys bo cb hl2 hx2 w1 h
  have HT := Lib.hid T
  have HR := Lib.hid hr
  have HS := Lib.hid hr2
  clear T hr hr2
  rcases h with h | ⟨h, h2⟩ | ⟨h, h2, h3⟩ | ⟨h, h2, h3, h4⟩
  · rw [h] at hSm1
    have HSm1 := Lib.hid hSm1
    clear hSm1 hSm2 h
    go_enter Tryd.func3, Tryd.ntmps3
    go_wp2_with fail
    refine (HW.out _ HT.out).mono ?_
    rintro e w1 ⟨rfl, b1⟩
    have HR1 := Lib.hid (HR.out.below b1)
    go_wp2_with fail
    refine (HSm1.out _ HR1.out).mono ?_
    rintro e w2 ⟨rfl, d2⟩
    go_wp2
    go_ret
    exact ⟨rfl, b1.trans (d2.mono b1.size)⟩
  · rw [h] at hSm1
    rw [h2] at hSm2
    have HSm1 := Lib.hid hSm1
    have HSm2 := Lib.hid hSm2
    clear hSm1 hSm2 h h2
    go_enter Tryd.func3, Tryd.ntmps3
    go_wp2_with fail
    refine (HW.out _ HT.out).mono ?_
    rintro e w1 ⟨rfl, b1⟩
    have HR1 := Lib.hid (HR.out.below b1)
    have HS1 := Lib.hid (HS.out.below b1)
    go_wp2_with fail
    refine (HSm1.out _ HR1.out).mono ?_
    rintro e w2 ⟨rfl, d2⟩
    have HS2 := Lib.hid (HS1.out.below d2)
    have b2 := b1.trans (d2.mono b1.size)
    go_wp2_with fail
    refine (HSm2.out _ HS2.out).mono ?_
    rintro e w3 ⟨rfl, d3⟩
    go_wp2
    go_ret
    exact ⟨rfl, b2.trans (d3.mono b2.size)⟩
  · rw [h] at hSm1
    rw [h2] at hSm2
    have HSm1 := Lib.hid hSm1
    have HSm2 := Lib.hid hSm2
    have h3' : (1000 : Int) < ((r.length : Nat) : Int) := by omega
    clear hSm1 hSm2 h h2 h3
    go_enter Tryd.func3, Tryd.ntmps3
    go_wp2_with fail
    refine (HW.out _ HT.out).mono ?_
    rintro e w1 ⟨rfl, b1⟩
    have HR1 := Lib.hid (HR.out.below b1)
    have HS1 := Lib.hid (HS.out.below b1)
    go_wp2_with fail
    refine (HSm1.out _ HR1.out).mono ?_
    rintro e w2 ⟨rfl, d2⟩
    have HS2 := Lib.hid (HS1.out.below d2)
    have b2 := b1.trans (d2.mono b1.size)
    go_wp2_with fail
    refine (HSm2.out _ HS2.out).mono ?_
    rintro e w3 ⟨rfl, d3⟩
    go_wp2
    go_ret
    exact ⟨rfl, b2.trans (d3.mono b2.size)⟩
  · have hf1 := sm_facts h
    have hf2 := sm_facts h2
    rw [h] at hSm1
    rw [h2] at hSm2
    have HSm1 := Lib.hid hSm1
    have HSm2 := Lib.hid hSm2
    have h3' : ((r.length : Nat) : Int) ≤ 1000 := by omega
    have h4' : (80 : Int) < ((xs.length : Nat) : Int) + ((ys.length : Nat) : Int) := by omega
    have y0 : IntKind.i64.wrap (((xs.length : Nat) : Int) + ((ys.length : Nat) : Int)) = ((xs.length : Nat) : Int) + ((ys.length : Nat) : Int) := IntWalk.i64_in _ (by have := hf1.2.1; have := hf2.2.1; omega)
    clear hSm1 hSm2 h h2 h3 h4 hf1 hf2
    go_enter Tryd.func3, Tryd.ntmps3
    go_wp2_with fail
    refine (HW.out _ HT.out).mono ?_
    rintro e w1 ⟨rfl, b1⟩
    have HR1 := Lib.hid (HR.out.below b1)
    have HS1 := Lib.hid (HS.out.below b1)
    go_wp2_with fail
    refine (HSm1.out _ HR1.out).mono ?_
    rintro e w2 ⟨rfl, d2⟩
    have HS2 := Lib.hid (HS1.out.below d2)
    have b2 := b1.trans (d2.mono b1.size)
    go_wp2_with fail
    refine (HSm2.out _ HS2.out).mono ?_
    rintro e w3 ⟨rfl, d3⟩
    go_wp2
    go_ret
    exact ⟨rfl, b2.trans (d3.mono b2.size)⟩
theorem pduFind_walk (xs ys : List Bd) (ao bo : Option Addr) (ca cb : Nat) (r : List UInt8) (hb : r.length ≤ 140737488351232) (w : World) (T : Tp w) (hl : xs.length ≤ 140737488351232) (hl2 : ys.length ≤ 140737488351232) (hx : Lim xs) (hx2 : Lim ys) (hr : RdB w ao xs) (hr2 : RdB w bo ys) (hsh : (ao = none ∧ xs.length = 0 ∧ ca = 0) ∨ ∃ a, ao = some a) (hsh2 : (bo = none ∧ ys.length = 0 ∧ cb = 0) ∨ ∃ a, bo = some a) :
    Calls Tryd.prog 3 #[.slice ao xs.length ca, .slice bo ys.length cb, .string (bs r)] w fun e w' => e = .returned (.bool true) ∧ Below w.heap.size w w' := by
  cases h1 : smB xs
  · exact pduFind_out xs ys ao bo ca cb r w T hl hl2 hx hx2 hr hr2 (.inl h1)
  cases h2 : smB ys
  · exact pduFind_out xs ys ao bo ca cb r w T hl hl2 hx hx2 hr hr2 (.inr (.inl ⟨h1, h2⟩))
  by_cases h3 : 1000 < r.length
  · exact pduFind_out xs ys ao bo ca cb r w T hl hl2 hx hx2 hr hr2 (.inr (.inr (.inl ⟨h1, h2, h3⟩)))
  by_cases h4 : 80 < xs.length + ys.length
  · exact pduFind_out xs ys ao bo ca cb r w T hl hl2 hx hx2 hr hr2 (.inr (.inr (.inr ⟨h1, h2, by omega, h4⟩)))
  · exact pduFind_in xs ys ao bo ca cb r (by omega) w T hl hl2 hx hx2 hr hr2 hsh hsh2 h1 h2 (by omega)
end Go.Proofs.YtgjmnlgjdgjdbaaDoor
