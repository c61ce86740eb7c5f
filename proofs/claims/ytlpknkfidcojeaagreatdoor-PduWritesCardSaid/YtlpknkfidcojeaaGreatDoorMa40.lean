/- Texts on the program and on the document, joined: PduWr. -/
import Derived.Test.YtlpknkfidcojeaaGreatDoorMa39
import Derived.Test.YtlpknkfidcojeaaGreatDoorMa27
import Derived.Deep.DeepCutAuto
/- PduWrites, walked. -/
namespace Go.Proofs.YtlpknkfidcojeaaGreatDoor
open Go.ChangeShapes Go.WideShapes Go.ChangeAt Go.RowKit K P1 B5
open D8 (Bd Un lst deB deL deU)
set_option linter.unusedVariables false

theorem RdB.pre {w : World} {ao : Option Addr} {xs ys : List Bd} (h : RdB w ao (xs ++ ys)) : RdB w ao xs := by
  by_cases h0 : xs.length = 0
  · exact .inl h0
  rcases h with h | ⟨b, off, ha, hb, hc⟩
  · rw [List.length_append] at h; omega
  · refine .inr ⟨b, off, ha, hb, fun i hi => ?_⟩
    have := hc i (by rw [List.length_append]; omega)
    rw [List.getD_eq_getElem?_getD, List.getElem?_append_left hi, ← List.getD_eq_getElem?_getD] at this
    exact this
theorem RdB.last {w : World} {g : Nat} {xs : List Bd} {x : Bd} (h : RdB w (some ⟨g, 0, none⟩) (xs ++ [x])) : w.cell? ⟨g, xs.length * 4, none⟩ = some (.string (bs x.o)) := by
  rcases h with h | ⟨b, off, ha, hb, hc⟩
  · simp at h
  · injection ha with ha
    injection ha with h1 h2 _
    subst h1 h2
    have := (hc xs.length (by simp)).1
    have hg : (xs ++ [x]).getD xs.length nob = x := by simp [List.getD]
    rw [hg] at this
    simpa using this
/-- The cells that a list has, one by one. -/
theorem RdB.each {w : World} {a : Addr} {xs : List Bd} (h : RdB w (some a) xs) : ∀ j u, (bnds xs)[j]? = some u → w.cell? (a.add j) = some u := by
  intro j u hj
  have hlt : j < (bnds xs).length := by
    rcases Nat.lt_or_ge j (bnds xs).length with h | h
    · exact h
    · rw [List.getElem?_eq_none h] at hj; cases hj
  rw [bnds_len] at hlt
  rcases h with h | ⟨b, off, ha, hb, hc⟩
  · omega
  · injection ha with ha
    subst ha
    have hi : j / 4 < xs.length := by omega
    have hg := bnds_get xs (j / 4) (j % 4) hi (by omega)
    rw [show j / 4 * 4 + j % 4 = j by omega] at hg
    rw [hg] at hj
    obtain ⟨c0, c1, c2, c3⟩ := hc (j / 4) hi
    have hadd : (⟨b, off, none⟩ : Addr).add j = ⟨b, off + j, none⟩ := by simp [Addr.add]
    rw [hadd]
    have hm : j % 4 = 0 ∨ j % 4 = 1 ∨ j % 4 = 2 ∨ j % 4 = 3 := by omega
    rcases hm with hm | hm | hm | hm
    · rw [hm] at hj
      simp [cellsB] at hj
      rw [← hj, show off + j = off + j / 4 * 4 by omega]; exact c0
    · rw [hm] at hj
      simp [cellsB] at hj
      rw [← hj, show off + j = off + (j / 4 * 4 + 1) by omega]; exact c1
    · rw [hm] at hj
      simp [cellsB] at hj
      rw [← hj, show off + j = off + (j / 4 * 4 + 2) by omega]; exact c2
    · rw [hm] at hj
      simp [cellsB] at hj
      rw [← hj, show off + j = off + (j / 4 * 4 + 3) by omega]; exact c3
theorem ownB_empty (w : World) (B : Nat) (T : TypeId) (hb : B ≤ w.heap.size) : OwnB (w.alloc (.cells #[] T)) B T (.slice (some ⟨w.heap.size, 0, none⟩) 0 0) [] :=
  ⟨by simp [bnds], .inr ⟨w.heap.size, 0, #[], rfl, hb, rowNew w _, Nat.le_refl _, by unfold maxLen; omega, by simp, by simp [bnds]⟩⟩
theorem cells_all : ∀ (xs : List Bd), ∀ u ∈ bnds xs, u.oneCell' = true
  | [], u, hu => by simp [bnds] at hu
  | x :: xs, u, hu => by
    have hu' : u ∈ cellsB x ++ bnds xs := hu
    rcases List.mem_append.1 hu' with h | h
    · exact one_cell x u h
    · exact cells_all xs u h
def mark : Bd := ⟨[109, 97, 114, 107], 0, 0, []⟩
theorem app1 {o : Oper} {a : Act} {K : Act → World → Prop} {Q : Exit → Act → World → Prop} {W : World} {s x : Operand} (ho : o.op = .call { callee := .builtin .append, args := #[s, x], argTypes := #[23, 23] }) (k : Nat) (hs : a.eval s = .slice (some ⟨k, 0, none⟩) 0 0) (hk : W.heap[k]? = some (.cells #[] 42 (0, 0))) (B : Nat) (hBk : B ≤ k) (hBW : B ≤ W.heap.size)
    {ao : Option Addr} {ca : Nat} {xs : List Bd} (hx : a.eval x = .slice ao xs.length ca) (hr : RdB W ao xs) (hsh : (ao = none ∧ xs.length = 0 ∧ ca = 0) ∨ ∃ a, ao = some a) (hn : xs.length ≤ 1000000)
    (h : ∀ v' w', OwnB w' B 42 v' xs → W.grownBy w' (some k) → K (a.put o.dst v') w') : o.wp Tryz.prog a W K Q := by
  obtain ⟨i0, hi, hz0, hz1, hz2⟩ := bind_parts
  have hown : W.ownsRow B 42 4 (.slice (some ⟨k, 0, none⟩) 0 0) 0 [] := ⟨by simp, .inr ⟨k, 0, #[], rfl, hBk, hk, Nat.le_refl _, by unfold maxLen; omega, by simp, by simp⟩⟩
  rcases hsh with ⟨rfl, h0, rfl⟩ | ⟨ad, rfl⟩
  · have hxs : xs = [] := List.length_eq_zero_iff.1 h0
    subst hxs
    have hrun := run_append_owned_none (P := Tryz.prog) (w := W) B 23 o.type 42 i0 4 Tryz.underlying23 hi _ 0 [] hown
    unfold Oper.wp
    simp [execOp, ho, resolve, invoke, builtin, hs, hx, hrun, Result.andThen]
    exact h _ _ hown ⟨rfl, rfl, rfl, Nat.le_refl _, fun _ _ _ => rfl⟩
  · refine wp_append_own W s x 23 ho B 42 i0 (.agg #[.string .empty, .int .i64 0, .int .i64 0, .string .empty]) 4 48 Tryz.underlying23 hi hz0 hz1 hz2 rfl (by decide) _ 0 [] hs hown ad xs.length ca (bnds xs) hx (bnds_len xs) hr.each (cells_all xs) (by unfold maxLen; omega) (by omega) hBW ?_
    intro v' w' hown' hg _
    rw [Nat.zero_add, List.nil_append] at hown'
    exact h v' w' hown' hg
theorem own_some {w : World} {B : Nat} {v : Value} {xs : List Bd} (h : OwnB w B 42 v xs) (h0 : 0 < xs.length) : ∃ g cap, v = .slice (some ⟨g, 0, none⟩) xs.length cap ∧ B ≤ g ∧ xs.length ≤ cap ∧ cap ≤ maxLen := by
  rcases h.2 with ⟨_, hn⟩ | ⟨g, cap, cur, hv, hB, _, hle, hm, _⟩
  · omega
  · exact ⟨g, cap, hv, hB, hle, hm⟩
theorem app2 {o : Oper} {a : Act} {K : Act → World → Prop} {Q : Exit → Act → World → Prop} {W : World} {s x : Operand} (ho : o.op = .call { callee := .builtin .append, args := #[s, x], argTypes := #[23, 23] }) (v : Value) (hs : a.eval s = v) {B : Nat} {xs : List Bd} (hown : OwnB W B 42 v xs) (hBW : B ≤ W.heap.size)
    (km : Nat) (hx : a.eval x = .slice (some ⟨km, 0, none⟩) 1 1) (y : Bd) (hm : Bq W km y) (hn : xs.length ≤ 1000000)
    (h : ∀ (g cap : Nat) (w' : World), OwnB w' B 42 (.slice (some ⟨g, 0, none⟩) (xs.length + 1) cap) (xs ++ [y]) → (xs.length : Int) + 1 ≤ (cap : Nat) → cap ≤ 9223372036854775807 → B ≤ g → Below B W w' → K (a.put o.dst (.slice (some ⟨g, 0, none⟩) (xs.length + 1) cap)) w') : o.wp Tryz.prog a W K Q := by
  obtain ⟨i0, hi, hz0, hz1, hz2⟩ := bind_parts
  refine wp_append_own W s x 23 ho B 42 i0 (.agg #[.string .empty, .int .i64 0, .int .i64 0, .string .empty]) 4 48 Tryz.underlying23 hi hz0 hz1 hz2 rfl (by decide) v xs.length (bnds xs) hs hown ⟨km, 0, none⟩ 1 1 (cellsB y) hx rfl hm.each (one_cell y) (by unfold maxLen; omega) (by omega) hBW ?_
  intro v' w' hown' hg _
  have ho2 : OwnB w' B 42 v' (xs ++ [y]) := OwnB.put hown'
  obtain ⟨g, cap, hv, hgB, hle, hmx⟩ := own_some ho2 (by simp)
  rw [List.length_append, List.length_singleton] at hv hle
  subst hv
  unfold maxLen at hmx
  exact h g cap w' ho2 (by omega) hmx hgB ((Below.refl B W).grown hg hBW (fun k hk => (World.ownsRow.lt hown k hk).1))
theorem app1x {o : Oper} {a : Act} {K : Act → World → Prop} {Q : Exit → Act → World → Prop} {W w2 : World} {s x : Operand} (ho : o.op = .call { callee := .builtin .append, args := #[s, x], argTypes := #[23, 23] }) (k : Nat) (hs : a.eval s = .slice (some ⟨k, 0, none⟩) 0 0) (hk : W.heap[k]? = some (.cells #[] 42 (0, 0))) (hBk : w2.heap.size + 1 ≤ k) (hBW : w2.heap.size + 1 ≤ W.heap.size)
    {ao : Option Addr} {ca : Nat} {u : Un} (hx : a.eval x = .slice ao u.l.length ca) (hr : RdB W ao u.l) (hsh : (ao = none ∧ u.l.length = 0 ∧ ca = 0) ∨ ∃ a, ao = some a) (hn : u.l.length ≤ 1000000) {bu : Nat} {c : Value} (hbu : bu < w2.heap.size) (z : W.cell? ⟨bu, 4, none⟩ = some c) (O : Uq 25 W w2.heap.size u ao ca) (b : Below w2.heap.size w2 W)
    (h : ∀ v' x1, OwnB x1 (w2.heap.size + 1) 42 v' u.l → x1.cell? ⟨bu, 4, none⟩ = some c → Uq 25 x1 w2.heap.size u ao ca → Below w2.heap.size w2 x1 → w2.heap.size + 1 ≤ x1.heap.size → (∀ km, km ≠ k → Bq W km mark → Bq x1 km mark) → K (a.put o.dst v') x1) : o.wp Tryz.prog a W K Q := by
  refine app1 ho k hs hk (w2.heap.size + 1) hBk hBW hx hr hsh hn ?_
  intro v' x1 ho1 hg
  have hne : ∀ j, j ≠ k → some j ≠ some k := fun j hj e => hj (Option.some.inj e)
  refine h v' x1 ho1 (hg.cell z (hne _ (by show bu ≠ k; omega))) ((hg.block w2.heap.size (by omega) (hne _ (by omega))).trans O) (b.grown hg (by omega) (fun j e => by have := Option.some.inj e; omega)) (Nat.le_trans hBW hg.size) ?_
  intro km hkm hm
  exact (hg.block km (lt_of_block hm) (hne _ hkm)).trans hm
theorem app2x {o : Oper} {a : Act} {K : Act → World → Prop} {Q : Exit → Act → World → Prop} {W w2 : World} {s x : Operand} (ho : o.op = .call { callee := .builtin .append, args := #[s, x], argTypes := #[23, 23] }) (v : Value) (hs : a.eval s = v) {u : Un} {ao : Option Addr} {ca : Nat} (hown : OwnB W (w2.heap.size + 1) 42 v u.l) (hBW : w2.heap.size + 1 ≤ W.heap.size)
    (km : Nat) (hx : a.eval x = .slice (some ⟨km, 0, none⟩) 1 1) (hm : Bq W km mark) (hn : u.l.length ≤ 1000000) {bu : Nat} {c : Value} (hbu : bu < w2.heap.size) (z : W.cell? ⟨bu, 4, none⟩ = some c) (O : Uq 25 W w2.heap.size u ao ca) (b : Below w2.heap.size w2 W)
    (h : ∀ (g cap : Nat) (x2 : World), OwnB x2 (w2.heap.size + 1) 42 (.slice (some ⟨g, 0, none⟩) (u.l.length + 1) cap) (u.l ++ [mark]) → (u.l.length : Int) + 1 ≤ (cap : Nat) → (u.l.length : Int) ≤ (cap : Nat) → cap ≤ 9223372036854775807 → w2.heap.size + 1 ≤ g → x2.cell? ⟨bu, 4, none⟩ = some c → Uq 25 x2 w2.heap.size u ao ca → x2.cell? ⟨w2.heap.size, 4, none⟩ = some (.slice ao u.l.length ca) → x2.frozen? ⟨w2.heap.size, 4, none⟩ = false → Below w2.heap.size w2 x2 → (∀ val, (x2.setCell ⟨w2.heap.size, 4, none⟩ val).cell? ⟨bu, 4, none⟩ = some c) → K (a.put o.dst (.slice (some ⟨g, 0, none⟩) (u.l.length + 1) cap)) x2) : o.wp Tryz.prog a W K Q := by
  refine app2 ho v hs hown hBW km hx mark hm hn ?_
  intro g cap x2 ho2 hle hmx hgB b2
  have z2 := (b2.cell (p := ⟨bu, 4, none⟩) (by show bu < _; omega)).trans z
  have O2 : Uq 25 x2 w2.heap.size u ao ca := (b2.block w2.heap.size (Nat.lt_succ_self _)).trans O
  exact h g cap x2 ho2 hle (by omega) hmx hgB z2 O2 O2.cells.2.2.2.2 (freeRow O2 4) (b.trans (b2.mono (Nat.le_succ _))) (fun val => (World.cell?_setCell_far x2 ⟨w2.heap.size, 4, none⟩ ⟨bu, 4, none⟩ val (Nat.ne_of_gt hbu)).trans z2)
/-- What a world holds while PduWrites looks on. -/
def Hw (x : World) (bu bv bw : Nat) (u v : Un) (ao : Option Addr) (ca : Nat) (bo : Option Addr) (cb : Nat) (g cp : Nat) : Prop :=
  Uq 25 x bu u ao ca ∧ Uq 25 x bv v bo cb ∧ Uq 25 x bw u (some ⟨g, 0, none⟩) cp ∧ RdB x ao u.l ∧ RdB x bo v.l ∧ RdB x (some ⟨g, 0, none⟩) (u.l ++ [mark]) ∧ Tp x
theorem Hw.below {x y : World} {bu bv bw : Nat} {u v : Un} {ao : Option Addr} {ca : Nat} {bo : Option Addr} {cb : Nat} {g cp : Nat} (h : Hw x bu bv bw u v ao ca bo cb g cp) (k : Below x.heap.size x y) : Hw y bu bv bw u v ao ca bo cb g cp :=
  ⟨h.1.below k, h.2.1.below k, h.2.2.1.below k, h.2.2.2.1.below k, h.2.2.2.2.1.below k, h.2.2.2.2.2.1.below k, h.2.2.2.2.2.2.below k⟩
theorem Hw.cells {x : World} {bu bv bw : Nat} {u v : Un} {ao : Option Addr} {ca : Nat} {bo : Option Addr} {cb : Nat} {g cp : Nat} (h : Hw x bu bv bw u v ao ca bo cb g cp) :
    x.cell? ⟨bu, 0, none⟩ = some (.int .i64 u.t) ∧ x.cell? ⟨bu, 1, none⟩ = some (.int .i64 u.r) ∧ x.cell? ⟨bu, 2, none⟩ = some (.int .i64 u.a) ∧ x.cell? ⟨bu, 3, none⟩ = some (.int .i64 u.i) ∧ x.cell? ⟨bu, 4, none⟩ = some (.slice ao u.l.length ca) ∧ x.cell? ⟨bv, 0, none⟩ = some (.int .i64 v.t) ∧ x.cell? ⟨bv, 1, none⟩ = some (.int .i64 v.r) ∧ x.cell? ⟨bv, 2, none⟩ = some (.int .i64 v.a) ∧ x.cell? ⟨bv, 3, none⟩ = some (.int .i64 v.i) ∧ x.cell? ⟨bv, 4, none⟩ = some (.slice bo v.l.length cb) ∧ x.cell? ⟨bw, 0, none⟩ = some (.int .i64 u.t) ∧ x.cell? ⟨bw, 1, none⟩ = some (.int .i64 u.r) ∧ x.cell? ⟨bw, 2, none⟩ = some (.int .i64 u.a) ∧ x.cell? ⟨bw, 3, none⟩ = some (.int .i64 u.i) ∧ x.cell? ⟨bw, 4, none⟩ = some (.slice (some ⟨g, 0, none⟩) u.l.length cp) ∧ x.cell? ⟨g, u.l.length * 4, none⟩ = some (.string (bs [109, 97, 114, 107])) := by
  obtain ⟨a0, a1, a2, a3, a4⟩ := h.1.cells
  obtain ⟨b0, b1, b2, b3, b4⟩ := h.2.1.cells
  obtain ⟨c0, c1, c2, c3, c4⟩ := h.2.2.1.cells
  exact ⟨a0, a1, a2, a3, a4, b0, b1, b2, b3, b4, c0, c1, c2, c3, c4, RdB.last h.2.2.2.2.2.1⟩
theorem Hw.own {x : World} {bu bv bw : Nat} {u v : Un} {ao : Option Addr} {ca : Nat} {bo : Option Addr} {cb : Nat} {g cp : Nat} (h : Hw x bu bv bw u v ao ca bo cb g cp) : RdB x (some ⟨g, 0, none⟩) u.l := RdB.pre h.2.2.2.2.2.1
/-- A block of its own that has so many cells. -/
def RoomB (w : World) (B : Nat) (ao : Option Addr) (n : Nat) : Prop := n = 0 ∨ ∃ g C, ao = some ⟨g, 0, none⟩ ∧ B ≤ g ∧ w.heap[g]? = some (.cells C 42 (0, 0)) ∧ n * 4 ≤ C.size
theorem RoomB.of {w : World} {B : Nat} {v : Value} {xs : List Bd} (h : OwnB w B 42 v xs) : ∃ ao cap, v = .slice ao xs.length cap ∧ RoomB w B ao xs.length := by
  rcases h.2 with ⟨hv, h0⟩ | ⟨g, cap, cur, hv, hB, hh, hle, hm, hs, ht⟩
  · exact ⟨none, 0, by rw [hv, h0], .inl h0⟩
  · exact ⟨some ⟨g, 0, none⟩, cap, hv, .inr ⟨g, cur, rfl, hB, hh, by rw [hs]; exact Nat.mul_le_mul_right 4 hle⟩⟩
theorem RoomB.below {w w' : World} {B : Nat} {ao : Option Addr} {n : Nat} (h : RoomB w B ao n) (k : Below w.heap.size w w') : RoomB w' B ao n := by
  rcases h with h | ⟨g, C, h1, h2, h3, h4⟩
  · exact .inl h
  · exact .inr ⟨g, C, h1, h2, (k.block g (lt_of_block h3)).trans h3, h4⟩
def SwRel (wF : World) (ao : Option Addr) (n : Nat) (g : Nat) (v : Value) (wr : World) : Prop :=
  ∃ i : Nat, i + g = n ∧ v = .int .i64 (i : Nat) ∧ RoomB wr wF.heap.size ao n ∧ Below wF.heap.size wF wr
set_option maxRecDepth 100000 in
set_option maxHeartbeats 4000000 in
theorem pduWrites_in (u v : Un) (ao bo : Option Addr) (ca cb : Nat) (r : List UInt8) (hrl : r.length ≤ 2000) (w : World) (T : Tp w) (hl : u.l.length ≤ 140737488351232) (hl2 : v.l.length ≤ 140737488351232) (hx : Lim u.l) (hx2 : Lim v.l) (hr : RdB w ao u.l) (hr2 : RdB w bo v.l) (hsh : (ao = none ∧ u.l.length = 0 ∧ ca = 0) ∨ ∃ a, ao = some a) (hs1 : smB u.l = true) (hs2 : smB v.l = true) :
    Calls Tryz.prog 4 #[.agg #[.int .i64 u.t, .int .i64 u.r, .int .i64 u.a, .int .i64 u.i, .slice ao u.l.length ca], .agg #[.int .i64 v.t, .int .i64 v.r, .int .i64 v.a, .int .i64 v.i, .slice bo v.l.length cb], .string (bs r)] w fun e w' => e = .returned (.bool true) ∧ Below w.heap.size w w' := by
  obtain ⟨w0, hw0, hu0, hv0, b0⟩ := two_units 25 w u v ao bo ca cb
  have HR0 := Lib.hid (hr.below b0)
  have HS0 := Lib.hid (hr2.below b0)
  have HT0 := Lib.hid (T.below b0)
  have hSm1 := fun w1 (h : RdB w1 ao u.l) => small_walk u.l ao ca hl hx w1 h
  rw [hs1] at hSm1
  have hSm2 := fun w1 (h : RdB w1 bo v.l) => small_walk v.l bo cb hl2 hx2 w1 h
  rw [hs2] at hSm2
  have HSm1 := Lib.hid hSm1
  have HSm2 := Lib.hid hSm2
  have hsf := sm_facts hs1
  have hun : u.l.length ≤ 8192 := hsf.2.1
  have HLP := Lib.hid (show LimP u.l from fun x hx' => ⟨by have := (hsf.2.2 x hx').2; omega, by have := (hsf.2.2 x hx').1; omega, (hx x hx').2.2⟩)
  have hr' : ((r.length : Nat) : Int) ≤ 2000 := by omega
  have HW0 := Lib.hid hw0
  clear hw0 hSm1 hSm2 hs1 hs2 T hr hr2 hsf
  go_enter Tryz.func4, Tryz.ntmps4
  go_wp2_with fail
  rw [HW0.out]
  obtain ⟨y0, y1, y2, y3, y4⟩ := hu0.cells
  obtain ⟨z0, z1, z2, z3, z4⟩ := hv0.cells
  clear HW0
  refine (HSm1.out _ HR0.out).mono ?_
  rintro e w1 ⟨rfl, d1⟩
  have hu1 := hu0.below d1
  have hv1 := hv0.below d1
  have HR1 := Lib.hid (HR0.out.below d1)
  have HS1 := Lib.hid (HS0.out.below d1)
  have HT1 := Lib.hid (HT0.out.below d1)
  have b1 := b0.trans (d1.mono b0.size)
  clear y0 y1 y2 y3 y4 z0 z1 z2 z3 z4 d1 hu0 hv0 b0 HR0 HS0 HT0
  obtain ⟨y0, y1, y2, y3, y4⟩ := hu1.cells
  obtain ⟨z0, z1, z2, z3, z4⟩ := hv1.cells
  go_wp2_with fail
  refine (HSm2.out _ HS1.out).mono ?_
  rintro e w2 ⟨rfl, d2⟩
  have hu2 := hu1.below d2
  have hv2 := hv1.below d2
  have HR2 := Lib.hid (HR1.out.below d2)
  have HS2 := Lib.hid (HS1.out.below d2)
  have HT2 := Lib.hid (HT1.out.below d2)
  have b2 := b1.trans (d2.mono b1.size)
  clear y0 y1 y2 y3 y4 z0 z1 z2 z3 z4 d2 hu1 hv1 b1 HR1 HS1 HT1
  obtain ⟨y0, y1, y2, y3, y4⟩ := hu2.cells
  go_wp2_with fail
  have hn3 := Uq.new 25 w2 u ao ca
  have a3 := alloc_in w2 (.cells #[.int .i64 u.t, .int .i64 u.r, .int .i64 u.a, .int .i64 u.i, .slice ao u.l.length ca] 25)
  have hs3 : (w2.alloc (.cells #[.int .i64 u.t, .int .i64 u.r, .int .i64 u.a, .int .i64 u.i, .slice ao u.l.length ca] 25)).heap.size = w2.heap.size + 1 := by simp
  have hu3 := hu2.below a3
  have HR3 := Lib.hid (HR2.out.below a3)
  have hszu : w.heap.size < w2.heap.size := lt_of_block hu2
  generalize w2.alloc (.cells #[.int .i64 u.t, .int .i64 u.r, .int .i64 u.a, .int .i64 u.i, .slice ao u.l.length ca] 25) = w3 at *
  clear y0 y1 y2 y3 y4
  obtain ⟨_, _, _, _, zS⟩ := hu3.cells
  have HS3 := Lib.hid hs3
  clear hs3
  go_cut [] (fun wx => Below w2.heap.size w2 wx ∧ ∃ ao' cap', Uq 25 wx w2.heap.size u ao' cap' ∧ (∃ g, ao' = some ⟨g, 0, none⟩) ∧ (u.l.length : Int) + 1 ≤ (cap' : Nat) ∧ cap' ≤ 9223372036854775807 ∧ OwnB wx (w2.heap.size + 1) 42 (.slice ao' (u.l.length + 1) cap') (u.l ++ [mark]))
  case first =>
    have aE := alloc_in w3 (.cells #[] 42)
    have aM := alloc_in w3 (.cells #[.string (bs [109, 97, 114, 107]), .int .i64 0, .int .i64 0, .string (bs [])] 42)
    have aEM := alloc_in (w3.alloc (.cells #[] 42)) (.cells #[.string (bs [109, 97, 114, 107]), .int .i64 0, .int .i64 0, .string (bs [])] 42)
    have aME := alloc_in (w3.alloc (.cells #[.string (bs [109, 97, 114, 107]), .int .i64 0, .int .i64 0, .string (bs [])] 42)) (.cells #[] 42)
    have hE_E := rowNew w3 (.cells #[] 42)
    have hE_EM := (aEM.block _ (lt_of_block hE_E)).trans hE_E
    have hE_ME := rowNew (w3.alloc (.cells #[.string (bs [109, 97, 114, 107]), .int .i64 0, .int .i64 0, .string (bs [])] 42)) (.cells #[] 42)
    rw [show (w3.alloc (.cells #[.string (bs [109, 97, 114, 107]), .int .i64 0, .int .i64 0, .string (bs [])] 42)).heap.size = w3.heap.size + 1 by simp] at hE_ME
    have hM_M : Bq (w3.alloc (.cells #[.string (bs [109, 97, 114, 107]), .int .i64 0, .int .i64 0, .string (bs [])] 42)) w3.heap.size mark := Bq.new w3 mark
    have hM_ME := hM_M.below aME
    have hM_EM : Bq ((w3.alloc (.cells #[] 42)).alloc (.cells #[.string (bs [109, 97, 114, 107]), .int .i64 0, .int .i64 0, .string (bs [])] 42)) (w3.alloc (.cells #[] 42)).heap.size mark := Bq.new (w3.alloc (.cells #[] 42)) mark
    rw [show (w3.alloc (.cells #[] 42)).heap.size = w3.heap.size + 1 by simp] at hM_EM
    have r_E := HR3.out.below aE
    have r_EM := r_E.below aEM
    have r_ME := (HR3.out.below aM).below aME
    have z_E := cell_below zS aE
    have z_M := cell_below zS aM
    have z_EM := cell_below z_E aEM
    have z_ME := cell_below z_M aME
    have O_E := hn3.below aE
    have O_EM := O_E.below aEM
    have O_ME := (hn3.below aM).below aME
    have b_E := a3.trans (aE.mono a3.size)
    have b_EM := b_E.trans (aEM.mono b_E.size)
    have b_M := a3.trans (aM.mono a3.size)
    have b_ME := b_M.trans (aME.mono b_M.size)
    have hnw : w2.heap.size ≠ w.heap.size := Nat.ne_of_gt hszu
    have s_E : w2.heap.size + 1 ≤ (w3.alloc (.cells #[] 42)).heap.size := by have := HS3.out; simp; omega
    have s_EM : w2.heap.size + 1 ≤ ((w3.alloc (.cells #[] 42)).alloc (.cells #[.string (bs [109, 97, 114, 107]), .int .i64 0, .int .i64 0, .string (bs [])] 42)).heap.size := by have := HS3.out; simp; omega
    have s_ME : w2.heap.size + 1 ≤ ((w3.alloc (.cells #[.string (bs [109, 97, 114, 107]), .int .i64 0, .int .i64 0, .string (bs [])] 42)).alloc (.cells #[] 42)).heap.size := by have := HS3.out; simp; omega
    have k0 : w2.heap.size + 1 ≤ w3.heap.size := by have := HS3.out; omega
    have k1 : w2.heap.size + 1 ≤ w3.heap.size + 1 := by have := HS3.out; omega
    have hn6 : u.l.length ≤ 1000000 := by omega
    go_region_held3 (fun x => x.cell? ⟨w.heap.size, 4, none⟩ = some (.slice ao u.l.length ca)) (first | exact zS | exact z_E | exact z_M | exact z_EM | exact z_ME | exact zS1 | exact z1M | exact zS2 | exact zS3 _)
      (first
        | (rw [if_pos (by rfl)]
           refine app2x (by rfl) _ (by rfl) (by first | exact ho1 | exact ho1M) (by first | exact s1 | exact s1M) _ (by rfl) (by first | exact keepM _ (by omega) hM_EM | exact keepM _ (by omega) hM_ME | exact hM1M) hn6 hszu (by first | exact zS1 | exact z1M) (by first | exact O1 | exact O1M) (by first | exact B1 | exact B1M | exact ⟨B1.os, B1.tape, B1.output, B1.size, B1.block⟩ | exact ⟨B1M.os, B1M.tape, B1M.output, B1M.size, B1M.block⟩) ?_
           intro g2 cap2 x2 ho2 hle1 hle hmx hgB zS2 O2 c4 f4 B2 zS3)
        | (rw [if_pos (by rfl)]
           refine app1x (by rfl) _ (by rfl) (by first | exact hE_E | exact hE_EM | exact hE_ME) (by first | exact k0 | exact k1) (by first | exact s_E | exact s_EM | exact s_ME) (by rfl) (by first | exact r_E | exact r_EM | exact r_ME) hsh hn6 hszu (by first | exact z_E | exact z_EM | exact z_ME) (by first | exact O_E | exact O_EM | exact O_ME) (by first | exact b_E | exact b_EM | exact b_ME | exact ⟨b_E.os, b_E.tape, b_E.output, b_E.size, b_E.block⟩ | exact ⟨b_EM.os, b_EM.tape, b_EM.output, b_EM.size, b_EM.block⟩ | exact ⟨b_ME.os, b_ME.tape, b_ME.output, b_ME.size, b_ME.block⟩) ?_
           intro v1 x1 ho1 zS1 O1 B1 s1 keepM
           have z1M := cell_below zS1 (alloc_in x1 (.cells #[.string (bs [109, 97, 114, 107]), .int .i64 0, .int .i64 0, .string (bs [])] 42))
           have O1M := O1.below (alloc_in x1 (.cells #[.string (bs [109, 97, 114, 107]), .int .i64 0, .int .i64 0, .string (bs [])] 42))
           have B1M := B1.trans ((alloc_in x1 (.cells #[.string (bs [109, 97, 114, 107]), .int .i64 0, .int .i64 0, .string (bs [])] 42)).mono B1.size)
           have s1M : w2.heap.size + 1 ≤ (x1.alloc (.cells #[.string (bs [109, 97, 114, 107]), .int .i64 0, .int .i64 0, .string (bs [])] 42)).heap.size := Nat.le_trans s1 (alloc_in x1 (.cells #[.string (bs [109, 97, 114, 107]), .int .i64 0, .int .i64 0, .string (bs [])] 42)).size
           have ho1M := ho1.below (alloc_in x1 (.cells #[.string (bs [109, 97, 114, 107]), .int .i64 0, .int .i64 0, .string (bs [])] 42))
           have hM1M : Bq (x1.alloc (.cells #[.string (bs [109, 97, 114, 107]), .int .i64 0, .int .i64 0, .string (bs [])] 42)) x1.heap.size mark := Bq.new x1 mark))
    all_goals
      go_wp2_with fail
      go_meet
    all_goals
      have hOn : Uq 25 (x2.setCell ⟨w2.heap.size, 4, none⟩ (.slice (some ⟨g2, 0, none⟩) u.l.length cap2)) w2.heap.size u (some ⟨g2, 0, none⟩) cap2 := by
        have := rowSet O2 4 (.slice (some ⟨g2, 0, none⟩) u.l.length cap2)
        simpa [Uq] using this
      exact ⟨B2.setCell (p := ⟨w2.heap.size, 4, none⟩) (Nat.le_refl _) _, some ⟨g2, 0, none⟩, cap2, hOn, ⟨g2, rfl⟩, hle1, hmx, own_set ho2 O2 (by decide) 4 _⟩
  case rest =>
    obtain ⟨bx, ao', cap', hO, ⟨g', rfl⟩, hle1, hmx, hoB⟩ := hcut
    obtain ⟨w20, rfl⟩ : ∃ x : World, x = wc := ⟨_, rfl⟩
    have H20 : Hw w20 w.heap.size (w.heap.size + 1) w2.heap.size u v ao ca bo cb g' cap' := by
      obtain ⟨ao9, cap9, h9, r9⟩ := OwnB.form hoB
      simp only [Value.slice.injEq] at h9
      obtain ⟨rfl, _, _⟩ := h9
      exact ⟨hu2.below bx, hv2.below bx, hO, HR2.out.below bx, HS2.out.below bx, r9, HT2.out.below bx⟩
    have b20 := b2.trans (bx.mono b2.size)
    have HEn := Lib.hid (fun w1 (h : Tp w1) (h2 : RdB w1 (some ⟨g', 0, none⟩) u.l) => encode8_walk u (some ⟨g', 0, none⟩) cap' hl HLP.out w1 h h2)
    have HEq := Lib.hid (fun w1 (h2 : RdB w1 ao u.l) => qencode8_walk u ao ca hl hx w1 h2)
    have HFo := Lib.hid (fun w1 (h : Tabs w1) (h2 : RdB w1 (some ⟨g', 0, none⟩) u.l) => find_walk r u.l (some ⟨g', 0, none⟩) cap' (by omega) (by omega) HLP.out w1 h h2)
    have HFq := Lib.hid (fun w1 (h2 : RdB w1 ao u.l) => qfind_walk r u.l ao ca (by omega) (by omega) hx w1 h2)
    have hfl := fnd_len r u.l
    have hSB := fun (al ak : Option Addr) (cl ck : Nat) w1 (h1 : RdB w1 al (fnd r u.l)) (h2 : RdB w1 ak (fnd r u.l)) => qsamebinds_walk (fnd r u.l) (fnd r u.l) al ak cl ck (by omega) (by omega) w1 h1 h2
    rw [(sameL_iff (fnd r u.l) (fnd r u.l)).2 rfl] at hSB
    have HSB := Lib.hid hSB
    have HCo := Lib.hid (fun w1 (h : Tp w1) (h2 : RdB w1 (some ⟨g', 0, none⟩) u.l) => check8_walk u (some ⟨g', 0, none⟩) cap' hl HLP.out w1 h h2)
    have HCq := Lib.hid (fun w1 (h2 : RdB w1 ao u.l) => qcheck8_walk u ao ca hl hx w1 h2)
    have HOu := Lib.hid (fun w1 => of_walk u.t u.r u.a u.i ao u.l.length ca w1)
    have HOv := Lib.hid (fun w1 => of_walk v.t v.r v.a v.i bo v.l.length cb w1)
    have HOo := Lib.hid (fun w1 => of_walk u.t u.r u.a u.i (some ⟨g', 0, none⟩) u.l.length cap' w1)
    have HSo := Lib.hid (fun w1 (h1 : RdB w1 (some ⟨g', 0, none⟩) u.l) (h2 : RdB w1 bo v.l) => same8_walk u v (some ⟨g', 0, none⟩) bo cap' cb hl hl2 w1 h1 h2)
    have HSq := Lib.hid (fun w1 (h1 : RdB w1 ao u.l) (h2 : RdB w1 bo v.l) => qsame_walk u v ao bo ca cb hl hl2 w1 h1 h2)
    have hSs := fun w1 (h1 : RdB w1 (some ⟨g', 0, none⟩) u.l) (h2 : RdB w1 ao u.l) => qsame_walk u u (some ⟨g', 0, none⟩) ao cap' ca hl hl w1 h1 h2
    rw [sameU_self] at hSs
    have HSs := Lib.hid hSs
    have HWk := Lib.hid (fun w1 (h : Tp w1) => works8_walk w1 h)
    have hsz : w.heap.size < w2.heap.size := hszu
    clear bx hO hoB hu2 hv2 HR2 HS2 HT2 b2 hSB hSs hn3 a3 hu3 HR3 zS HS3 HSm1 HSm2
    generalize eS u = ES at *
    generalize eE u = EE at *
    generalize ckU u = CC at *
    generalize sameU u v = SV at *
    have s1 : (ES == ES) = true := by simp
    have s2 : (((EE : Nat) : Int) == ((EE : Nat) : Int)) = true := by simp
    have s3 : (((CC : Nat) : Int) == ((CC : Nat) : Int)) = true := by simp
    have s4 : (SV == SV) = true := by simp
    obtain ⟨a0, a1, a2, a3, a4, q0, q1, q2, q3, q4, c0, c1, c2, c3, c4, cm⟩ := H20.cells
    go_wp2_with fail
    refine (HEn.out _ H20.2.2.2.2.2.2 H20.own).mono ?_
    rintro e w21 ⟨rfl, d21⟩
    have H21 := H20.below d21
    have b21 := b20.trans (d21.mono b20.size)
    clear a0 a1 a2 a3 a4 q0 q1 q2 q3 q4 c0 c1 c2 c3 c4 cm
    clear d21 H20 b20
    obtain ⟨a0, a1, a2, a3, a4, q0, q1, q2, q3, q4, c0, c1, c2, c3, c4, cm⟩ := H21.cells
    go_wp2_with fail
    refine (HOu.out _).mono ?_
    rintro e w22 ⟨rfl, d22⟩
    have H22 := H21.below d22
    have b22 := b21.trans (d22.mono b21.size)
    clear a0 a1 a2 a3 a4 q0 q1 q2 q3 q4 c0 c1 c2 c3 c4 cm
    clear d22 H21 b21
    obtain ⟨a0, a1, a2, a3, a4, q0, q1, q2, q3, q4, c0, c1, c2, c3, c4, cm⟩ := H22.cells
    go_wp2_with fail
    refine (HEq.out _ H22.2.2.2.1).mono ?_
    rintro e w23 ⟨rfl, d23⟩
    have H23 := H22.below d23
    have b23 := b22.trans (d23.mono b22.size)
    clear a0 a1 a2 a3 a4 q0 q1 q2 q3 q4 c0 c1 c2 c3 c4 cm
    clear d23 H22 b22
    obtain ⟨a0, a1, a2, a3, a4, q0, q1, q2, q3, q4, c0, c1, c2, c3, c4, cm⟩ := H23.cells
    go_wp2_with fail
    refine (HFo.out _ H23.2.2.2.2.2.2.1 H23.own).mono ?_
    rintro e w24 ⟨vl, rfl, hol, d24⟩
    have hws : w.heap.size ≤ w23.heap.size := b23.size
    have H24 := H23.below d24
    have b24 := b23.trans (d24.mono b23.size)
    obtain ⟨al, cl, hvl, hrm⟩ := RoomB.of hol
    subst hvl
    obtain ⟨al2, cl2, h9, hrl⟩ := OwnB.form hol
    simp only [Value.slice.injEq, true_and] at h9
    obtain ⟨rfl, rfl⟩ := h9
    clear a0 a1 a2 a3 a4 q0 q1 q2 q3 q4 c0 c1 c2 c3 c4 cm
    obtain ⟨a0, a1, a2, a3, a4, q0, q1, q2, q3, q4, c0, c1, c2, c3, c4, cm⟩ := H24.cells
    clear hol
    go_wp2_with fail
    refine (HFq.out _ H24.2.2.2.1).mono ?_
    rintro e w25 ⟨vk, rfl, hok, d25⟩
    obtain ⟨ak, ck, hvk, hrk⟩ := OwnB.form hok
    subst hvk
    have d245 := d24.trans (d25.mono d24.size)
    have hrl5 := hrl.below d25
    have hrm5 := hrm.below d25
    clear hok a0 a1 a2 a3 a4 q0 q1 q2 q3 q4 c0 c1 c2 c3 c4 cm H24 b24 d24 d25 hrl hrm
    go_wp2_with fail
    refine (HSB.out _ _ _ _ _ hrl5 hrk).mono ?_
    rintro e w26 ⟨rfl, d26⟩
    have d246 := d245.trans (d26.mono d245.size)
    have hrm6 := hrm5.below d26
    clear d245 d26 hrl5 hrk hrm5
    have HST := Lib.hid (show SwRel w23 al (fnd r u.l).length (fnd r u.l).length (.int .i64 (0 : Nat)) w26 from ⟨0, by omega, rfl, hrm6, d246⟩)
    clear hrm6 d246
    have hfn : (fnd r u.l).length ≤ 1000000 := by omega
    generalize (fnd r u.l).length = nf at *
    clear hfl
    go_wp2_with fail
    go_loopg [15] nf (fun g v wr => SwRel w23 al nf g v wr)
    case atStart => exact HST.out
    case round =>
      clear HST
      obtain ⟨i, hi, rfl, hrm, hbl⟩ := hrel
      cases gk with
      | zero =>
        obtain rfl : i = nf := by omega
        obtain ⟨w30, rfl⟩ : ∃ x : World, x = wr := ⟨_, rfl⟩
        have H30 := H23.below hbl
        have b30 := b23.trans (hbl.mono b23.size)
        have zS := H30.cells
        have y1 : IntKind.i64.wrap (((u.l.length : Nat) : Int) + 1) = ((u.l.length : Nat) : Int) + 1 := IntWalk.i64_in _ (by omega)
        have y2 : (0 : Int) ≤ ((u.l.length : Nat) : Int) + 1 := by omega
        have y3 : (((u.l.length : Nat) : Int) + 1).toNat = u.l.length + 1 := by omega
        have y4 : (((u.l.length : Nat) : Int) < ((u.l.length + 1 : Nat) : Int)) = True := eq_true (by omega)
        have y5 : ((u.l.length : Nat) : Int) < ((u.l.length : Nat) : Int) + 1 := by omega
        have y6 : (((u.l.length : Nat) : Int) + 1 ≤ ((u.l.length : Nat) : Int)) = False := eq_false (by omega)
        have y7 : u.l.length < u.l.length + 1 := by omega
        clear hrm hbl H23 b23 hi
        go_wp2_with fail
        go_region_held3 (fun x => x.cell? ⟨w.heap.size, 0, none⟩ = some (.int .i64 u.t) ∧ x.cell? ⟨w.heap.size, 1, none⟩ = some (.int .i64 u.r) ∧ x.cell? ⟨w.heap.size, 2, none⟩ = some (.int .i64 u.a) ∧ x.cell? ⟨w.heap.size, 3, none⟩ = some (.int .i64 u.i) ∧ x.cell? ⟨w.heap.size, 4, none⟩ = some (.slice ao u.l.length ca) ∧ x.cell? ⟨w.heap.size + 1, 0, none⟩ = some (.int .i64 v.t) ∧ x.cell? ⟨w.heap.size + 1, 1, none⟩ = some (.int .i64 v.r) ∧ x.cell? ⟨w.heap.size + 1, 2, none⟩ = some (.int .i64 v.a) ∧ x.cell? ⟨w.heap.size + 1, 3, none⟩ = some (.int .i64 v.i) ∧ x.cell? ⟨w.heap.size + 1, 4, none⟩ = some (.slice bo v.l.length cb) ∧ x.cell? ⟨w2.heap.size, 0, none⟩ = some (.int .i64 u.t) ∧ x.cell? ⟨w2.heap.size, 1, none⟩ = some (.int .i64 u.r) ∧ x.cell? ⟨w2.heap.size, 2, none⟩ = some (.int .i64 u.a) ∧ x.cell? ⟨w2.heap.size, 3, none⟩ = some (.int .i64 u.i) ∧ x.cell? ⟨w2.heap.size, 4, none⟩ = some (.slice (some ⟨g', 0, none⟩) u.l.length cap') ∧ x.cell? ⟨g', u.l.length * 4, none⟩ = some (.string (bs [109, 97, 114, 107]))) (first | exact zS11 | exact zS10 | exact zS9 | exact zS8 | exact zS7 | exact zS6 | exact zS5 | exact zS4 | exact zS3 | exact zS2 | exact zS1 | exact zS)
          (first
        | (have _g := zS10; clear _g; go_at_call 6; refine (HWk.out _ (by exact HX10.2.2.2.2.2.2)).mono ?_; rintro e x11 ⟨rfl, j11⟩; have k11 : Below x10.heap.size x10 x11 := ⟨j11.os, j11.tape, j11.output, j11.size, j11.block⟩; have HX11 := HX10.below k11; have bX11 := bX10.trans (k11.mono bX10.size); have zS11 := HX11.cells)
        | (have _g := zS9; clear _g; go_at_call 9; refine (HSs.out _ (by exact HX9.own) (by exact HX9.2.2.2.1)).mono ?_; rintro e x10 ⟨rfl, j10⟩; have k10 : Below x9.heap.size x9 x10 := ⟨j10.os, j10.tape, j10.output, j10.size, j10.block⟩; have HX10 := HX9.below k10; have bX10 := bX9.trans (k10.mono bX9.size); have zS10 := HX10.cells)
        | (have _g := zS8; clear _g; go_at_call 10; with_reducible refine (HOu.out _).mono ?_; rintro e x9 ⟨rfl, j9⟩; have k9 : Below x8.heap.size x8 x9 := ⟨j9.os, j9.tape, j9.output, j9.size, j9.block⟩; have HX9 := HX8.below k9; have bX9 := bX8.trans (k9.mono bX8.size); have zS9 := HX9.cells)
        | (have _g := zS7; clear _g; go_at_call 10; with_reducible refine (HOo.out _).mono ?_; rintro e x8 ⟨rfl, j8⟩; have k8 : Below x7.heap.size x7 x8 := ⟨j8.os, j8.tape, j8.output, j8.size, j8.block⟩; have HX8 := HX7.below k8; have bX8 := bX7.trans (k8.mono bX7.size); have zS8 := HX8.cells)
        | (have _g := zS6; clear _g; go_at_call 9; refine (HSq.out _ (by exact HX6.2.2.2.1) (by exact HX6.2.2.2.2.1)).mono ?_; rintro e x7 ⟨rfl, j7⟩; have k7 : Below x6.heap.size x6 x7 := ⟨j7.os, j7.tape, j7.output, j7.size, j7.block⟩; have HX7 := HX6.below k7; have bX7 := bX6.trans (k7.mono bX6.size); have zS7 := HX7.cells)
        | (have _g := zS5; clear _g; go_at_call 10; with_reducible refine (HOv.out _).mono ?_; rintro e x6 ⟨rfl, j6⟩; have k6 : Below x5.heap.size x5 x6 := ⟨j6.os, j6.tape, j6.output, j6.size, j6.block⟩; have HX6 := HX5.below k6; have bX6 := bX5.trans (k6.mono bX5.size); have zS6 := HX6.cells)
        | (have _g := zS4; clear _g; go_at_call 10; with_reducible refine (HOu.out _).mono ?_; rintro e x5 ⟨rfl, j5⟩; have k5 : Below x4.heap.size x4 x5 := ⟨j5.os, j5.tape, j5.output, j5.size, j5.block⟩; have HX5 := HX4.below k5; have bX5 := bX4.trans (k5.mono bX4.size); have zS5 := HX5.cells)
        | (have _g := zS3; clear _g; go_at_call 19; refine (HSo.out _ (by exact HX3.own) (by exact HX3.2.2.2.2.1)).mono ?_; rintro e x4 ⟨rfl, j4⟩; have k4 : Below x3.heap.size x3 x4 := ⟨j4.os, j4.tape, j4.output, j4.size, j4.block⟩; have HX4 := HX3.below k4; have bX4 := bX3.trans (k4.mono bX3.size); have zS4 := HX4.cells)
        | (have _g := zS2; clear _g; go_at_call 18; refine (HCq.out _ (by exact HX2.2.2.2.1)).mono ?_; rintro e x3 ⟨rfl, j3⟩; have k3 : Below x2.heap.size x2 x3 := ⟨j3.os, j3.tape, j3.output, j3.size, j3.block⟩; have HX3 := HX2.below k3; have bX3 := bX2.trans (k3.mono bX2.size); have zS3 := HX3.cells)
        | (have _g := zS1; clear _g; go_at_call 10; with_reducible refine (HOu.out _).mono ?_; rintro e x2 ⟨rfl, j2⟩; have k2 : Below x1.heap.size x1 x2 := ⟨j2.os, j2.tape, j2.output, j2.size, j2.block⟩; have HX2 := HX1.below k2; have bX2 := bX1.trans (k2.mono bX1.size); have zS2 := HX2.cells)
        | (have _g := zS; clear _g; go_at_call 17; refine (HCo.out _ (by exact H30.2.2.2.2.2.2) (by exact H30.own)).mono ?_; rintro e x1 ⟨rfl, j1⟩; have k1 : Below w30.heap.size w30 x1 := ⟨j1.os, j1.tape, j1.output, j1.size, j1.block⟩; have HX1 := H30.below k1; have bX1 := b30.trans (k1.mono b30.size); have zS1 := HX1.cells))
        go_wp2
        go_ret
        exact ⟨rfl, bX11⟩
      | succ g =>
        have hil : i < nf := by omega
        rcases hrm with h0 | ⟨gb, C, rfl, hB, hh, hC⟩
        · omega
        · obtain ⟨y, hc0⟩ : ∃ x, wr.cell? ⟨gb, i * 4, none⟩ = some x := ⟨C[i * 4]'(by omega), by simp [World.cell?, hh]⟩
          have hfr : wr.frozen? ⟨gb, i * 4, none⟩ = false := freeRow hh (i * 4)
          have HH := Lib.hid hh
          have HC := Lib.hid hC
          clear hh hC H23
          go_wp2
          go_roundg g
          case measure => omega
          case rel => exact ⟨i + 1, by omega, by simp, .inr ⟨gb, _, rfl, hB, rowSet HH.out (i * 4) _, by simp [HC.out]⟩, hbl.setCell hB _⟩
end Go.Proofs.YtlpknkfidcojeaaGreatDoor
