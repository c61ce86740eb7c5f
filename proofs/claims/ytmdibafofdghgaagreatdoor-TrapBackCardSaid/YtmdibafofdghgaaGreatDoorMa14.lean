/- Texts on the program and on the document, joined: Bnd, PduA, PduB. -/
import Derived.Test.YtmdibafofdghgaaGreatDoorMa13
import Derived.Laws.OwnMore
import Derived.Laws.AppendOwn
import Derived.Below
import Derived.Deep.AppendLies
import Derived.Deep.Onto
import Derived.Test.YtmdibafofdghgaaGreatDoorMa12
import Derived.Test.YtmdibafofdghgaaGreatDoorMa11
/- Lists of binds: as they come in, as a call makes them, what keeps them. -/
namespace Go.Proofs.YtmdibafofdghgaaGreatDoor
open Go.RowKit K P1 B5
set_option linter.unusedVariables false
open D8 (Bd)

def cellsB (x : Bd) : List Value := [.string (bs x.o), .int .i64 x.k, .int .i64 x.n, .string (bs x.s)]
def bnds (xs : List Bd) : List Value := xs.flatMap cellsB
theorem bnds_app (a b : List Bd) : bnds (a ++ b) = bnds a ++ bnds b := by simp [bnds]
theorem bnds_len : ∀ xs : List Bd, (bnds xs).length = xs.length * 4
  | [] => rfl
  | x :: xs => by
    show (cellsB x ++ bnds xs).length = _
    rw [List.length_append, bnds_len xs, List.length_cons]; simp [cellsB]; omega
def nob : Bd := ⟨[], 0, 0, []⟩
theorem bnds_get : ∀ (xs : List Bd) (i j : Nat), i < xs.length → j < 4 → (bnds xs)[i * 4 + j]? = (cellsB (xs.getD i nob))[j]?
  | [], i, j, h, _ => by simp at h
  | x :: xs, 0, j, _, hj => by
    show (cellsB x ++ bnds xs)[0 * 4 + j]? = _
    rw [Nat.zero_mul, Nat.zero_add, List.getElem?_append_left (by simpa [cellsB] using hj)]; rfl
  | x :: xs, i + 1, j, h, hj => by
    have ih := bnds_get xs i j (by simpa using h) hj
    show (cellsB x ++ bnds xs)[(i + 1) * 4 + j]? = _
    rw [List.getElem?_append_right (by simp [cellsB]; omega), show (i + 1) * 4 + j - (cellsB x).length = i * 4 + j by simp [cellsB]; omega, ih]
    simp [List.getD]
/-- A slice that reads as these binds. -/
def RdB (w : World) (ao : Option Addr) (xs : List Bd) : Prop :=
  xs.length = 0 ∨ ∃ b off, ao = some ⟨b, off, none⟩ ∧ b < w.heap.size ∧ ∀ i, i < xs.length → w.cell? ⟨b, off + i * 4, none⟩ = some (.string (bs (xs.getD i nob).o)) ∧ w.cell? ⟨b, off + (i * 4 + 1), none⟩ = some (.int .i64 (xs.getD i nob).k) ∧
    w.cell? ⟨b, off + (i * 4 + 2), none⟩ = some (.int .i64 (xs.getD i nob).n) ∧ w.cell? ⟨b, off + (i * 4 + 3), none⟩ = some (.string (bs (xs.getD i nob).s))
theorem RdB.below {w w' : World} {ao : Option Addr} {xs : List Bd} (h : RdB w ao xs) (k : Below w.heap.size w w') : RdB w' ao xs := by
  rcases h with h0 | ⟨b, off, ha, hb, hc⟩
  · exact .inl h0
  · refine .inr ⟨b, off, ha, Nat.lt_of_lt_of_le hb k.size, fun i hi => ?_⟩
    obtain ⟨c0, c1, c2, c3⟩ := hc i hi
    exact ⟨(k.cell (p := ⟨b, off + i * 4, none⟩) hb).trans c0, (k.cell (p := ⟨b, off + (i * 4 + 1), none⟩) hb).trans c1, (k.cell (p := ⟨b, off + (i * 4 + 2), none⟩) hb).trans c2, (k.cell (p := ⟨b, off + (i * 4 + 3), none⟩) hb).trans c3⟩
theorem RdB.drewN {w : World} {ao : Option Addr} {xs : List Bd} (h : RdB w ao xs) (m : Nat) : RdB (w.drewN m) ao xs := h
/-- A slice that the call made itself, behind block B, of these binds; T is the type of its elements. -/
def OwnB (w : World) (B : Nat) (T : TypeId) (v : Value) (xs : List Bd) : Prop := w.ownsRow B T 4 v xs.length (bnds xs)
theorem OwnB.nil (w : World) (B : Nat) (T : TypeId) : OwnB w B T (.slice none 0 0) [] := World.ownsRow_nil w B T 4
theorem OwnB.below {w w' : World} {B : Nat} {T : TypeId} {v : Value} {xs : List Bd} (h : OwnB w B T v xs) (k : Below w.heap.size w w') : OwnB w' B T v xs := by
  refine ⟨h.1, ?_⟩
  rcases h.2 with hn | ⟨g, cap, cur, h1, h2, h3, h4⟩
  · exact .inl hn
  · exact .inr ⟨g, cap, cur, h1, h2, (k.block g (lt_of_block h3)).trans h3, h4⟩
theorem OwnB.mono {w : World} {B B' : Nat} {T : TypeId} {v : Value} {xs : List Bd} (h : OwnB w B T v xs) (hb : B' ≤ B) : OwnB w B' T v xs := World.ownsRow.mono h hb
theorem OwnB.form {w : World} {B : Nat} {T : TypeId} {v : Value} {xs : List Bd} (h : OwnB w B T v xs) : ∃ ao cap, v = .slice ao xs.length cap ∧ RdB w ao xs := by
  rcases h.2 with ⟨hv, h0⟩ | ⟨g, cap, cur, hv, hB, hh, hle, hm, hs, ht⟩
  · exact ⟨none, 0, by rw [hv, h0], .inl h0⟩
  · refine ⟨some ⟨g, 0, none⟩, cap, hv, .inr ⟨g, 0, rfl, lt_of_block hh, fun i hi => ?_⟩⟩
    have hcell : ∀ j, j < 4 → w.cell? ⟨g, i * 4 + j, none⟩ = (cellsB (xs.getD i nob))[j]? := by
      intro j hj
      rw [cellRow hh, ← Array.getElem?_toList, ← bnds_get xs i j hi hj, ← ht, List.getElem?_take_of_lt (by omega)]
    refine ⟨?_, ?_, ?_, ?_⟩
    · have := hcell 0 (by omega); rw [Nat.add_zero] at this; rw [Nat.zero_add]; exact this
    · rw [Nat.zero_add]; exact hcell 1 (by omega)
    · rw [Nat.zero_add]; exact hcell 2 (by omega)
    · rw [Nat.zero_add]; exact hcell 3 (by omega)
theorem OwnB.put {w : World} {B : Nat} {T : TypeId} {v : Value} {xs : List Bd} {x : Bd} (h : w.ownsRow B T 4 v (xs.length + 1) (bnds xs ++ cellsB x)) : OwnB w B T v (xs ++ [x]) := by
  unfold OwnB
  rw [List.length_append, bnds_app, show bnds [x] = cellsB x by simp [bnds]]
  exact h
section
variable {P : Program} {w : World} {t e : TypeId}
/-- A value's three cells. -/
theorem rdg_val3 {gs : Array Field} {ti ts tv : TypeId} {v0 v1 v2 : Value} (h : Rdg P w tv [v0, v1, v2]) (ht : P.underlying tv = some (.struct gs)) (hone : Deep.oneCellFields P gs = true)
    (h0 : (gs[0]?).map (·.type) = some ti) (h1 : (gs[1]?).map (·.type) = some ti) (h2 : (gs[2]?).map (·.type) = some ts) (hi : P.underlying ti = some (.int .i64)) (hs : P.underlying ts = some .string) :
    ∃ k n : Int, ∃ s : List UInt8, v0 = .int .i64 k ∧ v1 = .int .i64 n ∧ v2 = .string (bs s) ∧ (Lit.int .i64 k).wf = true ∧ (Lit.int .i64 n).wf = true ∧ s.length ≤ reachBytes := by
  obtain ⟨_, hf⟩ := h.fields ht hone
  obtain ⟨u0, e0, r0⟩ := hf 0 ti h0 (by simp)
  obtain ⟨u1, e1, r1⟩ := hf 1 ti h1 (by simp)
  obtain ⟨u2, e2, r2⟩ := hf 2 ts h2 (by simp)
  obtain ⟨k, ek, wk⟩ := r0.int hi
  obtain ⟨n, en, wn⟩ := r1.int hi
  obtain ⟨s, es, ls⟩ := r2.string hs
  simp at e0 e1 e2 ek en es
  exact ⟨k, n, s, by rw [e0, ek], by rw [e1, en], by rw [e2, es], wk, wn, ls⟩
/-- Binds among the arguments. -/
theorem rdg_binds {fs gs : Array Field} {f0 f1 : Field} {ti ts tv : TypeId} {ao : Option Addr} {len cap : Nat} (h : Rdg P w t [.slice ao len cap]) (ht : P.underlying t = some (.slice e)) (he : P.underlying e = some (.struct fs)) (hC : P.cellsOf e = 4) (hB : 0 < P.bytesOf e)
    (h0 : fs[0]? = some f0) (h1 : fs[1]? = some f1) (e0 : f0.type = ts) (e1 : f1.type = tv) (o0 : f0.offset = 0) (o1 : f1.offset = 1) (c0 : P.cellsOf ts = 1) (c1 : P.cellsOf tv = 3)
    (hv : P.underlying tv = some (.struct gs)) (hone : Deep.oneCellFields P gs = true) (g0 : (gs[0]?).map (·.type) = some ti) (g1 : (gs[1]?).map (·.type) = some ti) (g2 : (gs[2]?).map (·.type) = some ts) (hi : P.underlying ti = some (.int .i64)) (hs : P.underlying ts = some .string) :
    ∃ xs : List Bd, len = xs.length ∧ len ≤ 140737488351232 ∧ RdB w ao xs ∧ ∀ x ∈ xs, x.o.length ≤ 140737488351232 ∧ x.s.length ≤ 140737488351232 ∧ x.fits ∧ (-9223372036854775808 ≤ x.k ∧ x.k ≤ 9223372036854775807) := by
  obtain ⟨ao', len', cap', hcs, hl, hb, _, hr⟩ := h.slice (C := 4) ht hC (by omega)
  simp only [List.cons.injEq, Value.slice.injEq, and_true] at hcs
  obtain ⟨rfl, rfl, rfl⟩ := hcs
  have hle : len ≤ 140737488351232 := by
    unfold reachBytes at hb
    have := Nat.le_mul_of_pos_right cap hB
    omega
  rcases hr with h5 | ⟨b, off, f, ha, hrow, hel⟩
  · exact ⟨[], by simpa using h5, hle, .inl rfl, fun x hx => by cases hx⟩
  · have hty : ∀ i, i < len → ∃ x : Bd, f (i * 4) = .string (bs x.o) ∧ f (i * 4 + 1) = .int .i64 x.k ∧ f (i * 4 + 2) = .int .i64 x.n ∧ f (i * 4 + 3) = .string (bs x.s) ∧ x.o.length ≤ 140737488351232 ∧ x.s.length ≤ 140737488351232 ∧ x.fits ∧ (-9223372036854775808 ≤ x.k ∧ x.k ≤ 9223372036854775807) := by
      intro i hi'
      have hE : Rdg P w e [f (i * 4 + 0), f (i * 4 + 1), f (i * 4 + 2), f (i * 4 + 3)] := hel i hi'
      obtain ⟨_, hf⟩ := hE.struct he
      have r0 := hf 0 f0 h0
      have r1 := hf 1 f1 h1
      rw [o0, e0, c0] at r0
      rw [o1, e1, c1] at r1
      obtain ⟨o, eo, lo⟩ := (show Rdg P w ts [f (i * 4 + 0)] from r0).string hs
      obtain ⟨k, n, s, ek, en, es, wk, wn, ls⟩ := rdg_val3 (show Rdg P w tv [f (i * 4 + 1), f (i * 4 + 2), f (i * 4 + 3)] from r1) hv hone g0 g1 g2 hi hs
      simp only [Nat.add_zero, List.cons.injEq, and_true] at eo
      have bk : -9223372036854775808 ≤ k ∧ k ≤ 9223372036854775807 := by
        simp [Lit.wf, IntKind.min, IntKind.max, IntKind.bits, IntKind.signed] at wk; omega
      have bn : -9223372036854775808 ≤ n ∧ n ≤ 9223372036854775807 := by
        simp [Lit.wf, IntKind.min, IntKind.max, IntKind.bits, IntKind.signed] at wn; omega
      unfold reachBytes at lo ls
      exact ⟨⟨o, k, n, s⟩, eo, ek, en, es, by show o.length ≤ _; omega, by show s.length ≤ _; omega, bn, bk⟩
    have hch : ∃ g : Nat → Bd, ∀ i, i < len → f (i * 4) = .string (bs (g i).o) ∧ f (i * 4 + 1) = .int .i64 (g i).k ∧ f (i * 4 + 2) = .int .i64 (g i).n ∧ f (i * 4 + 3) = .string (bs (g i).s) ∧ (g i).o.length ≤ 140737488351232 ∧ (g i).s.length ≤ 140737488351232 ∧ (g i).fits ∧ (-9223372036854775808 ≤ (g i).k ∧ (g i).k ≤ 9223372036854775807) :=
      ⟨fun i => if hi' : i < len then (hty i hi').choose else nob, fun i hi' => by simp only [dif_pos hi']; exact (hty i hi').choose_spec⟩
    obtain ⟨g, hg⟩ := hch
    have hln : ((List.range len).map g).length = len := by simp
    have hget : ∀ i, i < len → ((List.range len).map g).getD i nob = g i := by
      intro i hi'
      simp [List.getD, hi']
    refine ⟨(List.range len).map g, hln.symm, hle, .inr ⟨b, off, ha, hrow.1, fun i hi' => ?_⟩, fun x hx => ?_⟩
    · rw [hln] at hi'
      rw [hget i hi']
      obtain ⟨q0, q1, q2, q3, _⟩ := hg i hi'
      exact ⟨(hrow.2 (i * 4) (by omega)).trans (by rw [q0]), (hrow.2 (i * 4 + 1) (by omega)).trans (by rw [q1]), (hrow.2 (i * 4 + 2) (by omega)).trans (by rw [q2]), (hrow.2 (i * 4 + 3) (by omega)).trans (by rw [q3])⟩
    · obtain ⟨i, hi', rfl⟩ := List.mem_map.1 hx
      exact (hg i (List.mem_range.1 hi')).2.2.2.2
end
end Go.Proofs.YtmdibafofdghgaaGreatDoor
/- The document's isBind, IsBinds, Check of units, walked. -/
namespace Go.Proofs.YtmdibafofdghgaaGreatDoor
open Go.ChangeShapes Go.WideShapes Go.ChangeAt Go.RowKit K P1 B5
open D8 (Bd Un)
set_option linter.unusedVariables false

/-- A bind's four cells in block b. -/
def Bq (w : World) (b : Nat) (x : Bd) : Prop := w.heap[b]? = some (.cells #[.string (bs x.o), .int .i64 x.k, .int .i64 x.n, .string (bs x.s)] 48 (0, 0))
theorem Bq.new (w : World) (x : Bd) : Bq (w.alloc (.cells #[.string (bs x.o), .int .i64 x.k, .int .i64 x.n, .string (bs x.s)] 48)) w.heap.size x := rowNew w _
theorem Bq.below {w w' : World} {b : Nat} {x : Bd} (h : Bq w b x) (k : Below w.heap.size w w') : Bq w' b x := (k.block b (lt_of_block h)).trans h
theorem Bq.cells {w : World} {b : Nat} {x : Bd} (h : Bq w b x) : w.cell? ⟨b, 0, none⟩ = some (.string (bs x.o)) ∧ w.cell? ⟨b, 1, none⟩ = some (.int .i64 x.k) ∧ w.cell? ⟨b, 2, none⟩ = some (.int .i64 x.n) ∧ w.cell? ⟨b, 3, none⟩ = some (.string (bs x.s)) :=
  ⟨cellRow h 0, cellRow h 1, cellRow h 2, cellRow h 3⟩
set_option maxRecDepth 100000 in
set_option maxHeartbeats 1000000 in
theorem qisbind_walk (x : Bd) (h1 : x.o.length ≤ 140737488351232) (h2 : x.s.length ≤ 140737488351232) (w : World) :
    Calls Tryz.prog 87 #[.agg #[.string (bs x.o), .int .i64 x.k, .int .i64 x.n, .string (bs x.s)]] w fun e w' => e = .returned (.bool x.ok) ∧ Below w.heap.size w w' := by
  have HA := Lib.hid (fun w1 => qarcs_walk x.o h1 w1)
  unfold ArPost at HA
  have hC := fun w1 => qcheck_walk x.k x.n x.s h2 w1
  have hq := Bq.new w x
  cases hx : O6.arcs x.o with
  | none =>
    have e : x.ok = false := by unfold Bd.ok; rw [hx]; rfl
    have e1 : (((arE x.o : Nat) : Int) == 0) = false := by rw [(ar_none hx).1]; rfl
    rw [e]
    clear hC e hx
    generalize arE x.o = E at *
    go_enter Tryz.func87, Tryz.ntmps87
    go_wp2_with fail
    refine (HA.out _).mono ?_
    rintro e w1 ⟨va, rfl, hoa, hb1⟩
    go_wp2
    go_ret
    exact ⟨rfl, Below_in hb1⟩
  | some l =>
    have e : x.ok = V7.ckV x.k x.n x.s := by unfold Bd.ok; rw [hx]; rfl
    have e1 : arE x.o = 0 := (ar_some hx).1
    rw [e]
    rw [e1] at HA
    unfold V7.ckE at hC
    cases hk : V7.ckV x.k x.n x.s
    all_goals
      rw [hk] at hC
      have HC := Lib.hid hC
      go_enter Tryz.func87, Tryz.ntmps87
      go_wp2_with fail
      refine (HA.out _).mono ?_
      rintro e w1 ⟨va, rfl, hoa, hb1⟩
      obtain ⟨z0, z1, z2, z3⟩ := (hq.below hb1).cells
      go_wp2_with fail
      refine (HC.out _).mono ?_
      rintro e w2 ⟨rfl, hb2⟩
      go_wp2
      go_ret
      exact ⟨rfl, (Below_in hb1).trans (hb2.mono (Below_in hb1).size)⟩
/-- Texts that are not too long for a walk. -/
def Lim (xs : List Bd) : Prop := ∀ x ∈ xs, x.o.length ≤ 140737488351232 ∧ x.s.length ≤ 140737488351232 ∧ x.fits
theorem Lim.at {xs : List Bd} (h : Lim xs) {i : Nat} (hi : i < xs.length) : (xs.getD i nob).o.length ≤ 140737488351232 ∧ (xs.getD i nob).s.length ≤ 140737488351232 ∧ (xs.getD i nob).fits := by
  rw [List.getD_eq_getElem?_getD, List.getElem?_eq_getElem hi]
  exact h _ (List.getElem_mem hi)
/-- The cells of one of them. -/
theorem RdB.at {w : World} {ao : Option Addr} {xs : List Bd} (h : RdB w ao xs) {i : Nat} (hi : i < xs.length) {x : Bd} (hx : xs.getD i nob = x) :
    ∃ b off, ao = some ⟨b, off, none⟩ ∧ b < w.heap.size ∧ w.cell? ⟨b, off + i * 4, none⟩ = some (.string (bs x.o)) ∧ w.cell? ⟨b, off + i * 4 + 1, none⟩ = some (.int .i64 x.k) ∧ w.cell? ⟨b, off + i * 4 + 2, none⟩ = some (.int .i64 x.n) ∧ w.cell? ⟨b, off + i * 4 + 3, none⟩ = some (.string (bs x.s)) := by
  subst hx
  rcases h with h0 | ⟨b, off, ha, hb, hc⟩
  · omega
  · obtain ⟨c0, c1, c2, c3⟩ := hc i hi
    exact ⟨b, off, ha, hb, c0, c1, c2, c3⟩
theorem take_all {xs : List Bd} {i : Nat} (hi : i < xs.length) : (xs.take (i + 1)).all Bd.ok = ((xs.take i).all Bd.ok && (xs.getD i nob).ok) := by
  rw [List.take_succ_eq_append_getElem hi, List.all_append, List.getD_eq_getElem?_getD, List.getElem?_eq_getElem hi]
  simp
theorem all_not {xs : List Bd} {i : Nat} (hi : i < xs.length) (h : (xs.getD i nob).ok = false) : xs.all Bd.ok = false := by
  rw [List.getD_eq_getElem?_getD, List.getElem?_eq_getElem hi] at h
  rw [List.all_eq_false]
  exact ⟨_, List.getElem_mem hi, by simpa using h⟩
def IbRel (xs : List Bd) (w : World) (g : Nat) (v : Value) (wr : World) : Prop :=
  ∃ i : Nat, i + g = xs.length ∧ v = .int .i64 (i : Nat) ∧ (xs.take i).all Bd.ok = true ∧ Below w.heap.size w wr
set_option maxRecDepth 100000 in
set_option maxHeartbeats 1000000 in
theorem qisbinds_walk (xs : List Bd) (ao : Option Addr) (cap : Nat) (hl : xs.length ≤ 140737488351232) (hx : Lim xs) (w : World) (hr : RdB w ao xs) :
    Calls Tryz.prog 60 #[.slice ao xs.length cap] w fun e w' => e = .returned (.bool (decide (xs.length ≤ 4096) && xs.all Bd.ok)) ∧ Below w.heap.size w w' := by
  by_cases h4 : xs.length ≤ 4096
  · rw [decide_eq_true h4, Bool.true_and]
    have h4' : ((xs.length : Nat) : Int) ≤ 4096 := by omega
    go_enter Tryz.func60, Tryz.ntmps60
    go_wp2_with fail
    go_loopg [3] xs.length (fun g v wr => IbRel xs w g v wr)
    case atStart => exact ⟨0, by omega, rfl, rfl, Below.refl _ _⟩
    case round =>
      obtain ⟨i, hi, rfl, hall, hb⟩ := hrel
      cases gk with
      | zero =>
        obtain rfl : i = xs.length := by omega
        rw [List.take_length] at hall
        have HALL := Lib.hid hall
        clear hall
        go_wp2
        go_ret
        exact ⟨by rw [HALL.out]; rfl, hb⟩
      | succ g =>
        have hlt : i < xs.length := by omega
        obtain ⟨l1, l2, l3⟩ := hx.at hlt
        have HTK := Lib.hid (take_all hlt)
        have HNO := Lib.hid (fun h => all_not (xs := xs) hlt h)
        obtain ⟨x, hxe⟩ : ∃ x, xs.getD i nob = x := ⟨_, rfl⟩
        obtain ⟨b, off, rfl, hbl, c0, c1, c2, c3⟩ := (hr.below hb).at hlt hxe
        rw [hxe] at l1 l2 HTK HNO
        have hI := fun w1 => qisbind_walk x l1 l2 w1
        rw [hall] at HTK
        cases hok : x.ok
        · have HA := Lib.hid (HNO.out hok)
          rw [hok] at hI
          have HI := Lib.hid hI
          clear hI hok HNO HTK hall hxe
          go_wp2_with fail
          refine (HI.out _).mono ?_
          rintro e w1 ⟨rfl, b1⟩
          go_wp2
          go_ret
          exact ⟨by rw [HA.out]; rfl, hb.trans (b1.mono hb.size)⟩
        · rw [hok] at hI HTK
          have HI := Lib.hid hI
          clear hI hok HNO hall hxe
          go_wp2_with fail
          refine (HI.out _).mono ?_
          rintro e w1 ⟨rfl, b1⟩
          go_wp2
          go_roundg g
          case measure => omega
          case rel => exact ⟨i + 1, by omega, by simp, HTK.out, hb.trans (b1.mono hb.size)⟩
  · have h4' : (4096 : Int) < ((xs.length : Nat) : Int) := by omega
    rw [decide_eq_false h4, Bool.false_and]
    go_enter Tryz.func60, Tryz.ntmps60
    go_wp2
    go_ret
    exact ⟨rfl, Below.refl _ _⟩
end Go.Proofs.YtmdibafofdghgaaGreatDoor
/- The document's Put, Encode of units, walked. -/
namespace Go.Proofs.YtmdibafofdghgaaGreatDoor
open Go.ChangeShapes Go.WideShapes Go.ChangeAt Go.RowKit K P1 B5
open D8 (Bd Un lst)
set_option linter.unusedVariables false

/-- A unit's five cells in block b. -/
def Uq (T : TypeId) (w : World) (b : Nat) (u : Un) (ao : Option Addr) (cap : Nat) : Prop := w.heap[b]? = some (.cells #[.int .i64 u.t, .int .i64 u.r, .int .i64 u.a, .int .i64 u.i, .slice ao u.l.length cap] T (0, 0))
theorem Uq.new (T : TypeId) (w : World) (u : Un) (ao : Option Addr) (cap : Nat) : Uq T (w.alloc (.cells #[.int .i64 u.t, .int .i64 u.r, .int .i64 u.a, .int .i64 u.i, .slice ao u.l.length cap] T)) w.heap.size u ao cap := rowNew w _
theorem Uq.below {T : TypeId} {w w' : World} {b : Nat} {u : Un} {ao : Option Addr} {cap : Nat} (h : Uq T w b u ao cap) (k : Below w.heap.size w w') : Uq T w' b u ao cap := (k.block b (lt_of_block h)).trans h
theorem Uq.cells {T : TypeId} {w : World} {b : Nat} {u : Un} {ao : Option Addr} {cap : Nat} (h : Uq T w b u ao cap) : w.cell? ⟨b, 0, none⟩ = some (.int .i64 u.t) ∧ w.cell? ⟨b, 1, none⟩ = some (.int .i64 u.r) ∧ w.cell? ⟨b, 2, none⟩ = some (.int .i64 u.a) ∧ w.cell? ⟨b, 3, none⟩ = some (.int .i64 u.i) ∧ w.cell? ⟨b, 4, none⟩ = some (.slice ao u.l.length cap) :=
  ⟨cellRow h 0, cellRow h 1, cellRow h 2, cellRow h 3, cellRow h 4⟩
theorem qnumber8_walk (n : Int) (n0 : -9223372036854775808 ≤ n) (n1 : n ≤ 9223372036854775807) (w : World) :
    Calls Tryz.prog 84 #[.int .i64 n] w fun e w' => e = .returned (.string (bs (put 2 (pn n)))) ∧ Below w.heap.size w w' := by
  have hl := (pn_ok n n0 n1).2.2.2
  have HN := Lib.hid (fun w1 => qputnumber_walk n n0 n1 w1)
  have HP := Lib.hid (fun w1 => qput_walk 2 (by omega) (pn n) (by omega) w1)
  generalize put 2 (pn n) = R at *
  generalize pn n = N at *
  go_enter Tryz.func84, Tryz.ntmps84
  go_wp2_with fail
  refine (HN.out _).mono ?_
  rintro e w1 ⟨rfl, b1⟩
  go_wp2_with fail
  refine (HP.out _).mono ?_
  rintro e w2 ⟨rfl, b2⟩
  go_wp2
  go_ret
  exact ⟨rfl, b1.trans (b2.mono b1.size)⟩
/-- What a unit's check looks at, one after the other. -/
inductive Cu (u : Un) : Prop
  | t (h1 : (u.t != 162) = true) (h2 : (u.t != 166) = true) (h3 : (u.t != 167) = true) (e : u.ok = false)
  | r0 (ht : u.t = 162 ∨ u.t = 166 ∨ u.t = 167) (h : u.r < -2147483648) (e : u.ok = false)
  | r1 (ht : u.t = 162 ∨ u.t = 166 ∨ u.t = 167) (h0 : -2147483648 ≤ u.r) (h : 2147483647 < u.r) (e : u.ok = false)
  | a0 (ht : u.t = 162 ∨ u.t = 166 ∨ u.t = 167) (h0 : -2147483648 ≤ u.r) (h1 : u.r ≤ 2147483647) (h : u.a < 0) (e : u.ok = false)
  | a1 (ht : u.t = 162 ∨ u.t = 166 ∨ u.t = 167) (h0 : -2147483648 ≤ u.r) (h1 : u.r ≤ 2147483647) (h2 : 0 ≤ u.a) (h : 2147483647 < u.a) (e : u.ok = false)
  | i0 (ht : u.t = 162 ∨ u.t = 166 ∨ u.t = 167) (h0 : -2147483648 ≤ u.r) (h1 : u.r ≤ 2147483647) (h2 : 0 ≤ u.a) (h3 : u.a ≤ 2147483647) (h : u.i < 0) (e : u.ok = false)
  | i1 (ht : u.t = 162 ∨ u.t = 166 ∨ u.t = 167) (h0 : -2147483648 ≤ u.r) (h1 : u.r ≤ 2147483647) (h2 : 0 ≤ u.a) (h3 : u.a ≤ 2147483647) (h4 : 0 ≤ u.i) (h : 2147483647 < u.i) (e : u.ok = false)
  | l (ht : u.t = 162 ∨ u.t = 166 ∨ u.t = 167) (h0 : -2147483648 ≤ u.r) (h1 : u.r ≤ 2147483647) (h2 : 0 ≤ u.a) (h3 : u.a ≤ 2147483647) (h4 : 0 ≤ u.i) (h5 : u.i ≤ 2147483647) (e : u.ok = (decide (u.l.length ≤ 4096) && u.l.all Bd.ok))
theorem un_not {u : Un} (h : ¬ u.ok = true) : u.ok = false := by cases hx : u.ok; rfl; exact absurd hx h
theorem cu_all (u : Un) : Cu u := by
  have hk := D8.Un.ok_iff u
  by_cases ht : u.t = 162 ∨ u.t = 166 ∨ u.t = 167
  · by_cases h0 : u.r < -2147483648
    · exact .r0 ht h0 (un_not fun e => by have := hk.1 e; omega)
    by_cases h1 : 2147483647 < u.r
    · exact .r1 ht (by omega) h1 (un_not fun e => by have := hk.1 e; omega)
    by_cases h2 : u.a < 0
    · exact .a0 ht (by omega) (by omega) h2 (un_not fun e => by have := hk.1 e; omega)
    by_cases h3 : 2147483647 < u.a
    · exact .a1 ht (by omega) (by omega) (by omega) h3 (un_not fun e => by have := hk.1 e; omega)
    by_cases h4 : u.i < 0
    · exact .i0 ht (by omega) (by omega) (by omega) (by omega) h4 (un_not fun e => by have := hk.1 e; omega)
    by_cases h5 : 2147483647 < u.i
    · exact .i1 ht (by omega) (by omega) (by omega) (by omega) (by omega) h5 (un_not fun e => by have := hk.1 e; omega)
    refine .l ht (by omega) (by omega) (by omega) (by omega) (by omega) (by omega) ?_
    rw [Bool.eq_iff_iff, hk, Bool.and_eq_true, decide_eq_true_eq, List.all_eq_true]
    constructor
    · intro h; exact h.2.2.2.2
    · intro h; exact ⟨ht, by omega, by omega, by omega, h⟩
  · have e : ∀ c : Int, ¬ u.t = c → (u.t != c) = true := fun c h => by rw [bne_iff_ne]; exact h
    exact .t (e _ (by omega)) (e _ (by omega)) (e _ (by omega)) (un_not fun e => by have := hk.1 e; omega)
def ckU (u : Un) : Nat := if u.ok then 0 else 80
set_option maxRecDepth 100000 in
set_option maxHeartbeats 4000000 in
theorem qcheck8_walk (u : Un) (ao : Option Addr) (cap : Nat) (hl : u.l.length ≤ 140737488351232) (hx : Lim u.l) (w : World) (hr : RdB w ao u.l) :
    Calls Tryz.prog 39 #[.agg #[.int .i64 u.t, .int .i64 u.r, .int .i64 u.a, .int .i64 u.i, .slice ao u.l.length cap]] w fun e w' => e = .returned (.int .i64 (ckU u : Nat)) ∧ Below w.heap.size w w' := by
  have hba := alloc_in w (.cells #[.int .i64 u.t, .int .i64 u.r, .int .i64 u.a, .int .i64 u.i, .slice ao u.l.length cap] 60)
  have hI := qisbinds_walk u.l ao cap hl hx _ (hr.below hba)
  unfold ckU
  cases cu_all u with
  | t h1 h2 h3 e =>
    rw [e]
    clear hI e hr hx
    obtain ⟨t, r, a, i, l⟩ := u
    simp only [] at *
    go_enter Tryz.func39, Tryz.ntmps39
    go_wp2
    go_ret
    exact ⟨rfl, hba⟩
  | r0 ht h e | r1 ht h0 h e | a0 ht h0 h1 h e | a1 ht h0 h1 h2 h e | i0 ht h0 h1 h2 h3 h e | i1 ht h0 h1 h2 h3 h4 h e =>
    rw [e]
    clear hI e hr hx
    obtain ⟨t, r, a, i, l⟩ := u
    simp only [] at *
    rcases ht with rfl | rfl | rfl
    all_goals
      go_enter Tryz.func39, Tryz.ntmps39
      go_wp2
      go_ret
      exact ⟨rfl, hba⟩
  | l ht h0 h1 h2 h3 h4 h5 e =>
    rw [← e] at hI
    clear e hr hx
    have HI := Lib.hid hI
    cases hk : u.ok
    all_goals
      rw [hk] at HI
      clear hk
      obtain ⟨t, r, a, i, l⟩ := u
      simp only [] at *
      clear hI
      rcases ht with rfl | rfl | rfl
      all_goals
        go_enter Tryz.func39, Tryz.ntmps39
        go_wp2_with fail
        refine HI.out.mono ?_
        rintro e w1 ⟨rfl, b1⟩
        go_wp2
        go_ret
        exact ⟨rfl, Below_in b1⟩
end Go.Proofs.YtmdibafofdghgaaGreatDoor
