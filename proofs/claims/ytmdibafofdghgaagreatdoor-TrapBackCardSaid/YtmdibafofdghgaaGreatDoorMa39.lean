/- Texts on the program and on the document, joined: Inv, TrpM. -/
import Derived.Test.YtmdibafofdghgaaGreatDoorMa01
import Derived.OrdersHeld
import Derived.Test.YtmdibafofdghgaaGreatDoorMa37
import Derived.Test.YtmdibafofdghgaaGreatDoorMa38
/- A region that draws its order, by an invariant over what has come up so far. Of no program. -/
namespace Go.Proofs.YtmdibafofdghgaaGreatDoor
open Go.RowKit
set_option linter.unusedVariables false
namespace K
section
variable {P : Program} {ops : Array Oper} {Q : Exit → Act → World → Prop} {md : Region.Mode}
/-- How many have not come up yet. -/
def still (ops : Array Oper) (listed : Array Bool) : Nat := (List.range ops.size).countP fun i => !listed.getD i true
theorem countP_lt {α : Type} {p q : α → Bool} {l : List α} (h : ∀ x ∈ l, p x = true → q x = true) {y : α} (hy : y ∈ l) (h1 : q y = true) (h2 : p y = false) : l.countP p < l.countP q := by
  obtain ⟨a, b, rfl⟩ := List.append_of_mem hy
  rw [List.countP_append, List.countP_append, List.countP_cons, List.countP_cons, h1, h2]
  have ha := List.countP_mono_left (p := p) (q := q) (l := a) (fun x hx hp => h x (by simp [hx]) hp)
  have hb := List.countP_mono_left (p := p) (q := q) (l := b) (fun x hx hp => h x (by simp [hx]) hp)
  simp; omega
theorem still_set {listed : Array Bool} {i : Nat} (h : i ∈ Region.ready md ops listed) : still ops (listed.setIfInBounds i true) < still ops listed := by
  obtain ⟨hu, o, ho, _⟩ := mem_ready.1 h
  have hlt : i < ops.size := (Array.getElem?_eq_some_iff.1 ho).1
  have hi : i < listed.size := by
    rcases Nat.lt_or_ge i listed.size with h | h
    · exact h
    · simp [Array.getElem?_eq_none h] at hu
  unfold still
  refine countP_lt (y := i) ?_ (List.mem_range.2 hlt) (by rw [hu]; rfl) (by simp [hi])
  intro x hx hp
  by_cases he : i = x
  · subst he; rw [hu]; rfl
  · simpa [Array.getElem?_setIfInBounds_ne he] using hp
theorem still_zero {listed : Array Bool} (h : still ops listed = 0) : Region.ready md ops listed = [] := by
  cases hr : Region.ready md ops listed with
  | nil => rfl
  | cons x xs =>
    have hx : x ∈ Region.ready md ops listed := by rw [hr]; simp
    have := still_set hx
    omega
theorem wpAny_inv {Inv : Array Bool → Act → World → Prop} (step : ∀ i listed a w, i ∈ Region.ready md ops listed → Inv listed a w → wpOp P ops Q i (fun a' w' => Inv (listed.setIfInBounds i true) a' w') a w)
    (fin : ∀ listed a w, Region.ready md ops listed = [] → Inv listed a w → Q .normal a w) : ∀ (fuel : Nat) (listed : Array Bool) (a : Act) (w : World), still ops listed ≤ fuel → Inv listed a w → wpAny P md ops Q fuel listed a w
  | 0, listed, a, w, hf, h => by
    have hz := still_zero (md := md) (show still ops listed = 0 by omega)
    exact ⟨hz, fin _ _ _ hz h⟩
  | fuel + 1, listed, a, w, hf, h => by
    refine ⟨fun hz => fin _ _ _ hz h, fun i hi => ?_⟩
    have hs := still_set hi
    exact wpOp_mono (fun a' w' h' => wpAny_inv step fin fuel _ a' w' (by omega) h') (step i listed a w hi h)
/-- The rule: what holds ahead of the region, is kept by whatever may come up, and gives the post when all has come up. -/
theorem wp_region_inv (Inv : Array Bool → Act → World → Prop) {id : Nat} {a : Act} {w : World} (hm : P.follows .mixedOrders = true) (h0 : Inv (Array.replicate ops.size false) a w.drew)
    (step : ∀ i listed a w, i ∈ Region.ready .any ops listed → Inv listed a w → wpOp P ops Q i (fun a' w' => Inv (listed.setIfInBounds i true) a' w') a w)
    (fin : ∀ listed a w, Region.ready .any ops listed = [] → Inv listed a w → Q .normal a w) : (Code.region id ops true).wp P Q a w :=
  wp_region_any hm (wpAny_inv step fin ops.size _ _ _ (by unfold still; have := List.countP_le_length (p := fun i => !(Array.replicate ops.size false).getD i true) (l := List.range ops.size); simpa using this) h0)
/-- One operation without a guard. -/
theorem wpOp_plain {i : Nat} {o : Oper} {K : Act → World → Prop} {a : Act} {w : World} (ho : ops[i]? = some o) (hg : o.guard = none) (h : o.wp P a w K Q) : wpOp P ops Q i K a w := by
  unfold wpOp
  simp only [ho]
  have : Region.wanted o (yielded ops a.tmps) = true := by unfold Region.wanted; rw [hg]
  rw [this]
  exact .inl h
/-! ### What has come up, what the temporaries hold -/
def up (l : Array Bool) (k : Nat) : Bool := l.getD k false
def slot (a : Act) (k : Nat) : Value := a.tmps.getD k undef
def upd {α : Type} (f : Nat → α) (i : Nat) (v : α) : Nat → α := fun k => if k = i then v else f k
theorem up_set {l : Array Bool} {i : Nat} (h : i < l.size) : up (l.setIfInBounds i true) = upd (up l) i true := by
  funext k
  unfold up upd
  by_cases hk : k = i
  · subst hk; simp [h]
  · simp [hk, Array.getElem?_setIfInBounds_ne (Ne.symm hk)]
theorem slot_put {a : Act} {r : Nat} {v : Value} (h : r < a.tmps.size) : slot (a.put (some r) v) = upd (slot a) r v := by
  funext k
  unfold slot upd Act.put
  by_cases hk : k = r
  · subst hk; simp [h]
  · simp [hk, Array.getElem?_setIfInBounds_ne (Ne.symm hk)]
theorem eval_slot (a : Act) (k : Nat) : a.eval (.tmp k) = slot a k := by
  unfold slot Act.eval
  simp
/-- But for these temporaries all is as it was. -/
structure Frm (a0 : Act) (ks : List Nat) (a : Act) : Prop where
  defs : a.defers = a0.defers
  size : a.tmps.size = a0.tmps.size
  out : ∀ k, k ∉ ks → a.tmps[k]? = a0.tmps[k]?
theorem Frm.refl (a : Act) (ks : List Nat) : Frm a ks a := ⟨rfl, rfl, fun _ _ => rfl⟩
theorem Frm.put {a0 a : Act} {ks : List Nat} (h : Frm a0 ks a) {r : Nat} (hr : r ∈ ks) (v : Value) : Frm a0 ks (a.put (some r) v) :=
  ⟨h.defs, by simp [Act.put, h.size], fun k hk => by
    have : r ≠ k := fun e => hk (e ▸ hr)
    simp [Act.put, Array.getElem?_setIfInBounds_ne this, h.out k hk]⟩
theorem Frm.none {a0 a : Act} {ks : List Nat} (h : Frm a0 ks a) (v : Value) : Frm a0 ks (a.put none v) := h
theorem Frm.slot {a0 a : Act} {ks : List Nat} (h : Frm a0 ks a) {k : Nat} (hk : k ∉ ks) : slot a k = slot a0 k := by
  unfold K.slot
  simp [h.out k hk]
def puts (f : Nat → Value) (ks : List Nat) (b : Act) : Act := ks.foldl (fun b k => b.put (some k) (f k)) b
theorem puts_spec (f : Nat → Value) : ∀ (ks : List Nat) (b : Act), (puts f ks b).defers = b.defers ∧ (puts f ks b).tmps.size = b.tmps.size ∧ ∀ j, j < b.tmps.size → (puts f ks b).tmps[j]? = if j ∈ ks then some (f j) else b.tmps[j]?
  | [], b => ⟨rfl, rfl, fun j _ => by simp [puts]⟩
  | k :: ks, b => by
    obtain ⟨h1, h2, h3⟩ := puts_spec f ks (b.put (some k) (f k))
    have hs : (b.put (some k) (f k)).tmps.size = b.tmps.size := by simp [Act.put]
    refine ⟨h1, h2.trans hs, fun j hj => ?_⟩
    have e : puts f (k :: ks) b = puts f ks (b.put (some k) (f k)) := rfl
    rw [e, h3 j (by rw [hs]; exact hj)]
    by_cases hm : j ∈ ks
    · simp [hm]
    · by_cases hk : j = k
      · subst hk; simp [hm, Act.put, hj]
      · simp [hm, hk, Act.put, Array.getElem?_setIfInBounds_ne (Ne.symm hk)]
theorem Frm.eq {a0 a : Act} {ks : List Nat} (h : Frm a0 ks a) : a = puts (K.slot a) ks a0 := by
  obtain ⟨h1, h2, h3⟩ := puts_spec (K.slot a) ks a0
  obtain ⟨ta, da⟩ := a
  generalize hp : puts (K.slot ⟨ta, da⟩) ks a0 = p at *
  obtain ⟨tp, dp⟩ := p
  have hd : da = dp := h.defs.trans h1.symm
  have ht : ta = tp := by
    apply Array.ext_getElem?
    intro j
    rcases Nat.lt_or_ge j a0.tmps.size with hj | hj
    · rw [h3 j hj]
      by_cases hm : j ∈ ks
      · have hj' : j < ta.size := by have := h.size; simp only at this; omega
        simp [hm, K.slot, hj']
      · rw [if_neg hm]; exact h.out j hm
    · have e1 : ta.size = a0.tmps.size := h.size
      have e2 : tp.size = a0.tmps.size := h2
      rw [Array.getElem?_eq_none (by omega), Array.getElem?_eq_none (by omega)]
  rw [hd, ht]
theorem ready_not {listed : Array Bool} {i : Nat} (h : i ∈ Region.ready md ops listed) : up listed i = false := by
  have := (mem_ready.1 h).1
  unfold up
  rcases Nat.lt_or_ge i listed.size with hi | hi
  · simpa [hi] using this
  · simp [Array.getElem?_eq_none hi] at this
theorem ready_pred {listed : Array Bool} {i : Nat} {o : Oper} (h : i ∈ Region.ready md ops listed) (ho : ops[i]? = some o) (k : Nat) (he : o.after.any (fun e => Region.binds md e && e.on == k) = true) : up listed k = true := by
  obtain ⟨_, o', ho', hall⟩ := mem_ready.1 h
  rw [ho] at ho'
  obtain rfl := Option.some.inj ho'
  rw [Array.any_eq_true'] at he
  obtain ⟨e, hm, hb⟩ := he
  simp only [Bool.and_eq_true, beq_iff_eq] at hb
  have := hall e hm hb.1
  rw [hb.2] at this
  exact this
/-- Each operation waits for earlier ones alone. -/
def fwd (md : Region.Mode) (ops : Array Oper) : Bool := (List.range ops.size).all fun i => ((ops[i]?).map fun o => o.after.all fun e => !Region.binds md e || decide (e.on < i)).getD true
theorem all_up {listed : Array Bool} (hf : fwd md ops = true) (hs : listed.size = ops.size) (hr : Region.ready md ops listed = []) : ∀ (n i : Nat), i < n → i < ops.size → up listed i = true
  | 0, i, h, _ => by omega
  | n + 1, i, h, hi => by
    cases hu : up listed i
    · exfalso
      have hm : i ∈ Region.ready md ops listed := by
        refine mem_ready.2 ⟨?_, ops[i], by simp [hi], fun e he hb => ?_⟩
        · unfold up at hu
          have : i < listed.size := by omega
          simpa [this] using hu
        · unfold fwd at hf
          have h1 := List.all_eq_true.1 hf i (List.mem_range.2 hi)
          simp only [Array.getElem?_eq_getElem hi, Option.map_some, Option.getD_some] at h1
          have h2 := Array.all_eq_true'.1 h1 e he
          simp only [hb, Bool.not_true, Bool.false_or, decide_eq_true_eq] at h2
          exact all_up hf hs hr n e.on (by omega) (by omega)
      rw [hr] at hm; cases hm
    · rfl
/-! ### Single operations -/
theorem op_run {o : Oper} {a : Act} {w w' : World} {K : Act → World → Prop} {v : Value} (hr : (execOp a.eval o).run P w = .ok (.value v) w') (h : K (a.put o.dst v) w') : o.wp P a w K Q := by
  unfold Oper.wp; rw [hr]; exact h
theorem op_skip {o : Oper} {a : Act} {w w' : World} {K : Act → World → Prop} (hr : (execOp a.eval o).run P w = .ok .skip w') (h : K (a.put o.dst undef) w') : o.wp P a w K Q := by
  unfold Oper.wp; rw [hr]; exact h
theorem op_move {o : Oper} {a : Act} {w : World} {K : Act → World → Prop} {x : Operand} (k : o.op = .move x ∨ o.op = .assign x) (h : K (a.put o.dst (a.eval x)) w) : o.wp P a w K Q := by
  refine op_run (v := a.eval x) (w' := w) ?_ h
  rcases k with k | k <;> simp [execOp, k]
theorem op_val {o : Oper} {a : Act} {w w' : World} {K : Act → World → Prop} {v : Value} (s : Sem Value) (k : execOp a.eval o = (do pure (.value (← s)))) (hr : s.run P w = .ok v w') (h : K (a.put o.dst v) w') : o.wp P a w K Q := by
  refine op_run (v := v) (w' := w') ?_ h
  rw [k]; simp [hr, Result.andThen]
theorem op_unit {o : Oper} {a : Act} {w w' : World} {K : Act → World → Prop} {u : Unit} (s : Sem Unit) (k : execOp a.eval o = (do s; pure .skip)) (hr : s.run P w = .ok u w') (h : K (a.put o.dst undef) w') : o.wp P a w K Q := by
  refine op_skip (w' := w') ?_ h
  rw [k]; simp [hr, Result.andThen]
theorem op_enter {o : Oper} {a : Act} {w : World} {K : Act → World → Prop} {f : FuncId} {args : Array Value} (k : (execOp a.eval o).run P w = .ok (.enter f args) w) {R : Ending → World → Prop} (hc : Calls P f args w R) (h : ∀ e w', R e w' → ∃ v, e = .returned v ∧ K (a.put o.dst v) w') : o.wp P a w K Q := by
  unfold Oper.wp
  rw [k, Oper.upon_enter]
  refine hc.mono fun e w' hr => ?_
  obtain ⟨v, rfl, hk⟩ := h e w' hr
  exact hk
end
end K
end Go.Proofs.YtmdibafofdghgaaGreatDoor
/- TrapBack's drawn region: two appends, the call of Decode, the block of what it tells, in whatever order: by an invariant. -/
namespace Go.Proofs.YtmdibafofdghgaaGreatDoor
open Go.ChangeShapes Go.WideShapes Go.ChangeAt Go.RowKit K P1 B5
open D8 (Bd Un lst deU)
open T9 (Tr)
set_option linter.unusedVariables false

theorem below_drew2 {B : Nat} {w w' : World} (h : Below B w w') : Below B w w'.drew := ⟨h.os, h.tape, h.output, h.size, h.block⟩
/-- A trap's new block, empty yet. -/
def Am (w W : World) (g : Nat) : Prop := w.heap.size < g ∧ Tq W g not9 none 0
theorem Am.below {w W W' : World} {g : Nat} (h : Am w W g) (k : Below W.heap.size W W') : Am w W' g := ⟨h.1, h.2.below k⟩
theorem Am.new {w W : World} {t : Tr} {ao : Option Addr} {ca : Nat} (h : Tq W w.heap.size t ao ca) : Am w (W.alloc (.cells #[.string { data := #[] }, .bool false, .int .i64 0, .int .i64 0, .string { data := #[] }, .slice none 0 0] 27)) W.heap.size := ⟨lt_of_block h, Tq.new W not9 none 0⟩
/-- What the region ends in. -/
def Fin (w X : World) (bu : Nat) (t : Tr) (xo : Option Addr) (xc : Nat) (ao : Option Addr) (ca : Nat) : Prop := Tq X bu t xo xc ∧ Tq X w.heap.size t ao ca ∧ RdB X xo t.l ∧ Below w.heap.size w X
theorem Fin.set {w x3 : World} {g : Nat} {t : Tr} {xo : Option Addr} (xc : Nat) {ao : Option Addr} {ca : Nat} (A : Am w x3 g) (h : Tq x3 w.heap.size t ao ca) (r : RdB x3 xo t.l) (b : Below w.heap.size w x3) : Fin w ((((((x3.setCell ⟨g, 0, none⟩ (.string (bs t.c))).setCell ⟨g, 1, none⟩ (.bool t.f)).setCell ⟨g, 2, none⟩ (.int .i64 t.r)).setCell ⟨g, 3, none⟩ (.int .i64 t.n)).setCell ⟨g, 4, none⟩ (.string (bs t.o))).setCell ⟨g, 5, none⟩ (.slice xo t.l.length xc)) g t xo xc ao ca := by
  have hne : w.heap.size ≠ g := Nat.ne_of_lt A.1
  have hs : ∀ (y : World) (i : Nat) (v : Value), Tq y w.heap.size t ao ca → Tq (y.setCell ⟨g, i, none⟩ v) w.heap.size t ao ca := fun y i v hy => (Below.heap_setCell _ _ _ _ hne).trans hy
  exact ⟨A.2.set t xo xc, hs _ _ _ (hs _ _ _ (hs _ _ _ (hs _ _ _ (hs _ _ _ (hs _ _ _ h))))), r.set6 A.2 _ _ _ _ _ _, below_set6 b (b := g) (Nat.le_of_lt A.1) _ _ _ _ _ _⟩
theorem Fin.made {w x3 : World} {t : Tr} {xo : Option Addr} (xc : Nat) {ao : Option Addr} {ca : Nat} (h : Tq x3 w.heap.size t ao ca) (r : RdB x3 xo t.l) (b : Below w.heap.size w x3) : Fin w (x3.alloc (.cells #[.string (bs t.c), .bool t.f, .int .i64 t.r, .int .i64 t.n, .string (bs t.o), .slice xo t.l.length xc] 27)) x3.heap.size t xo xc ao ca :=
  ⟨Tq.new x3 t xo xc, h.below (alloc_in _ _), r.below (alloc_in _ _), b.trans ((alloc_in _ _).mono b.size)⟩
/-- Whether one of the first is the trap's community. -/
def KbRel (t : Tr) (ls : List (List UInt8)) (ao : Option Addr) (ca : Nat) (w : World) (g : Nat) (v11 v71 : Value) (wr : World) : Prop :=
  ∃ (i : Nat) (kk : Bool), i + g = ls.length ∧ kk = knows (ls.take i) t.c ∧ v11 = .bool kk ∧ v71 = .int .i64 (i : Nat) ∧ Tq wr w.heap.size t ao ca ∧ Below w.heap.size w wr
def aggT (t : Tr) (xo : Option Addr) (xc : Nat) : Value := .agg #[.string (bs t.c), .bool t.f, .int .i64 t.r, .int .i64 t.n, .string (bs t.o), .slice xo t.l.length xc]
/-- What holds while the region runs: d says what has come up, f what the temporaries hold. -/
structure Jb (w : World) (t : Tr) (ao : Option Addr) (ca : Nat) (ls : List (List UInt8)) (bo : Option Addr) (cb : Nat) (MS : List UInt8) (d : Nat → Bool) (f : Nat → Value) (W : World) : Prop where
  bel : Below w.heap.size w W
  tr : Tq W w.heap.size t ao ca
  s0 : d 0 = true → f 50 = .string (bs MS)
  s1 : d 1 = true → d 3 = false → ∃ k, f 51 = .slice (some ⟨k, 0, none⟩) 0 0 ∧ OwnS W w.heap.size 9 (.slice (some ⟨k, 0, none⟩) 0 0) []
  s2 : d 2 = true → f 52 = .slice bo ls.length cb
  s3 : d 3 = true → d 7 = false → OwnS W w.heap.size 9 (f 53) ls
  s4 : d 4 = true → f 54 = .pointer (some ⟨w.heap.size, 0, none⟩)
  s5 : d 5 = true → f 55 = .string (bs t.c)
  s6 : d 6 = true → d 7 = false → ∃ kc, f 56 = .slice (some ⟨kc, 0, none⟩) 1 1 ∧ W.heap[kc]? = some (.cells #[.string (bs t.c)] 9 (0, 0)) ∧ (d 1 = true → d 3 = false → ∀ k, f 51 = .slice (some ⟨k, 0, none⟩) 0 0 → kc ≠ k)
  s7 : d 7 = true → d 8 = false → ∃ g cap, f 57 = .slice g (ls.length + 1) cap ∧ RdS W g (ls ++ [t.c])
  s8 : d 8 = true → ∃ xo xc, f 58 = .tuple #[aggT t xo xc, .int .i64 0] ∧ RdB W xo t.l ∧ (d 9 = true → f 49 = .tuple #[aggT t xo xc, .int .i64 0]) ∧ (d 10 = true → f 59 = aggT t xo xc) ∧ (d 11 = true → f 60 = .int .i64 0) ∧ (d 13 = true → ∃ bu, f 9 = .pointer (some ⟨bu, 0, none⟩) ∧ Tq W bu t xo xc)
  s12 : d 12 = true → d 13 = false → ∃ bu, f 9 = .pointer (some ⟨bu, 0, none⟩) ∧ Am w W bu
  s14 : d 14 = true → f 10 = .int .i64 0
  c7 : d 7 = true → d 3 = true
  c8 : d 8 = true → d 7 = true
  c9 : d 9 = true → d 8 = true
  c10 : d 10 = true → d 9 = true
  c11 : d 11 = true → d 9 = true
  c13 : d 13 = true → d 10 = true
  c12 : d 13 = true → d 12 = true
section
variable {w W W' : World} {t : Tr} {ao : Option Addr} {ca : Nat} {ls : List (List UInt8)} {bo : Option Addr} {cb : Nat} {MS : List UInt8} {d : Nat → Bool} {f : Nat → Value}
theorem tf {C : Prop} (b : true = false) : C := by cases b
theorem no_tf {x : Bool} {C : Prop} (h : x = true) (k : x = false) : C := by rw [h] at k; cases k
theorem Jb.below (h : Jb w t ao ca ls bo cb MS d f W) (k : Below W.heap.size W W') : Jb w t ao ca ls bo cb MS d f W' where
  bel := h.bel.trans (k.mono h.bel.size)
  tr := h.tr.below k
  s0 := h.s0
  s1 := fun a b => by obtain ⟨x, e, o⟩ := h.s1 a b; exact ⟨x, e, o.below k⟩
  s2 := h.s2
  s3 := fun a b => (h.s3 a b).below k
  s4 := h.s4
  s5 := h.s5
  s6 := fun a b => by obtain ⟨x, e, o, q⟩ := h.s6 a b; exact ⟨x, e, (k.block _ (lt_of_block o)).trans o, q⟩
  s7 := fun a b => by obtain ⟨x, y, e, o⟩ := h.s7 a b; exact ⟨x, y, e, o.below k⟩
  s8 := fun a => by
    obtain ⟨x, y, e, o, q1, q2, q3, q4⟩ := h.s8 a
    exact ⟨x, y, e, o.below k, q1, q2, q3, fun z => by obtain ⟨bu, e1, e2⟩ := q4 z; exact ⟨bu, e1, e2.below k⟩⟩
  s12 := fun a b => by obtain ⟨x, e, o⟩ := h.s12 a b; exact ⟨x, e, o.below k⟩
  s14 := h.s14
  c7 := h.c7
  c8 := h.c8
  c9 := h.c9
  c10 := h.c10
  c11 := h.c11
  c13 := h.c13
  c12 := h.c12
theorem Jb.t0 (h : Jb w t ao ca ls bo cb MS d f W) : Jb w t ao ca ls bo cb MS (upd d 0 true) (upd f 50 (.string (bs MS))) W :=
  ⟨h.bel, h.tr, fun _ => rfl, h.s1, h.s2, h.s3, h.s4, h.s5, h.s6, h.s7, h.s8, h.s12, h.s14, h.c7, h.c8, h.c9, h.c10, h.c11, h.c13, h.c12⟩
theorem Jb.t1 (h0 : Jb w t ao ca ls bo cb MS d f W) : Jb w t ao ca ls bo cb MS (upd d 1 true) (upd f 51 (.slice (some ⟨W.heap.size, 0, none⟩) 0 0)) (W.alloc (.cells #[] 9)) := by
  have h := h0.below (alloc_in W (.cells #[] 9))
  refine ⟨h.bel, h.tr, h.s0, fun _ _ => ⟨W.heap.size, rfl, OwnS.empty W w.heap.size 9 h0.bel.size⟩, h.s2, h.s3, h.s4, h.s5, fun a b => ?_, h.s7, h.s8, h.s12, h.s14, h.c7, h.c8, h.c9, h.c10, h.c11, h.c13, h.c12⟩
  obtain ⟨x, e, o, _⟩ := h0.s6 a b
  obtain ⟨x', e', o', _⟩ := h.s6 a b
  have hx : x = x' := by rw [e] at e'; injection e' with e'; injection e' with e'; injection e'
  refine ⟨x', e', o', fun _ _ k hk => ?_⟩
  have hk' : Value.slice (some ⟨W.heap.size, 0, none⟩) 0 0 = .slice (some ⟨k, 0, none⟩) 0 0 := hk
  injection hk' with hk'
  injection hk' with hk'
  injection hk' with hk' _
  have := lt_of_block o
  omega
theorem Jb.t2 (h : Jb w t ao ca ls bo cb MS d f W) : Jb w t ao ca ls bo cb MS (upd d 2 true) (upd f 52 (.slice bo ls.length cb)) W :=
  ⟨h.bel, h.tr, h.s0, h.s1, fun _ => rfl, h.s3, h.s4, h.s5, h.s6, h.s7, h.s8, h.s12, h.s14, h.c7, h.c8, h.c9, h.c10, h.c11, h.c13, h.c12⟩
theorem Jb.t3 (h : Jb w t ao ca ls bo cb MS d f W) (hd : d 3 = false) (hd1 : d 1 = true) {k : Nat} (hf : f 51 = .slice (some ⟨k, 0, none⟩) 0 0) (hown : OwnS W w.heap.size 9 (.slice (some ⟨k, 0, none⟩) 0 0) []) {v' : Value} (hg : W.grownBy W' (Value.slice (some ⟨k, 0, none⟩) 0 0).ownBlock) (ho : OwnS W' w.heap.size 9 v' ls) :
    Jb w t ao ca ls bo cb MS (upd d 3 true) (upd f 53 v') W' := by
  have h7 : d 7 = true → False := fun a => no_tf (h.c7 a) hd
  refine ⟨h.bel.grown hg h.bel.size (fun k hk => (World.ownsRow.lt hown k hk).1), spread_keepS hown hg h.tr (by decide), h.s0, fun _ b => tf b, h.s2, fun _ _ => ho, h.s4, h.s5, fun a b => ?_, fun a _ => (h7 a).elim, fun a => (h7 (h.c8 a)).elim, fun a b => ?_, h.s14, fun _ => rfl, h.c8, h.c9, h.c10, h.c11, h.c13, h.c12⟩
  · obtain ⟨x, e, o, q⟩ := h.s6 a b
    refine ⟨x, e, (hg.block x (lt_of_block o) ?_).trans o, fun _ b => tf b⟩
    intro hx
    exact q hd1 hd k hf (Option.some.inj hx)
  · obtain ⟨x, e, o⟩ := h.s12 a b
    exact ⟨x, e, o.1, spread_keepS hown hg o.2 (by decide)⟩
theorem Jb.t4 (h : Jb w t ao ca ls bo cb MS d f W) : Jb w t ao ca ls bo cb MS (upd d 4 true) (upd f 54 (.pointer (some ⟨w.heap.size, 0, none⟩))) W :=
  ⟨h.bel, h.tr, h.s0, h.s1, h.s2, h.s3, fun _ => rfl, h.s5, h.s6, h.s7, h.s8, h.s12, h.s14, h.c7, h.c8, h.c9, h.c10, h.c11, h.c13, h.c12⟩
theorem Jb.t5 (h : Jb w t ao ca ls bo cb MS d f W) : Jb w t ao ca ls bo cb MS (upd d 5 true) (upd f 55 (.string (bs t.c))) W :=
  ⟨h.bel, h.tr, h.s0, h.s1, h.s2, h.s3, h.s4, fun _ => rfl, h.s6, h.s7, h.s8, h.s12, h.s14, h.c7, h.c8, h.c9, h.c10, h.c11, h.c13, h.c12⟩
theorem Jb.t6 (h0 : Jb w t ao ca ls bo cb MS d f W) : Jb w t ao ca ls bo cb MS (upd d 6 true) (upd f 56 (.slice (some ⟨W.heap.size, 0, none⟩) 1 1)) (W.alloc (.cells #[.string (bs t.c)] 9)) := by
  have h := h0.below (alloc_in W (.cells #[.string (bs t.c)] 9))
  refine ⟨h.bel, h.tr, h.s0, h.s1, h.s2, h.s3, h.s4, h.s5, fun _ _ => ⟨W.heap.size, rfl, rowNew W _, fun a b k hk => ?_⟩, h.s7, h.s8, h.s12, h.s14, h.c7, h.c8, h.c9, h.c10, h.c11, h.c13, h.c12⟩
  obtain ⟨x, e, o⟩ := h0.s1 a b
  have hk' : f 51 = .slice (some ⟨k, 0, none⟩) 0 0 := hk
  rw [e] at hk'
  injection hk' with hk'
  injection hk' with hk'
  injection hk' with hk' _
  have := (World.ownsRow.lt o x rfl).2
  omega
theorem Jb.t7 (h : Jb w t ao ca ls bo cb MS d f W) (hd : d 7 = false) (hd3 : d 3 = true) (hown : OwnS W w.heap.size 9 (f 53) ls) {g : Option Addr} {cap : Nat} (hg : W.grownBy W' (f 53).ownBlock) (ho : RdS W' g (ls ++ [t.c])) :
    Jb w t ao ca ls bo cb MS (upd d 7 true) (upd f 57 (.slice g (ls.length + 1) cap)) W' := by
  refine ⟨h.bel.grown hg h.bel.size (fun k hk => (World.ownsRow.lt hown k hk).1), spread_keepS hown hg h.tr (by decide), h.s0, fun _ b => no_tf hd3 b, h.s2, fun _ b => tf b, h.s4, h.s5, fun _ b => tf b, fun _ _ => ⟨g, cap, rfl, ho⟩, fun a => no_tf (h.c8 a) hd, fun a b => ?_, h.s14, fun _ => hd3, fun _ => rfl, h.c9, h.c10, h.c11, h.c13, h.c12⟩
  obtain ⟨x, e, o⟩ := h.s12 a b
  exact ⟨x, e, o.1, spread_keepS hown hg o.2 (by decide)⟩
theorem Jb.t8 (h0 : Jb w t ao ca ls bo cb MS d f W) (hd : d 8 = false) (hd7 : d 7 = true) (k : Below W.heap.size W W') {xo : Option Addr} {xc : Nat} (hr : RdB W' xo t.l) : Jb w t ao ca ls bo cb MS (upd d 8 true) (upd f 58 (.tuple #[aggT t xo xc, .int .i64 0])) W' := by
  have h := h0.below k
  have h9 : ∀ {C : Prop}, d 9 = true → C := fun a => no_tf (h.c9 a) hd
  exact ⟨h.bel, h.tr, h.s0, h.s1, h.s2, h.s3, h.s4, h.s5, h.s6, fun _ b => tf b, fun _ => ⟨xo, xc, rfl, hr, fun a => h9 a, fun a => h9 (h.c10 a), fun a => h9 (h.c11 a), fun a => h9 (h.c10 (h.c13 a))⟩, h.s12, h.s14, h.c7, fun _ => hd7, fun _ => rfl, h.c10, h.c11, h.c13, h.c12⟩
theorem Jb.t9 (h : Jb w t ao ca ls bo cb MS d f W) (hd8 : d 8 = true) : Jb w t ao ca ls bo cb MS (upd d 9 true) (upd f 49 (f 58)) W := by
  refine ⟨h.bel, h.tr, h.s0, h.s1, h.s2, h.s3, h.s4, h.s5, h.s6, h.s7, fun a => ?_, h.s12, h.s14, h.c7, h.c8, fun _ => hd8, fun _ => rfl, fun _ => rfl, h.c13, h.c12⟩
  obtain ⟨x, y, e, o, q1, q2, q3, q4⟩ := h.s8 a
  exact ⟨x, y, e, o, fun _ => e, q2, q3, q4⟩
theorem Jb.t10 (h : Jb w t ao ca ls bo cb MS d f W) (hd9 : d 9 = true) : ∃ v : Value, ∃ u, f 49 = .tuple #[v, u] ∧ Jb w t ao ca ls bo cb MS (upd d 10 true) (upd f 59 v) W := by
  obtain ⟨x, y, e, o, q1, q2, q3, q4⟩ := h.s8 (h.c9 hd9)
  refine ⟨aggT t x y, .int .i64 0, q1 hd9, h.bel, h.tr, h.s0, h.s1, h.s2, h.s3, h.s4, h.s5, h.s6, h.s7, fun _ => ⟨x, y, e, o, q1, fun _ => rfl, q3, q4⟩, h.s12, h.s14, h.c7, h.c8, h.c9, fun _ => hd9, h.c11, fun _ => rfl, h.c12⟩
theorem Jb.t11 (h : Jb w t ao ca ls bo cb MS d f W) (hd9 : d 9 = true) : ∃ v : Value, ∃ u, f 49 = .tuple #[u, v] ∧ Jb w t ao ca ls bo cb MS (upd d 11 true) (upd f 60 v) W := by
  obtain ⟨x, y, e, o, q1, q2, q3, q4⟩ := h.s8 (h.c9 hd9)
  refine ⟨.int .i64 0, aggT t x y, q1 hd9, h.bel, h.tr, h.s0, h.s1, h.s2, h.s3, h.s4, h.s5, h.s6, h.s7, fun _ => ⟨x, y, e, o, q1, q2, fun _ => rfl, q4⟩, h.s12, h.s14, h.c7, h.c8, h.c9, h.c10, fun _ => hd9, h.c13, h.c12⟩
theorem Jb.t12 (h0 : Jb w t ao ca ls bo cb MS d f W) (hd : d 12 = false) : Jb w t ao ca ls bo cb MS (upd d 12 true) (upd f 9 (.pointer (some ⟨W.heap.size, 0, none⟩))) (W.alloc (.cells #[.string { data := #[] }, .bool false, .int .i64 0, .int .i64 0, .string { data := #[] }, .slice none 0 0] 27)) := by
  have h := h0.below (alloc_in W (.cells #[.string { data := #[] }, .bool false, .int .i64 0, .int .i64 0, .string { data := #[] }, .slice none 0 0] 27))
  have h13 : ∀ {C : Prop}, d 13 = true → C := fun a => no_tf (h.c12 a) hd
  refine ⟨h.bel, h.tr, h.s0, h.s1, h.s2, h.s3, h.s4, h.s5, h.s6, h.s7, fun a => ?_, fun _ _ => ⟨W.heap.size, rfl, Am.new h0.tr⟩, h.s14, h.c7, h.c8, h.c9, h.c10, h.c11, h.c13, fun _ => rfl⟩
  obtain ⟨x, y, e, o, q1, q2, q3, q4⟩ := h.s8 a
  exact ⟨x, y, e, o, q1, q2, q3, fun b => h13 b⟩
theorem Jb.t14 (h : Jb w t ao ca ls bo cb MS d f W) : Jb w t ao ca ls bo cb MS (upd d 14 true) (upd f 10 (.int .i64 0)) W :=
  ⟨h.bel, h.tr, h.s0, h.s1, h.s2, h.s3, h.s4, h.s5, h.s6, h.s7, h.s8, h.s12, fun _ => rfl, h.c7, h.c8, h.c9, h.c10, h.c11, h.c13, h.c12⟩
theorem Jb.t13 (h : Jb w t ao ca ls bo cb MS d f W) (hd : d 13 = false) (hd12 : d 12 = true) (hd10 : d 10 = true) : ∃ b xo xc, f 9 = .pointer (some ⟨b, 0, none⟩) ∧ f 59 = aggT t xo xc ∧ Am w W b ∧ (Unit → Jb w t ao ca ls bo cb MS (upd d 13 true) f ((((((W.setCell ⟨b, 0, none⟩ (.string (bs t.c))).setCell ⟨b, 1, none⟩ (.bool t.f)).setCell ⟨b, 2, none⟩ (.int .i64 t.r)).setCell ⟨b, 3, none⟩ (.int .i64 t.n)).setCell ⟨b, 4, none⟩ (.string (bs t.o))).setCell ⟨b, 5, none⟩ (.slice xo t.l.length xc))) := by
  obtain ⟨b, e9, hA⟩ := h.s12 hd12 hd
  have hd9 := h.c10 hd10
  have hd8 := h.c9 hd9
  have hd7 := h.c8 hd8
  have hd3 := h.c7 hd7
  obtain ⟨xo, xc, e, o, q1, q2, q3, q4⟩ := h.s8 hd8
  obtain ⟨F1, F2, F3, F4⟩ := Fin.set xc hA h.tr o h.bel
  refine ⟨b, xo, xc, e9, q2 hd10, hA, fun _ => ⟨F4, F2, h.s0, fun _ b => no_tf hd3 b, h.s2, fun _ b => no_tf hd7 b, h.s4, h.s5, fun _ b => no_tf hd7 b, fun _ b => no_tf hd8 b, fun _ => ⟨xo, xc, e, F3, q1, q2, q3, fun _ => ⟨b, e9, F1⟩⟩, fun _ b => tf b, h.s14, h.c7, h.c8, h.c9, h.c10, h.c11, fun _ => hd10, fun _ => hd12⟩⟩
theorem Jb.fin (h : Jb w t ao ca ls bo cb MS d f W) (hd13 : d 13 = true) (hd14 : d 14 = true) : ∃ bu xo xc, f 9 = .pointer (some ⟨bu, 0, none⟩) ∧ f 10 = .int .i64 0 ∧ Fin w W bu t xo xc ao ca := by
  obtain ⟨xo, xc, e, o, q1, q2, q3, q4⟩ := h.s8 (h.c9 (h.c10 (h.c13 hd13)))
  obtain ⟨bu, e9, hb⟩ := q4 hd13
  exact ⟨bu, xo, xc, e9, h.s14 hd14, hb, h.tr, o, h.bel⟩
end
theorem run_none (w : World) : (Instr.buildSlice 22 0 #[]).run Tryz.prog w = .ok (.slice (some ⟨w.heap.size, 0, none⟩) 0 0) (w.alloc (.cells #[] 9)) := by go_simp
theorem run_onetext (w : World) (s : ByteArray) : (Instr.buildSlice 22 1 #[(0, .string s)]).run Tryz.prog w = .ok (.slice (some ⟨w.heap.size, 0, none⟩) 1 1) (w.alloc (.cells #[.string s] 9)) := by go_simp
theorem run_fieldc (w : World) (b : Nat) : (Instr.fieldAt 27 (.pointer (some ⟨b, 0, none⟩)) 0).run Tryz.prog w = .ok (.pointer (some ⟨b, 0, none⟩)) w := by go_simp
theorem run_loadc (w : World) (b : Nat) (s : ByteArray) (h : w.cell? ⟨b, 0, none⟩ = some (.string s)) : (Instr.loadAt 9 (.pointer (some ⟨b, 0, none⟩))).run Tryz.prog w = .ok (.string s) w := by go_simp
theorem run_allocT (w : World) : (Instr.alloc 27 true (.tuple #[])).run Tryz.prog w = .ok (.pointer (some ⟨w.heap.size, 0, none⟩)) (w.alloc (.cells #[.string { data := #[] }, .bool false, .int .i64 0, .int .i64 0, .string { data := #[] }, .slice none 0 0] 27)) := by go_simp
set_option maxHeartbeats 1000000 in
theorem run_storeT (W : World) (b : Nat) (t : Tr) (xo : Option Addr) (xc : Nat) (h : Tq W b not9 none 0) : (Instr.storeAt 27 (.pointer (some ⟨b, 0, none⟩)) (aggT t xo xc)).run Tryz.prog W = .ok () ((((((W.setCell ⟨b, 0, none⟩ (.string (bs t.c))).setCell ⟨b, 1, none⟩ (.bool t.f)).setCell ⟨b, 2, none⟩ (.int .i64 t.r)).setCell ⟨b, 3, none⟩ (.int .i64 t.n)).setCell ⟨b, 4, none⟩ (.string (bs t.o))).setCell ⟨b, 5, none⟩ (.slice xo t.l.length xc)) := by
  obtain ⟨c0, c1, c2, c3, c4, c5⟩ := h.cells
  have f0 := h.free 0
  have f1 := h.free 1
  have f2 := h.free 2
  have f3 := h.free 3
  have f4 := h.free 4
  have f5 := h.free 5
  unfold aggT
  go_simp
structure BackOps (ops : Array Oper) : Prop where
  size : ops.size = 15
  fw : fwd .any ops = true
  o0 : ∃ o, ops[0]? = some o ∧ o.op = .move (.tmp 7) ∧ o.guard = none ∧ o.dst = some 50
  o1 : ∃ o, ops[1]? = some o ∧ o.op = .buildSlice 22 0 #[] ∧ o.guard = none ∧ o.dst = some 51
  o2 : ∃ o, ops[2]? = some o ∧ o.op = .move (.tmp 1) ∧ o.guard = none ∧ o.dst = some 52
  o3 : ∃ o, ops[3]? = some o ∧ o.op = .call { callee := .builtin .append, args := #[.tmp 51, .tmp 52], argTypes := #[22, 22] } ∧ o.guard = none ∧ o.dst = some 53 ∧ o.after.any (fun e => Region.binds .any e && e.on == 1) = true ∧ o.after.any (fun e => Region.binds .any e && e.on == 2) = true
  o4 : ∃ o, ops[4]? = some o ∧ o.op = .fieldAddr 27 (.tmp 3) 0 ∧ o.guard = none ∧ o.dst = some 54
  o5 : ∃ o, ops[5]? = some o ∧ o.op = .load 9 (.tmp 54) ∧ o.guard = none ∧ o.dst = some 55 ∧ o.after.any (fun e => Region.binds .any e && e.on == 4) = true
  o6 : ∃ o, ops[6]? = some o ∧ o.op = .buildSlice 22 1 #[(0, .tmp 55)] ∧ o.guard = none ∧ o.dst = some 56 ∧ o.after.any (fun e => Region.binds .any e && e.on == 5) = true
  o7 : ∃ o, ops[7]? = some o ∧ o.op = .call { callee := .builtin .append, args := #[.tmp 53, .tmp 56], argTypes := #[22, 22] } ∧ o.guard = none ∧ o.dst = some 57 ∧ o.after.any (fun e => Region.binds .any e && e.on == 3) = true ∧ o.after.any (fun e => Region.binds .any e && e.on == 6) = true
  o8 : ∃ o, ops[8]? = some o ∧ o.op = .call { callee := .value (.func 10), args := #[.tmp 50, .tmp 57], argTypes := #[9, 22] } ∧ o.guard = none ∧ o.dst = some 58 ∧ o.after.any (fun e => Region.binds .any e && e.on == 0) = true ∧ o.after.any (fun e => Region.binds .any e && e.on == 7) = true
  o9 : ∃ o, ops[9]? = some o ∧ o.op = .move (.tmp 58) ∧ o.guard = none ∧ o.dst = some 49 ∧ o.after.any (fun e => Region.binds .any e && e.on == 8) = true
  o10 : ∃ o, ops[10]? = some o ∧ o.op = .extract (.tmp 49) 0 ∧ o.guard = none ∧ o.dst = some 59 ∧ o.after.any (fun e => Region.binds .any e && e.on == 9) = true
  o11 : ∃ o, ops[11]? = some o ∧ o.op = .extract (.tmp 49) 1 ∧ o.guard = none ∧ o.dst = some 60 ∧ o.after.any (fun e => Region.binds .any e && e.on == 9) = true
  o12 : ∃ o, ops[12]? = some o ∧ o.op = .alloc 27 ∧ o.guard = none ∧ o.dst = some 9
  o13 : ∃ o, ops[13]? = some o ∧ o.op = .store 27 (.tmp 9) (.tmp 59) ∧ o.guard = none ∧ o.dst = none ∧ o.after.any (fun e => Region.binds .any e && e.on == 12) = true ∧ o.after.any (fun e => Region.binds .any e && e.on == 10) = true
  o14 : ∃ o, ops[14]? = some o ∧ o.op = .assign (.tmp 60) ∧ o.guard = none ∧ o.dst = some 10 ∧ o.after.any (fun e => Region.binds .any e && e.on == 11) = true ∧ o.after.any (fun e => Region.binds .any e && e.on == 13) = true
def KS : List Nat := [9, 10, 49, 50, 51, 52, 53, 54, 55, 56, 57, 58, 59, 60]
def JI (w : World) (t : Tr) (ao : Option Addr) (ca : Nat) (ls : List (List UInt8)) (bo : Option Addr) (cb : Nat) (MS : List UInt8) (a0 : Act) (l : Array Bool) (a : Act) (W : World) : Prop :=
  l.size = 15 ∧ Frm a0 KS a ∧ Jb w t ao ca ls bo cb MS (up l) (slot a) W
theorem JI.put {w W W' : World} {t : Tr} {ao : Option Addr} {ca : Nat} {ls : List (List UInt8)} {bo : Option Addr} {cb : Nat} {MS : List UInt8} {a0 : Act} (hz : 61 ≤ a0.tmps.size) {l : Array Bool} {a : Act} (h : JI w t ao ca ls bo cb MS a0 l a W) {i r : Nat} {v : Value} (hi : i < 15) (hr : r ∈ KS) (hr61 : r < 61)
    (hJ : Jb w t ao ca ls bo cb MS (upd (up l) i true) (upd (slot a) r v) W') : JI w t ao ca ls bo cb MS a0 (l.setIfInBounds i true) (a.put (some r) v) W' := by
  obtain ⟨h1, h2, _⟩ := h
  refine ⟨by simp [h1], h2.put hr v, ?_⟩
  rw [up_set (by omega), slot_put (by rw [h2.size]; omega)]
  exact hJ
set_option maxHeartbeats 2000000 in
theorem back_region {ops : Array Oper} (hB : BackOps ops) {id : Nat} {Q : Exit → Act → World → Prop} {a0 : Act} {w w3 : World} {t : Tr} {ao : Option Addr} {ca : Nat} {ls : List (List UInt8)} {bo : Option Addr} {cb : Nat} {MS : List UInt8}
    (hD : ∀ ko kc w1, Below w.heap.size w w1 → RdS w1 ko (ls ++ [t.c]) → Calls Tryz.prog 10 #[.string (bs MS), .slice ko (ls.length + 1) kc] w1 fun e w' => ∃ xo xc, e = .returned (.tuple #[aggT t xo xc, .int .i64 0]) ∧ RdB w' xo t.l ∧ Below w1.heap.size w1 w')
    (hz : 61 ≤ a0.tmps.size) (h7 : slot a0 7 = .string (bs MS)) (h1 : slot a0 1 = .slice bo ls.length cb) (h3 : slot a0 3 = .pointer (some ⟨w.heap.size, 0, none⟩))
    (b3 : Below w.heap.size w w3) (t3 : Tq w3 w.heap.size t ao ca) (hrk : ∀ w1, Below w.heap.size w w1 → RdS w1 bo ls) (hsh : (bo = none ∧ ls.length = 0 ∧ cb = 0) ∨ ∃ a, bo = some a) (hn : ls.length ≤ 1000000)
    (hQ : ∀ f W bu xo xc, f 9 = .pointer (some ⟨bu, 0, none⟩) → f 10 = .int .i64 0 → Fin w W bu t xo xc ao ca → Q .normal (puts f KS a0) W) : (Code.region id ops true).wp Tryz.prog Q a0 w3 := by
  refine wp_region_inv (JI w t ao ca ls bo cb MS a0) (by kernel_rfl) ?_ ?_ ?_
  · refine ⟨by simp [hB.size], Frm.refl _ _, ?_⟩
    have hu : ∀ k, up (Array.replicate ops.size false) k = false := fun k => by
      unfold up
      by_cases h : k < ops.size <;> simp [h]
    exact ⟨below_drew2 b3, t3, fun a => no_tf a (hu _), fun a => no_tf a (hu _), fun a => no_tf a (hu _), fun a => no_tf a (hu _), fun a => no_tf a (hu _), fun a => no_tf a (hu _), fun a => no_tf a (hu _), fun a => no_tf a (hu _), fun a => no_tf a (hu _), fun a => no_tf a (hu _), fun a => no_tf a (hu _), fun a => no_tf a (hu _), fun a => no_tf a (hu _), fun a => no_tf a (hu _), fun a => no_tf a (hu _), fun a => no_tf a (hu _), fun a => no_tf a (hu _), fun a => no_tf a (hu _)⟩
  · intro i l a W hi hI
    have hno := ready_not hi
    have hI2 := hI
    obtain ⟨hs, hF, hJ⟩ := hI2
    have hi15 : i < 15 := by
      obtain ⟨_, o, ho, _⟩ := mem_ready.1 hi
      have := (Array.getElem?_eq_some_iff.1 ho).1
      rw [hB.size] at this; exact this
    have hnk : ∀ k, k ∉ KS → slot a k = slot a0 k := fun k hk => hF.slot hk
    obtain rfl | rfl | rfl | rfl | rfl | rfl | rfl | rfl | rfl | rfl | rfl | rfl | rfl | rfl | rfl : i = 0 ∨ i = 1 ∨ i = 2 ∨ i = 3 ∨ i = 4 ∨ i = 5 ∨ i = 6 ∨ i = 7 ∨ i = 8 ∨ i = 9 ∨ i = 10 ∨ i = 11 ∨ i = 12 ∨ i = 13 ∨ i = 14 := by omega
    · obtain ⟨o, e, k, g, r⟩ := hB.o0
      refine wpOp_plain e g (op_move (.inl k) ?_)
      rw [r, eval_slot, hnk 7 (by decide), h7]
      exact hI.put hz (by omega) (by decide) (by omega) hJ.t0
    · obtain ⟨o, e, k, g, r⟩ := hB.o1
      refine wpOp_plain e g (op_val (Instr.buildSlice 22 0 #[]) (by simp [execOp, k]) (run_none W) ?_)
      rw [r]
      exact hI.put hz (by omega) (by decide) (by omega) hJ.t1
    · obtain ⟨o, e, k, g, r⟩ := hB.o2
      refine wpOp_plain e g (op_move (.inl k) ?_)
      rw [r, eval_slot, hnk 1 (by decide), h1]
      exact hI.put hz (by omega) (by decide) (by omega) hJ.t2
    · obtain ⟨o, e, k, g, r, p1, p2⟩ := hB.o3
      have d1 := ready_pred hi e 1 p1
      have d2 := ready_pred hi e 2 p2
      obtain ⟨x, f51, ho⟩ := hJ.s1 d1 hno
      refine wpOp_plain e g (spreadS (xs := []) k (.slice (some ⟨x, 0, none⟩) 0 0) (by rw [eval_slot]; exact f51) ho hJ.bel.size (by rw [eval_slot]; exact hJ.s2 d2) (hrk W hJ.bel) hsh (by show 0 + ls.length ≤ _; omega) ?_)
      intro v' W' ho' hg
      rw [r]
      exact hI.put hz (by omega) (by decide) (by omega) (hJ.t3 hno d1 f51 ho hg ho')
    · obtain ⟨o, e, k, g, r⟩ := hB.o4
      refine wpOp_plain e g (op_val (Instr.fieldAt 27 (.pointer (some ⟨w.heap.size, 0, none⟩)) 0) (by simp only [execOp, k]; rw [eval_slot, hnk 3 (by decide), h3]) (run_fieldc W _) ?_)
      rw [r]
      exact hI.put hz (by omega) (by decide) (by omega) hJ.t4
    · obtain ⟨o, e, k, g, r, p4⟩ := hB.o5
      have d4 := ready_pred hi e 4 p4
      refine wpOp_plain e g (op_val (Instr.loadAt 9 (.pointer (some ⟨w.heap.size, 0, none⟩))) (by simp only [execOp, k]; rw [eval_slot, hJ.s4 d4]) (run_loadc W _ _ hJ.tr.cells.1) ?_)
      rw [r]
      exact hI.put hz (by omega) (by decide) (by omega) hJ.t5
    · obtain ⟨o, e, k, g, r, p5⟩ := hB.o6
      have d5 := ready_pred hi e 5 p5
      refine wpOp_plain e g (op_val (Instr.buildSlice 22 1 #[(0, .string (bs t.c))]) (by simp only [execOp, k]; simp [eval_slot, hJ.s5 d5]) (run_onetext W _) ?_)
      rw [r]
      exact hI.put hz (by omega) (by decide) (by omega) hJ.t6
    · obtain ⟨o, e, k, g, r, p3, p6⟩ := hB.o7
      have d3 := ready_pred hi e 3 p3
      have d6 := ready_pred hi e 6 p6
      have ho := hJ.s3 d3 hno
      obtain ⟨kc, f56, hm, _⟩ := hJ.s6 d6 hno
      have hr : RdS W (some ⟨kc, 0, none⟩) [t.c] := .inr ⟨kc, 0, rfl, lt_of_block hm, fun i hi => by
        obtain rfl : i = 0 := by simpa using hi
        rw [cellRow hm]; rfl⟩
      refine wpOp_plain e g (spreadS k (slot a 53) (eval_slot _ _) ho hJ.bel.size (ys := [t.c]) (by rw [eval_slot]; exact f56) hr (.inr ⟨_, rfl⟩) (by show ls.length + 1 ≤ _; omega) ?_)
      intro v' W' ho' hg
      rw [r]
      obtain ⟨g', cap, hv, -, -, hr2, -⟩ := OwnS.form ho'
      rw [List.length_append, List.length_singleton] at hv
      subst hv
      exact hI.put hz (by omega) (by decide) (by omega) (hJ.t7 hno d3 ho hg hr2)
    · obtain ⟨o, e, k, g, r, p0, p7⟩ := hB.o8
      have d0 := ready_pred hi e 0 p0
      have d7 := ready_pred hi e 7 p7
      obtain ⟨ko, kc, f57, hr⟩ := hJ.s7 d7 hno
      refine wpOp_plain e g (op_enter (f := 10) (args := #[.string (bs MS), .slice ko (ls.length + 1) kc]) ?_ (hD ko kc W hJ.bel hr) ?_)
      · have e50 : a.tmps[50]?.getD undef = .string (bs MS) := by have := hJ.s0 d0; simpa [slot] using this
        have e57 : a.tmps[57]?.getD undef = .slice ko (ls.length + 1) kc := by have := f57; simpa [slot] using this
        simp only [execOp, k]
        simp [resolve, invoke, Act.eval, e50, e57]
        go_simp
      · rintro e' W' ⟨xo, xc, rfl, hr', kb⟩
        refine ⟨_, rfl, ?_⟩
        rw [r]
        exact hI.put hz (by omega) (by decide) (by omega) (hJ.t8 hno d7 kb hr')
    · obtain ⟨o, e, k, g, r, p8⟩ := hB.o9
      have d8 := ready_pred hi e 8 p8
      refine wpOp_plain e g (op_move (.inl k) ?_)
      rw [r, eval_slot]
      exact hI.put hz (by omega) (by decide) (by omega) (hJ.t9 d8)
    · obtain ⟨o, e, k, g, r, p9⟩ := hB.o10
      have d9 := ready_pred hi e 9 p9
      obtain ⟨v, u, f49, hJ'⟩ := hJ.t10 d9
      refine wpOp_plain e g (op_val (Instr.extract (.tuple #[v, u]) 0) (by simp only [execOp, k]; rw [eval_slot, f49]) (by go_simp) ?_ (v := v) (w' := W))
      rw [r]
      exact hI.put hz (by omega) (by decide) (by omega) hJ'
    · obtain ⟨o, e, k, g, r, p9⟩ := hB.o11
      have d9 := ready_pred hi e 9 p9
      obtain ⟨v, u, f49, hJ'⟩ := hJ.t11 d9
      refine wpOp_plain e g (op_val (Instr.extract (.tuple #[u, v]) 1) (by simp only [execOp, k]; rw [eval_slot, f49]) (by go_simp) ?_ (v := v) (w' := W))
      rw [r]
      exact hI.put hz (by omega) (by decide) (by omega) hJ'
    · obtain ⟨o, e, k, g, r⟩ := hB.o12
      refine wpOp_plain e g (op_val (Instr.alloc 27 true (.tuple #[])) (by simp only [execOp, k]) (run_allocT W) ?_)
      rw [r]
      exact hI.put hz (by omega) (by decide) (by omega) (hJ.t12 hno)
    · obtain ⟨o, e, k, g, r, p12, p10⟩ := hB.o13
      have d12 := ready_pred hi e 12 p12
      have d10 := ready_pred hi e 10 p10
      obtain ⟨b, xo, xc, f9, f59, hA, hJ'⟩ := hJ.t13 hno d12 d10
      refine wpOp_plain e g (op_unit (Instr.storeAt 27 (.pointer (some ⟨b, 0, none⟩)) (aggT t xo xc)) (by simp only [execOp, k]; rw [eval_slot, eval_slot, f9, f59]) (run_storeT W b t xo xc hA.2) ?_)
      rw [r]
      refine ⟨by simp [hs], hF, ?_⟩
      rw [up_set (by omega)]
      exact hJ' ()
    · obtain ⟨o, e, k, g, r, p11, p13⟩ := hB.o14
      have d11 := ready_pred hi e 11 p11
      have d13 := ready_pred hi e 13 p13
      refine wpOp_plain e g (op_move (.inr k) ?_)
      have h60 : slot a 60 = .int .i64 0 := by
        obtain ⟨xo, xc, _, _, _, _, q3, _⟩ := hJ.s8 (hJ.c9 (hJ.c11 d11))
        exact q3 d11
      rw [r, eval_slot, h60]
      exact hI.put hz (by omega) (by decide) (by omega) hJ.t14
  · rintro l a W hr ⟨hs, hF, hJ⟩
    have hall := all_up hB.fw (by rw [hs, hB.size]) hr 15
    obtain ⟨bu, xo, xc, e9, e10, hfin⟩ := hJ.fin (hall 13 (by omega) (by rw [hB.size]; omega)) (hall 14 (by omega) (by rw [hB.size]; omega))
    rw [hF.eq]
    exact hQ _ W bu xo xc e9 e10 hfin
end Go.Proofs.YtmdibafofdghgaaGreatDoor
