/- A region that draws its order, by an invariant over what has come up so far. Of no program. -/
import Derived.Test.YtkobjbmjefkmgaaDoorLib
import Derived.OrdersHeld
namespace Go.Proofs.YtkobjbmjefkmgaaDoor
open Go.RowKit
set_option linter.unusedVariables false
namespace K
section
variable {P : Program} {ops : Array Oper} {Q : Exit → Act → World → Prop} {md : Region.Mode}
/-- How many have not come up yet. -/
def still (ops : Array Oper) (listed : Array Bool) : Nat := (List.range ops.size).countP fun i => !listed.getD i true
theorem countP_lt {α : Type} {p q : α → Bool} {l : List α} (h : ∀ x ∈ l, p x = true → q x = true) {y : α} (hy : y ∈ l) (h1 : q y = true) (h2 : p y = false) : l.countP p < l.countP q := by
  obtain ⟨a, b, rfl⟩ := List.append_of_mem hy
  rw [List.countP_append, List.countP_append, List.countP_cons, List.countP_cons, h1, h2]
  have ha := List.countP_mono_left (p := p) (q := q) (l := a) (fun x hx hp => h x (by simp [hx]) hp)
  have hb := List.countP_mono_left (p := p) (q := q) (l := b) (fun x hx hp => h x (by simp [hx]) hp)
  simp; omega
theorem still_set {listed : Array Bool} {i : Nat} (h : i ∈ Region.ready md ops listed) : still ops (listed.setIfInBounds i true) < still ops listed := by
  obtain ⟨hu, o, ho, _⟩ := mem_ready.1 h
  have hlt : i < ops.size := (Array.getElem?_eq_some_iff.1 ho).1
  have hi : i < listed.size := by
    rcases Nat.lt_or_ge i listed.size with h | h
    · exact h
    · simp [Array.getElem?_eq_none h] at hu
  unfold still
  refine countP_lt (y := i) ?_ (List.mem_range.2 hlt) (by rw [hu]; rfl) (by simp [hi])
  intro x hx hp
  by_cases he : i = x
  · subst he; rw [hu]; rfl
  · simpa [Array.getElem?_setIfInBounds_ne he] using hp
theorem still_zero {listed : Array Bool} (h : still ops listed = 0) : Region.ready md ops listed = [] := by
  cases hr : Region.ready md ops listed with
  | nil => rfl
  | cons x xs =>
    have hx : x ∈ Region.ready md ops listed := by rw [hr]; simp
    have := still_set hx
    omega
theorem wpAny_inv {Inv : Array Bool → Act → World → Prop} (step : ∀ i listed a w, i ∈ Region.ready md ops listed → Inv listed a w → wpOp P ops Q i (fun a' w' => Inv (listed.setIfInBounds i true) a' w') a w)
    (fin : ∀ listed a w, Region.ready md ops listed = [] → Inv listed a w → Q .normal a w) : ∀ (fuel : Nat) (listed : Array Bool) (a : Act) (w : World), still ops listed ≤ fuel → Inv listed a w → wpAny P md ops Q fuel listed a w
  | 0, listed, a, w, hf, h => by
    have hz := still_zero (md := md) (show still ops listed = 0 by omega)
    exact ⟨hz, fin _ _ _ hz h⟩
  | fuel + 1, listed, a, w, hf, h => by
    refine ⟨fun hz => fin _ _ _ hz h, fun i hi => ?_⟩
    have hs := still_set hi
    exact wpOp_mono (fun a' w' h' => wpAny_inv step fin fuel _ a' w' (by omega) h') (step i listed a w hi h)
/-- The rule: what holds ahead of the region, is kept by whatever may come up, and gives the post when all has come up. -/
theorem wp_region_inv (Inv : Array Bool → Act → World → Prop) {id : Nat} {a : Act} {w : World} (hm : P.follows .mixedOrders = true) (h0 : Inv (Array.replicate ops.size false) a w.drew)
    (step : ∀ i listed a w, i ∈ Region.ready .any ops listed → Inv listed a w → wpOp P ops Q i (fun a' w' => Inv (listed.setIfInBounds i true) a' w') a w)
    (fin : ∀ listed a w, Region.ready .any ops listed = [] → Inv listed a w → Q .normal a w) : (Code.region id ops true).wp P Q a w :=
  wp_region_any hm (wpAny_inv step fin ops.size _ _ _ (by unfold still; have := List.countP_le_length (p := fun i => !(Array.replicate ops.size false).getD i true) (l := List.range ops.size); simpa using this) h0)
/-- One operation without a guard. -/
theorem wpOp_plain {i : Nat} {o : Oper} {K : Act → World → Prop} {a : Act} {w : World} (ho : ops[i]? = some o) (hg : o.guard = none) (h : o.wp P a w K Q) : wpOp P ops Q i K a w := by
  unfold wpOp
  simp only [ho]
  have : Region.wanted o (yielded ops a.tmps) = true := by unfold Region.wanted; rw [hg]
  rw [this]
  exact .inl h
/-! ### What has come up, what the temporaries hold -/
def up (l : Array Bool) (k : Nat) : Bool := l.getD k false
def slot (a : Act) (k : Nat) : Value := a.tmps.getD k undef
def upd {α : Type} (f : Nat → α) (i : Nat) (v : α) : Nat → α := fun k => if k = i then v else f k
theorem up_set {l : Array Bool} {i : Nat} (h : i < l.size) : up (l.setIfInBounds i true) = upd (up l) i true := by
  funext k
  unfold up upd
  by_cases hk : k = i
  · subst hk; simp [h]
  · simp [hk, Array.getElem?_setIfInBounds_ne (Ne.symm hk)]
theorem slot_put {a : Act} {r : Nat} {v : Value} (h : r < a.tmps.size) : slot (a.put (some r) v) = upd (slot a) r v := by
  funext k
  unfold slot upd Act.put
  by_cases hk : k = r
  · subst hk; simp [h]
  · simp [hk, Array.getElem?_setIfInBounds_ne (Ne.symm hk)]
theorem eval_slot (a : Act) (k : Nat) : a.eval (.tmp k) = slot a k := by
  unfold slot Act.eval
  simp
/-- But for these temporaries all is as it was. -/
structure Frm (a0 : Act) (ks : List Nat) (a : Act) : Prop where
  defs : a.defers = a0.defers
  size : a.tmps.size = a0.tmps.size
  out : ∀ k, k ∉ ks → a.tmps[k]? = a0.tmps[k]?
theorem Frm.refl (a : Act) (ks : List Nat) : Frm a ks a := ⟨rfl, rfl, fun _ _ => rfl⟩
theorem Frm.put {a0 a : Act} {ks : List Nat} (h : Frm a0 ks a) {r : Nat} (hr : r ∈ ks) (v : Value) : Frm a0 ks (a.put (some r) v) :=
  ⟨h.defs, by simp [Act.put, h.size], fun k hk => by
    have : r ≠ k := fun e => hk (e ▸ hr)
    simp [Act.put, Array.getElem?_setIfInBounds_ne this, h.out k hk]⟩
theorem Frm.none {a0 a : Act} {ks : List Nat} (h : Frm a0 ks a) (v : Value) : Frm a0 ks (a.put none v) := h
theorem Frm.slot {a0 a : Act} {ks : List Nat} (h : Frm a0 ks a) {k : Nat} (hk : k ∉ ks) : slot a k = slot a0 k := by
  unfold K.slot
  simp [h.out k hk]
def puts (f : Nat → Value) (ks : List Nat) (b : Act) : Act := ks.foldl (fun b k => b.put (some k) (f k)) b
theorem puts_spec (f : Nat → Value) : ∀ (ks : List Nat) (b : Act), (puts f ks b).defers = b.defers ∧ (puts f ks b).tmps.size = b.tmps.size ∧ ∀ j, j < b.tmps.size → (puts f ks b).tmps[j]? = if j ∈ ks then some (f j) else b.tmps[j]?
  | [], b => ⟨rfl, rfl, fun j _ => by simp [puts]⟩
  | k :: ks, b => by
    obtain ⟨h1, h2, h3⟩ := puts_spec f ks (b.put (some k) (f k))
    have hs : (b.put (some k) (f k)).tmps.size = b.tmps.size := by simp [Act.put]
    refine ⟨h1, h2.trans hs, fun j hj => ?_⟩
    have e : puts f (k :: ks) b = puts f ks (b.put (some k) (f k)) := rfl
    rw [e, h3 j (by rw [hs]; exact hj)]
    by_cases hm : j ∈ ks
    · simp [hm]
    · by_cases hk : j = k
      · subst hk; simp [hm, Act.put, hj]
      · simp [hm, hk, Act.put, Array.getElem?_setIfInBounds_ne (Ne.symm hk)]
theorem Frm.eq {a0 a : Act} {ks : List Nat} (h : Frm a0 ks a) : a = puts (K.slot a) ks a0 := by
  obtain ⟨h1, h2, h3⟩ := puts_spec (K.slot a) ks a0
  obtain ⟨ta, da⟩ := a
  generalize hp : puts (K.slot ⟨ta, da⟩) ks a0 = p at *
  obtain ⟨tp, dp⟩ := p
  have hd : da = dp := h.defs.trans h1.symm
  have ht : ta = tp := by
    apply Array.ext_getElem?
    intro j
    rcases Nat.lt_or_ge j a0.tmps.size with hj | hj
    · rw [h3 j hj]
      by_cases hm : j ∈ ks
      · have hj' : j < ta.size := by have := h.size; simp only at this; omega
        simp [hm, K.slot, hj']
      · rw [if_neg hm]; exact h.out j hm
    · have e1 : ta.size = a0.tmps.size := h.size
      have e2 : tp.size = a0.tmps.size := h2
      rw [Array.getElem?_eq_none (by omega), Array.getElem?_eq_none (by omega)]
  rw [hd, ht]
theorem ready_not {listed : Array Bool} {i : Nat} (h : i ∈ Region.ready md ops listed) : up listed i = false := by
  have := (mem_ready.1 h).1
  unfold up
  rcases Nat.lt_or_ge i listed.size with hi | hi
  · simpa [hi] using this
  · simp [Array.getElem?_eq_none hi] at this
theorem ready_pred {listed : Array Bool} {i : Nat} {o : Oper} (h : i ∈ Region.ready md ops listed) (ho : ops[i]? = some o) (k : Nat) (he : o.after.any (fun e => Region.binds md e && e.on == k) = true) : up listed k = true := by
  obtain ⟨_, o', ho', hall⟩ := mem_ready.1 h
  rw [ho] at ho'
  obtain rfl := Option.some.inj ho'
  rw [Array.any_eq_true'] at he
  obtain ⟨e, hm, hb⟩ := he
  simp only [Bool.and_eq_true, beq_iff_eq] at hb
  have := hall e hm hb.1
  rw [hb.2] at this
  exact this
/-- Each operation waits for earlier ones alone. -/
def fwd (md : Region.Mode) (ops : Array Oper) : Bool := (List.range ops.size).all fun i => ((ops[i]?).map fun o => o.after.all fun e => !Region.binds md e || decide (e.on < i)).getD true
theorem all_up {listed : Array Bool} (hf : fwd md ops = true) (hs : listed.size = ops.size) (hr : Region.ready md ops listed = []) : ∀ (n i : Nat), i < n → i < ops.size → up listed i = true
  | 0, i, h, _ => by omega
  | n + 1, i, h, hi => by
    cases hu : up listed i
    · exfalso
      have hm : i ∈ Region.ready md ops listed := by
        refine mem_ready.2 ⟨?_, ops[i], by simp [hi], fun e he hb => ?_⟩
        · unfold up at hu
          have : i < listed.size := by omega
          simpa [this] using hu
        · unfold fwd at hf
          have h1 := List.all_eq_true.1 hf i (List.mem_range.2 hi)
          simp only [Array.getElem?_eq_getElem hi, Option.map_some, Option.getD_some] at h1
          have h2 := Array.all_eq_true'.1 h1 e he
          simp only [hb, Bool.not_true, Bool.false_or, decide_eq_true_eq] at h2
          exact all_up hf hs hr n e.on (by omega) (by omega)
      rw [hr] at hm; cases hm
    · rfl
/-! ### Single operations -/
theorem op_run {o : Oper} {a : Act} {w w' : World} {K : Act → World → Prop} {v : Value} (hr : (execOp a.eval o).run P w = .ok (.value v) w') (h : K (a.put o.dst v) w') : o.wp P a w K Q := by
  unfold Oper.wp; rw [hr]; exact h
theorem op_skip {o : Oper} {a : Act} {w w' : World} {K : Act → World → Prop} (hr : (execOp a.eval o).run P w = .ok .skip w') (h : K (a.put o.dst undef) w') : o.wp P a w K Q := by
  unfold Oper.wp; rw [hr]; exact h
theorem op_move {o : Oper} {a : Act} {w : World} {K : Act → World → Prop} {x : Operand} (k : o.op = .move x ∨ o.op = .assign x) (h : K (a.put o.dst (a.eval x)) w) : o.wp P a w K Q := by
  refine op_run (v := a.eval x) (w' := w) ?_ h
  rcases k with k | k <;> simp [execOp, k]
theorem op_val {o : Oper} {a : Act} {w w' : World} {K : Act → World → Prop} {v : Value} (s : Sem Value) (k : execOp a.eval o = (do pure (.value (← s)))) (hr : s.run P w = .ok v w') (h : K (a.put o.dst v) w') : o.wp P a w K Q := by
  refine op_run (v := v) (w' := w') ?_ h
  rw [k]; simp [hr, Result.andThen]
theorem op_unit {o : Oper} {a : Act} {w w' : World} {K : Act → World → Prop} {u : Unit} (s : Sem Unit) (k : execOp a.eval o = (do s; pure .skip)) (hr : s.run P w = .ok u w') (h : K (a.put o.dst undef) w') : o.wp P a w K Q := by
  refine op_skip (w' := w') ?_ h
  rw [k]; simp [hr, Result.andThen]
theorem op_enter {o : Oper} {a : Act} {w : World} {K : Act → World → Prop} {f : FuncId} {args : Array Value} (k : (execOp a.eval o).run P w = .ok (.enter f args) w) {R : Ending → World → Prop} (hc : Calls P f args w R) (h : ∀ e w', R e w' → ∃ v, e = .returned v ∧ K (a.put o.dst v) w') : o.wp P a w K Q := by
  unfold Oper.wp
  rw [k, Oper.upon_enter]
  refine hc.mono fun e w' hr => ?_
  obtain ⟨v, rfl, hk⟩ := h e w' hr
  exact hk
end
end K
end Go.Proofs.YtkobjbmjefkmgaaDoor
