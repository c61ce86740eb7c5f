/- A region that draws its order and whose operations each have one value, whatever the order: the rule. Of no program. -/
import Derived.Test.YtkobjbmjefkmgaaDoorInv
namespace Go.Proofs.YtkobjbmjefkmgaaDoor
open Go.RowKit
set_option linter.unusedVariables false
namespace K
section
variable {P : Program} {Q : Exit → Act → World → Prop}
/-- What a region's operation is: itself, its guard, where it puts what it yields, which ones it waits for. -/
structure Sp where
  op : Op
  guard : Option (Nat × Bool)
  dst : Nat
  deps : List Nat
def depB (o : Oper) (j : Nat) : Bool := o.after.any fun e => Region.binds .any e && e.on == j
/-- The region is made of just these. -/
def OpsF (ops : Array Oper) : Nat → List Sp → Prop
  | n, [] => ops.size = n
  | n, s :: l => (∃ o, ops[n]? = some o ∧ o.op = s.op ∧ o.guard = s.guard ∧ o.dst = some s.dst ∧ s.deps.all (depB o) = true) ∧ OpsF ops (n + 1) l
theorem OpsF.size {ops : Array Oper} : ∀ {l : List Sp} {n : Nat}, OpsF ops n l → ops.size = n + l.length
  | [], n, h => by simpa [OpsF] using h
  | s :: l, n, h => by rw [h.2.size]; simp; omega
theorem OpsF.at {ops : Array Oper} : ∀ {l : List Sp} {n : Nat}, OpsF ops n l → ∀ k s, l[k]? = some s → ∃ o, ops[n + k]? = some o ∧ o.op = s.op ∧ o.guard = s.guard ∧ o.dst = some s.dst ∧ s.deps.all (depB o) = true
  | [], n, _, k, s, hs => by simp at hs
  | x :: l, n, h, 0, s, hs => by simp at hs; subst hs; exact h.1
  | x :: l, n, h, k + 1, s, hs => by
    have := h.2.at k s (by simpa using hs)
    rw [show n + (k + 1) = n + 1 + k by omega]; exact this
def dstOf (L : List Sp) (j : Nat) : Nat := ((L[j]?).map (·.dst)).getD 0
/-- Each operation that is wanted yields its value. -/
def Obl (P : Program) (Q : Exit → Act → World → Prop) (J : World → Prop) (L : List Sp) (V : Nat → Value) (on : Nat → Bool) (old : Nat → Value) (ks : List Nat) : Nat → List Sp → Prop
  | _, [] => True
  | i, s :: rest => (on i = true → ∀ (o : Oper) a w, o.op = s.op → J w → (∀ k, k ∉ ks → slot a k = old k) → (∀ j, j ∈ s.deps → on j = true → slot a (dstOf L j) = V j) → o.wp P a w (fun a' w' => a' = a.put o.dst (V i) ∧ J w') Q) ∧ Obl P Q J L V on old ks (i + 1) rest
/-- Which operations are wanted. -/
def OnL (V : Nat → Value) (on : Nat → Bool) : Nat → List Sp → Prop
  | _, [] => True
  | i, s :: rest => (match s.guard with
    | none => on i = true
    | some (g, want) => (on g = true ∧ g ∈ s.deps ∧ ∃ b, V g = .bool b ∧ on i = (if want then b else !b)) ∨ (on g = false ∧ g ∈ s.deps ∧ on i = false)) ∧ OnL V on (i + 1) rest
def shapeB (L : List Sp) (ks : List Nat) : Bool := (L.all fun s => ks.contains s.dst) && decide ((L.map fun s => s.dst).Nodup) && ((List.range L.length).all fun i => ((L[i]?).map fun s => s.deps.all fun j => decide (j < i)).getD true)
theorem Obl.at {J : World → Prop} {L : List Sp} {V : Nat → Value} {on : Nat → Bool} {old : Nat → Value} {ks : List Nat} : ∀ (l : List Sp) (n k : Nat) (s : Sp), Obl P Q J L V on old ks n l → l[k]? = some s → (on (n + k) = true → ∀ (o : Oper) a w, o.op = s.op → J w → (∀ k, k ∉ ks → slot a k = old k) → (∀ j, j ∈ s.deps → on j = true → slot a (dstOf L j) = V j) → o.wp P a w (fun a' w' => a' = a.put o.dst (V (n + k)) ∧ J w') Q)
  | [], n, k, s, _, h => by simp at h
  | x :: l, n, 0, s, hO, h => by
    simp at h; subst h; exact hO.1
  | x :: l, n, k + 1, s, hO, h => by
    have := Obl.at l (n + 1) k s hO.2 (by simpa using h)
    rw [show n + (k + 1) = n + 1 + k by omega]; exact this
theorem OnL.at {V : Nat → Value} {on : Nat → Bool} : ∀ (l : List Sp) (n k : Nat) (s : Sp), OnL V on n l → l[k]? = some s → (match s.guard with
    | none => on (n + k) = true
    | some (g, want) => (on g = true ∧ g ∈ s.deps ∧ ∃ b, V g = .bool b ∧ on (n + k) = (if want then b else !b)) ∨ (on g = false ∧ g ∈ s.deps ∧ on (n + k) = false))
  | [], n, k, s, _, h => by simp at h
  | x :: l, n, 0, s, hO, h => by
    simp at h; subst h; exact hO.1
  | x :: l, n, k + 1, s, hO, h => by
    have := OnL.at l (n + 1) k s hO.2 (by simpa using h)
    rw [show n + (k + 1) = n + 1 + k by omega]; exact this
theorem slot_bool {a : Act} {r : Nat} {b : Bool} (h : slot a r = .bool b) : a.tmps[r]? = some (.bool b) := by
  unfold slot at h
  rw [Array.getD_eq_getD_getElem?] at h
  cases hx : a.tmps[r]? with
  | none => rw [hx] at h; simp [undef] at h
  | some v => rw [hx] at h; simp at h; rw [h]
theorem slot_undef {a : Act} {r : Nat} (h : slot a r = undef) : a.tmps[r]? = none ∨ a.tmps[r]? = some undef := by
  unfold slot at h
  rw [Array.getD_eq_getD_getElem?] at h
  cases hx : a.tmps[r]? with
  | none => exact .inl rfl
  | some v => rw [hx] at h; simp at h; exact .inr (by rw [h])
/-- The invariant. -/
def FInv (J : World → Prop) (L : List Sp) (V : Nat → Value) (on : Nat → Bool) (a0 : Act) (ks : List Nat) (l : Array Bool) (a : Act) (w : World) : Prop :=
  l.size = L.length ∧ Frm a0 ks a ∧ J w ∧ ∀ i, i < L.length → up l i = true → slot a (dstOf L i) = (if on i then V i else undef)
theorem wp_region_fun (J : World → Prop) (L : List Sp) (V : Nat → Value) (on : Nat → Bool) (ks : List Nat) {ops : Array Oper} {id : Nat} {a0 : Act} {w : World} (hm : P.follows .mixedOrders = true)
    (hF : OpsF ops 0 L) (hfw : fwd .any ops = true) (hshape : shapeB L ks = true) (hks : ∀ r ∈ ks, r < a0.tmps.size) (h0 : J w.drew) (hon : OnL V on 0 L) (hobl : Obl P Q J L V on (slot a0) ks 0 L)
    (fin : ∀ a w', J w' → Frm a0 ks a → (∀ i, i < L.length → on i = true → slot a (dstOf L i) = V i) → Q .normal a w') : (Code.region id ops true).wp P Q a0 w := by
  unfold shapeB at hshape
  simp only [Bool.and_eq_true, decide_eq_true_eq, List.all_eq_true] at hshape
  obtain ⟨⟨hdst, hnd⟩, hdl⟩ := hshape
  have hsz : ops.size = L.length := by rw [hF.size]; omega
  have hd : ∀ i s, L[i]? = some s → s.dst ∈ ks ∧ dstOf L i = s.dst := fun i s hs => ⟨by simpa using hdst s (List.mem_of_getElem? hs), by simp [dstOf, hs]⟩
  have hne : ∀ i j, i < L.length → j < L.length → i ≠ j → dstOf L i ≠ dstOf L j := by
    intro i j hi hj hij he
    have ei : (L.map fun s => s.dst)[i]? = some (dstOf L i) := by simp [dstOf, hi]
    have ej : (L.map fun s => s.dst)[j]? = some (dstOf L j) := by simp [dstOf, hj]
    have hlt : i < (L.map fun s => s.dst).length := by simpa using hi
    exact hij ((List.getElem?_inj hlt hnd).1 (by rw [ei, ej, he]))
  have put : ∀ l a w w' i (o : Oper) s, L[i]? = some s → o.dst = some s.dst → up l i = false → FInv J L V on a0 ks l a w → J w' → ∀ v, v = (if on i then V i else undef) → FInv J L V on a0 ks (l.setIfInBounds i true) (a.put o.dst v) w' := by
    intro l a w w' i o s hs hr hui hI hJ v hv
    obtain ⟨h1, h2, _, h4⟩ := hI
    obtain ⟨hrk, hrd⟩ := hd i s hs
    have hlt : i < L.length := (List.getElem?_eq_some_iff.1 hs).1
    rw [hr]
    refine ⟨by simp [h1], h2.put hrk v, hJ, fun j hj hu => ?_⟩
    rw [slot_put (by rw [h2.size]; exact hks _ hrk)]
    by_cases hji : j = i
    · subst hji; rw [hrd, hv]; simp [upd]
    · have hdj := hne j i hj hlt hji
      rw [hrd] at hdj
      unfold upd
      rw [if_neg hdj]
      refine h4 j hj ?_
      rw [up_set (by omega)] at hu
      simpa [upd, hji] using hu
  refine wp_region_inv (FInv J L V on a0 ks) hm ⟨by simp [hsz], Frm.refl _ _, h0, fun i hi hu => ?_⟩ ?_ ?_
  · unfold up at hu
    simp [hsz, hi] at hu
  · intro i l a w1 hi hI
    have hno := ready_not hi
    obtain ⟨_, o, ho, _⟩ := mem_ready.1 hi
    have hlt : i < L.length := by rw [← hsz]; exact (Array.getElem?_eq_some_iff.1 ho).1
    obtain ⟨s, hs⟩ : ∃ s, L[i]? = some s := ⟨L[i], by simp [hlt]⟩
    obtain ⟨o', ho', q1, q2, q3, q4⟩ := hF.at i s hs
    rw [Nat.zero_add, ho] at ho'
    obtain rfl := Option.some.inj ho'
    have hG := OnL.at L 0 i s hon hs
    have hO := Obl.at L 0 i s hobl hs
    rw [Nat.zero_add] at hG hO
    have hlow : ∀ j, j ∈ s.deps → j < i := by
      intro j hj
      have h1 := hdl i (List.mem_range.2 hlt)
      rw [hs] at h1
      simp only [Option.map_some, Option.getD_some, List.all_eq_true, decide_eq_true_eq] at h1
      exact h1 j hj
    have hdep : ∀ j, j ∈ s.deps → on j = true → slot a (dstOf L j) = V j := by
      intro j hj hoj
      have hup := ready_pred hi ho j (List.all_eq_true.1 q4 j hj)
      have := hlow j hj
      have := hI.2.2.2 j (by omega) hup
      rw [hoj] at this
      simpa using this
    have hw : Region.wanted o (yielded ops a.tmps) = on i := by
      unfold Region.wanted
      rw [q2]
      cases hg : s.guard with
      | none => rw [hg] at hG; exact hG.symm
      | some p =>
        obtain ⟨g, want⟩ := p
        rw [hg] at hG
        have hgd : g ∈ s.deps := by rcases hG with h | h; exact h.2.1; exact h.2.1
        have hgl := hlow g hgd
        obtain ⟨sg, hsg⟩ : ∃ sg, L[g]? = some sg := ⟨L[g], by simp [show g < L.length by omega]⟩
        obtain ⟨og, hog, _, _, r3, _⟩ := hF.at g sg hsg
        rw [Nat.zero_add] at hog
        rcases hG with ⟨g1, g2, b, g3, g4⟩ | ⟨g1, g2, g4⟩
        · have hsl := hdep g g2 g1
          rw [g3] at hsl
          have hbt := slot_bool hsl
          rw [(hd g sg hsg).2] at hbt
          have hy : yielded ops a.tmps g = some b := by
            unfold yielded
            simp [hog, r3, hbt]
          show (yielded ops a.tmps g == some want) = on i
          rw [hy, g4]
          cases b <;> cases want <;> rfl
        · have hup := ready_pred hi ho g (List.all_eq_true.1 q4 g g2)
          have hsl := hI.2.2.2 g (by omega) hup
          rw [g1] at hsl
          have hbt := slot_undef (by simpa using hsl)
          rw [(hd g sg hsg).2] at hbt
          have hy : yielded ops a.tmps g = none := by
            unfold yielded
            simp [hog, r3]
            rcases hbt with hbt | hbt
            · simp [hbt]
            · simp [hbt, undef]
          show (yielded ops a.tmps g == some want) = on i
          rw [hy, g4]
          rfl
    unfold wpOp
    simp only [ho, hw]
    cases hoi : on i
    · exact put l a w1 w1 i o s hs q3 hno hI hI.2.2.1 undef (by rw [hoi]; rfl)
    · refine .inl (Oper.wp_mono ?_ (hO hoi o a w1 q1 hI.2.2.1 (fun k hk => hI.2.1.slot hk) hdep))
      rintro a' w' ⟨rfl, hJ⟩
      exact put l a w1 w' i o s hs q3 hno hI hJ (V i) (by rw [hoi]; rfl)
  · intro l a w1 hz hI
    obtain ⟨h1, h2, h3, h4⟩ := hI
    refine fin a w1 h3 h2 fun i hi hoi => ?_
    have := h4 i hi (all_up hfw (by omega) hz (i + 1) i (by omega) (by omega))
    rw [hoi] at this
    simpa using this
/-! ### Single operations -/
variable {J : World → Prop}
theorem fun_move {o : Oper} {a : Act} {w : World} {x : Operand} {v : Value} (k : o.op = .move x ∨ o.op = .assign x) (hx : a.eval x = v) (hJ : J w) : o.wp P a w (fun a' w' => a' = a.put o.dst v ∧ J w') Q :=
  op_move k ⟨by rw [hx], hJ⟩
theorem fun_pick {o : Oper} {a : Act} {w : World} {c x : Nat} {b y : Bool} (k : o.op = .pick (.tmp c) (.tmp x) (.const (.bool false))) (hc : slot a c = .bool b) (hx : b = true → slot a x = .bool y) (hJ : J w) : o.wp P a w (fun a' w' => a' = a.put o.dst (.bool (b && y)) ∧ J w') Q := by
  refine op_run (v := .bool (b && y)) (w' := w) ?_ ⟨rfl, hJ⟩
  simp only [execOp, k, eval_slot, hc]
  cases b
  · simp [asBool, Act.eval]
  · simp [asBool, hx rfl]
theorem fun_pickO {o : Oper} {a : Act} {w : World} {c x : Nat} {b y : Bool} (k : o.op = .pick (.tmp c) (.const (.bool true)) (.tmp x)) (hc : slot a c = .bool b) (hx : b = false → slot a x = .bool y) (hJ : J w) : o.wp P a w (fun a' w' => a' = a.put o.dst (.bool (b || y)) ∧ J w') Q := by
  refine op_run (v := .bool (b || y)) (w' := w) ?_ ⟨rfl, hJ⟩
  simp only [execOp, k, eval_slot, hc]
  cases b
  · simp [asBool, hx rfl]
  · simp [asBool, Act.eval]
theorem fun_field {o : Oper} {a : Act} {w : World} {T x f : Nat} {p v : Value} (k : o.op = .fieldAddr T (.tmp x) f) (hx : slot a x = p) (hr : (Instr.fieldAt T p f).run P w = .ok v w) (hJ : J w) : o.wp P a w (fun a' w' => a' = a.put o.dst v ∧ J w') Q :=
  op_val (Instr.fieldAt T p f) (by simp only [execOp, k]; rw [eval_slot, hx]) hr ⟨rfl, hJ⟩
theorem fun_load {o : Oper} {a : Act} {w : World} {T x : Nat} {p v : Value} (k : o.op = .load T (.tmp x)) (hx : slot a x = p) (hr : (Instr.loadAt T p).run P w = .ok v w) (hJ : J w) : o.wp P a w (fun a' w' => a' = a.put o.dst v ∧ J w') Q :=
  op_val (Instr.loadAt T p) (by simp only [execOp, k]; rw [eval_slot, hx]) hr ⟨rfl, hJ⟩
end
end K
end Go.Proofs.YtkobjbmjefkmgaaDoor
