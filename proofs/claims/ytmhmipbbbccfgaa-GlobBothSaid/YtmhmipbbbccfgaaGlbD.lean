/- The document's set: written by gen_globd.py. -/
import Derived.Test.YtmhmipbbbccfgaaGlbC
import Derived.Laws.CopyOwn
namespace Go.Proofs.Ytmhmipbbbccfgaa
open Go.ChangeShapes Go.WideShapes Go.ChangeAt Go.RowKit K G13
set_option linter.unusedVariables false
set_option linter.unusedSimpArgs false
theorem sz2 : (Try.prog.info? 55).map (·.size) = some 256 := by kernel_rfl
theorem gres_row3 {P : Program} {fn : Func} {p u v : Tmp} {ty : TypeId} (h : fn.results = #[.cell p ty, .tmp u, .tmp v]) (tmps : Array Value) (w : World) (g : Nat) (t : TypeId) (cs : Array Value) (fr : Nat × Nat) (d : TypeDesc)
    (hp : tmps.getD p undef = .pointer (some ⟨g, 0, none⟩)) (hg : w.heap[g]? = some (.cells cs t fr))
    (hu : P.underlying ty = some d) (hd : (match d with | .struct _ | .array _ _ => true | _ => false) = true) (hi : (P.info? ty).map (·.size) = some cs.size) :
    (results fn tmps).run P w = .ok (.tuple #[.agg cs, tmps.getD u undef, tmps.getD v undef]) w := by
  have hp' : tmps[p]?.getD undef = .pointer (some ⟨g, 0, none⟩) := by simpa using hp
  simp [results, h, hp', asAddr, run_loadVar_row w g t ty cs fr d hg hu hd hi]
/-- 256 truth values. -/
def tabB (g : Nat → Bool) : Array Value := Array.ofFn (n := 256) fun i => Value.bool (g i.val)
theorem tabB_size (g : Nat → Bool) : (tabB g).size = 256 := by simp [tabB]
theorem tabB_get (g : Nat → Bool) {i : Nat} (h : i < 256) : (tabB g)[i]? = some (.bool (g i)) := by
  rw [Array.getElem?_eq_getElem (by rw [tabB_size]; exact h)]
  simp [tabB]
theorem tabB_all (g : Nat → Bool) : (tabB g).all (·.oneCell') = true := by
  rw [Array.all_eq_true_iff_forall_mem]
  intro x hx
  unfold tabB at hx
  obtain ⟨i, rfl⟩ := Array.mem_ofFn.1 hx
  rfl
theorem tabB_congr {g h : Nat → Bool} (e : ∀ i, i < 256 → g i = h i) : tabB g = tabB h := by
  unfold tabB
  congr 1
  funext i
  rw [e i.val i.isLt]
theorem tabB_set (g : Nat → Bool) (c : Nat) (x : Bool) : (tabB g).setIfInBounds c (.bool x) = tabB fun i => if i = c then x else g i := by
  apply Array.ext
  · rw [Array.size_setIfInBounds, tabB_size, tabB_size]
  intro i h1 h2
  have h3 : i < (tabB g).size := by rw [tabB_size]; rw [tabB_size] at h2; exact h2
  rw [Array.getElem_setIfInBounds h3]
  simp only [tabB, Array.getElem_ofFn]
  by_cases h : c = i
  · subst h; simp
  · rw [if_neg h, if_neg (fun e => h e.symm)]
theorem tabB_zero : Array.replicate 256 (Value.bool false) = tabB fun _ => false := by
  apply Array.ext
  · rw [Array.size_replicate, tabB_size]
  intro i h1 h2
  simp [tabB]
/-- What a whole row's store is, out of its law. -/
theorem store_row (w : World) (g : Nat) (t : TypeId) (c c' : Array Value) (hg : w.heap[g]? = some (.cells c t (0, 0))) (hi : (Try.prog.info? t).map (·.size) = some c'.size) (ho : c.size = c'.size) (h1 : c'.all (·.oneCell') = true) :
    (storeCells ⟨g, 0, none⟩ c'.toList 0).run Try.prog w = .ok () (w.setRow g c') := by
  have := run_storeVar_row (P := Try.prog) _ _ t t c c' hg hi ho h1
  cases hq : Try.prog.info? t with
  | none => simp [hq] at hi
  | some i =>
    have hs : c'.size = i.size := by simp [hq] at hi; omega
    simpa [storeVar, sizeOf, typeInfo, hq, Value.cells, hs] using this
def RG (s : List UInt8) : Option (List (UInt8 × UInt8) × List UInt8) := rngs (s.length + 1) s
theorem RG_nil : RG [] = none := rfl
theorem RG_end (t : List UInt8) : RG (93 :: t) = some ([], t) := rfl
theorem RG_no {c : UInt8} {t : List UInt8} (h : c ≠ 93) (hr : rng (c :: t) = none) : RG (c :: t) = none := by
  simp only [RG, List.length_cons, rngs, if_neg h, hr]
theorem RG_yes {c : UInt8} {t : List UInt8} {x : UInt8 × UInt8} {r : List UInt8} (h : c ≠ 93) (hr : rng (c :: t) = some (x, r)) : RG (c :: t) = (RG r).map fun y => (x :: y.1, y.2) := by
  have hl := rng_len hr
  have e : RG (c :: t) = (rngs ((c :: t).length) r).map fun y => (x :: y.1, y.2) := by
    simp only [RG, List.length_cons, rngs, if_neg h, hr]
  rw [e]
  unfold RG
  rw [rngs_more _ (r.length + 1) r hl (by omega)]
def inN (xs : List (UInt8 × UInt8)) (i : Nat) : Bool := xs.any fun y => decide (y.1.toNat ≤ i) && decide (i ≤ y.2.toNat)
theorem inN_snoc (xs : List (UInt8 × UInt8)) (a b : UInt8) (i : Nat) : inN (xs ++ [(a, b)]) i = (inN xs i || (decide (a.toNat ≤ i) && decide (i ≤ b.toNat))) := by
  simp [inN, List.any_append]
theorem inN_inR (xs : List (UInt8 × UInt8)) {i : Nat} (h : i < 256) : inR xs (UInt8.ofNat i) = inN xs i := by
  unfold inR inN
  congr 1
  funext y
  have e : (UInt8.ofNat i).toNat = i := by rw [UInt8.toNat_ofNat']; omega
  simp only [UInt8.le_iff_toNat_le, e]
/-- A set, its ! seen. -/
def stF (nt : Bool) (u : List UInt8) : Option ((UInt8 → Bool) × List UInt8) :=
  match RG u with
  | none => none
  | some (x, r) => if x.isEmpty then none else some ((fun b => if nt then !inR x b else inR x b), r)
theorem st13_not (t : List UInt8) : st13 (33 :: t) = stF true t := rfl
theorem st13_is {c : UInt8} (h : c ≠ 33) (t : List UInt8) : st13 (c :: t) = stF false (c :: t) := by
  simp only [st13, if_neg h, stF, RG, Bool.false_eq_true, if_false]
  rfl
def SetPost (o : Option ((UInt8 → Bool) × List UInt8)) (w : World) (e : Ending) (w' : World) : Prop :=
  Below w.heap.size w w' ∧ match o with
    | none => ∃ A : Nat → Bool, e = .returned (.tuple #[.agg (tabB A), .string (bs []), .bool false])
    | some (f, r) => e = .returned (.tuple #[.agg (tabB fun i => f (UInt8.ofNat i)), .string (bs r), .bool true])
/-- The two blocks of a call of set. -/
def Rw (w : World) (b : Nat) (g : Nat → Bool) : Prop := w.heap[b]? = some (.cells (tabB g) 55 (0, 0))
theorem Rw.cell {w : World} {b : Nat} {g : Nat → Bool} (h : Rw w b g) {i : Nat} (hi : i < 256) : w.cell? ⟨b, i, none⟩ = some (.bool (g i)) := (cellRow h i).trans (tabB_get g hi)
theorem Rw.free {w : World} {b : Nat} {g : Nat → Bool} (h : Rw w b g) (i : Nat) : w.frozen? ⟨b, i, none⟩ = false := freeRow h i
theorem Rw.set {w : World} {b : Nat} {g : Nat → Bool} (h : Rw w b g) (c : Nat) (x : Bool) : Rw (w.setCell ⟨b, c, none⟩ (.bool x)) b fun i => if i = c then x else g i := by
  unfold Rw
  rw [← tabB_set]
  exact rowSet h c _
theorem Rw.else {w : World} {b d : Nat} {g : Nat → Bool} (h : Rw w b g) (hd : b ≠ d) (c : Nat) (v : Value) : Rw (w.setCell ⟨d, c, none⟩ v) b g := (Below.heap_setCell _ _ _ _ hd).trans h
theorem Rw.congr {w : World} {b : Nat} {g k : Nat → Bool} (h : Rw w b g) (e : ∀ i, i < 256 → g i = k i) : Rw w b k := by
  unfold Rw at h ⊢; rw [← tabB_congr e]; exact h
theorem Rw.drew {w : World} {b : Nat} {g : Nat → Bool} (h : Rw w b g) (n : Nat) : Rw (w.drewN n) b g := h
theorem Rw.store {w : World} {b : Nat} {g : Nat → Bool} (h : Rw w b g) (k : Nat → Bool) : (storeCells ⟨b, 0, none⟩ (tabB k).toList 0).run Try.prog w = .ok () (w.setRow b (tabB k)) :=
  store_row w b _ _ _ h (by rw [sz2, tabB_size]) (by rw [tabB_size, tabB_size]) (tabB_all k)
/-- What the rounds leave. -/
theorem Below_drewT3 {B : Nat} {a b : World} (h : Below B a b) (n : Nat) : Below B a (b.drewN n) := ⟨h.os, h.tape, h.output, h.size, h.block⟩
structure SeW (w wr : World) (g : Nat → Bool) : Prop where
  r0 : Rw wr w.heap.size fun _ => false
  r1 : Rw wr (w.heap.size + 1) g
  b : Below w.heap.size w wr
theorem SeW.drew {w wr : World} {g : Nat → Bool} (h : SeW w wr g) (n : Nat) : SeW w (wr.drewN n) g := ⟨h.r0.drew n, h.r1.drew n, Below_drewT3 h.b n⟩
theorem SeW.drew1 {w wr : World} {g : Nat → Bool} (h : SeW w wr g) : SeW w (World.drew wr) g := ⟨h.r0, h.r1, ⟨h.b.os, h.b.tape, h.b.output, h.b.size, h.b.block⟩⟩
theorem SeW.set {w wr : World} {g : Nat → Bool} (h : SeW w wr g) (c : Nat) (x : Bool) : SeW w (wr.setCell ⟨w.heap.size + 1, c, none⟩ (.bool x)) fun i => if i = c then x else g i :=
  ⟨h.r0.else (by omega) _ _, h.r1.set c x, h.b.setCell (p := ⟨w.heap.size + 1, c, none⟩) (Nat.le_succ _) _⟩
theorem SeW.congr {w wr : World} {g k : Nat → Bool} (h : SeW w wr g) (e : ∀ i, i < 256 → g i = k i) : SeW w wr k := ⟨h.r0, h.r1.congr e, h.b⟩
theorem SeW.new (w : World) : SeW w ((w.alloc (.cells (tabB fun _ => false) 55)).alloc (.cells (tabB fun _ => false) 55)) fun _ => false :=
  ⟨heap_alloc2_old w _ _, heap_alloc2_new w _ _, ((Below.refl _ _).alloc (Nat.le_refl _) _).alloc (by rw [size_alloc1]; omega) _⟩
def SeRel (u : List UInt8) (w : World) (g : Nat) (v0 v7 : Value) (wr : World) : Prop :=
  ∃ sr xs, sr.length ≤ g ∧ xs.length + sr.length ≤ u.length ∧ v0 = .string (bs sr) ∧ v7 = .int .i64 (xs.length : Nat) ∧ RG u = ((RG sr).map fun y => (xs ++ y.1, y.2)) ∧ SeW w wr (inN xs)
def SiRel (xs : List (UInt8 × UInt8)) (a b : Nat) (w : World) (g : Nat) (v12 : Value) (wr : World) : Prop :=
  ∃ c, c + g = b + 1 ∧ a ≤ c ∧ v12 = .int .i64 (c : Nat) ∧ SeW w wr fun i => inN xs i || (decide (a ≤ i) && decide (i < c))
def SnRel (xs : List (UInt8 × UInt8)) (w : World) (g : Nat) (v13 : Value) (wr : World) : Prop :=
  ∃ c, c + g = 256 ∧ v13 = .int .i64 (c : Nat) ∧ SeW w wr fun i => if i < c then !inN xs i else inN xs i
attribute [irreducible] tabB
end Go.Proofs.Ytmhmipbbbccfgaa
