/- Texts on the program and on the document, joined: PaqO, PaqA, Inv, PaqB. -/
import Derived.Test.YtaeglmgpoboihaaGreatDoorMa05
import Derived.Test.YtaeglmgpoboihaaGreatDoorMa06
import Derived.Test.YtaeglmgpoboihaaGreatDoorMa07
import Derived.Test.YtaeglmgpoboihaaGreatDoorShelf
import Derived.Test.YtaeglmgpoboihaaGreatDoorMa04
import Derived.Deep.RegionWith
import Derived.RegionTactic
import Derived.Test.YtaeglmgpoboihaaGreatDoorMa01
import Derived.OrdersHeld
/- What the program's parse leans on: tables and errors, below the reader's block. -/
namespace Go.Proofs.YtaeglmgpoboihaaGreatDoor
open Go.ChangeShapes Go.WideShapes Go.ChangeAt Go.RowKit K L15 S3
set_option linter.unusedVariables false
namespace PQ
def KC : Array Value := #[.string (bs (wKinds.getD 0 [])), .int .i64 1, .string (bs (wKinds.getD 1 [])), .int .i64 2, .string (bs (wKinds.getD 2 [])), .int .i64 3, .string (bs (wKinds.getD 3 [])), .int .i64 4]
def Kinds (w : World) : Prop := ∃ t fr, w.heap[1]? = some (.cells KC t fr)
theorem Kinds.below {w w' : World} (h : Kinds w) (k : Below w.heap.size w w') : Kinds w' := by
  obtain ⟨t, fr, h⟩ := h
  exact ⟨t, fr, (k.block _ (lt_of_block h)).trans h⟩
def Rng (w : World) : Prop := ∃ te pe, w.cell? ⟨6, 0, none⟩ = some (.iface te pe)
theorem Rng.below {w w' : World} (h : Rng w) (k : Below w.heap.size w w') : Rng w' := by
  obtain ⟨te, pe, h⟩ := h
  exact ⟨te, pe, (k.cell (p := ⟨6, 0, none⟩) (World.block_lt_of_cell? w _ h)).trans h⟩
def Pws (w : World) : Prop := Lib.TabIs Tryz.prog w "internal/strconv.uint64pow10" .u64 Lib.pow10Tab
/-- The tables and errors that the program's parse leans on. -/
def PaI (w : World) : Prop := LxI w ∧ Rng w ∧ Pws w ∧ Units w ∧ Kinds w
theorem PaI.below {w w' : World} (h : PaI w) (k : Below w.heap.size w w') : PaI w' := ⟨h.1.below k, h.2.1.below k, tab_below h.2.2.1 k, h.2.2.2.1.below k, h.2.2.2.2.below k⟩
/-- They lie below block b. -/
def PaB (b : Nat) (w : World) : Prop := ∃ w0, PaI w0 ∧ w0.heap.size ≤ b ∧ Below w0.heap.size w0 w
theorem PaB.pa {b : Nat} {w : World} (h : PaB b w) : PaI w := by
  obtain ⟨w0, h1, h2, h3⟩ := h
  exact h1.below h3
theorem PaB.kp {b : Nat} {w w' : World} (h : PaB b w) {S : List Nat} (k : Kp S w w') (hS : ∀ x ∈ S, b ≤ x) : PaB b w' := by
  obtain ⟨w0, h1, h2, h3⟩ := h
  exact ⟨w0, h1, h2, h3.trans (k.below h3.size (fun x hx => by have := hS x hx; omega))⟩
end PQ
end Go.Proofs.YtaeglmgpoboihaaGreatDoor
/- The program's reader of rules: how it lies, and whether a token comes. -/
namespace Go.Proofs.YtaeglmgpoboihaaGreatDoor
open Go.ChangeShapes Go.WideShapes Go.ChangeAt Go.RowKit K L15
open L14 (Tk)
set_option linter.unusedVariables false
namespace PQ
/-- What is left to read: nothing, once it was wrong. -/
def rest (T : List Tk) (s : Pi) : List Tk := if s.bad.isSome then [] else T.drop s.p
/-- The line of the last token that was taken, or the one where it is wrong. -/
def lnO (T : List Tk) (s : Pi) : Nat := match s.bad with | some l => l | none => if s.p = 0 then 0 else (T.getD (s.p - 1) noTk).l
def TOk (T : List Tk) : Prop := ∀ x ∈ T, L14.isT x.k x.t = true
/-- A reader in block b. -/
def JnR (w : World) (b : Nat) (T : List Tk) (ao : Option Addr) (cap last : Nat) (s : Pi) : Prop :=
  ∃ (v : Option Addr) (c : Nat), w.heap[b]? = some (.cells #[.slice v (rest T s).length c, .int .i64 (lnO T s : Nat), .bool s.bad.isSome] 58 (0, 0)) ∧ RdK w v (rest T s) ∧ (∀ a, v = some a → a.block < b) ∧ T.length ≤ 5000 ∧ s.p ≤ T.length ∧ TOk T ∧ last = lastL T ∧ (rest T s).length ≤ c ∧ ShortT T ∧ PaB b w
def JnP (w : World) (b : Nat) (T : List Tk) (ao : Option Addr) (cap last : Nat) (s' : Pi) (w' : World) : Prop := JnR w' b T ao cap last s' ∧ Kp [b] w w'
theorem rest_bad {T : List Tk} {s : Pi} {l : Nat} (h : s.bad = some l) : rest T s = [] := by unfold rest; rw [h]; rfl
theorem rest_ok {T : List Tk} {s : Pi} (h : s.bad = none) : rest T s = T.drop s.p := by unfold rest; rw [h]; rfl
theorem rest_end {T : List Tk} {s : Pi} (h : ¬ s.p < T.length) : rest T s = [] := by
  unfold rest
  split
  · rfl
  · exact List.drop_eq_nil_of_le (by omega)
theorem rest_no {T : List Tk} {s : Pi} (h : rest T s = []) : ∀ k t, at_ T s k t = false := by
  intro k t
  cases hb : s.bad with
  | some l => unfold at_; rw [cur_bad (by rw [hb]; rfl)]
  | none =>
    rw [rest_ok hb] at h
    have : ¬ s.p < T.length := by
      have := List.drop_eq_nil_iff.1 h
      omega
    unfold at_; rw [cur_end this]
theorem JnR.lt {w : World} {b : Nat} {T : List Tk} {ao : Option Addr} {cap last : Nat} {s : Pi} (h : JnR w b T ao cap last s) : b < w.heap.size := by
  obtain ⟨v, c, h1, -⟩ := h
  exact lt_of_block h1
theorem JnR.kp {w w' : World} {b : Nat} {T : List Tk} {ao : Option Addr} {cap last : Nat} {s : Pi} (h : JnR w b T ao cap last s) {S : List Nat} (k : Kp S w w') (hS : ∀ x ∈ S, b < x) : JnR w' b T ao cap last s := by
  obtain ⟨v, c, h1, h2, h3, h4, h5, h6, h7, h8, h9, h10⟩ := h
  refine ⟨v, c, k.heap h1 (fun hm => by have := hS b hm; omega), ?_, h3, h4, h5, h6, h7, h8, h9, h10.kp k (fun x hx => Nat.le_of_lt (hS x hx))⟩
  rcases h2 with h2 | ⟨g, o, ha, hg, hc⟩
  · exact .inl h2
  · have hgb := h3 _ ha
    exact .inr ⟨g, o, ha, Nat.lt_of_lt_of_le hg k.size, fun i hi j hj => by
      rw [← hc i hi j hj]
      exact World.cell?_of_block (a := ⟨g, o + i * 3 + j, none⟩) (k.block g hg (fun hm => by have := hS g hm; have : g < b := hgb; omega))⟩
theorem JnR.below {w w' : World} {b : Nat} {T : List Tk} {ao : Option Addr} {cap last : Nat} {s : Pi} (h : JnR w b T ao cap last s) (k : Below w.heap.size w w') : JnR w' b T ao cap last s :=
  h.kp (S := []) (Kp.ofBelow k []) (fun x hx => by simp at hx)
theorem JnR.drewN {w : World} {b : Nat} {T : List Tk} {ao : Option Addr} {cap last : Nat} {s : Pi} (h : JnR w b T ao cap last s) (n : Nat) : JnR (w.drewN n) b T ao cap last s := h.kp (S := []) ((Kp.refl [] w).drewN n) (fun x hx => by simp at hx)
/-- Tokens beside a block that was written. -/
theorem rdk_kp {w w' : World} {b : Nat} {v : Option Addr} {l : List Tk} (h : RdK w v l) (hv : ∀ a, v = some a → a.block < b) (k : Kp [b] w w') : RdK w' v l := by
  rcases h with h | ⟨g, o, ha, hg, hc⟩
  · exact .inl h
  · have hgb : g < b := hv _ ha
    exact .inr ⟨g, o, ha, Nat.lt_of_lt_of_le hg k.size, fun i hi j hj => by
      rw [← hc i hi j hj]
      exact World.cell?_of_block (a := ⟨g, o + i * 3 + j, none⟩) (k.block g hg (fun hm => by simp at hm; omega))⟩
theorem rdk_tail {w : World} {g o : Nat} {l : List Tk} (h : RdK w (some ⟨g, o, none⟩) l) : RdK w (some ⟨g, o + 3, none⟩) l.tail := by
  rcases h with h | ⟨g', o', ha, hg, hc⟩
  · exact .inl (by rw [List.length_tail]; omega)
  · injection ha with ha
    injection ha with e1 e2 _
    subst e1 e2
    refine .inr ⟨g, o + 3, rfl, hg, fun i hi j hj => ?_⟩
    rw [List.length_tail] at hi
    have := hc (i + 1) (by omega) j hj
    rw [show o + 3 + i * 3 + j = o + (i + 1) * 3 + j by omega, this]
    congr 2
    cases l with
    | nil => simp at hi
    | cons a r => simp [List.getD]
/-- Either nothing is left, or the next token lies there. -/
theorem JnR.view {w : World} {b : Nat} {T : List Tk} {ao : Option Addr} {cap last : Nat} {s : Pi} (h : JnR w b T ao cap last s) :
    (rest T s = [] ∧ (∀ k t, at_ T s k t = false) ∧ ∃ v c, w.heap[b]? = some (.cells #[.slice v 0 c, .int .i64 (lnO T s : Nat), .bool s.bad.isSome] 58 (0, 0))) ∨
    (s.bad = none ∧ s.p < T.length ∧ ∃ (g o c : Nat), w.heap[b]? = some (.cells #[.slice (some ⟨g, o, none⟩) (T.length - s.p) c, .int .i64 (lnO T s : Nat), .bool false] 58 (0, 0)) ∧ g < b ∧ T.length - s.p ≤ c ∧ RdK w (some ⟨g, o, none⟩) (T.drop s.p) ∧ (∀ k t, at_ T s k t = ((T.getD s.p noTk).k == k && (t.isEmpty || (T.getD s.p noTk).t == t))) ∧
      w.cell? ⟨g, o, none⟩ = some (.int .i64 ((T.getD s.p noTk).k : Nat)) ∧ w.cell? ⟨g, o + 1, none⟩ = some (.string (bs (T.getD s.p noTk).t)) ∧ w.cell? ⟨g, o + 2, none⟩ = some (.int .i64 ((T.getD s.p noTk).l : Nat))) := by
  obtain ⟨v, c, h1, h2, h3, h4, h5, h6, h7, h8, -⟩ := h
  by_cases he : rest T s = []
  · refine .inl ⟨he, rest_no he, v, c, ?_⟩
    rw [he] at h1
    exact h1
  · have hb : s.bad = none := by
      cases hb : s.bad with
      | none => rfl
      | some l => exact absurd (rest_bad hb) he
    have hp : s.p < T.length := by
      rcases Nat.lt_or_ge s.p T.length with hp | hp
      · exact hp
      · exact absurd (rest_end (by omega)) he
    rw [rest_ok hb] at h1 h2 h8
    have hlen : (T.drop s.p).length = T.length - s.p := List.length_drop
    obtain ⟨g, o, rfl, -, k0, k1, k2⟩ := h2.at (i := 0) (by omega)
    rw [hlen, hb] at h1
    rw [hlen] at h8
    have hx : (T.drop s.p).getD 0 noT = T.getD s.p noTk := by
      simp only [List.getD_eq_getElem?_getD, List.getElem?_drop, Nat.add_zero]; rfl
    rw [hx] at k0 k1 k2
    exact .inr ⟨hb, hp, g, o, c, h1, h3 _ rfl, h8, h2, fun k t => at_val hb hp k t, by simpa using k0, by simpa using k1, by simpa using k2⟩
theorem JnP.then {w w1 w' : World} {b : Nat} {T : List Tk} {ao : Option Addr} {cap last : Nat} {s : Pi} (k : Kp [b] w w1) (h : JnP w1 b T ao cap last s w') : JnP w b T ao cap last s w' := ⟨h.1, k.trans h.2⟩
theorem jnp_new {w w' : World} {b r : Nat} {T : List Tk} {ao : Option Addr} {cap last : Nat} {s : Pi} (h : JnP w b T ao cap last s w') (hr : w.heap.size ≤ r) (hb : b < r) (i : Nat) (u : Value) : JnP w b T ao cap last s (w'.setCell ⟨r, i, none⟩ u) :=
  ⟨h.1.kp ((Kp.refl [r] w').set ⟨r, i, none⟩ (by simp) u) (by intro x hx; simp at hx; omega), h.2.setNew ⟨r, i, none⟩ hr u⟩
theorem jnp_fail {w w' : World} {n b : Nat} {T : List Tk} {ao : Option Addr} {cap last : Nat} {s : Pi} (h : JnP (w.drewN n) b T ao cap last s w') : JnP w b T ao cap last s w' := ⟨h.1, Kp.ofDrewN h.2⟩
theorem jnp_below {w w1 w' : World} {b : Nat} {T : List Tk} {ao : Option Addr} {cap last : Nat} {s : Pi} (k : Below w.heap.size w w1) (h : JnP w1 b T ao cap last s w') : JnP w b T ao cap last s w' := ⟨h.1, (Kp.ofBelow k [b]).trans h.2⟩
theorem jotype {w : World} {b : Nat} {T : List Tk} {ao : Option Addr} {cap last : Nat} {s : Pi} (h : JnR w b T ao cap last s) {U : TypeId} (hU : U ≠ 58) : ∀ x ∈ [b], ∀ cs fr, w.heap[x]? ≠ some (.cells cs U fr) := by
  intro x hx cs fr e
  have := List.mem_singleton.1 hx
  subst this
  obtain ⟨v, c, h1, -⟩ := h
  rw [h1] at e
  injection e with e
  injection e with _ e
  exact hU e.symm
theorem jrd_b {w w' : World} {b : Nat} {T : List Tk} {ao bo : Option Addr} {cap last c : Nat} {s : Pi} {U : TypeId} {rows : List (List Value)} (h : RdRw w U c bo rows) (hi : JnR w b T ao cap last s) (hU : U ≠ 58) (k : Kp [b] w w') : RdRw w' U c bo rows := h.kp k (jotype hi hU)
theorem jown_b {w w' : World} {b : Nat} {T : List Tk} {ao : Option Addr} {cap last c B : Nat} {s : Pi} {U : TypeId} {v : Value} {rows : List (List Value)} (h : OwnR w B U c v rows) (hi : JnR w b T ao cap last s) (hU : U ≠ 58) (k : Kp [b] w w') : OwnR w' B U c v rows := h.kp k (jotype hi hU)
theorem JnP.alloc {w w1 : World} {b : Nat} {T : List Tk} {ao : Option Addr} {cap last : Nat} {s : Pi} (h : JnP w b T ao cap last s w1) (o : Obj) : JnP w b T ao cap last s (w1.alloc o) := ⟨h.1.below ((Below.refl _ _).alloc (Nat.le_refl _) _), h.2.alloc o⟩
theorem JnP.grown {w w1 w2 : World} {b : Nat} {T : List Tk} {ao : Option Addr} {cap last : Nat} {s : Pi} (h : JnP w b T ao cap last s w1) {U : TypeId} {c B m : Nat} {v : Value} {xs : List Value} (k : w1.grownBy w2 v.ownBlock) (ho : w1.ownsRow B U c v m xs) (hB : w.heap.size ≤ B) (hb : b < w.heap.size) : JnP w b T ao cap last s w2 := by
  have kk : Kp v.ownBlock.toList w1 w2 := ⟨k.os, k.tape, k.output, k.size, fun i hi hn => k.block i hi (fun e => hn (by rw [← e]; simp))⟩
  have hbl : ∀ x ∈ v.ownBlock.toList, B ≤ x := fun x hx => (World.ownsRow.lt ho x (Option.mem_toList.1 hx)).1
  exact ⟨h.1.kp kk (fun x hx => by have := hbl x hx; omega), ⟨k.os.trans h.2.os, k.tape.trans h.2.tape, k.output.trans h.2.output, Nat.le_trans h.2.size k.size, fun i hi hn => (k.block i (Nat.lt_of_lt_of_le hi h.2.size) (fun e => by have := hbl i (by rw [← e]; simp); omega)).trans (h.2.block i hi hn)⟩⟩
theorem JnP.drew {w w1 : World} {b : Nat} {T : List Tk} {ao : Option Addr} {cap last : Nat} {s : Pi} (h : JnP w b T ao cap last s w1) : JnP w b T ao cap last s w1.drew := ⟨h.1.kp (S := []) ((Kp.refl [] w1).drew) (fun x hx => by simp at hx), h.2.drew⟩
theorem JnR.short {w : World} {b : Nat} {T : List Tk} {ao : Option Addr} {cap last : Nat} {s : Pi} (h : JnR w b T ao cap last s) : ShortT T ∧ PaI w := by
  obtain ⟨v, c, h1, h2, h3, h4, h5, h6, h7, h8, h9, h10⟩ := h
  exact ⟨h9, h10.pa⟩
theorem kp_row16 {w w' : World} {b r : Nat} (k : Kp [b] w w') {o : Obj} (h : w.heap[r]? = some o) (hr : r ≠ b) : w'.heap[r]? = some o := k.heap h (by simp; exact hr)
/-! ### What stands at the front -/
theorem comes_walk (b : Nat) (T : List Tk) (ao : Option Addr) (cap last : Nat) (s : Pi) (k : Nat) (w : World) (h : JnR w b T ao cap last s) :
    Calls Tryz.prog 42 #[.pointer (some ⟨b, 0, none⟩), .int .i64 (k : Nat)] w fun e w' => e = .returned (.bool (at_ T s k [])) ∧ JnP w b T ao cap last s w' := by
  have HH := Lib.hid h
  rcases h.view with ⟨-, hno, v, c, hb⟩ | ⟨-, hp, g, o, c, hb, hgb, hc, -, hat, k0, k1, k2⟩
  · rw [hno]
    have c0 := cellRow hb 0
    simp at c0
    clear h hno hb
    go_enter Tryz.func42, Tryz.ntmps42
    go_wp2
    go_ret
    exact ⟨rfl, HH.out, Kp.refl _ _⟩
  · rw [hat]
    have c0 := cellRow hb 0
    simp at c0
    obtain ⟨n, hn⟩ : ∃ n, T.length - s.p = n + 1 := ⟨T.length - s.p - 1, by omega⟩
    rw [hn] at c0
    have hpi : (0 : Int) < ((n + 1 : Nat) : Int) := by omega
    clear h hb hgb hc hat k1 k2 hn hp
    generalize (T.getD s.p noTk).k = kk at *
    by_cases hk : kk = k
    · subst hk
      have e : (kk == kk && ([] : List UInt8).isEmpty || false) = true := by simp
      have e2 : (kk == kk && (([] : List UInt8).isEmpty || (T.getD s.p noTk).t == [])) = true := by simp
      rw [e2]
      have hki : (((kk : Nat) : Int) == ((kk : Nat) : Int)) = true := by simp
      clear e e2
      go_enter Tryz.func42, Tryz.ntmps42
      go_wp2
      go_ret
      exact ⟨rfl, HH.out, Kp.refl _ _⟩
    · have e2 : (kk == k && (([] : List UInt8).isEmpty || (T.getD s.p noTk).t == [])) = false := by simp [hk]
      rw [e2]
      have hki : (((kk : Nat) : Int) == ((k : Nat) : Int)) = false := by rw [beq_eq_false_iff_ne]; omega
      clear e2
      go_enter Tryz.func42, Tryz.ntmps42
      go_wp2
      go_ret
      exact ⟨rfl, HH.out, Kp.refl _ _⟩
end PQ
end Go.Proofs.YtaeglmgpoboihaaGreatDoor
/- A region that draws its order, by an invariant over what has come up so far. Of no program. -/
namespace Go.Proofs.YtaeglmgpoboihaaGreatDoor
open Go.RowKit
set_option linter.unusedVariables false
namespace K
section
variable {P : Program} {ops : Array Oper} {Q : Exit → Act → World → Prop} {md : Region.Mode}
/-- How many have not come up yet. -/
def still (ops : Array Oper) (listed : Array Bool) : Nat := (List.range ops.size).countP fun i => !listed.getD i true
theorem countP_lt {α : Type} {p q : α → Bool} {l : List α} (h : ∀ x ∈ l, p x = true → q x = true) {y : α} (hy : y ∈ l) (h1 : q y = true) (h2 : p y = false) : l.countP p < l.countP q := by
  obtain ⟨a, b, rfl⟩ := List.append_of_mem hy
  rw [List.countP_append, List.countP_append, List.countP_cons, List.countP_cons, h1, h2]
  have ha := List.countP_mono_left (p := p) (q := q) (l := a) (fun x hx hp => h x (by simp [hx]) hp)
  have hb := List.countP_mono_left (p := p) (q := q) (l := b) (fun x hx hp => h x (by simp [hx]) hp)
  simp; omega
theorem still_set {listed : Array Bool} {i : Nat} (h : i ∈ Region.ready md ops listed) : still ops (listed.setIfInBounds i true) < still ops listed := by
  obtain ⟨hu, o, ho, _⟩ := mem_ready.1 h
  have hlt : i < ops.size := (Array.getElem?_eq_some_iff.1 ho).1
  have hi : i < listed.size := by
    rcases Nat.lt_or_ge i listed.size with h | h
    · exact h
    · simp [Array.getElem?_eq_none h] at hu
  unfold still
  refine countP_lt (y := i) ?_ (List.mem_range.2 hlt) (by rw [hu]; rfl) (by simp [hi])
  intro x hx hp
  by_cases he : i = x
  · subst he; rw [hu]; rfl
  · simpa [Array.getElem?_setIfInBounds_ne he] using hp
theorem still_zero {listed : Array Bool} (h : still ops listed = 0) : Region.ready md ops listed = [] := by
  cases hr : Region.ready md ops listed with
  | nil => rfl
  | cons x xs =>
    have hx : x ∈ Region.ready md ops listed := by rw [hr]; simp
    have := still_set hx
    omega
theorem wpAny_inv {Inv : Array Bool → Act → World → Prop} (step : ∀ i listed a w, i ∈ Region.ready md ops listed → Inv listed a w → wpOp P ops Q i (fun a' w' => Inv (listed.setIfInBounds i true) a' w') a w)
    (fin : ∀ listed a w, Region.ready md ops listed = [] → Inv listed a w → Q .normal a w) : ∀ (fuel : Nat) (listed : Array Bool) (a : Act) (w : World), still ops listed ≤ fuel → Inv listed a w → wpAny P md ops Q fuel listed a w
  | 0, listed, a, w, hf, h => by
    have hz := still_zero (md := md) (show still ops listed = 0 by omega)
    exact ⟨hz, fin _ _ _ hz h⟩
  | fuel + 1, listed, a, w, hf, h => by
    refine ⟨fun hz => fin _ _ _ hz h, fun i hi => ?_⟩
    have hs := still_set hi
    exact wpOp_mono (fun a' w' h' => wpAny_inv step fin fuel _ a' w' (by omega) h') (step i listed a w hi h)
/-- The rule: what holds ahead of the region, is kept by whatever may come up, and gives the post when all has come up. -/
theorem wp_region_inv (Inv : Array Bool → Act → World → Prop) {id : Nat} {a : Act} {w : World} (hm : P.follows .mixedOrders = true) (h0 : Inv (Array.replicate ops.size false) a w.drew)
    (step : ∀ i listed a w, i ∈ Region.ready .any ops listed → Inv listed a w → wpOp P ops Q i (fun a' w' => Inv (listed.setIfInBounds i true) a' w') a w)
    (fin : ∀ listed a w, Region.ready .any ops listed = [] → Inv listed a w → Q .normal a w) : (Code.region id ops true).wp P Q a w :=
  wp_region_any hm (wpAny_inv step fin ops.size _ _ _ (by unfold still; have := List.countP_le_length (p := fun i => !(Array.replicate ops.size false).getD i true) (l := List.range ops.size); simpa using this) h0)
/-- One operation without a guard. -/
theorem wpOp_plain {i : Nat} {o : Oper} {K : Act → World → Prop} {a : Act} {w : World} (ho : ops[i]? = some o) (hg : o.guard = none) (h : o.wp P a w K Q) : wpOp P ops Q i K a w := by
  unfold wpOp
  simp only [ho]
  have : Region.wanted o (yielded ops a.tmps) = true := by unfold Region.wanted; rw [hg]
  rw [this]
  exact .inl h
/-! ### What has come up, what the temporaries hold -/
def up (l : Array Bool) (k : Nat) : Bool := l.getD k false
def slot (a : Act) (k : Nat) : Value := a.tmps.getD k undef
def upd {α : Type} (f : Nat → α) (i : Nat) (v : α) : Nat → α := fun k => if k = i then v else f k
theorem up_set {l : Array Bool} {i : Nat} (h : i < l.size) : up (l.setIfInBounds i true) = upd (up l) i true := by
  funext k
  unfold up upd
  by_cases hk : k = i
  · subst hk; simp [h]
  · simp [hk, Array.getElem?_setIfInBounds_ne (Ne.symm hk)]
theorem slot_put {a : Act} {r : Nat} {v : Value} (h : r < a.tmps.size) : slot (a.put (some r) v) = upd (slot a) r v := by
  funext k
  unfold slot upd Act.put
  by_cases hk : k = r
  · subst hk; simp [h]
  · simp [hk, Array.getElem?_setIfInBounds_ne (Ne.symm hk)]
theorem eval_slot (a : Act) (k : Nat) : a.eval (.tmp k) = slot a k := by
  unfold slot Act.eval
  simp
/-- But for these temporaries all is as it was. -/
structure Frm (a0 : Act) (ks : List Nat) (a : Act) : Prop where
  defs : a.defers = a0.defers
  size : a.tmps.size = a0.tmps.size
  out : ∀ k, k ∉ ks → a.tmps[k]? = a0.tmps[k]?
theorem Frm.refl (a : Act) (ks : List Nat) : Frm a ks a := ⟨rfl, rfl, fun _ _ => rfl⟩
theorem Frm.put {a0 a : Act} {ks : List Nat} (h : Frm a0 ks a) {r : Nat} (hr : r ∈ ks) (v : Value) : Frm a0 ks (a.put (some r) v) :=
  ⟨h.defs, by simp [Act.put, h.size], fun k hk => by
    have : r ≠ k := fun e => hk (e ▸ hr)
    simp [Act.put, Array.getElem?_setIfInBounds_ne this, h.out k hk]⟩
theorem Frm.none {a0 a : Act} {ks : List Nat} (h : Frm a0 ks a) (v : Value) : Frm a0 ks (a.put none v) := h
theorem Frm.slot {a0 a : Act} {ks : List Nat} (h : Frm a0 ks a) {k : Nat} (hk : k ∉ ks) : slot a k = slot a0 k := by
  unfold K.slot
  simp [h.out k hk]
def puts (f : Nat → Value) (ks : List Nat) (b : Act) : Act := ks.foldl (fun b k => b.put (some k) (f k)) b
theorem puts_spec (f : Nat → Value) : ∀ (ks : List Nat) (b : Act), (puts f ks b).defers = b.defers ∧ (puts f ks b).tmps.size = b.tmps.size ∧ ∀ j, j < b.tmps.size → (puts f ks b).tmps[j]? = if j ∈ ks then some (f j) else b.tmps[j]?
  | [], b => ⟨rfl, rfl, fun j _ => by simp [puts]⟩
  | k :: ks, b => by
    obtain ⟨h1, h2, h3⟩ := puts_spec f ks (b.put (some k) (f k))
    have hs : (b.put (some k) (f k)).tmps.size = b.tmps.size := by simp [Act.put]
    refine ⟨h1, h2.trans hs, fun j hj => ?_⟩
    have e : puts f (k :: ks) b = puts f ks (b.put (some k) (f k)) := rfl
    rw [e, h3 j (by rw [hs]; exact hj)]
    by_cases hm : j ∈ ks
    · simp [hm]
    · by_cases hk : j = k
      · subst hk; simp [hm, Act.put, hj]
      · simp [hm, hk, Act.put, Array.getElem?_setIfInBounds_ne (Ne.symm hk)]
theorem Frm.eq {a0 a : Act} {ks : List Nat} (h : Frm a0 ks a) : a = puts (K.slot a) ks a0 := by
  obtain ⟨h1, h2, h3⟩ := puts_spec (K.slot a) ks a0
  obtain ⟨ta, da⟩ := a
  generalize hp : puts (K.slot ⟨ta, da⟩) ks a0 = p at *
  obtain ⟨tp, dp⟩ := p
  have hd : da = dp := h.defs.trans h1.symm
  have ht : ta = tp := by
    apply Array.ext_getElem?
    intro j
    rcases Nat.lt_or_ge j a0.tmps.size with hj | hj
    · rw [h3 j hj]
      by_cases hm : j ∈ ks
      · have hj' : j < ta.size := by have := h.size; simp only at this; omega
        simp [hm, K.slot, hj']
      · rw [if_neg hm]; exact h.out j hm
    · have e1 : ta.size = a0.tmps.size := h.size
      have e2 : tp.size = a0.tmps.size := h2
      rw [Array.getElem?_eq_none (by omega), Array.getElem?_eq_none (by omega)]
  rw [hd, ht]
theorem ready_not {listed : Array Bool} {i : Nat} (h : i ∈ Region.ready md ops listed) : up listed i = false := by
  have := (mem_ready.1 h).1
  unfold up
  rcases Nat.lt_or_ge i listed.size with hi | hi
  · simpa [hi] using this
  · simp [Array.getElem?_eq_none hi] at this
theorem ready_pred {listed : Array Bool} {i : Nat} {o : Oper} (h : i ∈ Region.ready md ops listed) (ho : ops[i]? = some o) (k : Nat) (he : o.after.any (fun e => Region.binds md e && e.on == k) = true) : up listed k = true := by
  obtain ⟨_, o', ho', hall⟩ := mem_ready.1 h
  rw [ho] at ho'
  obtain rfl := Option.some.inj ho'
  rw [Array.any_eq_true'] at he
  obtain ⟨e, hm, hb⟩ := he
  simp only [Bool.and_eq_true, beq_iff_eq] at hb
  have := hall e hm hb.1
  rw [hb.2] at this
  exact this
/-- Each operation waits for earlier ones alone. -/
def fwd (md : Region.Mode) (ops : Array Oper) : Bool := (List.range ops.size).all fun i => ((ops[i]?).map fun o => o.after.all fun e => !Region.binds md e || decide (e.on < i)).getD true
theorem all_up {listed : Array Bool} (hf : fwd md ops = true) (hs : listed.size = ops.size) (hr : Region.ready md ops listed = []) : ∀ (n i : Nat), i < n → i < ops.size → up listed i = true
  | 0, i, h, _ => by omega
  | n + 1, i, h, hi => by
    cases hu : up listed i
    · exfalso
      have hm : i ∈ Region.ready md ops listed := by
        refine mem_ready.2 ⟨?_, ops[i], by simp [hi], fun e he hb => ?_⟩
        · unfold up at hu
          have : i < listed.size := by omega
          simpa [this] using hu
        · unfold fwd at hf
          have h1 := List.all_eq_true.1 hf i (List.mem_range.2 hi)
          simp only [Array.getElem?_eq_getElem hi, Option.map_some, Option.getD_some] at h1
          have h2 := Array.all_eq_true'.1 h1 e he
          simp only [hb, Bool.not_true, Bool.false_or, decide_eq_true_eq] at h2
          exact all_up hf hs hr n e.on (by omega) (by omega)
      rw [hr] at hm; cases hm
    · rfl
/-! ### Single operations -/
theorem op_run {o : Oper} {a : Act} {w w' : World} {K : Act → World → Prop} {v : Value} (hr : (execOp a.eval o).run P w = .ok (.value v) w') (h : K (a.put o.dst v) w') : o.wp P a w K Q := by
  unfold Oper.wp; rw [hr]; exact h
theorem op_skip {o : Oper} {a : Act} {w w' : World} {K : Act → World → Prop} (hr : (execOp a.eval o).run P w = .ok .skip w') (h : K (a.put o.dst undef) w') : o.wp P a w K Q := by
  unfold Oper.wp; rw [hr]; exact h
theorem op_move {o : Oper} {a : Act} {w : World} {K : Act → World → Prop} {x : Operand} (k : o.op = .move x ∨ o.op = .assign x) (h : K (a.put o.dst (a.eval x)) w) : o.wp P a w K Q := by
  refine op_run (v := a.eval x) (w' := w) ?_ h
  rcases k with k | k <;> simp [execOp, k]
theorem op_val {o : Oper} {a : Act} {w w' : World} {K : Act → World → Prop} {v : Value} (s : Sem Value) (k : execOp a.eval o = (do pure (.value (← s)))) (hr : s.run P w = .ok v w') (h : K (a.put o.dst v) w') : o.wp P a w K Q := by
  refine op_run (v := v) (w' := w') ?_ h
  rw [k]; simp [hr, Result.andThen]
theorem op_unit {o : Oper} {a : Act} {w w' : World} {K : Act → World → Prop} {u : Unit} (s : Sem Unit) (k : execOp a.eval o = (do s; pure .skip)) (hr : s.run P w = .ok u w') (h : K (a.put o.dst undef) w') : o.wp P a w K Q := by
  refine op_skip (w' := w') ?_ h
  rw [k]; simp [hr, Result.andThen]
theorem op_enter {o : Oper} {a : Act} {w : World} {K : Act → World → Prop} {f : FuncId} {args : Array Value} (k : (execOp a.eval o).run P w = .ok (.enter f args) w) {R : Ending → World → Prop} (hc : Calls P f args w R) (h : ∀ e w', R e w' → ∃ v, e = .returned v ∧ K (a.put o.dst v) w') : o.wp P a w K Q := by
  unfold Oper.wp
  rw [k, Oper.upon_enter]
  refine hc.mono fun e w' hr => ?_
  obtain ⟨v, rfl, hk⟩ := h e w' hr
  exact hk
end
end K
end Go.Proofs.YtaeglmgpoboihaaGreatDoor
/- The program's reader of rules: take. -/
namespace Go.Proofs.YtaeglmgpoboihaaGreatDoor
open Go.ChangeShapes Go.WideShapes Go.ChangeAt Go.RowKit K L15
open L14 (Tk)
set_option linter.unusedVariables false
namespace PQ
theorem lnO_nx {T : List Tk} {s : Pi} (h : s.bad = none) : lnO T (nx s) = (T.getD s.p noTk).l := by
  unfold lnO nx
  rw [h]
  simp
/-- The reader behind a token that was taken. -/
theorem jnr_nx {w w' : World} {b g o o2 c2 n : Nat} {T : List Tk} {ao : Option Addr} {cap last : Nat} {s : Pi} (hs : s.bad = none) (hp : s.p < T.length) (h4 : T.length ≤ 5000) (h6 : TOk T) (h7 : last = lastL T) (h9 : ShortT T) (h10 : PaB b w) (hgb : g < b) (hrd : RdK w (some ⟨g, o, none⟩) (T.drop s.p)) (hn : T.length - s.p = n + 1) (ho : n = 0 ∨ o2 = o + 3) (hc : n ≤ c2) (k : Kp [b] w w')
    (hb : w'.heap[b]? = some (.cells #[.slice (some ⟨g, o2, none⟩) n c2, .int .i64 ((T.getD s.p noTk).l : Nat), .bool false] 58 (0, 0))) : JnP w b T ao cap last (nx s) w' := by
  have hr : rest T (nx s) = (T.drop s.p).tail := by rw [rest_ok (show (nx s).bad = none from hs), List.tail_drop]; rfl
  have hl : (rest T (nx s)).length = n := by rw [hr, List.length_tail, List.length_drop]; omega
  refine ⟨⟨some ⟨g, o2, none⟩, c2, ?_, ?_, fun a e => by injection e with e; subst e; exact hgb, h4, show s.p + 1 ≤ T.length by omega, h6, h7, by omega, h9, h10.kp k (fun x hx => by simp at hx; omega)⟩, k⟩
  · rw [hl, lnO_nx hs, show (nx s).bad = s.bad from rfl, hs]
    exact hb
  · rw [hr]
    rcases ho with h0 | h0
    · exact .inl (by rw [← hr, hl]; exact h0)
    · rw [h0]
      exact rdk_tail (rdk_kp hrd (fun a e => by injection e with e; subst e; exact hgb) k)
set_option maxRecDepth 100000 in
set_option maxHeartbeats 1500000 in
theorem ptake_walk (b : Nat) (T : List Tk) (ao : Option Addr) (cap last : Nat) (s : Pi) (hs : s.bad = none) (hp : s.p < T.length) (w : World) (h : JnR w b T ao cap last s) :
    Calls Tryz.prog 43 #[.pointer (some ⟨b, 0, none⟩)] w fun e w' => e = .returned (.string (bs (txt T s))) ∧ JnP w b T ao cap last (nx s) w' := by
  have HH := Lib.hid h
  rcases h.view with ⟨hr, -⟩ | ⟨-, -, g, o, c, hb, hgb, hc, hrd, -, k0, k1, k2⟩
  · rw [rest_ok hs] at hr
    have := List.drop_eq_nil_iff.1 hr
    omega
  · have hlt := h.lt
    obtain ⟨-, -, -, -, -, h4, -, h6, h7, -, h9, h10⟩ := h
    obtain ⟨n, hn⟩ : ∃ n, T.length - s.p = n + 1 := ⟨T.length - s.p - 1, by omega⟩
    rw [hn] at hb hc
    have HN := Lib.hid (fun (o2 c2 : Nat) (w2 : World) (ho : n = 0 ∨ o2 = o + 3) (h5 : n ≤ c2) (k : Kp [b] w w2) (hb : w2.heap[b]? = _) => jnr_nx (ao := ao) (cap := cap) hs hp h4 h6 h7 h9 h10 hgb hrd hn ho h5 k hb)
    have ht : txt T s = (T.getD s.p noTk).t := rfl
    rw [ht]
    generalize (T.getD s.p noTk).t = x at *
    generalize (T.getD s.p noTk).k = kk at *
    generalize (T.getD s.p noTk).l = ll at *
    have c0 := cellRow hb 0
    have c1 := cellRow hb 1
    have f0 := freeRow hb 0
    have f1 := freeRow hb 1
    simp at c0 c1
    have hpi : (0 : Int) < ((n + 1 : Nat) : Int) := by omega
    have HR := Lib.hid (fun (V : Value) (C : Obj) => (((Below.refl w.heap.size ((w.setCell ⟨b, 0, none⟩ V).setCell ⟨b, 1, none⟩ (.int .i64 (ll : Nat)))).alloc (by simp) C).block b hlt).trans (row_to (rowSet (rowSet hb 0 V) 1 (.int .i64 (ll : Nat))) (show _ = #[V, .int .i64 (ll : Nat), .bool false] by simp)))
    have HK := Lib.hid (fun (V : Value) (C : Obj) => (((((Kp.refl [b] w).set ⟨b, 0, none⟩ (by simp) V).set ⟨b, 1, none⟩ (by simp) (.int .i64 (ll : Nat))).alloc C).drew))
    clear hb ht hrd h4 h6 h7 h9 h10 hgb hp hs HH hn
    by_cases hc1 : c = 1
    · subst hc1
      obtain rfl : n = 0 := by omega
      go_enter Tryz.func43, Tryz.ntmps43
      go_wp2_with fail
      go_region_with (fail)
      all_goals
        clear c0 c1 f0 f1
        go_wp2
        go_ret
        exact ⟨rfl, HN.out _ _ _ (by simp) (by simp) (HK.out _ _) (HR.out _ _)⟩
    · have hc2 : ¬ c - 1 = 0 := by omega
      go_enter Tryz.func43, Tryz.ntmps43
      go_wp2_with fail
      go_region_with (fail)
      all_goals
        clear c0 c1 f0 f1
        go_wp2
        go_ret
        exact ⟨rfl, HN.out _ _ _ (.inr rfl) (by omega) (HK.out _ _) (HR.out _ _)⟩
end PQ
end Go.Proofs.YtaeglmgpoboihaaGreatDoor
