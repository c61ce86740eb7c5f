/- Texts on the program and on the document, joined: Elm. -/
import Derived.Test.YtonippapkmmkeaaDoorMa09
import Derived.Test.YtonippapkmmkeaaDoorMa12
import Derived.Laws.OwnMore
import Derived.Laws.AppendOwn
import Derived.Below
import Derived.Deep.AppendLies
import Derived.Deep.Onto
/- Structured data, lists within lists: as they come in, as a call makes them, what keeps them. Of no program. -/
namespace Go.Proofs.YtonippapkmmkeaaDoor
open Go.RowKit K
set_option linter.unusedVariables false
open Q10 (Pm El)

def cellsP (x : Pm) : List Value := [.string (bs x.n), .string (bs x.v)]
def prms (xs : List Pm) : List Value := xs.flatMap cellsP
theorem prms_app (a b : List Pm) : prms (a ++ b) = prms a ++ prms b := by simp [prms]
theorem prms_len : ∀ xs : List Pm, (prms xs).length = xs.length * 2
  | [] => rfl
  | x :: xs => by
    show (cellsP x ++ prms xs).length = _
    rw [List.length_append, prms_len xs, List.length_cons]; simp [cellsP]; omega
def nop : Pm := ⟨[], []⟩
theorem prms_get : ∀ (xs : List Pm) (i j : Nat), i < xs.length → j < 2 → (prms xs)[i * 2 + j]? = (cellsP (xs.getD i nop))[j]?
  | [], i, j, h, _ => by simp at h
  | x :: xs, 0, j, _, hj => by
    show (cellsP x ++ prms xs)[0 * 2 + j]? = _
    rw [Nat.zero_mul, Nat.zero_add, List.getElem?_append_left (by simpa [cellsP] using hj)]; rfl
  | x :: xs, i + 1, j, h, hj => by
    have ih := prms_get xs i j (by simpa using h) hj
    show (cellsP x ++ prms xs)[(i + 1) * 2 + j]? = _
    rw [List.getElem?_append_right (by simp [cellsP]; omega), show (i + 1) * 2 + j - (cellsP x).length = i * 2 + j by simp [cellsP]; omega, ih]
    simp [List.getD]
theorem prms_one : ∀ (xs : List Pm), ∀ u ∈ prms xs, u.oneCell' = true
  | [], u, hu => by simp [prms] at hu
  | x :: xs, u, hu => by
    have hu' : u ∈ cellsP x ++ prms xs := hu
    rcases List.mem_append.1 hu' with h | h
    · simp [cellsP] at h; rcases h with rfl | rfl <;> rfl
    · exact prms_one xs u h
/-- A slice that reads as these params. -/
def RdP (w : World) (ao : Option Addr) (xs : List Pm) : Prop :=
  xs.length = 0 ∨ ∃ b off, ao = some ⟨b, off, none⟩ ∧ b < w.heap.size ∧ ∀ i, i < xs.length → w.cell? ⟨b, off + i * 2, none⟩ = some (.string (bs (xs.getD i nop).n)) ∧ w.cell? ⟨b, off + i * 2 + 1, none⟩ = some (.string (bs (xs.getD i nop).v))
theorem RdP.kept {w w' : World} {ao : Option Addr} {xs : List Pm} (h : RdP w ao xs) (hs : w.heap.size ≤ w'.heap.size) (k : ∀ a, ao = some a → a.block < w.heap.size → w'.heap[a.block]? = w.heap[a.block]?) : RdP w' ao xs := by
  rcases h with h0 | ⟨b, off, ha, hb, hc⟩
  · exact .inl h0
  · have hk := k _ ha hb
    refine .inr ⟨b, off, ha, Nat.lt_of_lt_of_le hb hs, fun i hi => ?_⟩
    obtain ⟨c0, c1⟩ := hc i hi
    exact ⟨(World.cell?_of_block (a := ⟨b, off + i * 2, none⟩) hk).trans c0, (World.cell?_of_block (a := ⟨b, off + i * 2 + 1, none⟩) hk).trans c1⟩
theorem RdP.below {w w' : World} {ao : Option Addr} {xs : List Pm} (h : RdP w ao xs) (k : Below w.heap.size w w') : RdP w' ao xs := h.kept k.size (fun a _ hb => k.block a.block hb)
theorem RdP.at {w : World} {ao : Option Addr} {xs : List Pm} (h : RdP w ao xs) (h0 : 0 < xs.length) : ∃ b off, ao = some ⟨b, off, none⟩ ∧ b < w.heap.size ∧ ∀ i, i < xs.length → w.cell? ⟨b, off + i * 2, none⟩ = some (.string (bs (xs.getD i nop).n)) ∧ w.cell? ⟨b, off + i * 2 + 1, none⟩ = some (.string (bs (xs.getD i nop).v)) := by
  rcases h with h | h
  · omega
  · exact h
/-- The cells that a list has, one by one. -/
theorem RdP.each {w : World} {a : Addr} {xs : List Pm} (h : RdP w (some a) xs) : ∀ j u, (prms xs)[j]? = some u → w.cell? (a.add j) = some u := by
  intro j u hj
  have hlt : j < (prms xs).length := by
    rcases Nat.lt_or_ge j (prms xs).length with h | h
    · exact h
    · rw [List.getElem?_eq_none h] at hj; cases hj
  rw [prms_len] at hlt
  rcases h with h | ⟨b, off, ha, hb, hc⟩
  · omega
  · injection ha with ha
    subst ha
    have hi : j / 2 < xs.length := by omega
    have hg := prms_get xs (j / 2) (j % 2) hi (by omega)
    rw [show j / 2 * 2 + j % 2 = j by omega] at hg
    rw [hg] at hj
    obtain ⟨c0, c1⟩ := hc (j / 2) hi
    have hadd : (⟨b, off, none⟩ : Addr).add j = ⟨b, off + j, none⟩ := by simp [Addr.add]
    rw [hadd]
    have hm : j % 2 = 0 ∨ j % 2 = 1 := by omega
    rcases hm with hm | hm
    · rw [hm] at hj
      simp [cellsP] at hj
      rw [← hj, show off + j = off + j / 2 * 2 by omega]; exact c0
    · rw [hm] at hj
      simp [cellsP] at hj
      rw [← hj, show off + j = off + j / 2 * 2 + 1 by omega]; exact c1
/-- Params that the call made itself, behind block B; T is the type of a param. -/
def OwnM (w : World) (B : Nat) (T : TypeId) (v : Value) (xs : List Pm) : Prop := w.ownsRow B T 2 v xs.length (prms xs)
theorem OwnM.nil (w : World) (B : Nat) (T : TypeId) : OwnM w B T (.slice none 0 0) [] := World.ownsRow_nil w B T 2
theorem OwnM.empty (w : World) (B : Nat) (T : TypeId) (hb : B ≤ w.heap.size) : OwnM (w.alloc (.cells #[] T)) B T (.slice (some ⟨w.heap.size, 0, none⟩) 0 0) [] :=
  ⟨by simp [prms], .inr ⟨w.heap.size, 0, #[], rfl, hb, rowNew w _, Nat.le_refl _, by unfold maxLen; omega, by simp, by simp [prms]⟩⟩
theorem owns_below {w w' : World} {B : Nat} {T : TypeId} {n : Nat} {v : Value} {m : Nat} {xs : List Value} (h : w.ownsRow B T n v m xs) (k : Below w.heap.size w w') : w'.ownsRow B T n v m xs := by
  refine ⟨h.1, ?_⟩
  rcases h.2 with hn | ⟨g, cap, cur, h1, h2, h3, h4⟩
  · exact .inl hn
  · exact .inr ⟨g, cap, cur, h1, h2, (k.block g (lt_of_block h3)).trans h3, h4⟩
theorem owns_ne {w : World} {B : Nat} {T : TypeId} {n : Nat} {v : Value} {m : Nat} {xs : List Value} (hown : w.ownsRow B T n v m xs) {k : Nat} (hk : k < B ∨ ∃ cs T' fr, w.heap[k]? = some (.cells cs T' fr) ∧ T' ≠ T) : some k ≠ v.ownBlock := by
  intro e
  rcases hown.2 with ⟨rfl, _⟩ | ⟨g, cap, cur, rfl, hB, hg, _⟩
  · simp [Value.ownBlock] at e
  · simp [Value.ownBlock] at e
    subst e
    rcases hk with hk | ⟨cs, T', fr, hk, hT⟩
    · omega
    · rw [hk] at hg
      injection hg with hg
      injection hg with _ hg
      exact hT hg
theorem owns_keep {w w' : World} {B : Nat} {T : TypeId} {n : Nat} {v : Value} {m : Nat} {xs : List Value} (hown : w.ownsRow B T n v m xs) (hg : w.grownBy w' v.ownBlock) {k : Nat} {cs : Array Value} {T' : TypeId} {fr : Nat × Nat} (hk : w.heap[k]? = some (.cells cs T' fr)) (hT : T' ≠ T) : w'.heap[k]? = some (.cells cs T' fr) :=
  (hg.block k (lt_of_block hk) (owns_ne hown (.inr ⟨cs, T', fr, hk, hT⟩))).trans hk
theorem owns_set {w : World} {B : Nat} {e : TypeId} {n : Nat} {v : Value} {m : Nat} {xs : List Value} (h : w.ownsRow B e n v m xs) {k : Nat} {cs : Array Value} {T : TypeId} {fr : Nat × Nat} (hk : w.heap[k]? = some (.cells cs T fr)) (hT : T ≠ e) (i : Nat) (u : Value) : (w.setCell ⟨k, i, none⟩ u).ownsRow B e n v m xs := by
  refine ⟨h.1, ?_⟩
  rcases h.2 with hn | ⟨g, cap, cur, h1, h2, h3, h4⟩
  · exact .inl hn
  · refine .inr ⟨g, cap, cur, h1, h2, (Below.heap_setCell _ _ _ _ ?_).trans h3, h4⟩
    intro hgk
    have hgk' : g = k := hgk
    rw [hgk', hk] at h3
    injection h3 with h3
    injection h3 with _ h3
    exact hT h3
theorem OwnM.below {w w' : World} {B : Nat} {T : TypeId} {v : Value} {xs : List Pm} (h : OwnM w B T v xs) (k : Below w.heap.size w w') : OwnM w' B T v xs := owns_below h k
theorem OwnM.mono {w : World} {B B' : Nat} {T : TypeId} {v : Value} {xs : List Pm} (h : OwnM w B T v xs) (hb : B' ≤ B) : OwnM w B' T v xs := World.ownsRow.mono h hb
theorem OwnM.put {w : World} {B : Nat} {T : TypeId} {v : Value} {a b : List Pm} (h : w.ownsRow B T 2 v (a.length + b.length) (prms a ++ prms b)) : OwnM w B T v (a ++ b) := by
  unfold OwnM
  rw [List.length_append, prms_app]
  exact h
/-- Where params lie: below B, or in a block of their type. -/
def Prv (w : World) (B : Nat) (T : TypeId) (ao : Option Addr) : Prop := ∀ a, ao = some a → a.block < B ∨ ∃ cs fr, w.heap[a.block]? = some (.cells cs T fr)
theorem Prv.none (w : World) (B : Nat) (T : TypeId) : Prv w B T none := fun a h => by cases h
theorem Prv.kept {w w' : World} {B : Nat} {T : TypeId} {ao : Option Addr} (h : Prv w B T ao) (k : ∀ (b : Nat) cs fr, w.heap[b]? = some (.cells cs T fr) → ∃ cs' fr', w'.heap[b]? = some (.cells cs' T fr')) : Prv w' B T ao := by
  intro a ha
  rcases h a ha with h | ⟨cs, fr, h⟩
  · exact .inl h
  · exact .inr (k _ _ _ h)
theorem Prv.below {w w' : World} {B : Nat} {T : TypeId} {ao : Option Addr} (h : Prv w B T ao) (k : Below w.heap.size w w') : Prv w' B T ao :=
  h.kept fun b cs fr hb => ⟨cs, fr, (k.block b (lt_of_block hb)).trans hb⟩
theorem OwnM.form {w : World} {B : Nat} {T : TypeId} {v : Value} {xs : List Pm} (h : OwnM w B T v xs) : ∃ ao cap, v = .slice ao xs.length cap ∧ RdP w ao xs ∧ xs.length ≤ cap ∧ cap ≤ maxLen ∧ (∀ B', Prv w B' T ao) ∧ ((ao = none ∧ xs.length = 0 ∧ cap = 0) ∨ ∃ g, ao = some ⟨g, 0, none⟩ ∧ B ≤ g) := by
  rcases h.2 with ⟨hv, h0⟩ | ⟨g, cap, cur, hv, hB, hh, hle, hm, hs, ht⟩
  · exact ⟨none, 0, by rw [hv, h0], .inl h0, by omega, by unfold maxLen; omega, fun B' => Prv.none w B' T, .inl ⟨rfl, h0, rfl⟩⟩
  · refine ⟨some ⟨g, 0, none⟩, cap, hv, .inr ⟨g, 0, rfl, lt_of_block hh, fun i hi => ?_⟩, hle, hm, fun B' a ha => ?_, .inr ⟨g, rfl, hB⟩⟩
    · have hcell : ∀ j, j < 2 → w.cell? ⟨g, i * 2 + j, none⟩ = (cellsP (xs.getD i nop))[j]? := by
        intro j hj
        rw [cellRow hh, ← Array.getElem?_toList, ← prms_get xs i j hi hj, ← ht, List.getElem?_take_of_lt (by omega)]
      refine ⟨?_, ?_⟩
      · have := hcell 0 (by omega); rw [Nat.add_zero] at this; rw [Nat.zero_add]; exact this
      · rw [Nat.zero_add]; exact hcell 1 (by omega)
    · injection ha with ha
      subst ha
      exact .inr ⟨_, _, hh⟩
theorem OwnM.reads {w : World} {B : Nat} {T : TypeId} {ao : Option Addr} {n cap : Nat} {xs : List Pm} (h : OwnM w B T (.slice ao n cap) xs) : RdP w ao xs ∧ ∀ B', Prv w B' T ao := by
  obtain ⟨ao', cap', e, h1, _, _, h2, _⟩ := h.form
  injection e with e _ _
  subst e
  exact ⟨h1, h2⟩
/-- A slice's place and capacity. -/
structure Pl where
  o : Option Addr
  c : Nat
def noq : Pl := ⟨none, 0⟩
def noe : El := ⟨[], []⟩
def cellsE (x : El × Pl) : List Value := [.string (bs x.1.id), .slice x.2.o x.1.ps.length x.2.c]
def elms (zs : List (El × Pl)) : List Value := zs.flatMap cellsE
theorem elms_app (a b : List (El × Pl)) : elms (a ++ b) = elms a ++ elms b := by simp [elms]
theorem elms_len : ∀ xs : List (El × Pl), (elms xs).length = xs.length * 2
  | [] => rfl
  | x :: xs => by
    show (cellsE x ++ elms xs).length = _
    rw [List.length_append, elms_len xs, List.length_cons]; simp [cellsE]; omega
theorem elms_get : ∀ (xs : List (El × Pl)) (i j : Nat), i < xs.length → j < 2 → (elms xs)[i * 2 + j]? = (cellsE (xs.getD i (noe, noq)))[j]?
  | [], i, j, h, _ => by simp at h
  | x :: xs, 0, j, _, hj => by
    show (cellsE x ++ elms xs)[0 * 2 + j]? = _
    rw [Nat.zero_mul, Nat.zero_add, List.getElem?_append_left (by simpa [cellsE] using hj)]; rfl
  | x :: xs, i + 1, j, h, hj => by
    have ih := elms_get xs i j (by simpa using h) hj
    show (cellsE x ++ elms xs)[(i + 1) * 2 + j]? = _
    rw [List.getElem?_append_right (by simp [cellsE]; omega), show (i + 1) * 2 + j - (cellsE x).length = i * 2 + j by simp [cellsE]; omega, ih]
    simp [List.getD]
theorem elms_one : ∀ (xs : List (El × Pl)), ∀ u ∈ elms xs, u.oneCell' = true
  | [], u, hu => by simp [elms] at hu
  | x :: xs, u, hu => by
    have hu' : u ∈ cellsE x ++ elms xs := hu
    rcases List.mem_append.1 hu' with h | h
    · simp [cellsE] at h; rcases h with rfl | rfl <;> rfl
    · exact elms_one xs u h
/-- A slice that reads as these elements; their params lie at these places. -/
def RdEz (w : World) (ao : Option Addr) (zs : List (El × Pl)) : Prop :=
  (zs.length = 0 ∨ ∃ b off, ao = some ⟨b, off, none⟩ ∧ b < w.heap.size ∧ ∀ i, i < zs.length → w.cell? ⟨b, off + i * 2, none⟩ = some (.string (bs (zs.getD i (noe, noq)).1.id)) ∧ w.cell? ⟨b, off + i * 2 + 1, none⟩ = some (.slice (zs.getD i (noe, noq)).2.o (zs.getD i (noe, noq)).1.ps.length (zs.getD i (noe, noq)).2.c)) ∧
  ∀ z ∈ zs, RdP w z.2.o z.1.ps
def RdE (w : World) (ao : Option Addr) (es : List El) : Prop := ∃ zs, zs.map Prod.fst = es ∧ RdEz w ao zs
theorem RdEz.below {w w' : World} {ao : Option Addr} {zs : List (El × Pl)} (h : RdEz w ao zs) (k : Below w.heap.size w w') : RdEz w' ao zs := by
  refine ⟨?_, fun z hz => (h.2 z hz).below k⟩
  rcases h.1 with h0 | ⟨b, off, ha, hb, hc⟩
  · exact .inl h0
  · refine .inr ⟨b, off, ha, Nat.lt_of_lt_of_le hb k.size, fun i hi => ?_⟩
    obtain ⟨c0, c1⟩ := hc i hi
    exact ⟨(k.cell (p := ⟨b, off + i * 2, none⟩) hb).trans c0, (k.cell (p := ⟨b, off + i * 2 + 1, none⟩) hb).trans c1⟩
theorem RdE.below {w w' : World} {ao : Option Addr} {es : List El} (h : RdE w ao es) (k : Below w.heap.size w w') : RdE w' ao es := by
  obtain ⟨zs, h1, h2⟩ := h
  exact ⟨zs, h1, h2.below k⟩
theorem RdEz.at {w : World} {ao : Option Addr} {zs : List (El × Pl)} (h : RdEz w ao zs) (i : Nat) (hi : i < zs.length) :
    ∃ b off, ao = some ⟨b, off, none⟩ ∧ b < w.heap.size ∧ w.cell? ⟨b, off + i * 2, none⟩ = some (.string (bs (zs.getD i (noe, noq)).1.id)) ∧ w.cell? ⟨b, off + i * 2 + 1, none⟩ = some (.slice (zs.getD i (noe, noq)).2.o (zs.getD i (noe, noq)).1.ps.length (zs.getD i (noe, noq)).2.c) ∧ RdP w (zs.getD i (noe, noq)).2.o (zs.getD i (noe, noq)).1.ps := by
  have hm : zs.getD i (noe, noq) ∈ zs := by
    rw [List.getD_eq_getElem?_getD, List.getElem?_eq_getElem hi]
    exact List.getElem_mem hi
  rcases h.1 with h0 | ⟨b, off, ha, hb, hc⟩
  · omega
  · exact ⟨b, off, ha, hb, (hc i hi).1, (hc i hi).2, h.2 _ hm⟩
/-- The element at a place: its cells, and its params. -/
theorem RdE.at {w : World} {ao : Option Addr} {es : List El} (h : RdE w ao es) {i : Nat} (hi : i < es.length) {x : El} (hx : es.getD i noe = x) :
    ∃ b off po pc, ao = some ⟨b, off, none⟩ ∧ b < w.heap.size ∧ w.cell? ⟨b, off + i * 2, none⟩ = some (.string (bs x.id)) ∧ w.cell? ⟨b, off + i * 2 + 1, none⟩ = some (.slice po x.ps.length pc) ∧ RdP w po x.ps := by
  obtain ⟨zs, h1, h2⟩ := h
  have hl : i < zs.length := by rw [← List.length_map (f := Prod.fst), h1]; exact hi
  obtain ⟨b, off, ha, hb, c0, c1, hp⟩ := h2.at i hl
  have e : (zs.getD i (noe, noq)).1 = x := by
    rw [← hx, ← h1]
    simp [List.getD, List.getElem?_eq_getElem hl]
  rw [e] at c0 c1 hp
  exact ⟨b, off, _, _, ha, hb, c0, c1, hp⟩
theorem RdEz.each {w : World} {a : Addr} {zs : List (El × Pl)} (h : RdEz w (some a) zs) : ∀ j u, (elms zs)[j]? = some u → w.cell? (a.add j) = some u := by
  intro j u hj
  have hlt : j < (elms zs).length := by
    rcases Nat.lt_or_ge j (elms zs).length with h | h
    · exact h
    · rw [List.getElem?_eq_none h] at hj; cases hj
  rw [elms_len] at hlt
  rcases h.1 with h | ⟨b, off, ha, hb, hc⟩
  · omega
  · injection ha with ha
    subst ha
    have hi : j / 2 < zs.length := by omega
    have hg := elms_get zs (j / 2) (j % 2) hi (by omega)
    rw [show j / 2 * 2 + j % 2 = j by omega] at hg
    rw [hg] at hj
    obtain ⟨c0, c1⟩ := hc (j / 2) hi
    have hadd : (⟨b, off, none⟩ : Addr).add j = ⟨b, off + j, none⟩ := by simp [Addr.add]
    rw [hadd]
    have hm : j % 2 = 0 ∨ j % 2 = 1 := by omega
    rcases hm with hm | hm
    · rw [hm] at hj
      simp [cellsE] at hj
      rw [← hj, show off + j = off + j / 2 * 2 by omega]; exact c0
    · rw [hm] at hj
      simp [cellsE] at hj
      rw [← hj, show off + j = off + j / 2 * 2 + 1 by omega]; exact c1
/-- The same of an element that has params. -/
def Prw (w : World) (B : Nat) (T : TypeId) (z : El × Pl) : Prop := z.1.ps.length = 0 ∨ Prv w B T z.2.o
theorem Prw.below {w w' : World} {B : Nat} {T : TypeId} {z : El × Pl} (h : Prw w B T z) (k : Below w.heap.size w w') : Prw w' B T z := h.imp id fun h => h.below k
theorem Prw.arg {w : World} {B : Nat} {T : TypeId} {z : El × Pl} (h : RdP w z.2.o z.1.ps) (hB : w.heap.size ≤ B) (W : World) : Prw W B T z := by
  rcases h with h | ⟨b, off, ha, hb, _⟩
  · exact .inl h
  · refine .inr fun a h => ?_
    rw [ha] at h
    injection h with h
    subst h
    exact .inl (Nat.lt_of_lt_of_le hb hB)
/-- Elements that the call made itself, behind block B; T is an element's type, Tp a param's. -/
def OwnE (w : World) (B : Nat) (T Tp : TypeId) (v : Value) (es : List El) : Prop :=
  ∃ zs, zs.map Prod.fst = es ∧ w.ownsRow B T 2 v zs.length (elms zs) ∧ ∀ z ∈ zs, RdP w z.2.o z.1.ps ∧ Prw w B Tp z
theorem OwnE.nil (w : World) (B : Nat) (T Tp : TypeId) : OwnE w B T Tp (.slice none 0 0) [] := ⟨[], rfl, World.ownsRow_nil w B T 2, fun z hz => by cases hz⟩
theorem OwnE.empty (w : World) (B : Nat) (T Tp : TypeId) (hb : B ≤ w.heap.size) : OwnE (w.alloc (.cells #[] T)) B T Tp (.slice (some ⟨w.heap.size, 0, none⟩) 0 0) [] :=
  ⟨[], rfl, ⟨by simp [elms], .inr ⟨w.heap.size, 0, #[], rfl, hb, rowNew w _, Nat.le_refl _, by unfold maxLen; omega, by simp, by simp [elms]⟩⟩, fun z hz => by cases hz⟩
theorem OwnE.below {w w' : World} {B : Nat} {T Tp : TypeId} {v : Value} {es : List El} (h : OwnE w B T Tp v es) (k : Below w.heap.size w w') : OwnE w' B T Tp v es := by
  obtain ⟨zs, h1, h2, h3⟩ := h
  exact ⟨zs, h1, owns_below h2 k, fun z hz => ⟨(h3 z hz).1.below k, (h3 z hz).2.below k⟩⟩
theorem ownsE_form {w : World} {B : Nat} {T : TypeId} {v : Value} {zs : List (El × Pl)} (h : w.ownsRow B T 2 v zs.length (elms zs)) (hp : ∀ z ∈ zs, RdP w z.2.o z.1.ps) : ∃ ao cap, v = .slice ao zs.length cap ∧ RdEz w ao zs ∧ zs.length ≤ cap ∧ cap ≤ maxLen ∧ ((ao = none ∧ zs.length = 0 ∧ cap = 0) ∨ ∃ g, ao = some ⟨g, 0, none⟩ ∧ B ≤ g) := by
  rcases h.2 with ⟨hv, h0⟩ | ⟨g, cap, cur, hv, hB, hh, hle, hm, hs, ht⟩
  · exact ⟨none, 0, by rw [hv, h0], ⟨.inl h0, hp⟩, by omega, by unfold maxLen; omega, .inl ⟨rfl, h0, rfl⟩⟩
  · refine ⟨some ⟨g, 0, none⟩, cap, hv, ⟨.inr ⟨g, 0, rfl, lt_of_block hh, fun i hi => ?_⟩, hp⟩, hle, hm, .inr ⟨g, rfl, hB⟩⟩
    have hcell : ∀ j, j < 2 → w.cell? ⟨g, i * 2 + j, none⟩ = (cellsE (zs.getD i (noe, noq)))[j]? := by
      intro j hj
      rw [cellRow hh, ← Array.getElem?_toList, ← elms_get zs i j hi hj, ← ht, List.getElem?_take_of_lt (by omega)]
    refine ⟨?_, ?_⟩
    · have := hcell 0 (by omega); rw [Nat.add_zero] at this; rw [Nat.zero_add]; exact this
    · rw [Nat.zero_add]; exact hcell 1 (by omega)
theorem OwnE.form {w : World} {B : Nat} {T Tp : TypeId} {v : Value} {es : List El} (h : OwnE w B T Tp v es) : ∃ ao cap, v = .slice ao es.length cap ∧ RdE w ao es ∧ es.length ≤ cap ∧ cap ≤ maxLen ∧ ((ao = none ∧ es.length = 0 ∧ cap = 0) ∨ ∃ g, ao = some ⟨g, 0, none⟩ ∧ B ≤ g) := by
  obtain ⟨zs, h1, h2, h3⟩ := h
  obtain ⟨ao, cap, hv, hr, hx⟩ := ownsE_form h2 (fun z hz => (h3 z hz).1)
  have hl : zs.length = es.length := by rw [← h1, List.length_map]
  rw [hl] at hv hx
  exact ⟨ao, cap, hv, ⟨zs, h1, hr⟩, hx⟩
/-- Elements behind others: what the append made. -/
theorem OwnE.grown {w w' : World} {B : Nat} {T Tp : TypeId} {v v' : Value} {zs ys : List (El × Pl)} (hown : w.ownsRow B T 2 v zs.length (elms zs)) (hp : ∀ z ∈ zs, RdP w z.2.o z.1.ps ∧ Prw w B Tp z) (hy : ∀ z ∈ ys, RdP w z.2.o z.1.ps ∧ Prw w B Tp z) (hT : Tp ≠ T)
    (hg : w.grownBy w' v.ownBlock) (hown' : w'.ownsRow B T 2 v' (zs.length + ys.length) (elms zs ++ elms ys)) : OwnE w' B T Tp v' (zs.map Prod.fst ++ ys.map Prod.fst) := by
  refine ⟨zs ++ ys, by rw [List.map_append], by rw [List.length_append, elms_app]; exact hown', fun z hz => ?_⟩
  have hq : RdP w z.2.o z.1.ps ∧ Prw w B Tp z := by
    rcases List.mem_append.1 hz with h | h
    · exact hp z h
    · exact hy z h
  rcases hq.2 with h0 | hv
  · exact ⟨.inl h0, .inl h0⟩
  refine ⟨hq.1.kept hg.size (fun a ha hb => hg.block _ hb (owns_ne hown ?_)), .inr (hv.kept (fun b cs fr hb => ⟨cs, fr, owns_keep hown hg hb hT⟩))⟩
  rcases hv a ha with h | ⟨cs, fr, h⟩
  · exact .inl h
  · exact .inr ⟨cs, Tp, fr, h, hT⟩
end Go.Proofs.YtonippapkmmkeaaDoor
