/- Texts on the program and on the document, joined: QuoC, UtfD, UtfE, Row, UtfF, QuoD. -/
import Derived.Test.YtonippapkmmkeaaDoorMa11
import Derived.Test.YtonippapkmmkeaaDoorMa13
import Derived.Test.YtonippapkmmkeaaDoorMa07
import Derived.Deep.RegionHeld3
import Derived.BigQuiet
import Derived.Deep.QuietTactic
import Derived.Outline
import Derived.Test.YtonippapkmmkeaaDoorMa01
import Derived.Below
import Derived.Laws.OwnMore
import Derived.Laws.AppendOwn
import Derived.Deep.AppendLies
import Derived.Deep.Onto
/- The document's one, walked. -/
namespace Go.Proofs.YtonippapkmmkeaaDoor
open Go.ChangeShapes Go.WideShapes Go.ChangeAt Go.RowKit K Q10
set_option linter.unusedVariables false

theorem alloc_in' (w : World) (o : Obj) : Below w.heap.size w (w.alloc o) := (Below.refl _ _).alloc (Nat.le_refl _) _
/-- An element's block. -/
def Eb (T : TypeId) (w : World) (b : Nat) (id : List UInt8) (v : Value) : Prop := w.heap[b]? = some (.cells #[.string (bs id), v] T (0, 0))
theorem Eb.new (T : TypeId) (w : World) (id : List UInt8) (v : Value) : Eb T (w.alloc (.cells #[.string (bs id), v] T)) w.heap.size id v := rowNew w _
theorem Eb.below {T : TypeId} {w w' : World} {b : Nat} {id : List UInt8} {v : Value} (h : Eb T w b id v) (k : Below w.heap.size w w') : Eb T w' b id v := (k.block b (lt_of_block h)).trans h
theorem Eb.cells {T : TypeId} {w : World} {b : Nat} {id : List UInt8} {v : Value} (h : Eb T w b id v) : w.cell? ⟨b, 0, none⟩ = some (.string (bs id)) ∧ w.cell? ⟨b, 1, none⟩ = some v := ⟨cellRow h 0, cellRow h 1⟩
theorem Eb.free {T : TypeId} {w : World} {b : Nat} {id : List UInt8} {v : Value} (h : Eb T w b id v) : w.frozen? ⟨b, 0, none⟩ = false ∧ w.frozen? ⟨b, 1, none⟩ = false := ⟨freeRow h 0, freeRow h 1⟩
theorem Eb.set {T : TypeId} {w : World} {b : Nat} {id : List UInt8} {v : Value} (h : Eb T w b id v) (id' : List UInt8) (v' : Value) : Eb T ((w.setCell ⟨b, 0, none⟩ (.string (bs id'))).setCell ⟨b, 1, none⟩ v') b id' v' := by
  have := rowSet (rowSet h 0 (.string (bs id'))) 1 v'
  simpa [Eb] using this
theorem below_set2 {B b : Nat} {w w' : World} (h : Below B w w') (hb : B ≤ b) (v0 v1 : Value) : Below B w ((w'.setCell ⟨b, 0, none⟩ v0).setCell ⟨b, 1, none⟩ v1) := (h.setCell (p := ⟨b, 0, none⟩) hb v0).setCell (p := ⟨b, 1, none⟩) hb v1
theorem results_cell_row3q {P : Program} {fn : Func} {p u v : Tmp} {ty : TypeId} (h : fn.results = #[.cell p ty, .tmp u, .tmp v]) (tmps : Array Value) (w : World) (g : Nat) (t : TypeId) (cs : Array Value) (fr : Nat × Nat) (d : TypeDesc)
    (hp : tmps.getD p undef = .pointer (some ⟨g, 0, none⟩)) (hg : w.heap[g]? = some (.cells cs t fr))
    (hu : P.underlying ty = some d) (hd : (match d with | .struct _ | .array _ _ => true | _ => false) = true) (hi : (P.info? ty).map (·.size) = some cs.size) :
    (results fn tmps).run P w = .ok (.tuple #[.agg cs, tmps.getD u undef, tmps.getD v undef]) w := by
  have hp' : tmps[p]?.getD undef = .pointer (some ⟨g, 0, none⟩) := by simpa using hp
  simp [results, h, hp', asAddr, run_loadVar_row w g t ty cs fr d hg hu hd hi]
theorem info_pm : (Tryd.prog.info? 56).map (fun i => (i.zero, i.size, i.bytes)) = some (some (.agg #[.string .empty, .string .empty]), 2, 32) := by kernel_rfl
/-- What one hands back. -/
def OnPost (l : List UInt8) (w : World) (e : Ending) (w' : World) : Prop :=
  (one l = none ∧ e = .returned (.tuple #[.agg #[.string (bs []), .slice none 0 0], .string (bs []), .bool false]) ∧ Below w.heap.size w w') ∨
  ∃ x z po pc, one l = some (x, z) ∧ e = .returned (.tuple #[.agg #[.string (bs x.id), .slice po x.ps.length pc], .string (bs z), .bool true]) ∧ RdP w' po x.ps ∧ (∀ B, Prv w' B 56 po) ∧ Below w.heap.size w w'
/-- Params read so far, and what is left. -/
def pcons (ps : List Pm) : Option (List Pm × List UInt8) → Option (List Pm × List UInt8)
  | some (q, r) => some (ps ++ q, r)
  | none => none
theorem pcons_nil (x : Option (List Pm × List UInt8)) : pcons [] x = x := by rcases x with _ | ⟨o, r⟩ <;> rfl
theorem pcons_map (ps : List Pm) (p : Pm) (x : Option (List Pm × List UInt8)) : pcons ps (x.map fun y => (p :: y.1, y.2)) = pcons (ps ++ [p]) x := by
  rcases x with _ | ⟨o, r⟩
  · rfl
  · simp [pcons]
/-- What stands where a param may begin. -/
inductive OnAt (r : List UInt8) : Prop
  | stop (hs : prsL r = some ([], r)) (hnb : r = [] ∨ (r.isEmpty = false ∧ byt r 0 ≠ 32))
  | shrt (hr0 : byt r 0 = 32) (hne : r.isEmpty = false) (hlen : 1 ≤ r.length) (hR : (nmR (r.tail)).length < 2) (e : prsL r = none)
  | eqs (hr0 : byt r 0 = 32) (hne : r.isEmpty = false) (hlen : 1 ≤ r.length) (hR : 2 ≤ (nmR (r.tail)).length) (hR2 : (nmR (r.tail)).take 2 ≠ [61, 34]) (e : prsL r = none)
  | val (hr0 : byt r 0 = 32) (hne : r.isEmpty = false) (hlen : 1 ≤ r.length) (hR : 2 ≤ (nmR (r.tail)).length) (hR2 : (nmR (r.tail)).take 2 = [61, 34]) (hv : vl ((nmR (r.tail)).drop 2) = none) (e : prsL r = none)
  | go (hr0 : byt r 0 = 32) (hne : r.isEmpty = false) (hlen : 1 ≤ r.length) (hR : 2 ≤ (nmR (r.tail)).length) (hR2 : (nmR (r.tail)).take 2 = [61, 34]) (o z : List UInt8) (hv : vl ((nmR (r.tail)).drop 2) = some (o, z)) (e : prsL r = (prsL z).map fun y => (⟨nmT (r.tail), o⟩ :: y.1, y.2)) (hz : z.length + 4 ≤ r.length)
theorem on_all (r : List UInt8) : OnAt r := by
  cases r with
  | nil => exact .stop (prsL_stop (by simp)) (.inl rfl)
  | cons b t =>
    by_cases hb : b = 32
    rotate_left
    · exact .stop (prsL_stop (fun t e => by injection e with e _; exact hb e)) (.inr ⟨rfl, fun e => hb (UInt8.toNat_inj.1 e)⟩)
    subst hb
    have h0 : byt (32 :: t) 0 = 32 := rfl
    have hd : (32 :: t : List UInt8).tail = t := rfl
    have hno : pm1 t = none → prsL (32 :: t) = none := prsL_none
    by_cases hR : (nmR t).length < 2
    · refine .shrt h0 rfl (by simp) hR (hno ?_)
      unfold pm1
      split
      · next a b q hq => rw [hq] at hR; simp at hR; omega
      · rfl
    obtain ⟨a, b, q, hq⟩ : ∃ a b q, nmR t = a :: b :: q := by
      match h : nmR t, hR with
      | a :: b :: q, _ => exact ⟨a, b, q, rfl⟩
      | [], hR => simp at hR
      | [a], hR => simp at hR
    by_cases hab : a = 61 ∧ b = 34
    rotate_left
    · refine .eqs h0 rfl (by simp) (by rw [hd]; omega) (fun e => ?_) (hno ?_)
      · rw [hd, hq] at e
        simp at e
        exact hab e
      · unfold pm1; rw [hq]; simp only; rw [if_neg hab]
    obtain ⟨rfl, rfl⟩ := hab
    have hR2 : (nmR ((32 :: t : List UInt8).tail)).take 2 = [61, 34] := by rw [hd, hq]; rfl
    have hqd : (nmR ((32 :: t : List UInt8).tail)).drop 2 = q := by rw [hd, hq]; rfl
    cases hv : vl q with
    | none =>
      refine .val h0 rfl (by simp) (by rw [hd]; omega) hR2 (by rw [hqd]; exact hv) (hno ?_)
      cases hp : pm1 t with
      | none => rfl
      | some x =>
        obtain ⟨q', hq', hv', _⟩ := (pm1_iff t x.1 x.2).1 hp
        rw [hq] at hq'
        injection hq' with _ hq'
        injection hq' with _ hq'
        rw [← hq', hv] at hv'; cases hv'
    | some x =>
      obtain ⟨o, z⟩ := x
      have hp : pm1 t = some (⟨nmT t, o⟩, z) := (pm1_iff _ _ _).2 ⟨q, hq, hv, rfl⟩
      have := (pm1_len hp).1
      exact .go h0 rfl (by simp) (by rw [hd]; omega) hR2 o z (by rw [hqd]; exact hv) (prsL_step hp) (by simp only [List.length_cons]; omega)
def OnRel (l : List UInt8) (w : World) (rb xb : Nat) (g : Nat) (v0 : Value) (wr : World) : Prop :=
  ∃ r ps v, r.length = g ∧ r.length ≤ l.length ∧ prsL (nmR l) = pcons ps (prsL r) ∧ ps.length + r.length ≤ l.length ∧ v0 = .string (bs r) ∧ Eb 30 wr xb (nmT l) v ∧ OwnM wr (xb + 1) 56 v ps ∧ Eb 30 wr rb [] (.slice none 0 0) ∧ Below w.heap.size w wr
end Go.Proofs.YtonippapkmmkeaaDoor
/- The document's own small functions of utf, walked. -/
namespace Go.Proofs.YtonippapkmmkeaaDoor
open Go.ChangeShapes Go.WideShapes Go.ChangeAt Go.RowKit K U4
set_option linter.unusedVariables false

def byT (c : Int) : List UInt8 := if isCi c then made c.toNat else []
def byE (c : Int) : Nat := if isCi c then 0 else 1
theorem by_yes (c : Nat) (h : isC c = true) : byT (c : Int) = made c ∧ byE (c : Int) = 0 := by
  unfold byT byE; rw [isCi_nat, h]; exact ⟨by simp, rfl⟩
theorem by_no (c : Int) (h : isCi c = false) : byT c = [] ∧ byE c = 1 := by
  unfold byT byE; rw [h]; exact ⟨rfl, rfl⟩
theorem isCi_nat' {c : Int} (h : isCi c = true) : ∃ k : Nat, c = (k : Int) ∧ isC k = true := by
  obtain ⟨h0, _, _⟩ := (isCi_iff c).1 h
  refine ⟨c.toNat, by omega, ?_⟩
  rw [← isCi_nat, show ((c.toNat : Nat) : Int) = c by omega]; exact h
theorem urun_conv_two {P : Program} (src e dst : TypeId) (hs : P.underlying src = some (.slice e)) (he : P.underlying e = some (.int .u8)) (hd : P.underlying dst = some .string) :
    ∀ (w : World) (x y : Int), (convert src dst (.slice (some ⟨w.heap.size, 0, none⟩) 2 2)).run P (w.alloc (.cells #[.int .u8 x, .int .u8 y] e)) = .ok (.string (bs [b8 x.toNat, b8 y.toNat])) (w.alloc (.cells #[.int .u8 x, .int .u8 y] e)) := by
  intro w x y
  rw [run_convert_bytes_arg (P := P) (w.alloc (.cells #[.int .u8 x, .int .u8 y] e)) src e hs he w.heap.size 0 2 2 [x, y] rfl _ dst hd]
  · rfl
  · intro i hi
    rw [cellRow (rowNew w _)]
    obtain rfl | rfl : i = 0 ∨ i = 1 := by omega
    all_goals rfl
theorem run_conv_three {P : Program} (src e dst : TypeId) (hs : P.underlying src = some (.slice e)) (he : P.underlying e = some (.int .u8)) (hd : P.underlying dst = some .string) :
    ∀ (w : World) (x y z : Int), (convert src dst (.slice (some ⟨w.heap.size, 0, none⟩) 3 3)).run P (w.alloc (.cells #[.int .u8 x, .int .u8 y, .int .u8 z] e)) = .ok (.string (bs [b8 x.toNat, b8 y.toNat, b8 z.toNat])) (w.alloc (.cells #[.int .u8 x, .int .u8 y, .int .u8 z] e)) := by
  intro w x y z
  rw [run_convert_bytes_arg (P := P) (w.alloc (.cells #[.int .u8 x, .int .u8 y, .int .u8 z] e)) src e hs he w.heap.size 0 3 3 [x, y, z] rfl _ dst hd]
  · rfl
  · intro i hi
    rw [cellRow (rowNew w _)]
    obtain rfl | rfl | rfl : i = 0 ∨ i = 1 ∨ i = 2 := by omega
    all_goals rfl
theorem run_conv_four {P : Program} (src e dst : TypeId) (hs : P.underlying src = some (.slice e)) (he : P.underlying e = some (.int .u8)) (hd : P.underlying dst = some .string) :
    ∀ (w : World) (x y z u : Int), (convert src dst (.slice (some ⟨w.heap.size, 0, none⟩) 4 4)).run P (w.alloc (.cells #[.int .u8 x, .int .u8 y, .int .u8 z, .int .u8 u] e)) = .ok (.string (bs [b8 x.toNat, b8 y.toNat, b8 z.toNat, b8 u.toNat])) (w.alloc (.cells #[.int .u8 x, .int .u8 y, .int .u8 z, .int .u8 u] e)) := by
  intro w x y z u
  rw [run_convert_bytes_arg (P := P) (w.alloc (.cells #[.int .u8 x, .int .u8 y, .int .u8 z, .int .u8 u] e)) src e hs he w.heap.size 0 4 4 [x, y, z, u] rfl _ dst hd]
  · rfl
  · intro i hi
    rw [cellRow (rowNew w _)]
    obtain rfl | rfl | rfl | rfl : i = 0 ∨ i = 1 ∨ i = 2 ∨ i = 3 := by omega
    all_goals rfl
theorem ret_str {a b : List UInt8} (h : a = b) : Ending.returned (.string (bs a)) = .returned (.string (bs b)) := by rw [h]
end Go.Proofs.YtonippapkmmkeaaDoor
/- The document's First, Check and Mark, walked. -/
namespace Go.Proofs.YtonippapkmmkeaaDoor
open Go.ChangeShapes Go.WideShapes Go.ChangeAt Go.RowKit K U4
set_option linter.unusedVariables false

theorem Below_ofDrew {B : Nat} {a b : World} {n : Nat} (h : Below B (a.drewN n) b) : Below B a b := ⟨h.os, h.tape, h.output, h.size, h.block⟩
theorem Below_drewN {B : Nat} {a b : World} (h : Below B a b) (n : Nat) : Below B a (b.drewN n) := ⟨h.os, h.tape, h.output, h.size, h.block⟩
theorem Below_ofDrew1 {B : Nat} {a b : World} (h : Below B a.drew b) : Below B a b := ⟨h.os, h.tape, h.output, h.size, h.block⟩
theorem gac_le (l : List UInt8) (n : Nat) : gac l n 0 < 256 ∧ gac l n 1 < 16448 ∧ gac l n 2 < 1052736 ∧ gac l n 3 < 67375168 := by
  have h := byt_lt l 0
  have h1 : gst n (byt l 0) < 256 := by
    unfold gst
    by_cases e1 : n = 1
    · rw [if_pos e1]; exact h
    · by_cases e2 : n = 2
      · rw [if_neg e1, if_pos e2]; omega
      · by_cases e3 : n = 3
        · rw [if_neg e1, if_neg e2, if_pos e3]; omega
        · rw [if_neg e1, if_neg e2, if_neg e3]; omega
  simp only [gac]; omega
theorem gac_lt (l : List UInt8) (n i : Nat) (h : i ≤ 3) : gac l n i < 67375168 := by
  obtain ⟨a, b, c, d⟩ := gac_le l n
  obtain rfl | rfl | rfl | rfl : i = 0 ∨ i = 1 ∨ i = 2 ∨ i = 3 := by omega
  all_goals omega
theorem gs_lt (l : List UInt8) (n : Nat) (h : n ≤ 4) : gs l n < 67375168 := gac_lt l n (n - 1) (by omega)
def GuRel (l : List UInt8) (n : Nat) (w : World) (g : Nat) (v5 v6 : Value) (wr : World) : Prop :=
  ∃ j, j + 1 + g = n ∧ v6 = .int .i64 ((j + 1 : Nat) : Int) ∧ v5 = .int .i64 ((gac l n j : Nat) : Int) ∧ wr = w
def FqRel (l : List UInt8) (w : World) (g : Nat) (v5 : Value) (wr : World) : Prop :=
  ∃ n, n + g = 5 ∧ 1 ≤ n ∧ v5 = .int .i64 ((n : Nat) : Int) ∧ (fOk l = true → n ≤ fN l) ∧ Below w.heap.size w wr
end Go.Proofs.YtonippapkmmkeaaDoor
/- A list of numbers that a call made itself: its cells, and what keeps them. Of no program. -/
namespace Go.Proofs.YtonippapkmmkeaaDoor
open Go.RowKit
namespace K

/-- Numbers as cells. -/
def nums (cs : List Nat) : List Value := cs.map fun c => Value.int .i64 (c : Nat)
theorem nums_len (cs : List Nat) : (nums cs).length = cs.length := by simp [nums]
theorem nums_app (a b : List Nat) : nums (a ++ b) = nums a ++ nums b := by simp [nums]
theorem nums_get (cs : List Nat) (i : Nat) (h : i < cs.length) : (nums cs)[i]? = some (.int .i64 ((cs.getD i 0 : Nat) : Int)) := by
  simp [nums, List.getElem?_eq_getElem h, List.getD]
/-- A slice that the call made itself, behind block B, of these numbers; T is the type of its elements. -/
def OwnI (w : World) (B : Nat) (T : TypeId) (v : Value) (cs : List Nat) : Prop := w.ownsRow B T 1 v cs.length (nums cs)
theorem OwnI.nil (w : World) (B : Nat) (T : TypeId) : OwnI w B T (.slice none 0 0) [] := World.ownsRow_nil w B T 1
theorem OwnI.below {w w' : World} {B : Nat} {T : TypeId} {v : Value} {cs : List Nat} (h : OwnI w B T v cs) (k : Below w.heap.size w w') : OwnI w' B T v cs := by
  refine ⟨h.1, ?_⟩
  rcases h.2 with hn | ⟨g, cap, cur, h1, h2, h3, h4⟩
  · exact .inl hn
  · exact .inr ⟨g, cap, cur, h1, h2, (k.block g (lt_of_block h3)).trans h3, h4⟩
theorem OwnI.drewN {w : World} {B : Nat} {T : TypeId} {v : Value} {cs : List Nat} (h : OwnI w B T v cs) (n : Nat) : OwnI (w.drewN n) B T v cs := h
theorem OwnI.mono {w : World} {B B' : Nat} {T : TypeId} {v : Value} {cs : List Nat} (h : OwnI w B T v cs) (hb : B' ≤ B) : OwnI w B' T v cs := World.ownsRow.mono h hb
/-- Its shape: where it lies, and its cells. -/
theorem OwnI.form {w : World} {B : Nat} {T : TypeId} {v : Value} {cs : List Nat} (h : OwnI w B T v cs) :
    ∃ ao cap, v = .slice ao cs.length cap ∧ (cs.length = 0 ∨ ∃ g, ao = some ⟨g, 0, none⟩ ∧ B ≤ g ∧ g < w.heap.size ∧ ∀ i, i < cs.length → w.cell? ⟨g, i, none⟩ = some (.int .i64 ((cs.getD i 0 : Nat) : Int)) ∧ w.frozen? ⟨g, i, none⟩ = false) := by
  rcases h.2 with ⟨hv, h0⟩ | ⟨g, cap, cur, hv, hB, hh, hle, hm, hs, ht⟩
  · exact ⟨none, 0, by rw [hv, h0], .inl h0⟩
  · refine ⟨some ⟨g, 0, none⟩, cap, hv, .inr ⟨g, rfl, hB, lt_of_block hh, fun i hi => ⟨?_, freeRow hh i⟩⟩⟩
    rw [cellRow hh, ← Array.getElem?_toList]
    have h1 := congrArg (fun x : List Value => x[i]?) ht
    simp only [Nat.mul_one] at h1
    rw [List.getElem?_take_of_lt hi, nums_get cs i hi] at h1
    exact h1
/-- One more number. -/
theorem OwnI.put {w : World} {B : Nat} {T : TypeId} {v : Value} {cs : List Nat} {c : Nat} (h : w.ownsRow B T 1 v (cs.length + 1) (nums cs ++ [.int .i64 (c : Nat)])) : OwnI w B T v (cs ++ [c]) := by
  unfold OwnI
  rw [List.length_append, nums_app]
  exact h
theorem info_of {P : Program} {T : TypeId} {z : Value} {s b : Nat} (h : (P.info? T).map (fun i => (i.zero, i.size, i.bytes)) = some (some z, s, b)) : ∃ i, P.info? T = some i ∧ i.zero = some z ∧ i.size = s ∧ i.bytes = b := by
  obtain ⟨i, h1, h2⟩ := Option.map_eq_some_iff.1 h
  simp only [Prod.mk.injEq] at h2
  exact ⟨i, h1, h2.1, h2.2.1, h2.2.2⟩
/-- Two lists of as many members, that are the same each, are the same. -/
theorem same_of {a b : List Nat} (hl : a.length = b.length) (h : ∀ i, i < a.length → a.getD i 0 = b.getD i 0) : a = b := by
  apply List.ext_getElem hl
  intro i h1 h2
  have := h i h1
  simpa [List.getD, List.getElem?_eq_getElem h1, List.getElem?_eq_getElem h2] using this
end K
end Go.Proofs.YtonippapkmmkeaaDoor
/- Chars, the program's and the document's, the document's Check and Mark, walked. -/
namespace Go.Proofs.YtonippapkmmkeaaDoor
open Go.ChangeShapes Go.WideShapes Go.ChangeAt Go.RowKit K U4
set_option linter.unusedVariables false

/-- What Chars hands back: the code, and the characters in a list of its own. -/
def ChPost (l : List UInt8) (w : World) (e : Ending) (w' : World) : Prop :=
  ∃ v, e = .returned (.tuple #[v, .int .i64 (chE l : Nat)]) ∧ OwnI w' w.heap.size 3 v (chL l) ∧ Below w.heap.size w w'
def CRel (l : List UInt8) (w : World) (g : Nat) (v0 v4 : Value) (wr : World) : Prop :=
  ∃ pre r, AllC pre ∧ flat pre ++ r = l ∧ r.length = g ∧ v0 = .string (bs r) ∧ OwnI wr w.heap.size 3 v4 pre ∧ Below w.heap.size w wr
theorem int_info : (Tryd.prog.info? 3).map (fun i => (i.zero, i.size, i.bytes)) = some (some (.int .i64 0), 1, 8) := by kernel_rfl
theorem ret_two {a b c d : Value} (h : a = b) (k : c = d) : Ending.returned (.tuple #[a, c]) = .returned (.tuple #[b, d]) := by rw [h, k]
theorem at_ok {pre : List Nat} {l : List UInt8} {p : Nat} (ha : AllC pre) (h : flat pre ++ l.drop p = l) (hp : p ≤ l.length) (hf : fOk (l.drop p) = true) :
    AllC (pre ++ [fC (l.drop p)]) ∧ flat (pre ++ [fC (l.drop p)]) ++ l.drop (p + fN (l.drop p)) = l ∧ p + fN (l.drop p) ≤ l.length := by
  obtain ⟨h1, h2⟩ := step_ok ha h hf
  rw [List.drop_drop] at h2
  have h3 := (fN_le hf).2.2
  rw [List.length_drop] at h3
  exact ⟨h1, h2, by omega⟩
theorem drop_ne {l : List UInt8} {p : Nat} (h : p < l.length) : l.drop p ≠ [] := by
  intro e
  have := congrArg List.length e
  rw [List.length_drop] at this
  simp at this; omega
def CqRel (l : List UInt8) (w : World) (g : Nat) (v4 v5 : Value) (wr : World) : Prop :=
  ∃ pre p, AllC pre ∧ flat pre ++ l.drop p = l ∧ p ≤ l.length ∧ l.length - p = g ∧ v5 = .int .i64 (p : Nat) ∧ OwnI wr w.heap.size 3 v4 pre ∧ Below w.heap.size w wr
end Go.Proofs.YtonippapkmmkeaaDoor
/- The document's element, walked. -/
namespace Go.Proofs.YtonippapkmmkeaaDoor
open Go.ChangeShapes Go.WideShapes Go.ChangeAt Go.RowKit K Q10 U4
set_option linter.unusedVariables false

/-- Of an element's texts none is long. -/
def LimE (x : El) : Prop := x.id.length ≤ 1000000 ∧ x.ps.length ≤ 1000000000 ∧ ∀ p ∈ x.ps, p.n.length ≤ 10000 ∧ p.v.length ≤ 10000
theorem getD_mem {α : Type} {l : List α} {i : Nat} {d : α} (h : i < l.length) : l.getD i d ∈ l := by
  rw [List.getD_eq_getElem?_getD, List.getElem?_eq_getElem h]
  exact List.getElem_mem h
theorem takeD {α : Type} (l : List α) (p : Nat) (d : α) (h : p < l.length) : l.take (p + 1) = l.take p ++ [l.getD p d] := by
  rw [List.take_add_one, List.getElem?_eq_getElem h]
  simp [List.getD, List.getElem?_eq_getElem h]
theorem allP_step (l : List Pm) (i : Nat) (h : i < l.length) : (l.take (i + 1)).all pmOk = ((l.take i).all pmOk && pmOk (l.getD i nop)) := by
  rw [takeD l i nop h, List.all_append]; simp
theorem elOk_yes {x : El} (h1 : isN x.id = true) (h2 : x.ps.length ≤ 4096) (h : (x.ps.take x.ps.length).all pmOk = true) : elOk x = true := by
  rw [List.take_length] at h
  unfold elOk
  rw [h1, h]; simp [h2]
theorem elOk_no {x : El} {i : Nat} (h : i < x.ps.length) (hp : pmOk (x.ps.getD i nop) = false) : elOk x = false := by
  cases he : elOk x
  · rfl
  · exfalso
    unfold elOk at he
    simp only [Bool.and_eq_true, List.all_eq_true] at he
    have := he.2.2 _ (getD_mem (d := nop) h)
    rw [hp] at this; cases this
theorem chE_two (v : List UInt8) : chE v = 0 ∨ chE v = 40 := by
  rcases chE_cases v with ⟨h, _⟩ | ⟨h, _⟩
  · exact .inl h
  · exact .inr h
def EmRel (x : El) (po : Option Addr) (pc : Nat) (w : World) (g : Nat) (v3 : Value) (wr : World) : Prop :=
  ∃ i, i + g = x.ps.length ∧ (x.ps.take i).all pmOk = true ∧ v3 = .int .i64 (i : Nat) ∧ Eb 30 wr w.heap.size x.id (.slice po x.ps.length pc) ∧ Below w.heap.size w wr
end Go.Proofs.YtonippapkmmkeaaDoor
