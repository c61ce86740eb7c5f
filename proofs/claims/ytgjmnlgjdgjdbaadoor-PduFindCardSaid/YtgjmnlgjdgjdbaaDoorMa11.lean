/- Texts on the program and on the document, joined: ValA, Row, OidA, Ints. -/
import Derived.Test.YtgjmnlgjdgjdbaaDoorMa07
import Derived.Test.YtgjmnlgjdgjdbaaDoorMa10
import Derived.Test.YtgjmnlgjdgjdbaaDoorMa01
import Derived.Below
import Derived.Laws.OwnMore
import Derived.Laws.AppendOwn
import Derived.Deep.AppendLies
import Derived.Deep.Onto
import Derived.Test.YtgjmnlgjdgjdbaaDoorRows
import Derived.Test.YtgjmnlgjdgjdbaaDoorMa08
import Derived.ProofKit
import Derived.IntWalk
import Derived.Deep.LoopGhost
import Derived.BigQuiet
import Derived.Deep.QuietTactic
/- The document's Number and Unsigned, walked. -/
namespace Go.Proofs.YtgjmnlgjdgjdbaaDoor
open Go.ChangeShapes Go.WideShapes Go.ChangeAt Go.RowKit K P1 B5
set_option linter.unusedVariables false

theorem same_ways (s : List UInt8) : (same9 s = true ∧ ((((byt s 0 : Nat) : Int) == 0) = true ∧ byt s 1 < 128 ∨ (((byt s 0 : Nat) : Int) == 0) = false ∧ (((byt s 0 : Nat) : Int) == 255) = true ∧ 128 ≤ byt s 1)) ∨
    (same9 s = false ∧ ((((byt s 0 : Nat) : Int) == 0) = true ∧ (((byt s 0 : Nat) : Int) == 255) = false ∧ 128 ≤ byt s 1 ∨ (((byt s 0 : Nat) : Int) == 0) = false ∧ (((byt s 0 : Nat) : Int) == 255) = true ∧ byt s 1 < 128 ∨ (((byt s 0 : Nat) : Int) == 0) = false ∧ (((byt s 0 : Nat) : Int) == 255) = false)) := by
  have f0 : (((byt s 0 : Nat) : Int) == 0) = (byt s 0 == 0) := by rw [Bool.eq_iff_iff, beq_iff_eq, beq_iff_eq]; omega
  have f1 : (((byt s 0 : Nat) : Int) == 255) = (byt s 0 == 255) := by rw [Bool.eq_iff_iff, beq_iff_eq, beq_iff_eq]; omega
  rw [f0, f1]
  unfold same9
  by_cases c0 : byt s 0 = 0
  · rw [c0]
    by_cases c1 : byt s 1 < 128
    · left; simp [c1]
    · right; simp [c1]; omega
  · by_cases c2 : byt s 0 = 255
    · rw [c2]
      by_cases c1 : byt s 1 < 128
      · right; simp [c1]
      · left; simp; omega
    · right; simp [c0, c2]
theorem nu_no {l : List UInt8} (h : nOk l = false) : nuV l = 0 ∧ nuE l = 50 := by unfold nuV nuE; rw [h]; exact ⟨rfl, rfl⟩
theorem nu_yes {l : List UInt8} (h : nOk l = true) : nuV l = nv l ∧ nuE l = 0 := by unfold nuV nuE; rw [h]; exact ⟨rfl, rfl⟩
theorem uu_no {l : List UInt8} (h : uOk l = false) : uuV l = 0 ∧ uuE l = 50 := by unfold uuV uuE; rw [h]; exact ⟨rfl, rfl⟩
theorem uu_yes {l : List UInt8} (h : uOk l = true) : uuV l = uv l ∧ uuE l = 0 := by unfold uuV uuE; rw [h]; exact ⟨rfl, rfl⟩
theorem sh_ways {l : List UInt8} (h : isSh l = true) :
    (((l.length : Nat) : Int) ≤ 1 ∧ byt l 0 < 128) ∨ (((l.length : Nat) : Int) ≤ 1 ∧ 128 ≤ byt l 0) ∨
    ((1 : Int) < ((l.length : Nat) : Int) ∧ (((byt l 0 : Nat) : Int) == 0) = true ∧ (((byt l 0 : Nat) : Int) == 255) = false ∧ 128 ≤ byt l 1 ∧ byt l 0 < 128) ∨
    ((1 : Int) < ((l.length : Nat) : Int) ∧ (((byt l 0 : Nat) : Int) == 0) = false ∧ (((byt l 0 : Nat) : Int) == 255) = true ∧ byt l 1 < 128 ∧ 128 ≤ byt l 0) ∨
    ((1 : Int) < ((l.length : Nat) : Int) ∧ (((byt l 0 : Nat) : Int) == 0) = false ∧ (((byt l 0 : Nat) : Int) == 255) = false ∧ byt l 0 < 128) ∨
    ((1 : Int) < ((l.length : Nat) : Int) ∧ (((byt l 0 : Nat) : Int) == 0) = false ∧ (((byt l 0 : Nat) : Int) == 255) = false ∧ 128 ≤ byt l 0) := by
  have hl := (nOk_yes h).2
  by_cases h1 : l.length ≤ 1
  · by_cases hc : byt l 0 < 128
    · exact .inl ⟨by omega, hc⟩
    · exact .inr (.inl ⟨by omega, by omega⟩)
  · right; right
    rw [isSh_step (by omega)] at h
    have hs : same9 l = false := by simpa using h
    rcases same_ways l with ⟨a, _⟩ | ⟨_, c⟩
    · rw [hs] at a; cases a
    · rcases c with ⟨c0, c1, c2⟩ | ⟨c0, c1, c2⟩ | ⟨c0, c1⟩
      · exact .inl ⟨by omega, c0, c1, c2, by have := beq_iff_eq.1 c0; omega⟩
      · exact .inr (.inl ⟨by omega, c0, c1, c2, by have := beq_iff_eq.1 c1; omega⟩)
      · by_cases hc : byt l 0 < 128
        · exact .inr (.inr (.inl ⟨by omega, c0, c1, hc⟩))
        · exact .inr (.inr (.inr ⟨by omega, c0, c1, by omega⟩))
def UqRel (l : List UInt8) (vn vi : Value) : Prop := ∃ i : Nat, 1 ≤ i ∧ i ≤ 9 ∧ vn = .int .u64 (uvi l i : Nat) ∧ vi = .int .i64 i
/-- The one of nine bytes, and all others. -/
theorem u_ways (l : List UInt8) :
    (l.length = 9 ∧ (((l.length : Nat) : Int) == 9) = true ∧ (((byt l 0 : Nat) : Int) == 0) = true ∧ 128 ≤ byt l 1 ∧ uOk l = true ∧ uv l = (uvi l 9 : Nat) ∧ uvi l 1 = 0) ∨
    (uOk l = (nOk l && decide (0 ≤ nv l)) ∧ (nOk l = true → uv l = nv l ∧ nv l ≤ 9223372036854775807) ∧
      ((((l.length : Nat) : Int) == 9) = false ∨ (l.length = 9 ∧ (((l.length : Nat) : Int) == 9) = true ∧ (((byt l 0 : Nat) : Int) == 0) = false) ∨ (l.length = 9 ∧ (((l.length : Nat) : Int) == 9) = true ∧ (((byt l 0 : Nat) : Int) == 0) = true ∧ byt l 1 < 128))) := by
  have hnr : nOk l = true → uv l = nv l ∧ nv l ≤ 9223372036854775807 := by
    intro h
    refine ⟨?_, (V7.nv_bounds h).2⟩
    unfold nOk at h
    simp only [Bool.and_eq_true, decide_eq_true_eq] at h
    unfold uv; rw [if_neg (by omega)]
  by_cases h9 : l.length = 9
  · have q9 : (((l.length : Nat) : Int) == 9) = true := by rw [beq_iff_eq]; omega
    by_cases h0 : byt l 0 = 0
    · have q0 : (((byt l 0 : Nat) : Int) == 0) = true := by rw [beq_iff_eq]; omega
      by_cases h1 : byt l 1 < 128
      · exact .inr ⟨by unfold uOk; rw [h9, h0, decide_eq_false (by omega : ¬ 128 ≤ byt l 1)]; simp, hnr, .inr (.inr ⟨h9, q9, q0, h1⟩)⟩
      · left
        have hu : uOk l = true := by unfold uOk; rw [h9, h0, decide_eq_true (by omega : 128 ≤ byt l 1)]; rfl
        have hsh : isSh l = true := by
          rw [isSh_step (by omega)]; unfold same9; rw [h0, decide_eq_false h1]; rfl
        have hv : uv l = (uvi l 9 : Nat) := by
          rcases uOk_ways hsh with ⟨a, _⟩ | ⟨a, _⟩ | ⟨a, _⟩ | ⟨_, _, _, _, e⟩
          · rw [hu] at a; cases a
          · rw [hu] at a; cases a
          · rw [hu] at a; cases a
          · rw [e, h9]
        refine ⟨h9, q9, q0, by omega, hu, hv, ?_⟩
        have := uvi_step l 0 (by omega)
        rw [this, h0]
        simp [uvi, num]
    · exact .inr ⟨by unfold uOk; rw [show (byt l 0 == 0) = false by rw [beq_eq_false_iff_ne]; exact h0]; simp, hnr, .inr (.inl ⟨h9, q9, by rw [beq_eq_false_iff_ne]; omega⟩)⟩
  · exact .inr ⟨by unfold uOk; rw [show (l.length == 9) = false by rw [beq_eq_false_iff_ne]; exact h9]; rfl, hnr, .inl (by rw [beq_eq_false_iff_ne]; omega)⟩
end Go.Proofs.YtgjmnlgjdgjdbaaDoor
/- A list of numbers that a call made itself: its cells, and what keeps them. Of no program. -/
namespace Go.Proofs.YtgjmnlgjdgjdbaaDoor
open Go.RowKit
namespace K

/-- Numbers as cells. -/
def nums (cs : List Nat) : List Value := cs.map fun c => Value.int .i64 (c : Nat)
theorem nums_len (cs : List Nat) : (nums cs).length = cs.length := by simp [nums]
theorem nums_app (a b : List Nat) : nums (a ++ b) = nums a ++ nums b := by simp [nums]
theorem nums_get (cs : List Nat) (i : Nat) (h : i < cs.length) : (nums cs)[i]? = some (.int .i64 ((cs.getD i 0 : Nat) : Int)) := by
  simp [nums, List.getElem?_eq_getElem h, List.getD]
/-- A slice that the call made itself, behind block B, of these numbers; T is the type of its elements. -/
def OwnI (w : World) (B : Nat) (T : TypeId) (v : Value) (cs : List Nat) : Prop := w.ownsRow B T 1 v cs.length (nums cs)
theorem OwnI.nil (w : World) (B : Nat) (T : TypeId) : OwnI w B T (.slice none 0 0) [] := World.ownsRow_nil w B T 1
theorem OwnI.below {w w' : World} {B : Nat} {T : TypeId} {v : Value} {cs : List Nat} (h : OwnI w B T v cs) (k : Below w.heap.size w w') : OwnI w' B T v cs := by
  refine ⟨h.1, ?_⟩
  rcases h.2 with hn | ⟨g, cap, cur, h1, h2, h3, h4⟩
  · exact .inl hn
  · exact .inr ⟨g, cap, cur, h1, h2, (k.block g (lt_of_block h3)).trans h3, h4⟩
theorem OwnI.drewN {w : World} {B : Nat} {T : TypeId} {v : Value} {cs : List Nat} (h : OwnI w B T v cs) (n : Nat) : OwnI (w.drewN n) B T v cs := h
theorem OwnI.mono {w : World} {B B' : Nat} {T : TypeId} {v : Value} {cs : List Nat} (h : OwnI w B T v cs) (hb : B' ≤ B) : OwnI w B' T v cs := World.ownsRow.mono h hb
/-- Its shape: where it lies, and its cells. -/
theorem OwnI.form {w : World} {B : Nat} {T : TypeId} {v : Value} {cs : List Nat} (h : OwnI w B T v cs) :
    ∃ ao cap, v = .slice ao cs.length cap ∧ (cs.length = 0 ∨ ∃ g, ao = some ⟨g, 0, none⟩ ∧ B ≤ g ∧ g < w.heap.size ∧ ∀ i, i < cs.length → w.cell? ⟨g, i, none⟩ = some (.int .i64 ((cs.getD i 0 : Nat) : Int)) ∧ w.frozen? ⟨g, i, none⟩ = false) := by
  rcases h.2 with ⟨hv, h0⟩ | ⟨g, cap, cur, hv, hB, hh, hle, hm, hs, ht⟩
  · exact ⟨none, 0, by rw [hv, h0], .inl h0⟩
  · refine ⟨some ⟨g, 0, none⟩, cap, hv, .inr ⟨g, rfl, hB, lt_of_block hh, fun i hi => ⟨?_, freeRow hh i⟩⟩⟩
    rw [cellRow hh, ← Array.getElem?_toList]
    have h1 := congrArg (fun x : List Value => x[i]?) ht
    simp only [Nat.mul_one] at h1
    rw [List.getElem?_take_of_lt hi, nums_get cs i hi] at h1
    exact h1
/-- One more number. -/
theorem OwnI.put {w : World} {B : Nat} {T : TypeId} {v : Value} {cs : List Nat} {c : Nat} (h : w.ownsRow B T 1 v (cs.length + 1) (nums cs ++ [.int .i64 (c : Nat)])) : OwnI w B T v (cs ++ [c]) := by
  unfold OwnI
  rw [List.length_append, nums_app]
  exact h
theorem info_of {P : Program} {T : TypeId} {z : Value} {s b : Nat} (h : (P.info? T).map (fun i => (i.zero, i.size, i.bytes)) = some (some z, s, b)) : ∃ i, P.info? T = some i ∧ i.zero = some z ∧ i.size = s ∧ i.bytes = b := by
  obtain ⟨i, h1, h2⟩ := Option.map_eq_some_iff.1 h
  simp only [Prod.mk.injEq] at h2
  exact ⟨i, h1, h2.1, h2.2.1, h2.2.2⟩
/-- Two lists of as many members, that are the same each, are the same. -/
theorem same_of {a b : List Nat} (hl : a.length = b.length) (h : ∀ i, i < a.length → a.getD i 0 = b.getD i 0) : a = b := by
  apply List.ext_getElem hl
  intro i h1 h2
  have := h i h1
  simpa [List.getD, List.getElem?_eq_getElem h1, List.getElem?_eq_getElem h2] using this
end K
end Go.Proofs.YtgjmnlgjdgjdbaaDoor
/- The document's own numbers and texts of arcs, walked. -/
namespace Go.Proofs.YtgjmnlgjdgjdbaaDoor
open Go.ChangeShapes Go.WideShapes Go.ChangeAt Go.RowKit K O6
set_option linter.unusedVariables false

/-- The state of Number's loop: what is left, and the digits that stand. -/
def NuRel (w : World) (n g : Nat) (v0 v3 : Value) (wr : World) : Prop :=
  ∃ m tl, v0 = .int .i64 (m : Nat) ∧ m < 10 ^ (g + 1) ∧ m ≤ 9223372036854775807 ∧ v3 = .string (bs (b8 (48 + m % 10) :: tl)) ∧ dg (g + 1) m ++ tl = nm n ∧ g + tl.length ≤ 19 ∧ Below w.heap.size w wr
/-- A slice that reads as these numbers. -/
def RdZ (w : World) (ao : Option Addr) (n : Nat) (f : Nat → Int) : Prop :=
  n = 0 ∨ ∃ b off, ao = some ⟨b, off, none⟩ ∧ b < w.heap.size ∧ ∀ i, i < n → w.cell? ⟨b, off + i, none⟩ = some (.int .i64 (f i))
theorem RdZ.below {w w' : World} {ao : Option Addr} {n : Nat} {f : Nat → Int} (h : RdZ w ao n f) (k : Below w.heap.size w w') : RdZ w' ao n f := by
  rcases h with h0 | ⟨b, off, ha, hb, hc⟩
  · exact .inl h0
  · exact .inr ⟨b, off, ha, Nat.lt_of_lt_of_le hb k.size, fun i hi => (k.cell (p := ⟨b, off + i, none⟩) hb).trans (hc i hi)⟩
def inR (x : Int) : Bool := decide (0 ≤ x) && decide (x ≤ 4294967295)
def isZ (n : Nat) (f : Nat → Int) : Bool :=
  decide (2 ≤ n) && (decide (n ≤ 128) && ((List.range n).all (fun i => inR (f i)) && ((decide (f 0 < 2) && decide (f 1 ≤ 39)) || (f 0 == 2 && decide (f 1 ≤ 4294967215)))))
def IsRel (n : Nat) (f : Nat → Int) (w : World) (g : Nat) (v3 : Value) (wr : World) : Prop :=
  ∃ i, i + g = n ∧ v3 = .int .i64 (i : Nat) ∧ (∀ j, j < i → inR (f j) = true) ∧ wr = w
theorem isZ_no {n : Nat} {f : Nat → Int} {i : Nat} (hi : i < n) (h : inR (f i) = false) : isZ n f = false := by
  have : (List.range n).all (fun i => inR (f i)) = false := by
    rw [List.all_eq_false]
    exact ⟨i, List.mem_range.2 hi, by rw [h]; simp⟩
  unfold isZ; rw [this, Bool.false_and, Bool.and_false, Bool.and_false]
/-- A list of numbers, read so. -/
def fz (cs : List Nat) (i : Nat) : Int := ((cs.getD i 0 : Nat) : Int)
theorem put_snoc (cs : List Nat) (i : Nat) (hi : i < cs.length) (h0 : 0 < i) : put (cs.take (i + 1)) = put (cs.take i) ++ [46] ++ nm (cs.getD i 0) := by
  have hne : cs.take i ≠ [] := by
    intro e
    have := congrArg List.length e
    rw [List.length_take, List.length_nil] at this
    omega
  rw [List.take_succ_eq_append_getElem hi, put_app _ _ [] hne]
  show _ ++ (46 :: nm cs[i]) = _
  simp [List.getD, List.getElem?_eq_getElem hi]
theorem put_first (cs : List Nat) (hi : 0 < cs.length) : put (cs.take 1) = nm (cs.getD 0 0) := by
  cases cs with
  | nil => simp at hi
  | cons a r => rfl
def PuRel (cs : List Nat) (w : World) (g : Nat) (v3 v4 : Value) (wr : World) : Prop :=
  ∃ i, i + g = cs.length ∧ v4 = .int .i64 (i : Nat) ∧ v3 = .string (bs (put (cs.take i))) ∧ (put (cs.take i)).length ≤ 11 * i ∧ Below w.heap.size w wr
end Go.Proofs.YtgjmnlgjdgjdbaaDoor
/- gongbook: SameInts and SpoilInts at lists that the call made itself. -/
namespace Go.Proofs.YtgjmnlgjdgjdbaaDoor
open Go.ChangeShapes Go.WideShapes Go.ChangeAt Go.RowKit K
set_option linter.unusedVariables false

/-- A slice that reads as these numbers. -/
def RdI (w : World) (v : Value) (cs : List Nat) : Prop :=
  ∃ ao cap, v = .slice ao cs.length cap ∧ (cs.length = 0 ∨ ∃ g, ao = some ⟨g, 0, none⟩ ∧ g < w.heap.size ∧ ∀ i, i < cs.length → w.cell? ⟨g, i, none⟩ = some (.int .i64 ((cs.getD i 0 : Nat) : Int)))
theorem RdI.of {w : World} {B : Nat} {T : TypeId} {v : Value} {cs : List Nat} (h : OwnI w B T v cs) : RdI w v cs := by
  obtain ⟨ao, cap, hv, hc⟩ := h.form
  refine ⟨ao, cap, hv, ?_⟩
  rcases hc with h0 | ⟨g, ha, _, hg, hcell⟩
  · exact .inl h0
  · exact .inr ⟨g, ha, hg, fun i hi => (hcell i hi).1⟩
theorem RdI.below {w w' : World} {v : Value} {cs : List Nat} (h : RdI w v cs) (k : Below w.heap.size w w') : RdI w' v cs := by
  obtain ⟨ao, cap, hv, hc⟩ := h
  refine ⟨ao, cap, hv, ?_⟩
  rcases hc with h0 | ⟨g, ha, hg, hcell⟩
  · exact .inl h0
  · exact .inr ⟨g, ha, Nat.lt_of_lt_of_le hg k.size, fun i hi => (k.cell (p := ⟨g, i, none⟩) hg).trans (hcell i hi)⟩
def SmRel (w : World) (n g : Nat) (v5 v6 : Value) (wr : World) : Prop :=
  ∃ i, i + g = n ∧ v5 = .bool true ∧ v6 = .int .i64 (i : Nat) ∧ ∃ m, wr = w.drewN m
/-- A block of its own, behind B, that has so many cells. -/
def Room (w : World) (B : Nat) (T : TypeId) (ao : Option Addr) (n : Nat) : Prop := n = 0 ∨ ∃ g C, ao = some ⟨g, 0, none⟩ ∧ B ≤ g ∧ w.heap[g]? = some (.cells C T (0, 0)) ∧ n ≤ C.size
theorem Room.of {w : World} {B : Nat} {T : TypeId} {v : Value} {cs : List Nat} (h : OwnI w B T v cs) : ∃ ao cap, v = .slice ao cs.length cap ∧ Room w B T ao cs.length := by
  rcases h.2 with ⟨hv, h0⟩ | ⟨g, cap, cur, hv, hB, hh, hle, hm, hs, ht⟩
  · exact ⟨none, 0, by rw [hv, h0], .inl h0⟩
  · exact ⟨some ⟨g, 0, none⟩, cap, hv, .inr ⟨g, cur, rfl, hB, hh, by omega⟩⟩
def SpRel (w : World) (B : Nat) (T : TypeId) (ao : Option Addr) (n g : Nat) (v2 : Value) (wr : World) : Prop :=
  ∃ i, i + g = n ∧ v2 = .int .i64 (i : Nat) ∧ Room wr B T ao n ∧ Below B w wr
end Go.Proofs.YtgjmnlgjdgjdbaaDoor
