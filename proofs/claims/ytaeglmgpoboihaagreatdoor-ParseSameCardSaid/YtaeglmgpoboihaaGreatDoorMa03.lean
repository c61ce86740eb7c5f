/- Texts on the program and on the document, joined: ParP, LexA, Row, Byl, LexB, LexC. -/
import Derived.Test.YtaeglmgpoboihaaGreatDoorMa01
import Derived.Test.YtaeglmgpoboihaaGreatDoorMa02
import Derived.Test.YtaeglmgpoboihaaGreatDoorRows
import Derived.WalkKit
import Derived.ProofKit
import Derived.OpenShut
import Derived.ShutString
import Derived.Deep.LoopGhost
import Derived.Below
import Derived.Laws.OwnMore
import Derived.Laws.AppendOwn
import Derived.Deep.AppendLies
import Derived.Deep.Onto
import Derived.Lib.ConvBytes
import Derived.Deep.QuietTactic
import Derived.Deep.RegionWith
/- Books of rules, plainly: what a list of tokens is read as, clause by clause. Of no program. -/
namespace Go.Proofs.YtaeglmgpoboihaaGreatDoor
open K
set_option linter.unusedVariables false
namespace L15
open L14 (Tk)
open S3
structure Pr where
  n : List UInt8
  v : List UInt8
deriving DecidableEq
structure Pc where
  k : Int
  t : List UInt8
  b : List UInt8
deriving DecidableEq
structure Ts where
  f : List UInt8
  g : List UInt8
  n : Bool
deriving DecidableEq
structure St where
  n : List UInt8
  ps : List Pc
deriving DecidableEq
structure Tb where
  n : List UInt8
  l : Int
  ks : List Pr
  e : List UInt8
deriving DecidableEq
structure Ru where
  n : List UInt8
  l : Int
  fr : Int
  oid : List UInt8
  wi : Bool
  ts : List Ts
  ss : List St
  dr : Bool
deriving DecidableEq
structure Wt where
  n : List UInt8
  l : Int
  k : Int
  cl : List UInt8
  ot : List UInt8
  ct : Int
  wn : Int
  ra : List UInt8
  lv : Int
  tx : List UInt8
deriving DecidableEq
structure Bk where
  tb : List Tb
  ru : List Ru
  wt : List Wt
deriving DecidableEq
/-- Where a reader stands; the line where it is wrong, if it is. -/
structure Pi where
  p : Nat
  bad : Option Nat
deriving DecidableEq
def noTk : Tk := ⟨0, [], 0⟩
section
variable (T : List Tk) (last : Nat)
def cur (s : Pi) : Option Tk := match s.bad with | none => T[s.p]? | some _ => none
def at_ (s : Pi) (k : Nat) (t : List UInt8) : Bool := match cur T s with | some x => (x.k == k && (t.isEmpty || x.t == t)) | none => false
def fail (s : Pi) : Pi := match s.bad with | some _ => s | none => ⟨s.p, some (match T[s.p]? with | some x => x.l | none => last)⟩
def nx (s : Pi) : Pi := ⟨s.p + 1, s.bad⟩
def txt (s : Pi) : List UInt8 := (T.getD s.p noTk).t
def take (k : Nat) (t : List UInt8) (s : Pi) : List UInt8 × Pi := if at_ T s k t then (txt T s, nx s) else ([], fail T last s)
def word (t : List UInt8) (s : Pi) : Bool × Pi := if at_ T s 1 t then (true, nx s) else (false, s)
def sign (t : List UInt8) (s : Pi) : Pi := (take T last 5 t s).2
def text (s : Pi) : List UInt8 × Pi := take T last 4 [] s
def numOk (x : List UInt8) : Bool := decide (0 ≤ numI x) && (decide (x.length ≤ 6) && (decide (x = [48]) || decide (byt x 0 ≠ 48)))
def number (s : Pi) : Int × Pi := if at_ T s 2 [] && numOk (txt T s) then (numI (txt T s), nx s) else (0, fail T last s)
def span (s : Pi) : Int × Pi := if at_ T s 2 [] && decide (spC (txt T s) = 0) then (spV (txt T s), nx s) else (0, fail T last s)
def keys : Nat → Pi → List Pr × Pi
  | 0, s => ([], s)
  | f + 1, s => if at_ T s 4 [] then
      (⟨(text T last s).1, (text T last (sign T last [61] (text T last s).2)).1⟩ :: (keys f (sign T last [59] (text T last (sign T last [61] (text T last s).2)).2)).1,
        (keys f (sign T last [59] (text T last (sign T last [61] (text T last s).2)).2)).2)
    else ([], s)
def wElse : List UInt8 := [101, 108, 115, 101]
def els (s : Pi) : List UInt8 × Pi := if (word T wElse s).1 then ((text T last (word T wElse s).2).1, sign T last [59] (text T last (word T wElse s).2).2) else ([], s)
def table (line : Int) (s : Pi) : Tb × Pi :=
  let n := take T last 1 [] s
  let k := keys T last (T.length + 1) (sign T last [123] n.2)
  let e := els T last k.2
  (⟨n.1, line, k.1, e.1⟩, sign T last [125] e.2)
def piece (s : Pi) : Pc × Pi :=
  if at_ T s 4 [] then (⟨1, (text T last s).1, []⟩, (text T last s).2)
  else if at_ T s 3 [] then (⟨2, (take T last 3 [] s).1, []⟩, (take T last 3 [] s).2)
  else
    let t := take T last 1 [] s
    let f := take T last 3 [] (sign T last [40] t.2)
    (⟨3, f.1, t.1⟩, sign T last [41] f.2)
def pieces : Nat → Pi → List Pc × Pi
  | 0, s => ([], s)
  | f + 1, s => if at_ T s 5 [43] then
      ((piece T last (sign T last [43] s)).1 :: (pieces f (piece T last (sign T last [43] s)).2).1, (pieces f (piece T last (sign T last [43] s)).2).2)
    else ([], s)
def set (s : Pi) : St × Pi :=
  let n := take T last 1 [] s
  let x := piece T last (sign T last [61] n.2)
  let r := pieces T last (T.length + 1) x.2
  (⟨n.1, x.1 :: r.1⟩, sign T last [59] r.2)
def wUnlike : List UInt8 := [117, 110, 108, 105, 107, 101]
def wLike : List UInt8 := [108, 105, 107, 101]
def liked (s : Pi) : Pi := if (word T wUnlike s).1 then (word T wUnlike s).2 else if (word T wLike s).1 then (word T wLike s).2 else fail T last s
def test (s : Pi) : Ts × Pi :=
  let n := take T last 3 [] s
  let g := text T last (liked T last n.2)
  (⟨n.1, g.1, at_ T n.2 1 wUnlike⟩, sign T last [59] g.2)
def wLog : List UInt8 := [108, 111, 103]
def wTrap : List UInt8 := [116, 114, 97, 112]
def wWithin : List UInt8 := [119, 105, 116, 104, 105, 110]
def wIs : List UInt8 := [105, 115]
def trapped (s : Pi) : Pi := if (word T wTrap s).1 then (word T wTrap s).2 else fail T last s
def how (s : Pi) : Bool × Pi := if (word T wWithin s).1 then (true, (word T wWithin s).2) else word T wIs s
def oid (s : Pi) : List UInt8 × Pi := if (how T s).1 then take T last 2 [] (how T s).2 else ([], (how T s).2)
/-- Where a rule's messages come from: from, the identifier, within; and where it stands then. -/
def from_ (s : Pi) : Int × List UInt8 × Bool × Pi :=
  if (word T wLog s).1 then (2, [], false, (word T wLog s).2)
  else (1, (oid T last (trapped T last s)).1, at_ T (trapped T last s) 1 wWithin, (oid T last (trapped T last s)).2)
def wTest : List UInt8 := [116, 101, 115, 116]
def wSet : List UInt8 := [115, 101, 116]
def wDrop : List UInt8 := [100, 114, 111, 112]
/-- A rule's clauses. -/
def goOn (s : Pi) : Bool := s.bad.isNone && !at_ T s 5 [125]
def clauses : Nat → List Ts → List St → Bool → Pi → List Ts × List St × Bool × Pi
  | 0, ts, ss, d, s => (ts, ss, d, s)
  | f + 1, ts, ss, d, s => if goOn T s then
      if (word T wTest s).1 then clauses f (ts ++ [(test T last (nx s)).1]) ss d (test T last (nx s)).2
      else if (word T wSet s).1 then clauses f ts (ss ++ [(set T last (nx s)).1]) d (set T last (nx s)).2
      else if !d && (word T wDrop s).1 then clauses f ts ss true (sign T last [59] (nx s))
      else clauses f ts ss d (fail T last s)
    else (ts, ss, d, s)
def rule (line : Int) (s : Pi) : Ru × Pi :=
  let n := take T last 1 [] s
  let r := from_ T last n.2
  let c := clauses T last (T.length + 2) [] [] false (sign T last [123] r.2.2.2)
  (⟨n.1, line, r.1, r.2.1, r.2.2.1, c.1, c.2.1, c.2.2.1⟩, sign T last [125] c.2.2.2)
def wKinds : List (List UInt8) := [[112, 97, 105, 114], [115, 117, 112, 112, 114, 101, 115, 115], [116, 104, 114, 101, 115, 104, 111, 108, 100], [97, 98, 115, 101, 110, 99, 101]]
/-- A watch's kind: the first of these words that stands here, from i on. -/
def kindF : List (List UInt8) → Nat → Pi → Int × Pi
  | [], _, s => (0, fail T last s)
  | x :: r, i, s => if (word T x s).1 then ((i : Nat) + 1, nx s) else kindF r (i + 1) s
def kind (s : Pi) : Int × Pi := kindF T last wKinds 0 s
def wClauses : List (List UInt8) := [[99, 108, 97, 115, 115], [111, 116, 104, 101, 114], [99, 111, 117, 110, 116], [119, 105, 110, 100, 111, 119], [114, 97, 105, 115, 101]]
/-- A clause's word: which of them stands here; one that was there already is wrong. -/
def again (seen : List Nat) (x : List UInt8) (i : Nat) (s : Pi) : Pi := if seen.contains i && at_ T s 1 x then fail T last s else s
def which (seen : List Nat) : List (List UInt8) → Nat → Option Nat → Pi → Option Nat × Pi
  | [], _, a, s => (a, s)
  | x :: r, i, a, s =>
    if a.isNone && (word T x (again T last seen x i s)).1 then which seen r (i + 1) (some i) (nx (again T last seen x i s))
    else which seen r (i + 1) a (again T last seen x i s)
def clause (w : Wt) (seen : List Nat) (s : Pi) : Wt × List Nat × Pi :=
  match which T last seen wClauses 0 none s with
  | (none, a) => (w, seen, fail T last a)
  | (some i, a) =>
    if i = 0 then ({ w with cl := (text T last a).1 }, seen ++ [i], sign T last [59] (text T last a).2)
    else if i = 1 then ({ w with ot := (text T last a).1 }, seen ++ [i], sign T last [59] (text T last a).2)
    else if i = 2 then ({ w with ct := (number T last a).1 }, seen ++ [i], sign T last [59] (number T last a).2)
    else if i = 3 then ({ w with wn := (span T last a).1 }, seen ++ [i], sign T last [59] (span T last a).2)
    else ({ w with ra := (text T last a).1, lv := (number T last (text T last a).2).1, tx := (text T last (number T last (text T last a).2).2).1 }, seen ++ [i], sign T last [59] (text T last (number T last (text T last a).2).2).2)
def watches : Nat → Wt → List Nat → Pi → Wt × Pi
  | 0, w, _, s => (w, s)
  | f + 1, w, seen, s => if goOn T s then watches f (clause T last w seen s).1 (clause T last w seen s).2.1 (clause T last w seen s).2.2 else (w, s)
def watch (line : Int) (s : Pi) : Wt × Pi :=
  let n := take T last 1 [] s
  let k := kind T last n.2
  let c := watches T last (T.length + 2) ⟨n.1, line, k.1, [], [], 0, 0, [], 0, []⟩ [] (sign T last [123] k.2)
  (c.1, sign T last [125] c.2)
def wTable : List UInt8 := [116, 97, 98, 108, 101]
def wRule : List UInt8 := [114, 117, 108, 101]
def wWatch : List UInt8 := [119, 97, 116, 99, 104]
def more (s : Pi) : Bool := s.bad.isNone && decide (s.p < T.length)
def lineAt (s : Pi) : Nat := (T.getD s.p noTk).l
def books : Nat → Bk → Pi → Bk × Pi
  | 0, b, s => (b, s)
  | f + 1, b, s => if more T s then
      if (word T wTable s).1 then books f { b with tb := b.tb ++ [(table T last (lineAt T s : Nat) (nx s)).1] } (table T last (lineAt T s : Nat) (nx s)).2
      else if (word T wRule s).1 then books f { b with ru := b.ru ++ [(rule T last (lineAt T s : Nat) (nx s)).1] } (rule T last (lineAt T s : Nat) (nx s)).2
      else if (word T wWatch s).1 then books f { b with wt := b.wt ++ [(watch T last (lineAt T s : Nat) (nx s)).1] } (watch T last (lineAt T s : Nat) (nx s)).2
      else books f b (fail T last s)
    else (b, s)
end
def lastL (T : List Tk) : Nat := (T.getLast?.map (·.l)).getD 0
def noBk : Bk := ⟨[], [], []⟩
/-- What a list of tokens is: the book, or the line where it is wrong. -/
def parseT (T : List Tk) : Bk × Option Nat := ((books T (lastL T) (T.length + 2) noBk ⟨0, none⟩).1, (books T (lastL T) (T.length + 2) noBk ⟨0, none⟩).2.bad)
end L15
end Go.Proofs.YtaeglmgpoboihaaGreatDoor
/- The document's Letter, Digit, goesOn, run, IsSign, nibble, walked. gen_lexa.py writes it. -/
namespace Go.Proofs.YtaeglmgpoboihaaGreatDoor
open Go.ChangeShapes Go.WideShapes Go.ChangeAt Go.RowKit K L14
set_option linter.unusedVariables false

/-- The bytes that are told by name. -/
def nmN (k n : Nat) : Bool := if k = 1 then n == 95 || n == 45 else if k = 2 then n == 46 else n == 46 || n == 95 || n == 45 || n == 35 || n == 64
theorem go_nm (k n : Nat) : goN k n = (ltN n || dgN n || nmN k n) := rfl
theorem run_at (k : Nat) : ∀ (s : List UInt8) (i : Nat), i ≤ run k s → (i < s.length → goN k (byt s i) = decide (i < run k s)) ∧ (i = s.length → run k s = s.length)
  | [], i, h => ⟨fun hi => by simp at hi, fun _ => rfl⟩
  | c :: t, 0, h => by
    refine ⟨fun _ => ?_, fun hi => by simp at hi⟩
    show goN k c.toNat = _
    by_cases hc : goN k c.toNat = true
    · simp only [run, if_pos hc]; rw [hc]; simp
    · rw [Bool.not_eq_true] at hc
      simp [run, hc]
  | c :: t, i + 1, h => by
    by_cases hc : goN k c.toNat = true
    · have ih := run_at k t i (by simp only [run, if_pos hc] at h; omega)
      refine ⟨fun hi => ?_, fun hi => ?_⟩
      · have := ih.1 (by simpa using hi)
        simp only [run, if_pos hc]
        rw [show byt (c :: t) (i + 1) = byt t i from rfl, this, decide_eq_decide]; omega
      · have := ih.2 (by simpa using hi)
        simp only [run, if_pos hc, List.length_cons, this]
    · simp only [run, if_neg hc] at h; omega
/-- What nibble answers. -/
def nbV (n : Nat) : Int := match nib n with | some a => (a : Nat) | none => -1
end Go.Proofs.YtaeglmgpoboihaaGreatDoor
/- A list of numbers that a call made itself: its cells, and what keeps them. Of no program. -/
namespace Go.Proofs.YtaeglmgpoboihaaGreatDoor
open Go.RowKit
namespace K

/-- Numbers as cells. -/
def nums (cs : List Nat) : List Value := cs.map fun c => Value.int .i64 (c : Nat)
theorem nums_len (cs : List Nat) : (nums cs).length = cs.length := by simp [nums]
theorem nums_app (a b : List Nat) : nums (a ++ b) = nums a ++ nums b := by simp [nums]
theorem nums_get (cs : List Nat) (i : Nat) (h : i < cs.length) : (nums cs)[i]? = some (.int .i64 ((cs.getD i 0 : Nat) : Int)) := by
  simp [nums, List.getElem?_eq_getElem h, List.getD]
/-- A slice that the call made itself, behind block B, of these numbers; T is the type of its elements. -/
def OwnI (w : World) (B : Nat) (T : TypeId) (v : Value) (cs : List Nat) : Prop := w.ownsRow B T 1 v cs.length (nums cs)
theorem OwnI.nil (w : World) (B : Nat) (T : TypeId) : OwnI w B T (.slice none 0 0) [] := World.ownsRow_nil w B T 1
theorem OwnI.below {w w' : World} {B : Nat} {T : TypeId} {v : Value} {cs : List Nat} (h : OwnI w B T v cs) (k : Below w.heap.size w w') : OwnI w' B T v cs := by
  refine ⟨h.1, ?_⟩
  rcases h.2 with hn | ⟨g, cap, cur, h1, h2, h3, h4⟩
  · exact .inl hn
  · exact .inr ⟨g, cap, cur, h1, h2, (k.block g (lt_of_block h3)).trans h3, h4⟩
theorem OwnI.drewN {w : World} {B : Nat} {T : TypeId} {v : Value} {cs : List Nat} (h : OwnI w B T v cs) (n : Nat) : OwnI (w.drewN n) B T v cs := h
theorem OwnI.mono {w : World} {B B' : Nat} {T : TypeId} {v : Value} {cs : List Nat} (h : OwnI w B T v cs) (hb : B' ≤ B) : OwnI w B' T v cs := World.ownsRow.mono h hb
/-- Its shape: where it lies, and its cells. -/
theorem OwnI.form {w : World} {B : Nat} {T : TypeId} {v : Value} {cs : List Nat} (h : OwnI w B T v cs) :
    ∃ ao cap, v = .slice ao cs.length cap ∧ (cs.length = 0 ∨ ∃ g, ao = some ⟨g, 0, none⟩ ∧ B ≤ g ∧ g < w.heap.size ∧ ∀ i, i < cs.length → w.cell? ⟨g, i, none⟩ = some (.int .i64 ((cs.getD i 0 : Nat) : Int)) ∧ w.frozen? ⟨g, i, none⟩ = false) := by
  rcases h.2 with ⟨hv, h0⟩ | ⟨g, cap, cur, hv, hB, hh, hle, hm, hs, ht⟩
  · exact ⟨none, 0, by rw [hv, h0], .inl h0⟩
  · refine ⟨some ⟨g, 0, none⟩, cap, hv, .inr ⟨g, rfl, hB, lt_of_block hh, fun i hi => ⟨?_, freeRow hh i⟩⟩⟩
    rw [cellRow hh, ← Array.getElem?_toList]
    have h1 := congrArg (fun x : List Value => x[i]?) ht
    simp only [Nat.mul_one] at h1
    rw [List.getElem?_take_of_lt hi, nums_get cs i hi] at h1
    exact h1
/-- One more number. -/
theorem OwnI.put {w : World} {B : Nat} {T : TypeId} {v : Value} {cs : List Nat} {c : Nat} (h : w.ownsRow B T 1 v (cs.length + 1) (nums cs ++ [.int .i64 (c : Nat)])) : OwnI w B T v (cs ++ [c]) := by
  unfold OwnI
  rw [List.length_append, nums_app]
  exact h
theorem info_of {P : Program} {T : TypeId} {z : Value} {s b : Nat} (h : (P.info? T).map (fun i => (i.zero, i.size, i.bytes)) = some (some z, s, b)) : ∃ i, P.info? T = some i ∧ i.zero = some z ∧ i.size = s ∧ i.bytes = b := by
  obtain ⟨i, h1, h2⟩ := Option.map_eq_some_iff.1 h
  simp only [Prod.mk.injEq] at h2
  exact ⟨i, h1, h2.1, h2.2.1, h2.2.2⟩
/-- Two lists of as many members, that are the same each, are the same. -/
theorem same_of {a b : List Nat} (hl : a.length = b.length) (h : ∀ i, i < a.length → a.getD i 0 = b.getD i 0) : a = b := by
  apply List.ext_getElem hl
  intro i h1 h2
  have := h i h1
  simpa [List.getD, List.getElem?_eq_getElem h1, List.getElem?_eq_getElem h2] using this
end K
end Go.Proofs.YtaeglmgpoboihaaGreatDoor
/- Lists of bytes that a call makes itself: appended to, and told as a text. -/
namespace Go.Proofs.YtaeglmgpoboihaaGreatDoor
open Go.ChangeShapes Go.WideShapes Go.ChangeAt Go.RowKit K
set_option linter.unusedVariables false

def byts (l : List UInt8) : List Value := l.map fun b => Value.int .u8 (b.toNat : Nat)
theorem byts_len (l : List UInt8) : (byts l).length = l.length := by simp [byts]
theorem byts_app (a b : List UInt8) : byts (a ++ b) = byts a ++ byts b := by simp [byts]
theorem byts_get (l : List UInt8) (i : Nat) (h : i < l.length) : (byts l)[i]? = some (.int .u8 (byt l i : Nat)) := by
  simp [byts, byt, List.getElem?_eq_getElem h]
def OwnY (w : World) (B : Nat) (v : Value) (l : List UInt8) : Prop := w.ownsRow B 5 1 v l.length (byts l)
theorem OwnY.nil (w : World) (B : Nat) : OwnY w B (.slice none 0 0) [] := World.ownsRow_nil w B _ _
theorem OwnY.below {w w' : World} {B : Nat} {v : Value} {l : List UInt8} (h : OwnY w B v l) (k : Below w.heap.size w w') : OwnY w' B v l := by
  refine ⟨h.1, ?_⟩
  rcases h.2 with hn | ⟨g, cap, cur, h1, h2, h3, h4⟩
  · exact .inl hn
  · exact .inr ⟨g, cap, cur, h1, h2, (k.block g (lt_of_block h3)).trans h3, h4⟩
set_option maxRecDepth 100000 in
theorem OwnY.conv {w : World} {B : Nat} {v : Value} {l : List UInt8} (h : OwnY w B v l) : (convert 119 9 v).run Tryz.prog w = .ok (.string (bs l)) w := by
  rcases h.2 with ⟨hv, h0⟩ | ⟨g, cap, cur, hv, hB, hh, hle, hm, hs, ht⟩
  · have : l = [] := List.length_eq_zero_iff.1 h0
    subst this
    rw [hv]
    go_simp
    rfl
  · rw [hv, run_convert_bytes_arg (P := Tryz.prog) w 119 5 Tryz.underlying119 Tryz.underlying5 g 0 l.length cap (l.map (fun b => (b.toNat : Int))) (by simp) _ 9 Tryz.underlying9, strOf_bs]
    intro i hi
    rw [Nat.zero_add, cellRow hh, ← Array.getElem?_toList]
    have h1 := congrArg (fun x : List Value => x[i]?) ht
    simp only [Nat.mul_one] at h1
    rw [List.getElem?_take_of_lt hi, byts_get l i hi] at h1
    rw [h1]
    simp [byt, List.getD, hi]
set_option maxRecDepth 100000 in
theorem yinfo : (Tryz.prog.info? 5).map (fun i => (i.zero, i.size, i.bytes)) = some (some (.int .u8 0), 1, 1) := by kernel_rfl
set_option maxRecDepth 100000 in
/-- Some bytes more. -/
theorem appY {ops : Array Oper} {rest : List Oper} {o : Oper} {a : Act} {Q : Exit → Act → World → Prop} {W : World} (hgd : o.guard = none) {s x : Operand} (ho : o.op = .call { callee := .builtin .append, args := #[s, x], argTypes := #[119, 119] })
    {B : Nat} {v : Value} {l ys : List UInt8} {cs : Array Value} (hs : a.eval s = v) (hO : OwnY W B v l) {m : Nat} (hx : a.eval x = .slice (some ⟨W.heap.size, 0, none⟩) m m) (hcs : cs.toList = byts ys) (hm : m = ys.length) (hn : l.length + ys.length ≤ 100000000) (hB : B ≤ W.heap.size)
    (h : ∀ v' w', OwnY w' B v' (l ++ ys) → (∀ y, Below B y W → Below B y w') → wpList Tryz.prog ops Q rest (a.put o.dst v') w') : wpList Tryz.prog ops Q (o :: rest) a (W.alloc (.cells cs 5)) := by
  obtain ⟨i0, hi, hz0, hz1, hz2⟩ := info_of yinfo
  subst hm
  have hC := rowNew W (.cells cs 5)
  have hsz : (W.alloc (.cells cs 5)).heap.size = W.heap.size + 1 := by simp
  refine wpList_append_own _ hgd s x 119 ho B 5 i0 (.int .u8 0) 1 1 Tryz.underlying119 hi hz0 hz1 hz2 rfl (by decide) v l.length (byts l) hs (World.ownsRow.alloc hO _) ⟨W.heap.size, 0, none⟩ ys.length ys.length (byts ys) hx (by rw [byts_len, Nat.mul_one]) ?_ ?_ (by unfold maxLen; omega) (by omega) (by rw [hsz]; omega) ?_
  · intro j u hj
    have hc := cellRow hC j
    have ha : (⟨W.heap.size, 0, none⟩ : Addr).add j = ⟨W.heap.size, j, none⟩ := by
      by_cases h : j = 0
      · subst h; simp [Addr.add]
      · simp [Addr.add, h]
    rw [ha, hc, ← Array.getElem?_toList, hcs]
    exact hj
  · intro u hu
    obtain ⟨b, _, rfl⟩ := List.mem_map.1 hu
    rfl
  · intro v' w' hown hg _
    refine h v' w' ?_ fun y b => ?_
    · unfold OwnY
      rw [List.length_append, byts_app]
      exact hown
    · exact (b.alloc hB _).grown hg (by rw [hsz]; omega) (fun k hk => (World.ownsRow.lt hO k hk).1)
end Go.Proofs.YtaeglmgpoboihaaGreatDoor
/- The document's escaped and text, walked. -/
namespace Go.Proofs.YtaeglmgpoboihaaGreatDoor
open Go.ChangeShapes Go.WideShapes Go.ChangeAt Go.RowKit K L14
set_option linter.unusedVariables false

/-- What escaped answers. -/
def escB (s : List UInt8) : Int := match esc s with | some (b, _) => (b.toNat : Nat) | none => 0
def escN (s : List UInt8) : Nat := match esc s with | some (_, n) => n | none => 0
theorem nbV_some {n a : Nat} (h : nib n = some a) : nbV n = a ∧ a < 16 := by
  refine ⟨by unfold nbV; rw [h], ?_⟩
  unfold nib dgN at h
  split at h
  · next h1 => injection h with h; simp only [Bool.and_eq_true, decide_eq_true_eq] at h1; omega
  · split at h
    · injection h with h; omega
    · split at h
      · injection h with h; omega
      · cases h
theorem nbV_none {n : Nat} (h : nib n = none) : nbV n = -1 := by unfold nbV; rw [h]
end Go.Proofs.YtaeglmgpoboihaaGreatDoor
/- The document's text, walked. -/
namespace Go.Proofs.YtaeglmgpoboihaaGreatDoor
open Go.ChangeShapes Go.WideShapes Go.ChangeAt Go.RowKit K L14
set_option linter.unusedVariables false

theorem text_nil : L14.text [] = none := rfl
theorem text_end (t : List UInt8) : L14.text (34 :: t) = some ([], 1) := rfl
theorem text_low {c : UInt8} {t : List UInt8} (h : c.toNat < 32) : L14.text (c :: t) = none := by
  have hc : ¬ c = 34 := fun e => by subst e; exact absurd h (by decide)
  unfold L14.text
  simp only [txt, if_neg hc, if_pos h]
theorem text_bad {t : List UInt8} (h : esc t = none) : L14.text (92 :: t) = none := by
  unfold L14.text
  simp only [txt]
  rw [if_neg (by decide), if_neg (by decide), if_pos trivial, h]
theorem text_esc {t : List UInt8} {b : UInt8} {n : Nat} (h : esc t = some (b, n)) : L14.text (92 :: t) = (L14.text (t.drop n)).map fun y => (b :: y.1, y.2 + 1 + n) := by
  have hn := esc_n h
  have e : L14.text (92 :: t) = (txt (t.length + 1) (t.drop n)).map fun y => (b :: y.1, y.2 + 1 + n) := by
    unfold L14.text
    simp only [txt]
    rw [if_neg (by decide), if_neg (by decide), if_pos trivial, h]
    rfl
  rw [e, txt_more (t.length + 1) ((t.drop n).length + 1) (t.drop n) (by rw [List.length_drop]; omega) (by omega)]
  rfl
theorem text_own {c : UInt8} {t : List UInt8} (h1 : c ≠ 34) (h2 : ¬ c.toNat < 32) (h3 : c ≠ 92) : L14.text (c :: t) = (L14.text t).map fun y => (c :: y.1, y.2 + 1) := by
  unfold L14.text
  simp only [txt, if_neg h1, if_neg h2, if_neg h3, List.length_cons]
/-- What text answers. -/
def txS (s : List UInt8) : List UInt8 := match L14.text s with | some (o, _) => o | none => []
def txN (s : List UInt8) : Nat := match L14.text s with | some (_, n) => n | none => 0
def TxRel (s : List UInt8) (w : World) (g : Nat) (v4 v5 : Value) (wr : World) : Prop :=
  ∃ i l, i ≤ s.length ∧ s.length - i ≤ g ∧ v5 = .int .i64 (i : Nat) ∧ OwnY wr w.heap.size v4 l ∧ l.length ≤ i ∧ L14.text s = ((L14.text (s.drop i)).map fun y => (l ++ y.1, y.2 + i)) ∧ Below w.heap.size w wr
end Go.Proofs.YtaeglmgpoboihaaGreatDoor
