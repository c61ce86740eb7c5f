/- Texts on the program and on the document, joined: LexF, ParA, ParB, ParC, StpA, StpB, StpC, StpE, StpF, StpT, StpI, ParD. -/
import Derived.Test.YtaeglmgpoboihaaGreatDoorMa04
import Derived.Test.YtaeglmgpoboihaaGreatDoorMa03
import Derived.BigQuiet
import Derived.Deep.QuietTactic
import Derived.Deep.RegionHeld3
import Derived.IntWalk
import Derived.Deep.RegionWith
import Derived.Test.YtaeglmgpoboihaaGreatDoorRows
import Derived.Test.YtaeglmgpoboihaaGreatDoorMa02
import Derived.ProofKit
import Derived.OpenShut
import Derived.ShutString
/- The document's tokens as they lie; Split's lines. -/
namespace Go.Proofs.YtaeglmgpoboihaaGreatDoor
open Go.ChangeShapes Go.WideShapes Go.ChangeAt Go.RowKit K L14
set_option linter.unusedVariables false

/-- A token's cells. -/
def tkC (x : Tk) : List Value := [.int .i64 (x.k : Nat), .string (bs x.t), .int .i64 (x.l : Nat)]
def tkL (l : List Tk) : List Value := l.flatMap tkC
theorem tkL_app (a b : List Tk) : tkL (a ++ b) = tkL a ++ tkL b := by simp [tkL]
theorem tkL_len : ∀ l : List Tk, (tkL l).length = l.length * 3
  | [] => rfl
  | x :: xs => by
    show (tkC x ++ tkL xs).length = _
    rw [List.length_append, tkL_len xs, List.length_cons]; simp [tkC]; omega
def noT : Tk := ⟨0, [], 0⟩
theorem tkL_get : ∀ (l : List Tk) (i j : Nat), i < l.length → j < 3 → (tkL l)[i * 3 + j]? = (tkC (l.getD i noT))[j]?
  | [], i, j, h, _ => by simp at h
  | x :: xs, 0, j, _, hj => by
    show (tkC x ++ tkL xs)[0 * 3 + j]? = _
    rw [Nat.zero_mul, Nat.zero_add, List.getElem?_append_left (by simpa [tkC] using hj)]; rfl
  | x :: xs, i + 1, j, h, hj => by
    have ih := tkL_get xs i j (by simpa using h) hj
    show (tkC x ++ tkL xs)[(i + 1) * 3 + j]? = _
    rw [List.getElem?_append_right (by simp [tkC]; omega), show (i + 1) * 3 + j - (tkC x).length = i * 3 + j by simp [tkC]; omega, ih]
    simp [List.getD]
theorem tkL_one (l : List Tk) : ∀ u ∈ tkL l, u.oneCell' = true := by
  intro u hu
  obtain ⟨x, _, hx⟩ := List.mem_flatMap.1 hu
  simp [tkC] at hx
  rcases hx with rfl | rfl | rfl <;> rfl
/-- Tokens of type T, in a list that a call made itself. -/
def OwnK (w : World) (B : Nat) (T : TypeId) (v : Value) (l : List Tk) : Prop := w.ownsRow B T 3 v l.length (tkL l)
theorem OwnK.nil (w : World) (B : Nat) (T : TypeId) : OwnK w B T (.slice none 0 0) [] := World.ownsRow_nil w B _ _
theorem OwnK.below {w w' : World} {B : Nat} {T : TypeId} {v : Value} {l : List Tk} (h : OwnK w B T v l) (k : Below w.heap.size w w') : OwnK w' B T v l := by
  refine ⟨h.1, ?_⟩
  rcases h.2 with hn | ⟨g, cap, cur, h1, h2, h3, h4⟩
  · exact .inl hn
  · exact .inr ⟨g, cap, cur, h1, h2, (k.block g (lt_of_block h3)).trans h3, h4⟩
/-- Tokens as a call reads them. -/
def RdK (w : World) (ao : Option Addr) (l : List Tk) : Prop := l.length = 0 ∨ ∃ g o, ao = some ⟨g, o, none⟩ ∧ g < w.heap.size ∧ ∀ i, i < l.length → ∀ j, j < 3 → w.cell? ⟨g, o + i * 3 + j, none⟩ = (tkC (l.getD i noT))[j]?
theorem RdK.below {w w' : World} {ao : Option Addr} {l : List Tk} (h : RdK w ao l) (k : Below w.heap.size w w') : RdK w' ao l := by
  rcases h with h | ⟨g, o, h1, h2, h3⟩
  · exact .inl h
  · exact .inr ⟨g, o, h1, Nat.lt_of_lt_of_le h2 k.size, fun i hi j hj => (k.cell (p := ⟨g, o + i * 3 + j, none⟩) h2).trans (h3 i hi j hj)⟩
theorem RdK.at {w : World} {ao : Option Addr} {l : List Tk} (h : RdK w ao l) {i : Nat} (hi : i < l.length) : ∃ g o, ao = some ⟨g, o, none⟩ ∧ g < w.heap.size ∧ w.cell? ⟨g, o + i * 3, none⟩ = some (.int .i64 ((l.getD i noT).k : Nat)) ∧ w.cell? ⟨g, o + i * 3 + 1, none⟩ = some (.string (bs (l.getD i noT).t)) ∧ w.cell? ⟨g, o + i * 3 + 2, none⟩ = some (.int .i64 ((l.getD i noT).l : Nat)) := by
  rcases h with h | ⟨g, o, h1, h2, h3⟩
  · omega
  · exact ⟨g, o, h1, h2, (h3 i hi 0 (by omega)), (h3 i hi 1 (by omega)), (h3 i hi 2 (by omega))⟩
theorem OwnK.form {w : World} {B : Nat} {T : TypeId} {v : Value} {l : List Tk} (h : OwnK w B T v l) : ∃ ao cap, v = .slice ao l.length cap ∧ RdK w ao l := by
  rcases h.2 with ⟨hv, h0⟩ | ⟨g, cap, cur, hv, hB, hh, hle, hm, hs, ht⟩
  · exact ⟨none, 0, by rw [hv, h0], .inl h0⟩
  · refine ⟨some ⟨g, 0, none⟩, cap, hv, .inr ⟨g, 0, rfl, lt_of_block hh, fun i hi j hj => ?_⟩⟩
    rw [Nat.zero_add, cellRow hh, ← Array.getElem?_toList, ← tkL_get l i j hi hj, ← ht, List.getElem?_take_of_lt]
    have : (i + 1) * 3 ≤ l.length * 3 := Nat.mul_le_mul_right _ hi
    omega
theorem nls_next (s : List UInt8) (a m : Nat) (h : a + m < s.length) : nls ((s.drop a).take (m + 1)) = nls ((s.drop a).take m) + (if byt s (a + m) = 10 then 1 else 0) := by
  have h1 : m < (s.drop a).length := by rw [List.length_drop]; omega
  rw [List.take_succ_eq_append_getElem h1, nls_app]
  congr 1
  rw [byt_get s (a + m) h, List.getElem_drop]
  unfold nls
  rw [List.countP_singleton]
  by_cases hc : s[a + m] = 10
  · rw [hc]; rfl
  · rw [if_neg (by simpa using hc), if_neg (fun e : s[a + m].toNat = 10 => hc (UInt8.toNat_inj.1 e))]
end Go.Proofs.YtaeglmgpoboihaaGreatDoor
/- The document's reader of rules in memory: at, isText, fail, walked. -/
namespace Go.Proofs.YtaeglmgpoboihaaGreatDoor
open Go.ChangeShapes Go.WideShapes Go.ChangeAt Go.RowKit K L15
open L14 (Tk)
set_option linter.unusedVariables false

theorem cur_some {T : List Tk} {s : Pi} (h : s.bad = none) (hp : s.p < T.length) : cur T s = some (T.getD s.p noTk) := by
  unfold cur
  rw [h]
  simp [List.getD, hp]
theorem cur_end {T : List Tk} {s : Pi} (hp : ¬ s.p < T.length) : cur T s = none := by
  unfold cur
  cases s.bad with
  | none => simp; omega
  | some _ => rfl
theorem cur_bad {T : List Tk} {s : Pi} (h : s.bad.isSome = true) : cur T s = none := by
  unfold cur
  cases hb : s.bad with
  | none => rw [hb] at h; cases h
  | some _ => rfl
theorem at_val {T : List Tk} {s : Pi} (h : s.bad = none) (hp : s.p < T.length) (k : Nat) (t : List UInt8) : at_ T s k t = ((T.getD s.p noTk).k == k && (t.isEmpty || (T.getD s.p noTk).t == t)) := by
  unfold at_; rw [cur_some h hp]
end Go.Proofs.YtaeglmgpoboihaaGreatDoor
/- The document's reader of rules: fail, take, word, sign, text, walked. -/
namespace Go.Proofs.YtaeglmgpoboihaaGreatDoor
open Go.ChangeShapes Go.WideShapes Go.ChangeAt Go.RowKit K L15
open L14 (Tk)
set_option linter.unusedVariables false

theorem fail_p (T : List Tk) (last : Nat) (s : Pi) : (fail T last s).p = s.p := by unfold fail; split <;> rfl
/-- One token on. -/
theorem nx_in {T : List Tk} {s : Pi} {k : Nat} {t : List UInt8} (ha : at_ T s k t = true) : s.bad = none ∧ s.p < T.length := by
  unfold at_ at ha
  cases hb : s.bad with
  | some _ => rw [show cur T s = none by unfold cur; rw [hb]] at ha; cases ha
  | none =>
    refine ⟨rfl, ?_⟩
    rcases Nat.lt_or_ge s.p T.length with hp | hp
    · exact hp
    · rw [cur_end (by omega)] at ha; cases ha
end Go.Proofs.YtaeglmgpoboihaaGreatDoor
/- The document's reader of rules: take, word, sign, text, walked. -/
namespace Go.Proofs.YtaeglmgpoboihaaGreatDoor
open Go.ChangeShapes Go.WideShapes Go.ChangeAt Go.RowKit K L15
open L14 (Tk)
set_option linter.unusedVariables false

/-- A token taken, that is known to stand there, or not. -/
theorem take_yes {T : List Tk} {last k : Nat} {t : List UInt8} {s : Pi} (h : at_ T s k t = true) : L15.take T last k t s = (txt T s, nx s) := by unfold L15.take; rw [if_pos h]
theorem take_no {T : List Tk} {last k : Nat} {t : List UInt8} {s : Pi} (h : at_ T s k t = false) : L15.take T last k t s = ([], fail T last s) := by unfold L15.take; rw [h]; rfl
end Go.Proofs.YtaeglmgpoboihaaGreatDoor
/- stamp's own reader, walked. -/
namespace Go.Proofs.YtaeglmgpoboihaaGreatDoor
open Go.ChangeShapes Go.WideShapes Go.ChangeAt Go.RowKit K S3
set_option linter.unusedVariables false

/-- A reader in block b: what is left of its text, whether something was wrong. -/
def RD (w : World) (b T : Nat) (l : List UInt8) (g : Bool) : Prop := w.heap[b]? = some (.cells #[.string (bs l), .bool g] T (0, 0))
theorem RD.cells {w : World} {b T : Nat} {l : List UInt8} {g : Bool} (h : RD w b T l g) :
    w.cell? ⟨b, 0, none⟩ = some (.string (bs l)) ∧ w.cell? ⟨b, 1, none⟩ = some (.bool g) ∧ w.frozen? ⟨b, 0, none⟩ = false ∧ w.frozen? ⟨b, 1, none⟩ = false :=
  ⟨cellRow h 0, cellRow h 1, freeRow h 0, freeRow h 1⟩
theorem RD.setL {w : World} {b T : Nat} {l : List UInt8} {g : Bool} (h : RD w b T l g) (l' : List UInt8) : RD (w.setCell ⟨b, 0, none⟩ (.string (bs l'))) b T l' g := by
  have := rowSet h 0 (.string (bs l')); simpa [RD] using this
theorem RD.setG {w : World} {b T : Nat} {l : List UInt8} {g : Bool} (h : RD w b T l g) (g' : Bool) : RD (w.setCell ⟨b, 1, none⟩ (.bool g')) b T l g' := by
  have := rowSet h 1 (.bool g'); simpa [RD] using this

theorem isDigit_walk (n : Nat) (w : World) :
    Calls Tryz.prog 81 #[.int .u8 n] w fun e w' => e = .returned (.bool (isDn n)) ∧ w = w' := by
  unfold isDn
  by_cases h0 : 48 ≤ n
  · by_cases h1 : n ≤ 57
    · rw [decide_eq_true h0, decide_eq_true h1]
      go_enter Tryz.func81, Tryz.ntmps81
      go_wp2
      go_ret
      refine ⟨?_, rfl⟩
      show Ending.returned (.bool (decide ((n : Int) ≤ 57))) = _
      rw [decide_eq_true (by omega)]; rfl
    · rw [decide_eq_true h0, decide_eq_false h1]
      go_enter Tryz.func81, Tryz.ntmps81
      go_wp2
      go_ret
      refine ⟨?_, rfl⟩
      show Ending.returned (.bool (decide ((n : Int) ≤ 57))) = _
      rw [decide_eq_false (by omega)]; rfl
  · rw [decide_eq_false h0]
    go_enter Tryz.func81, Tryz.ntmps81
    go_wp2
    go_ret
    exact ⟨rfl, rfl⟩

/-- Whether a text begins with a digit. -/
def swd : List UInt8 → Bool
  | [] => false
  | c :: _ => isD c
/-! ### A number of so many digits -/
/-- What holds in the loop: i digits were read, that spell n; the rest is l'. -/
def NRel (w : World) (b T k : Nat) (l : List UInt8) (g : Bool) (vn vi : Value) (wr : World) : Prop :=
  ∃ (i n : Nat) (l' : List UInt8), i ≤ k ∧ n < 10 ^ i ∧ vn = .int .i64 n ∧ vi = .int .i64 i ∧ Kp [b] w wr ∧ RD wr b T l' g ∧ l'.length ≤ l.length ∧ nGo k 0 l = nGo (k - i) n l'
theorem nGo_step (k n : Nat) (l : List UInt8) (h : swd l = true) : nGo (k + 1) n l = nGo k (10 * n + (byt l 0 - 48)) l.tail ∧ 0 < l.length ∧ 48 ≤ byt l 0 ∧ byt l 0 ≤ 57 := by
  cases l with
  | nil => cases h
  | cons c t =>
    have h' : isD c = true := h
    refine ⟨?_, by simp, (isD_le h').1, (isD_le h').2⟩
    conv => lhs; unfold nGo
    rw [if_pos h']; rfl
theorem nGo_stop (k n : Nat) (l : List UInt8) (h : swd l = false) : nGo (k + 1) n l = (none, l) := by
  cases l with
  | nil => rfl
  | cons c t => have h' : isD c = false := h; conv => lhs; unfold nGo
                simp [h']

end Go.Proofs.YtaeglmgpoboihaaGreatDoor
/- stamp's calendar and the parts of a stamp, walked. -/
namespace Go.Proofs.YtaeglmgpoboihaaGreatDoor
open Go.ChangeShapes Go.WideShapes Go.ChangeAt Go.RowKit K S3
set_option linter.unusedVariables false

theorem leap_1 (y : Nat) (h4 : ¬ y % 4 = 0) : leap y = false := by simp [leap, h4]
theorem leap_2 (y : Nat) (h4 : y % 4 = 0) (h1 : ¬ y % 100 = 0) : leap y = true := by simp [leap, h4, h1]
theorem leap_3 (y : Nat) (h4 : y % 4 = 0) (h1 : y % 100 = 0) (h2 : y % 400 = 0) : leap y = true := by simp [leap, h4, h2]
theorem leap_4 (y : Nat) (h4 : y % 4 = 0) (h1 : y % 100 = 0) (h2 : ¬ y % 400 = 0) : leap y = false := by simp [leap, h1, h2]
theorem lf_in (y : Int) (h0 : 0 ≤ y) (h1 : y ≤ 1000000) : 0 ≤ lf y ∧ lf y ≤ 1000000 := by unfold lf; omega
/-! ### Parts of a stamp -/
theorem dOk_or (l : List UInt8) (g : Bool) : (((((g || !nOk 4 0 9999 l) || !mkOk 45 (nL 4 l)) || !nOk 2 1 12 (dl1 l)) || !mkOk 45 (nL 2 (dl1 l))) || !nOk 2 1 (dim (dY l) (dM l)) (dl2 l)) = (g || !dOk l) := by
  unfold dOk; cases g <;> cases nOk 4 0 9999 l <;> cases mkOk 45 (nL 4 l) <;> cases nOk 2 1 12 (dl1 l) <;> cases mkOk 45 (nL 2 (dl1 l)) <;> cases nOk 2 1 (dim (dY l) (dM l)) (dl2 l) <;> rfl
end Go.Proofs.YtaeglmgpoboihaaGreatDoor
/- The rest of a stamp, and stamp.Parse, walked. -/
namespace Go.Proofs.YtaeglmgpoboihaaGreatDoor
open Go.ChangeShapes Go.WideShapes Go.ChangeAt Go.RowKit K S3
set_option linter.unusedVariables false

/-! ### Digits behind a point -/
def FRelS (w : World) (b T : Nat) (l : List UInt8) (g : Bool) (vn vp : Value) (wr : World) : Prop :=
  ∃ (p n : Nat) (l' : List UInt8), p ≤ 9 ∧ n + 10 ^ p ≤ 1000000000 ∧ vn = .int .i64 n ∧ vp = .int .i64 ((10 ^ p : Nat) : Int) ∧ Kp [b] w wr ∧ RD wr b T l' g ∧ l'.length ≤ l.length ∧ fGo 9 0 l = fGo p n l'
theorem fGo_stop (p n : Nat) (l : List UInt8) (h : swd l = false) : fGo (p + 1) n l = (n, p + 1, l) := by
  cases l with
  | nil => rfl
  | cons c t => have h' : isD c = false := h; conv => lhs; unfold fGo
                simp [h']
theorem fGo_step (p n : Nat) (l : List UInt8) (h : swd l = true) : fGo (p + 1) n l = fGo p (n + (byt l 0 - 48) * 10 ^ p) l.tail ∧ 0 < l.length ∧ 48 ≤ byt l 0 ∧ byt l 0 ≤ 57 := by
  cases l with
  | nil => cases h
  | cons c t =>
    have h' : isD c = true := h
    refine ⟨?_, by simp, (isD_le h').1, (isD_le h').2⟩
    conv => lhs; unfold fGo
    rw [if_pos h']; rfl
theorem one_digit (l : List UInt8) (h : swd l = true) : nV 1 0 9 l = ((byt l 0 - 48 : Nat) : Int) ∧ nOk 1 0 9 l = true ∧ nL 1 l = l.tail := by
  have h1 := nGo_step 0 0 l h
  have e : nGo 1 0 l = (some (byt l 0 - 48), l.tail) := by rw [h1.1]; simp [nGo]
  have hr : inR ((byt l 0 - 48 : Nat) : Int) 0 9 = true := by simp [inR]; omega
  refine ⟨?_, ?_, ?_⟩
  · unfold nV; rw [e]; simp only; rw [if_pos hr]
  · unfold nOk; rw [e]; exact hr
  · unfold nL; rw [e]
theorem pow_nine {p : Nat} (h : p ≤ 9) : 1 ≤ 10 ^ p ∧ 10 ^ p ≤ 1000000000 := by
  have h1 : 10 ^ p ≤ 10 ^ 9 := Nat.pow_le_pow_right (by omega) h
  have h2 : 0 < 10 ^ p := Nat.pow_pos (by omega)
  omega
theorem pow_lt_nine {p : Nat} (h : p < 9) : 10 ^ p ≤ 100000000 := by
  have h1 : 10 ^ p ≤ 10 ^ 8 := Nat.pow_le_pow_right (by omega) (by omega)
  omega

/-! ### The whole -/
theorem Kp.belowNew {w w1 w2 : World} {b : Nat} (h : Below w.heap.size w w1) (k : Kp [b] w1 w2) (hb : w.heap.size ≤ b) : Below w.heap.size w w2 :=
  ⟨k.os.trans h.os, k.tape.trans h.tape, k.output.trans h.output, Nat.le_trans h.size k.size, fun i hi => (k.block i (Nat.lt_of_lt_of_le hi h.size) (by simp; omega)).trans (h.block i hi)⟩

theorem pOk_or (l : List UInt8) : ((((((((false || !dOk l) || !mkOk 84 (dL l)) || !hmOk (p1 l)) || !mkOk 58 (hmL (p1 l))) || !nOk 2 0 59 (p2 l)) || !fOk (p3 l)) || !zOk (p4 l))) = !(dOk l && mkOk 84 (dL l) && hmOk (p1 l) && mkOk 58 (hmL (p1 l)) && nOk 2 0 59 (p2 l) && fOk (p3 l) && zOk (p4 l)) := by
  cases dOk l <;> cases mkOk 84 (dL l) <;> cases hmOk (p1 l) <;> cases mkOk 58 (hmL (p1 l)) <;> cases nOk 2 0 59 (p2 l) <;> cases fOk (p3 l) <;> cases zOk (p4 l) <;> rfl
theorem pOk_done (l : List UInt8) : (!(((((((false || !dOk l) || !mkOk 84 (dL l)) || !hmOk (p1 l)) || !mkOk 58 (hmL (p1 l))) || !nOk 2 0 59 (p2 l)) || !fOk (p3 l)) || !zOk (p4 l)) && (zL (p4 l)).isEmpty) = pOk l := by
  rw [pOk_or, Bool.not_not]; rfl
theorem pGood_no (l : List UInt8) (h : pOk l = false ∨ pS l < 0 ∨ 2305843009 < pS l ∨ 2305843009213693952 < pS l * 1000000000 + pF l) : prsV l = 0 ∧ prsC l = 30 := by
  have : pGood l = false := by
    unfold pGood
    rcases h with h | h | h | h
    · rw [h]; rfl
    · rw [decide_eq_false (by omega : ¬ 0 ≤ pS l)]; simp
    · rw [decide_eq_false (by omega : ¬ pS l ≤ 2305843009)]; simp
    · rw [decide_eq_false (by omega : ¬ pS l * 1000000000 + pF l ≤ 2305843009213693952)]; simp
  unfold prsV prsC; rw [this]; exact ⟨rfl, rfl⟩
theorem pGood_yes (l : List UInt8) (h : pOk l = true) (h1 : 0 ≤ pS l) (h2 : pS l ≤ 2305843009) (h3 : pS l * 1000000000 + pF l ≤ 2305843009213693952) : prsV l = pS l * 1000000000 + pF l ∧ prsC l = 0 := by
  have : pGood l = true := by
    unfold pGood; rw [h, decide_eq_true h1, decide_eq_true h2, decide_eq_true h3]; rfl
  unfold prsV prsC; rw [this]; exact ⟨rfl, rfl⟩

end Go.Proofs.YtaeglmgpoboihaaGreatDoor
/- The document's own reading of stamps, walked: its small functions. -/
namespace Go.Proofs.YtaeglmgpoboihaaGreatDoor
open Go.ChangeShapes Go.WideShapes Go.ChangeAt Go.RowKit K S3
set_option linter.unusedVariables false

def PRel (y : Nat) (v3 v4 : Value) : Prop := ∃ i : Nat, 1970 ≤ i ∧ (i ≤ y ∨ i = 1970) ∧ v4 = .int .i64 i ∧ v3 = .int .i64 (ya i)
def QRel (X : List UInt8) (v3 v4 : Value) : Prop := ∃ i : Nat, i ≤ X.length ∧ v4 = .int .i64 i ∧ v3 = .int .i64 (vl (X.take i) : Nat) ∧ (X.take i).all isD = true
/-! ### What stands behind the seconds -/
theorem ret3 {a b c a' b' c' : Value} (h1 : a = a') (h2 : b = b') (h3 : c = c') : Ending.returned (.tuple #[a, b, c]) = .returned (.tuple #[a', b', c']) := by rw [h1, h2, h3]
theorem ret2 {a b a' b' : Value} (h1 : a = a') (h2 : b = b') : Ending.returned (.tuple #[a, b]) = .returned (.tuple #[a', b']) := by rw [h1, h2]
theorem fGo_end (n p : Nat) : fGo p n [] = (n, p, []) := by cases p <;> rfl
def GRel (l : List UInt8) (v5 v6 v7 : Value) : Prop :=
  ∃ i p n : Nat, i + p = 10 ∧ 1 ≤ i ∧ i ≤ l.length ∧ n + 10 ^ p ≤ 1000000000 ∧ v5 = .int .i64 i ∧ v6 = .int .i64 n ∧ v7 = .int .i64 ((10 ^ p / 10 : Nat) : Int) ∧ fGo 9 0 (l.drop 1) = fGo p n (l.drop i)
theorem swd_drop (l : List UInt8) (i : Nat) (h : i < l.length) : swd (l.drop i) = isDn (byt l i) := by
  rw [List.drop_eq_getElem_cons h, byt_get l i h]; rfl
theorem byt_drop (l : List UInt8) (i : Nat) (h : i < l.length) : byt (l.drop i) 0 = byt l i := by
  rw [List.drop_eq_getElem_cons h, byt_get l i h]; rfl

end Go.Proofs.YtaeglmgpoboihaaGreatDoor
/- The document's own zone, and Parse, walked. -/
namespace Go.Proofs.YtaeglmgpoboihaaGreatDoor
open Go.ChangeShapes Go.WideShapes Go.ChangeAt Go.RowKit K S3
set_option linter.unusedVariables false

/-- Only draws lie between. -/
def Drew (w w' : World) : Prop := ∃ n, w' = w.drewN n
theorem Drew.refl (w : World) : Drew w w := ⟨0, rfl⟩
theorem Drew.trans {a b c : World} (h : Drew a b) (k : Drew b c) : Drew a c := by
  obtain ⟨n, rfl⟩ := h; obtain ⟨m, rfl⟩ := k
  exact ⟨n + m, by unfold World.drewN; simp [Nat.add_assoc]⟩
theorem Drew.below {a b : World} (h : Drew a b) : Below a.heap.size a b := by
  obtain ⟨n, rfl⟩ := h; exact ⟨rfl, rfl, rfl, Nat.le_refl _, fun _ _ => rfl⟩

end Go.Proofs.YtaeglmgpoboihaaGreatDoor
/- Plain mathematics of spans: the digits at a text's beginning tell which unit can be meant. Nothing of the program. -/
namespace Go.Proofs.YtaeglmgpoboihaaGreatDoor
open K
namespace S3

/-- i is how many digits stand at the beginning. -/
structure PD (l : List UInt8) (i : Nat) : Prop where
  le : i ≤ l.length
  all : (l.take i).all isD = true
  stop : i < l.length → isDn (byt l i) = false
theorem unit_head (k : Nat) (h : k < 7) : 0 < (nmU k).length ∧ isDn (byt (nmU k) 0) = false := by
  obtain rfl | rfl | rfl | rfl | rfl | rfl | rfl : k = 0 ∨ k = 1 ∨ k = 2 ∨ k = 3 ∨ k = 4 ∨ k = 5 ∨ k = 6 := by omega
  all_goals decide
theorem unit_inj (j k : Nat) (hj : j < 7) (hk : k < 7) (h : nmU j = nmU k) : j = k := by
  revert h
  obtain rfl | rfl | rfl | rfl | rfl | rfl | rfl : k = 0 ∨ k = 1 ∨ k = 2 ∨ k = 3 ∨ k = 4 ∨ k = 5 ∨ k = 6 := by omega
  all_goals
    obtain rfl | rfl | rfl | rfl | rfl | rfl | rfl : j = 0 ∨ j = 1 ∨ j = 2 ∨ j = 3 ∨ j = 4 ∨ j = 5 ∨ j = 6 := by omega
    all_goals decide
theorem byt_append (a b : List UInt8) : byt (a ++ b) a.length = byt b 0 := by
  unfold byt; rw [List.getElem?_append_right (Nat.le_refl _), Nat.sub_self]
theorem all_get {l : List UInt8} (h : l.all isD = true) (j : Nat) (hj : j < l.length) : isDn (byt l j) = true := by
  rw [byt_get l j hj]; exact List.all_eq_true.1 h _ (List.getElem_mem _)
theorem byt_take (l : List UInt8) (i j : Nat) (h : j < i) : byt (l.take i) j = byt l j := by
  unfold byt; rw [List.getElem?_take, if_pos h]
/-- Which unit is hit. -/
theorem hit_iff {l : List UInt8} {i : Nat} (p : PD l i) (u : List UInt8) (h0 : 0 < u.length) (hu : isDn (byt u 0) = false) :
    hitU l u = true ↔ fitB (l.take i) = true ∧ l.drop i = u := by
  unfold hitU Lib.hasSuffix
  rw [Bool.and_eq_true, Bool.and_eq_true, List.isSuffixOf_iff_suffix]
  constructor
  · rintro ⟨⟨X, hX⟩, hf, ha⟩
    have hc : cutU l u = X := by
      unfold cutU; rw [← hX]; simp
    rw [hc] at hf ha
    have hlen : l.length = X.length + u.length := by rw [← hX]; simp
    have hi : i = X.length := by
      rcases Nat.lt_trichotomy i X.length with h | h | h
      · exfalso
        have h1 := p.stop (by omega)
        have h2 := all_get ha i h
        rw [← byt_take l X.length i h, ← hX, List.take_left, h2] at h1
        cases h1
      · exact h
      · exfalso
        have h1 := all_get p.all X.length (by rw [List.length_take]; omega)
        rw [byt_take l i X.length h, ← hX, byt_append, hu] at h1
        cases h1
    subst hi
    rw [← hX, List.take_left, List.drop_left]
    exact ⟨hf, rfl⟩
  · rintro ⟨hf, hd⟩
    have hl : l = l.take i ++ u := by rw [← hd, List.take_append_drop]
    have hle := p.le
    have hc : cutU l u = l.take i := by
      unfold cutU
      congr 1
      rw [← hd, List.length_drop]; omega
    rw [hc]
    exact ⟨⟨l.take i, hl.symm⟩, hf, p.all⟩
theorem fit_no {l : List UInt8} {i : Nat} (p : PD l i) (h : i < 1 ∨ 9 < i ∨ (1 < i ∧ byt l 0 = 48)) : fitB (l.take i) = false := by
  have hle := p.le
  cases hk : fitB (l.take i)
  · rfl
  · exfalso
    have h1 := fitB_len hk
    rw [List.length_take] at h1
    rcases h with h | h | ⟨h, hb⟩
    · omega
    · omega
    · unfold fitB at hk
      rw [Bool.or_eq_true] at hk
      rcases hk with hk | hk
      · have hk2 := congrArg List.length (beq_iff_eq.1 hk)
        rw [List.length_take] at hk2
        simp at hk2; omega
      · rw [byt_take l i 0 (by omega)] at hk
        simp [hb] at hk
theorem fit_yes {l : List UInt8} {i : Nat} (p : PD l i) (h1 : 1 ≤ i) (h9 : i ≤ 9) (h : i = 1 ∨ byt l 0 ≠ 48) : fitB (l.take i) = true := by
  have hle := p.le
  unfold fitB
  by_cases hb : byt l 0 = 48
  · obtain rfl : i = 1 := by rcases h with h | h; exact h; exact absurd hb h
    cases l with
    | nil => simp at hle
    | cons c t =>
      have hc : c = 48 := UInt8.toNat_inj.1 (show c.toNat = 48 from hb)
      subst hc; rfl
  · have hne : (l.take i).isEmpty = false := by
      have : 0 < (l.take i).length := by rw [List.length_take]; omega
      simpa using List.length_pos_iff.1 this
    rw [byt_take l i 0 (by omega), hne]
    simp [hb]
    right; omega
theorem spGo_none (l : List UInt8) (L : List (List UInt8 × Nat)) (h : ∀ u ∈ L, hitU l u.1 = false) : spGo L l = (0, 30) := by
  induction L with
  | nil => rfl
  | cons u r ih =>
    obtain ⟨n, b⟩ := u
    rw [spGo_no n b r l (h (n, b) (by simp))]
    exact ih fun v hv => h v (by simp [hv])
theorem unit_mem {u : List UInt8 × Nat} {k : Nat} (h : u ∈ unitL.drop k) : ∃ j, k ≤ j ∧ j < 7 ∧ u.1 = nmU j := by
  obtain ⟨i, hi, he⟩ := List.mem_iff_getElem.1 h
  have hl : unitL.length = 7 := rfl
  rw [List.length_drop, hl] at hi
  refine ⟨k + i, by omega, by omega, ?_⟩
  rw [List.getElem_drop] at he
  unfold nmU
  rw [List.getElem?_eq_getElem (by rw [hl]; omega), he]; rfl
/-- No unit at all. -/
theorem sp_bad {l : List UInt8} {i : Nat} (p : PD l i) (h : i < 1 ∨ 9 < i ∨ (1 < i ∧ byt l 0 = 48)) : spGo unitL l = (0, 30) := by
  refine spGo_none l _ fun u hu => ?_
  obtain ⟨j, _, hj, e⟩ := unit_mem (k := 0) hu
  rw [e]
  have hh := unit_head j hj
  cases hk : hitU l (nmU j)
  · rfl
  · have := (hit_iff p _ hh.1 hh.2).1 hk
    rw [fit_no p h] at this
    cases this.1
theorem sp_end {l : List UInt8} : spGo (unitL.drop 7) l = (0, 30) := rfl
/-- Another unit than this one. -/
theorem sp_skip {l : List UInt8} {i k : Nat} (p : PD l i) (hk : k < 7) (h : nmU k ≠ l.drop i) : spGo (unitL.drop k) l = spGo (unitL.drop (k + 1)) l := by
  rw [unit_drop k hk]
  refine spGo_no _ _ _ _ ?_
  have hh := unit_head k hk
  cases he : hitU l (nmU k)
  · rfl
  · exact absurd ((hit_iff p _ hh.1 hh.2).1 he).2.symm h
theorem sp_big {l : List UInt8} {i k : Nat} (p : PD l i) (hk : k < 7) (h : nmU k = l.drop i) (hf : fitB (l.take i) = true) (hb : 2305843009213693952 / byU k < vl (l.take i)) : spGo (unitL.drop k) l = (0, 30) ∧ spGo (unitL.drop (k + 1)) l = (0, 30) := by
  have hh := unit_head k hk
  have hit := (hit_iff p _ hh.1 hh.2).2 ⟨hf, h.symm⟩
  have hle := p.le
  have hc : cutU l (nmU k) = l.take i := by unfold cutU; congr 1; rw [h, List.length_drop]; omega
  constructor
  · rw [unit_drop k hk]
    exact spGo_big _ _ _ _ hit (by rw [hc]; exact hb)
  · refine spGo_none l _ fun u hu => ?_
    obtain ⟨j, hj1, hj, e⟩ := unit_mem hu
    rw [e]
    have hh2 := unit_head j hj
    cases hk2 : hitU l (nmU j)
    · rfl
    · have := ((hit_iff p _ hh2.1 hh2.2).1 hk2).2
      have := unit_inj j k hj hk (by rw [h, this])
      omega
theorem sp_yes {l : List UInt8} {i k : Nat} (p : PD l i) (hk : k < 7) (h : nmU k = l.drop i) (hf : fitB (l.take i) = true) (hb : ¬ 2305843009213693952 / byU k < vl (l.take i)) : spGo (unitL.drop k) l = (((vl (l.take i) * byU k : Nat) : Int), 0) := by
  have hh := unit_head k hk
  have hit := (hit_iff p _ hh.1 hh.2).2 ⟨hf, h.symm⟩
  have hle := p.le
  have hc : cutU l (nmU k) = l.take i := by unfold cutU; congr 1; rw [h, List.length_drop]; omega
  rw [unit_drop k hk, spGo_yes _ _ _ _ hit (by rw [hc]; exact hb), hc]
end S3
end Go.Proofs.YtaeglmgpoboihaaGreatDoor
/- The document's own Span, walked. -/
namespace Go.Proofs.YtaeglmgpoboihaaGreatDoor
open Go.ChangeShapes Go.WideShapes Go.ChangeAt Go.RowKit K S3
set_option linter.unusedVariables false

/-- The slices of names and of numbers that Units hands back. -/
def UnitsAt (w : World) (a b : Nat) : Prop := (∀ k, k < 7 → w.cell? ⟨a, k, none⟩ = some (.string (bs (nmU k)))) ∧ ∀ k, k < 7 → w.cell? ⟨b, k, none⟩ = some (.int .i64 (byU k : Nat))
theorem UnitsAt.drew {w w' : World} {a b : Nat} (h : UnitsAt w a b) (d : Drew w w') : UnitsAt w' a b := by
  obtain ⟨n, rfl⟩ := d; exact h
def DRel (l : List UInt8) (v6 : Value) : Prop := ∃ i, i ≤ l.length ∧ (l.take i).all isD = true ∧ v6 = .int .i64 (i : Nat)
def KRel (l : List UInt8) (wA : World) (v7 : Value) (wr : World) : Prop := ∃ k, k ≤ 7 ∧ v7 = .int .i64 (k : Nat) ∧ Drew wA wr ∧ spGo (unitL.drop k) l = spGo unitL l
end Go.Proofs.YtaeglmgpoboihaaGreatDoor
/- The document's reader of rules: number, span, walked. -/
namespace Go.Proofs.YtaeglmgpoboihaaGreatDoor
open Go.ChangeShapes Go.WideShapes Go.ChangeAt Go.RowKit K L15 S3
open L14 (Tk)
set_option linter.unusedVariables false

/-- A token's text has at most so many bytes. -/
def ShortT (T : List Tk) : Prop := ∀ x ∈ T, x.t.length ≤ 100000
theorem short_at {T : List Tk} (h : ShortT T) (s : Pi) (hp : s.p < T.length) : (txt T s).length ≤ 100000 := by
  unfold txt
  rw [List.getD_eq_getElem?_getD, List.getElem?_eq_getElem hp]
  exact h _ (List.getElem_mem hp)
theorem numQ_no {T : List Tk} {last : Nat} {s : Pi} (h : at_ T s 2 [] = false) : number T last s = (0, fail T last s) := by unfold number; rw [h]; rfl
theorem numQ_bad {T : List Tk} {last : Nat} {s : Pi} (h : numOk (txt T s) = false) : number T last s = (0, fail T last s) := by unfold number; rw [h]; simp
theorem numQ_ok {T : List Tk} {last : Nat} {s : Pi} (h : at_ T s 2 [] = true) (h2 : numOk (txt T s) = true) : number T last s = (numI (txt T s), nx s) := by unfold number; rw [h, h2]; rfl
end Go.Proofs.YtaeglmgpoboihaaGreatDoor
