/- Texts on the program and on the document, joined: OidB, Rdq, OidG, Grp, OidE, ValB. -/
import Derived.Test.YtgjmnlgjdgjdbaaDoorMa11
import Derived.Test.YtgjmnlgjdgjdbaaDoorRows
import Derived.Test.YtgjmnlgjdgjdbaaDoorMa05
import Derived.ProofKit
import Derived.OpenShut
import Derived.ShutString
import Derived.IntWalk
import Derived.Test.YtgjmnlgjdgjdbaaDoorMa09
import Derived.BigQuiet
import Derived.Deep.QuietTactic
import Derived.Deep.RegionWith
import Derived.Test.YtgjmnlgjdgjdbaaDoorMa02
import Derived.Test.YtgjmnlgjdgjdbaaDoorMa01
import Derived.Deep.RegionHeld3
/- The document's own Arcs and Text, walked. -/
namespace Go.Proofs.YtgjmnlgjdgjdbaaDoor
open Go.ChangeShapes Go.WideShapes Go.ChangeAt Go.RowKit K O6
set_option linter.unusedVariables false

theorem put_chars : ∀ (l : List Nat), ∀ c ∈ put l, isDg c = true ∨ c = 46
  | [], c, h => by cases h
  | [a], c, h => .inl (List.all_eq_true.1 (dg_digits 20 a) c h)
  | a :: b :: r, c, h => by
    rw [put_cons] at h
    rcases List.mem_append.1 h with h1 | h1
    · exact .inl (List.all_eq_true.1 (dg_digits 20 a) c h1)
    · rcases List.mem_cons.1 h1 with h2 | h2
      · exact .inr h2
      · exact put_chars (b :: r) c h2
theorem sp_head : ∀ (l : List UInt8) (n : Nat), ∃ h t, sp l n = h :: t ∧ n ≤ h
  | [], n => ⟨n, [], rfl, Nat.le_refl n⟩
  | c :: r, n => by
    by_cases e : c = 46
    · subst e; exact ⟨n, sp r 0, sp_dot r n, Nat.le_refl n⟩
    · obtain ⟨h, t, h1, h2⟩ := sp_head r (n * 10 + (c.toNat - 48))
      refine ⟨h, t, ?_, by omega⟩
      show (if c = 46 then _ else _) = _
      rw [if_neg e]; exact h1
theorem sp_other (c : UInt8) (r : List UInt8) (n : Nat) (h : c ≠ 46) : sp (c :: r) n = sp r (n * 10 + (c.toNat - 48)) := by
  show (if c = 46 then _ else _) = _
  rw [if_neg h]
theorem arcs_bad_char {s : List UInt8} {i : Nat} (hi : i < s.length) (h1 : isDg s[i] = false) (h2 : s[i] ≠ 46) : arcs s = none := by
  cases h : arcs s with
  | none => rfl
  | some l =>
    obtain ⟨_, h4⟩ := (arcs_iff s l).1 h
    have hm : s[i] ∈ put l := by rw [h4]; exact List.getElem_mem hi
    rcases put_chars l _ hm with h5 | h5
    · rw [h1] at h5; cases h5
    · exact absurd h5 h2
theorem arcs_big {s : List UInt8} {o : List Nat} {l : List UInt8} {n : Nat} (h : sp s 0 = o ++ sp l n) (hn : 4294967295 < n) : arcs s = none := by
  unfold arcs
  rw [if_neg]
  rw [Bool.and_eq_true]
  rintro ⟨h1, _⟩
  obtain ⟨x, t, h2, h3⟩ := sp_head l n
  have := isArcs_le h1 x (by rw [h, h2]; simp)
  omega
theorem arcs_long {s : List UInt8} (h : 1408 < s.length) : arcs s = none := by
  cases hx : arcs s with
  | none => rfl
  | some l =>
    obtain ⟨h3, h4⟩ := (arcs_iff s l).1 hx
    have h5 := put_len l (isArcs_le h3)
    have h6 := isArcs_len h3
    rw [h4] at h5; omega
def arE (s : List UInt8) : Nat := if (arcs s).isSome then 0 else 60
def arL (s : List UInt8) : List Nat := (arcs s).getD []
theorem ar_none {s : List UInt8} (h : arcs s = none) : arE s = 60 ∧ arL s = [] := by unfold arE arL; rw [h]; exact ⟨rfl, rfl⟩
theorem ar_some {s : List UInt8} {l : List Nat} (h : arcs s = some l) : arE s = 0 ∧ arL s = l := by unfold arE arL; rw [h]; exact ⟨rfl, rfl⟩
theorem isZ_fz (cs : List Nat) : isZ cs.length (fz cs) = isArcs cs := by
  have h1 : (List.range cs.length).all (fun i => inR (fz cs i)) = cs.all (fun a => decide (a ≤ 4294967295)) := by
    rw [Bool.eq_iff_iff, List.all_eq_true, List.all_eq_true]
    constructor
    · intro h a ha
      obtain ⟨i, hi, rfl⟩ := List.getElem_of_mem ha
      have := h i (List.mem_range.2 hi)
      unfold inR fz at this
      simp only [Bool.and_eq_true, decide_eq_true_eq, List.getD, List.getElem?_eq_getElem hi, Option.getD_some] at this
      rw [decide_eq_true_eq]; omega
    · intro h i hi
      have hi2 := List.mem_range.1 hi
      have := h _ (List.getElem_mem hi2)
      unfold inR fz
      simp only [Bool.and_eq_true, decide_eq_true_eq, List.getD, List.getElem?_eq_getElem hi2, Option.getD_some] at this ⊢
      omega
  have h2 : decide (fz cs 0 < 2) = decide (cs.getD 0 0 < 2) := by unfold fz; rw [Bool.eq_iff_iff, decide_eq_true_eq, decide_eq_true_eq]; omega
  have h3 : decide (fz cs 1 ≤ 39) = decide (cs.getD 1 0 ≤ 39) := by unfold fz; rw [Bool.eq_iff_iff, decide_eq_true_eq, decide_eq_true_eq]; omega
  have h4 : (fz cs 0 == 2) = (cs.getD 0 0 == 2) := by unfold fz; rw [Bool.eq_iff_iff, beq_iff_eq, beq_iff_eq]; omega
  have h5 : decide (fz cs 1 ≤ 4294967215) = decide (cs.getD 1 0 ≤ 4294967215) := by unfold fz; rw [Bool.eq_iff_iff, decide_eq_true_eq, decide_eq_true_eq]; omega
  unfold isZ isArcs
  rw [h1, h2, h3, h4, h5]
theorem RdZ.own {w : World} {B : Nat} {T : TypeId} {v : Value} {cs : List Nat} (h : OwnI w B T v cs) : ∃ ao cap, v = .slice ao cs.length cap ∧ RdZ w ao cs.length (fz cs) := by
  obtain ⟨ao, cap, hv, hc⟩ := h.form
  refine ⟨ao, cap, hv, ?_⟩
  rcases hc with h0 | ⟨g, ha, _, hg, hcell⟩
  · exact .inl h0
  · exact .inr ⟨g, 0, ha, hg, fun i hi => by rw [Nat.zero_add]; exact (hcell i hi).1⟩
/-- What Arcs hands back: the code, and the arcs in a list of its own. -/
def ArPost (s : List UInt8) (w : World) (e : Ending) (w' : World) : Prop :=
  ∃ v, e = .returned (.tuple #[v, .int .i64 (arE s : Nat)]) ∧ OwnI w' w.heap.size 3 v (arL s) ∧ Below w.heap.size w w'
def ArRel (s : List UInt8) (w : World) (g : Nat) (v4 v5 v6 : Value) (wr : World) : Prop :=
  ∃ (i n : Nat) (o : List Nat), i + g = s.length + 1 ∧ v6 = .int .i64 (i : Nat) ∧ v5 = .int .i64 (n : Nat) ∧ n ≤ 42949672959 ∧ o.length ≤ i ∧ OwnI wr w.heap.size 3 v4 o ∧ Below w.heap.size w wr ∧
    (i ≤ s.length → sp s 0 = o ++ sp (s.drop i) n) ∧ (s.length < i → o = sp s 0)
theorem int_info6 : (Tryd.prog.info? 3).map (fun i => (i.zero, i.size, i.bytes)) = some (some (.int .i64 0), 1, 8) := by kernel_rfl
theorem ret_two6 {a b c d : Value} (h : a = b) (k : c = d) : Ending.returned (.tuple #[a, c]) = .returned (.tuple #[b, d]) := by rw [h, k]
end Go.Proofs.YtgjmnlgjdgjdbaaDoor
/- The document's reader: Left, Groups. -/
namespace Go.Proofs.YtgjmnlgjdgjdbaaDoor
open Go.ChangeShapes Go.WideShapes Go.ChangeAt Go.RowKit P1 K
set_option linter.unusedVariables false

def QRel (w : World) (l : List UInt8) (most : Int) (vn vi : Value) (wr : World) : Prop :=
  ∃ i n d : Nat, i ≤ 9 ∧ i ≤ l.length ∧ n < 128 ^ i ∧ vn = .int .i64 n ∧ vi = .int .i64 i ∧ (0 < i → ¬ byt l 0 = 128) ∧ rgo l most 9 0 0 = rgo l most (9 - i) i n ∧ wr = w.drewN d

end Go.Proofs.YtgjmnlgjdgjdbaaDoor
/- The document's own Decode, walked. -/
namespace Go.Proofs.YtgjmnlgjdgjdbaaDoor
open Go.ChangeShapes Go.WideShapes Go.ChangeAt Go.RowKit K O6
set_option linter.unusedVariables false

/-- What is told so far, and what is yet to be told. -/
def ahO (xs : List Nat) (x : Option (List Nat)) : Option (List Nat) := match x with | none => none | some r => some (xs ++ r)
theorem ahO_more (xs : List Nat) {l : List UInt8} (h : l ≠ []) (hc : (P1.rgo l 4294967295 9 0 0).2.2 = 0) : ahO xs (gpl l) = ahO (xs ++ [(P1.rgo l 4294967295 9 0 0).1]) (gpl (l.drop (P1.rgo l 4294967295 9 0 0).2.1)) := by
  rw [gpl_step h, if_pos hc]
  cases gpl (l.drop (P1.rgo l 4294967295 9 0 0).2.1) with
  | none => rfl
  | some r => simp [ahO]
theorem ahO_bad (xs : List Nat) {l : List UInt8} (h : l ≠ []) (hc : ¬ (P1.rgo l 4294967295 9 0 0).2.2 = 0) : ahO xs (gpl l) = none := by
  rw [gpl_step h, if_neg hc]; rfl
theorem Below_drewNg {B : Nat} {a b : World} (h : Below B a b) (n : Nat) : Below B a (b.drewN n) := ⟨h.os, h.tape, h.output, h.size, h.block⟩
theorem deA_out {b : List UInt8} {n : Nat} {ys : List Nat} (h1 : b ≠ []) (h2 : b.length ≤ 640) (h : gpl b = some (n :: ys)) : deA b = if isArcs (a0 n :: a1 n :: ys) then some (a0 n :: a1 n :: ys) else none := by
  unfold deA
  rw [if_neg (by rintro (h0 | h0); exact h1 h0; omega), h]
theorem deA_bad {b : List UInt8} (h : gpl b = none) : deA b = none := by
  unfold deA
  by_cases hc : b = [] ∨ 640 < b.length
  · rw [if_pos hc]
  · rw [if_neg hc, h]
theorem quiet_drG {P : Program} {f : FuncId} {args : Array Value} {w : World} {n : Nat} {v : Value}
    (h : Calls P f args (w.drewN n) fun e w' => e = .returned v ∧ ∃ k, w' = (w.drewN n).drewN k) : Calls P f args (w.drewN n) fun e w'' => e = .returned v ∧ ∃ m, w'' = w.drewN m :=
  h.mono fun _ _ ⟨he, k, hk⟩ => ⟨he, n + k, by rw [hk]; unfold World.drewN; simp [Nat.add_assoc]⟩
theorem ownI_two (w : World) (B : Nat) (T : TypeId) (x y : Nat) (hB : B ≤ w.heap.size) : OwnI (w.alloc (.cells #[.int .i64 (x : Nat), .int .i64 (y : Nat)] T)) B T (.slice (some ⟨w.heap.size, 0, none⟩) 2 2) [x, y] :=
  ⟨rfl, .inr ⟨w.heap.size, 2, _, rfl, hB, rowNew w _, Nat.le_refl _, by unfold maxLen; omega, rfl, rfl⟩⟩
theorem ownI_kp {w w' : World} {rb : Nat} {T : TypeId} {v : Value} {cs : List Nat} (h : OwnI w (rb + 1) T v cs) (k : Kp [rb] w w') : OwnI w' (rb + 1) T v cs := by
  refine ⟨h.1, ?_⟩
  rcases h.2 with hn | ⟨g, cap, cur, h1, h2, h3, h4⟩
  · exact .inl hn
  · exact .inr ⟨g, cap, cur, h1, h2, k.heap h3 (by simp; omega), h4⟩
/-- One number more. -/
theorem ahO_next {b : List UInt8} {p : Nat} (xs : List Nat) (hp : p < b.length) :
    (P1.rdG b p 0 4294967295).1 ≤ 4294967295 ∧ ((P1.rdG b p 0 4294967295).2.2 = 0 → p < (P1.rdG b p 0 4294967295).2.1 ∧ ahO xs (gpl (b.drop p)) = ahO (xs ++ [(P1.rdG b p 0 4294967295).1]) (gpl (b.drop (P1.rdG b p 0 4294967295).2.1))) ∧ (¬ (P1.rdG b p 0 4294967295).2.2 = 0 → ahO xs (gpl (b.drop p)) = none) := by
  have hne : b.drop p ≠ [] := by
    intro h
    have := congrArg List.length h
    rw [List.length_drop] at this
    simp at this; omega
  by_cases hc : (P1.rgo (b.drop p) 4294967295 9 0 0).2.2 = 0
  · have hu := rgo_used hc
    have hm := rgo_most (b.drop p) 4294967295 9 0 0 hc
    have ha := ahO_more xs hne hc
    rw [P1.rdG_yes b p 4294967295 hc]
    refine ⟨?_, fun _ => ⟨?_, ?_⟩, fun h => absurd rfl h⟩
    · show (P1.rgo (b.drop p) 4294967295 9 0 0).1 ≤ 4294967295
      omega
    · show p < p + (P1.rgo (b.drop p) 4294967295 9 0 0).2.1
      omega
    · rw [ha, List.drop_drop]
  · rw [P1.rdG_no b p 4294967295 hc]
    exact ⟨Nat.zero_le _, fun h => absurd h hc, fun _ => ahO_bad xs hne hc⟩
end Go.Proofs.YtgjmnlgjdgjdbaaDoor
/- gongref01.Grouped alone: for the stages whose rows have no more of layer 1. -/
namespace Go.Proofs.YtgjmnlgjdgjdbaaDoor
open Go.ChangeShapes Go.WideShapes Go.ChangeAt Go.RowKit P1 K
set_option linter.unusedVariables false

def GpRel (w : World) (t : List UInt8) (vn vs : Value) (wr : World) : Prop :=
  ∃ (m f : Nat) (l : List UInt8), m < 128 ^ (f + 1) ∧ f ≤ 8 ∧ vn = .int .i64 m ∧ vs = .string (bs l) ∧ l.length + f ≤ 9 ∧ low f (m / 128) ++ l = t ∧ Below w.heap.size w wr

end Go.Proofs.YtgjmnlgjdgjdbaaDoor
/- The document's own Encode, walked. -/
namespace Go.Proofs.YtgjmnlgjdgjdbaaDoor
open Go.ChangeShapes Go.WideShapes Go.ChangeAt Go.RowKit K O6
set_option linter.unusedVariables false

def enS (s : List UInt8) : List UInt8 := if (arcs s).isSome then eb (arL s) else []
def EnRel (l : List Nat) (w : World) (g : Nat) (v6 v7 : Value) (wr : World) : Prop :=
  ∃ (i : Nat) (o : List UInt8), i + g = l.length ∧ 2 ≤ i ∧ v7 = .int .i64 (i : Nat) ∧ v6 = .string (bs o) ∧ o = ebt l i ∧ o.length ≤ 9 * i ∧ Below w.heap.size w wr
end Go.Proofs.YtgjmnlgjdgjdbaaDoor
/- The document's Check, Put, Encode of values, walked. -/
namespace Go.Proofs.YtgjmnlgjdgjdbaaDoor
open Go.ChangeShapes Go.WideShapes Go.ChangeAt Go.RowKit K P1 B5
set_option linter.unusedVariables false

open V7 in
/-- What is looked at, one after the other, and the answer. -/
inductive Ck : Int → Int → List UInt8 → Nat → Prop
  | i1 {n s} (h1 : s.isEmpty = false) : Ck 2 n s 70
  | i2 {n s} (h1 : s.isEmpty = true) (h2 : n < -2147483648) : Ck 2 n s 70
  | i3 {n s} (h1 : s.isEmpty = true) (h2 : -2147483648 ≤ n) (h3 : decide (n ≤ 2147483647) = false) : Ck 2 n s 70
  | i4 {n s} (h1 : s.isEmpty = true) (h2 : -2147483648 ≤ n) (h3 : n ≤ 2147483647) : Ck 2 n s 0
  | a1 {n s} (h1 : (n == 0) = false) : Ck 4 n s 70
  | a2 {n s} (h1 : (n == 0) = true) (h2 : decide (((s.length : Nat) : Int) ≤ 65535) = false) : Ck 4 n s 70
  | a3 {n s} (h1 : (n == 0) = true) (h2 : ((s.length : Nat) : Int) ≤ 65535) : Ck 4 n s 0
  | b1 {n s} (h1 : (n == 0) = false) : Ck 68 n s 70
  | b2 {n s} (h1 : (n == 0) = true) (h2 : decide (((s.length : Nat) : Int) ≤ 65535) = false) : Ck 68 n s 70
  | b3 {n s} (h1 : (n == 0) = true) (h2 : ((s.length : Nat) : Int) ≤ 65535) : Ck 68 n s 0
  | n1 {n s} (h1 : (n == 0) = false) : Ck 5 n s 70
  | n2 {n s} (h1 : (n == 0) = true) (h2 : s.isEmpty = false) : Ck 5 n s 70
  | n3 {n s} (h1 : (n == 0) = true) (h2 : s.isEmpty = true) : Ck 5 n s 0
  | o1 {n s} (h1 : (n == 0) = false) : Ck 6 n s 70
  | o2 {n s} (h1 : (n == 0) = true) (h2 : (O6.arcs s).isSome = false) : Ck 6 n s 70
  | o3 {n s} (h1 : (n == 0) = true) (h2 : (O6.arcs s).isSome = true) : Ck 6 n s 0
  | d1 {n s} (h1 : (n == 0) = false) : Ck 64 n s 70
  | d2 {n s} (h1 : (n == 0) = true) (h2 : (((s.length : Nat) : Int) == 4) = false) : Ck 64 n s 70
  | d3 {n s} (h1 : (n == 0) = true) (h2 : (((s.length : Nat) : Int) == 4) = true) : Ck 64 n s 0
  | c1 {k n s} (hk : k = 65 ∨ k = 66 ∨ k = 67) (h1 : s.isEmpty = false) : Ck k n s 70
  | c2 {k n s} (hk : k = 65 ∨ k = 66 ∨ k = 67) (h1 : s.isEmpty = true) (h2 : n < 0) : Ck k n s 70
  | c3 {k n s} (hk : k = 65 ∨ k = 66 ∨ k = 67) (h1 : s.isEmpty = true) (h2 : 0 ≤ n) (h3 : decide (n ≤ 4294967295) = false) : Ck k n s 70
  | c4 {k n s} (hk : k = 65 ∨ k = 66 ∨ k = 67) (h1 : s.isEmpty = true) (h2 : 0 ≤ n) (h3 : n ≤ 4294967295) : Ck k n s 0
  | g1 {n s} (h1 : s.isEmpty = false) : Ck 70 n s 70
  | g2 {n s} (h1 : s.isEmpty = true) : Ck 70 n s 0
  | z {k n s} (h1 : (k == 2) = false) (h2 : (k == 4) = false) (h3 : (k == 68) = false) (h4 : (k == 5) = false) (h5 : (k == 6) = false) (h6 : (k == 64) = false) (h7 : (k == 65) = false) (h8 : (k == 66) = false) (h9 : (k == 67) = false) (h10 : (k == 70) = false) : Ck k n s 70
open V7 in
theorem ck_all (k n : Int) (s : List UInt8) : Ck k n s (ckE k n s) := by
  have hlen : ∀ c : Nat, (((s.length : Nat) : Int) ≤ (c : Int)) = (s.length ≤ c) := fun c => propext (by omega)
  by_cases k2 : k = 2
  · subst k2
    cases h1 : s.isEmpty
    · rw [show ckE 2 n s = 70 by simp [ckE, ckV, h1]]; exact .i1 h1
    · by_cases h2 : -2147483648 ≤ n
      · by_cases h3 : n ≤ 2147483647
        · rw [show ckE 2 n s = 0 by simp [ckE, ckV, h1, h2, h3]]; exact .i4 h1 h2 h3
        · rw [show ckE 2 n s = 70 by simp [ckE, ckV, h1, h2, h3]]; exact .i3 h1 h2 (decide_eq_false h3)
      · rw [show ckE 2 n s = 70 by simp [ckE, ckV, h1, h2]]; exact .i2 h1 (by omega)
  by_cases k4 : k = 4
  · subst k4
    cases h1 : (n == 0)
    · rw [show ckE 4 n s = 70 by simp [ckE, ckV, h1]]; exact .a1 h1
    · by_cases h2 : s.length ≤ 65535
      · rw [show ckE 4 n s = 0 by simp [ckE, ckV, h1, h2]]; exact .a3 h1 (by omega)
      · rw [show ckE 4 n s = 70 by simp [ckE, ckV, h1, h2]]; exact .a2 h1 (decide_eq_false (by omega))
  by_cases k68 : k = 68
  · subst k68
    cases h1 : (n == 0)
    · rw [show ckE 68 n s = 70 by simp [ckE, ckV, h1]]; exact .b1 h1
    · by_cases h2 : s.length ≤ 65535
      · rw [show ckE 68 n s = 0 by simp [ckE, ckV, h1, h2]]; exact .b3 h1 (by omega)
      · rw [show ckE 68 n s = 70 by simp [ckE, ckV, h1, h2]]; exact .b2 h1 (decide_eq_false (by omega))
  by_cases k5 : k = 5
  · subst k5
    cases h1 : (n == 0)
    · rw [show ckE 5 n s = 70 by simp [ckE, ckV, h1]]; exact .n1 h1
    · cases h2 : s.isEmpty
      · rw [show ckE 5 n s = 70 by simp [ckE, ckV, h1, h2]]; exact .n2 h1 h2
      · rw [show ckE 5 n s = 0 by simp [ckE, ckV, h1, h2]]; exact .n3 h1 h2
  by_cases k6 : k = 6
  · subst k6
    cases h1 : (n == 0)
    · rw [show ckE 6 n s = 70 by simp [ckE, ckV, h1]]; exact .o1 h1
    · cases h2 : (O6.arcs s).isSome
      · rw [show ckE 6 n s = 70 by simp [ckE, ckV, h1, h2]]; exact .o2 h1 h2
      · rw [show ckE 6 n s = 0 by simp [ckE, ckV, h1, h2]]; exact .o3 h1 h2
  by_cases k64 : k = 64
  · subst k64
    cases h1 : (n == 0)
    · rw [show ckE 64 n s = 70 by simp [ckE, ckV, h1]]; exact .d1 h1
    · by_cases h2 : s.length = 4
      · rw [show ckE 64 n s = 0 by simp [ckE, ckV, h1, h2]]; exact .d3 h1 (by rw [beq_iff_eq]; omega)
      · rw [show ckE 64 n s = 70 by simp [ckE, ckV, h1, h2]]; exact .d2 h1 (by rw [beq_eq_false_iff_ne]; omega)
  by_cases k65 : k = 65 ∨ k = 66 ∨ k = 67
  · have hv : ckV k n s = (s.isEmpty && (decide (0 ≤ n) && decide (n ≤ 4294967295))) := by
      unfold ckV
      rw [if_neg k2, if_neg (by omega), if_neg k5, if_neg k6, if_neg k64, if_pos k65]
    cases h1 : s.isEmpty
    · rw [show ckE k n s = 70 by simp [ckE, hv, h1]]; exact .c1 k65 h1
    · by_cases h2 : 0 ≤ n
      · by_cases h3 : n ≤ 4294967295
        · rw [show ckE k n s = 0 by simp [ckE, hv, h1, h2, h3]]; exact .c4 k65 h1 h2 h3
        · rw [show ckE k n s = 70 by simp [ckE, hv, h1, h2, h3]]; exact .c3 k65 h1 h2 (decide_eq_false h3)
      · rw [show ckE k n s = 70 by simp [ckE, hv, h1, h2]]; exact .c2 k65 h1 (by omega)
  by_cases k70 : k = 70
  · subst k70
    cases h1 : s.isEmpty
    · rw [show ckE 70 n s = 70 by simp [ckE, ckV, h1]]; exact .g1 h1
    · rw [show ckE 70 n s = 0 by simp [ckE, ckV, h1]]; exact .g2 h1
  have hv : ckV k n s = false := by
    unfold ckV
    rw [if_neg k2, if_neg (by omega), if_neg k5, if_neg k6, if_neg k64, if_neg k65, if_neg k70]
  rw [show ckE k n s = 70 by simp [ckE, hv]]
  have e : ∀ c : Int, ¬ k = c → (k == c) = false := fun c h => beq_eq_false_iff_ne.2 h
  exact .z (e _ k2) (e _ k4) (e _ k68) (e _ k5) (e _ k6) (e _ k64) (e _ (by omega)) (e _ (by omega)) (e _ (by omega)) (e _ k70)
end Go.Proofs.YtgjmnlgjdgjdbaaDoor
