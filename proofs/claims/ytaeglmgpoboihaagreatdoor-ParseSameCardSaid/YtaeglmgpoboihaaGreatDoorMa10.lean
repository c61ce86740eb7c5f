/- Texts on the program and on the document, joined: ParT, PaqM, PaqD. -/
import Derived.Test.YtaeglmgpoboihaaGreatDoorMa09
/- The document's reader of rules: watch, walked. gen_part.py writes it. -/
namespace Go.Proofs.YtaeglmgpoboihaaGreatDoor
open Go.ChangeShapes Go.WideShapes Go.ChangeAt Go.RowKit K L15 S3
open L14 (Tk)
set_option linter.unusedVariables false

theorem number_p (T : List Tk) (last : Nat) (s : Pi) : s.p ≤ (number T last s).2.p := by
  unfold number; split
  · show s.p ≤ s.p + 1; omega
  · show s.p ≤ (fail T last s).p; rw [fail_p]; omega
theorem span_p (T : List Tk) (last : Nat) (s : Pi) : s.p ≤ (span T last s).2.p := by
  unfold span; split
  · show s.p ≤ s.p + 1; omega
  · show s.p ≤ (fail T last s).p; rw [fail_p]; omega
theorem which_p (T : List Tk) (last : Nat) (seen : List Nat) : ∀ (L : List (List UInt8)) (i : Nat) (a : Option Nat) (s : Pi),
    s.p ≤ (which T last seen L i a s).2.p ∧ (∀ j, (which T last seen L i a s).1 = some j → a = some j ∨ (s.p + 1 ≤ (which T last seen L i a s).2.p ∧ j < i + L.length))
  | [], i, a, s => ⟨Nat.le_refl _, fun j h => .inl h⟩
  | x :: r, i, a, s => by
    have hp := again_p T last seen x i s
    rw [which]
    split
    · have ih := which_p T last seen r (i + 1) (some i) (nx (again T last seen x i s))
      have hn : (nx (again T last seen x i s)).p = (again T last seen x i s).p + 1 := rfl
      refine ⟨by omega, fun j hj => ?_⟩
      rcases ih.2 j hj with h | h
      · injection h with h
        subst h
        exact .inr ⟨by omega, by simp⟩
      · exact .inr ⟨by omega, by simp only [List.length_cons]; omega⟩
    · have ih := which_p T last seen r (i + 1) a (again T last seen x i s)
      refine ⟨by omega, fun j hj => ?_⟩
      rcases ih.2 j hj with h | h
      · exact .inl h
      · exact .inr ⟨by omega, by simp only [List.length_cons]; omega⟩
theorem clause_p (T : List Tk) (last : Nat) (x : Wt) (seen : List Nat) (s : Pi) : (clause T last x seen s).2.1.length + s.p ≤ seen.length + (clause T last x seen s).2.2.p ∧ ((clause T last x seen s).2.2.bad = none → s.p + 1 ≤ (clause T last x seen s).2.2.p) ∧ ((∀ i ∈ seen, i < 5) → ∀ i ∈ (clause T last x seen s).2.1, i < 5) := by
  have hw := which_p T last seen wClauses 0 none s
  unfold clause
  cases hc : which T last seen wClauses 0 none s with
  | mk a sa =>
    rw [hc] at hw
    cases a with
    | none =>
      refine ⟨?_, fun h => absurd h (fail_bad T last sa), fun h => h⟩
      show seen.length + s.p ≤ seen.length + (fail T last sa).p
      have h1 : s.p ≤ sa.p := hw.1
      rw [fail_p]; omega
    | some j =>
      obtain ⟨h1, h2⟩ : s.p + 1 ≤ sa.p ∧ j < 5 := by
        rcases hw.2 j rfl with h | h
        · cases h
        · exact ⟨h.1, by simpa [wClauses] using h.2⟩
      have key : ∀ sz : Pi, sa.p ≤ sz.p → ((seen ++ [j]).length + s.p ≤ seen.length + (sign T last [59] sz).p) ∧ s.p + 1 ≤ (sign T last [59] sz).p := fun sz hz => by
        have := sign_p T last [59] sz
        rw [List.length_append]
        simp only [List.length_singleton]
        omega
      have mem : (∀ i ∈ seen, i < 5) → ∀ i ∈ seen ++ [j], i < 5 := fun h i hi => by
        rcases List.mem_append.1 hi with hi | hi
        · exact h i hi
        · rw [List.mem_singleton.1 hi]; exact h2
      simp only
      split
      · exact ⟨(key _ (text_p T last sa)).1, fun _ => (key _ (text_p T last sa)).2, mem⟩
      · split
        · exact ⟨(key _ (text_p T last sa)).1, fun _ => (key _ (text_p T last sa)).2, mem⟩
        · split
          · exact ⟨(key _ (number_p T last sa)).1, fun _ => (key _ (number_p T last sa)).2, mem⟩
          · split
            · exact ⟨(key _ (span_p T last sa)).1, fun _ => (key _ (span_p T last sa)).2, mem⟩
            · have hz : sa.p ≤ (text T last (number T last (text T last sa).2).2).2.p := Nat.le_trans (text_p T last sa) (Nat.le_trans (number_p T last _) (text_p T last _))
              exact ⟨(key _ hz).1, fun _ => (key _ hz).2, mem⟩
theorem wa_stop {T : List Tk} {last : Nat} {s : Pi} (h : goOn T s = false) (x : Wt) (seen : List Nat) : ∀ g, watches T last g x seen s = (x, s)
  | 0 => rfl
  | g + 1 => by rw [watches, h]; rfl
theorem wa_go {T : List Tk} {last : Nat} {s : Pi} (h : goOn T s = true) (x : Wt) (seen : List Nat) (g : Nat) : watches T last (g + 1) x seen s = watches T last g (clause T last x seen s).1 (clause T last x seen s).2.1 (clause T last x seen s).2.2 := by rw [watches, h]; rfl
end Go.Proofs.YtaeglmgpoboihaaGreatDoor
/- A watch's clauses as the program takes them: the first word that was not seen yet. Plain. gen_paqm.py writes it. -/
namespace Go.Proofs.YtaeglmgpoboihaaGreatDoor
open Go.ChangeShapes Go.WideShapes Go.ChangeAt Go.RowKit K L15 S3
open L14 (Tk)
set_option linter.unusedVariables false
namespace PQ
theorem fail_of {T : List Tk} {last l : Nat} {s : Pi} (h : s.bad = some l) : fail T last s = s := by unfold fail; rw [h]
theorem fail_idem (T : List Tk) (last : Nat) (s : Pi) : fail T last (fail T last s) = fail T last s := by
  have := fail_bad' T last s
  cases hx : (fail T last s).bad with
  | none => rw [hx] at this; cases this
  | some l => exact fail_of hx
section
variable {T : List Tk} {last : Nat} {seen : List Nat}
theorem again_no {x : List UInt8} {i : Nat} {s : Pi} (h : at_ T s 1 x = false) : again T last seen x i s = s := by unfold again; rw [h, Bool.and_false]; rfl
theorem which_some : ∀ (L : List (List UInt8)) (i k : Nat) (s : Pi), (∀ x ∈ L, x ≠ []) → ∃ a, which T last seen L i (some k) s = (some k, a) ∧ (a = s ∨ (a = fail T last s ∧ ∃ x, x ≠ [] ∧ at_ T s 1 x = true))
  | [], i, k, s, _ => ⟨s, rfl, .inl rfl⟩
  | x :: r, i, k, s, hL => by
    have hr : ∀ y ∈ r, y ≠ [] := fun y hy => hL y (List.mem_cons_of_mem _ hy)
    rw [which, show (Option.isNone (some k) && (word T x (again T last seen x i s)).1) = false from rfl]
    simp only [Bool.false_eq_true, if_false]
    cases hc : (seen.contains i && at_ T s 1 x) with
    | true =>
      have ha : again T last seen x i s = fail T last s := by unfold again; rw [hc]; rfl
      rw [ha]
      obtain ⟨a, h1, h2⟩ := which_some r (i + 1) k (fail T last s) hr
      rw [Bool.and_eq_true] at hc
      refine ⟨a, h1, .inr ⟨?_, x, hL x (List.mem_cons_self), hc.2⟩⟩
      rcases h2 with h2 | ⟨h2, -⟩
      · exact h2
      · rw [h2, fail_idem]
    | false =>
      have ha : again T last seen x i s = s := by unfold again; rw [hc]; rfl
      rw [ha]
      exact which_some r (i + 1) k s hr
theorem which_pass : ∀ (L : List (List UInt8)) (i : Nat) (s : Pi), (∀ x ∈ L, at_ T s 1 x = false) → which T last seen L i none s = (none, s)
  | [], i, s, _ => rfl
  | x :: r, i, s, h => by
    have hx := h x (List.mem_cons_self)
    rw [which, again_no hx, word_no hx]
    exact which_pass r (i + 1) s (fun y hy => h y (List.mem_cons_of_mem _ hy))
theorem which_hit {B : List (List UInt8)} (hB : ∀ x ∈ B, x ≠ []) {x : List UInt8} {s : Pi} (hx : at_ T s 1 x = true) : ∀ (A : List (List UInt8)) (j : Nat), (∀ y ∈ A, at_ T s 1 y = false) → seen.contains (j + A.length) = false → ∃ a, which T last seen (A ++ x :: B) j none s = (some (j + A.length), a) ∧ (a = nx s ∨ (a = fail T last (nx s) ∧ ∃ x, x ≠ [] ∧ at_ T (nx s) 1 x = true))
  | [], j, _, hs => by
    rw [List.nil_append, which, show again T last seen x j s = s by unfold again; rw [show seen.contains j = false from hs, Bool.false_and]; rfl, word_yes hx]
    exact which_some B (j + 1) j (nx s) hB
  | y :: A, j, hA, hs => by
    have hy := hA y (List.mem_cons_self)
    rw [List.cons_append, which, again_no hy, word_no hy]
    have := which_hit hB hx A (j + 1) (fun z hz => hA z (List.mem_cons_of_mem _ hz)) (by rw [← hs, List.length_cons]; congr 1; omega)
    rw [show j + 1 + A.length = j + (y :: A).length by rw [List.length_cons]; omega] at this
    exact this
theorem which_seen {B : List (List UInt8)} {x : List UInt8} {s : Pi} (hx : at_ T s 1 x = true) : ∀ (A : List (List UInt8)) (j : Nat), (∀ y ∈ A, at_ T s 1 y = false) → seen.contains (j + A.length) = true → which T last seen (A ++ x :: B) j none s = (none, fail T last s)
  | [], j, _, hs => by
    rw [List.nil_append, which, show again T last seen x j s = fail T last s by unfold again; rw [show seen.contains j = true from hs, hx]; rfl, word_no (at_fail T last s 1 x)]
    exact which_pass B (j + 1) _ (fun y _ => at_fail T last s 1 y)
  | y :: A, j, hA, hs => by
    have hy := hA y (List.mem_cons_self)
    rw [List.cons_append, which, again_no hy, word_no hy]
    exact which_seen hx A (j + 1) (fun z hz => hA z (List.mem_cons_of_mem _ hz)) (by rw [← hs, List.length_cons]; congr 1; omega)
theorem at_ne {s : Pi} {x y : List UInt8} (h : at_ T s 1 x = true) (hx : x ≠ []) (hy : y ≠ []) (hn : y ≠ x) : at_ T s 1 y = false := by
  rw [at_some hx, Bool.and_eq_true, beq_iff_eq] at h
  rw [at_some hy, h.2, show (x == y) = false by rw [beq_eq_false_iff_ne]; exact fun e => hn e.symm, Bool.and_false]
/-- Where a word stands, nothing else does. -/
theorem at_kind {s : Pi} {x : List UInt8} {k : Nat} (h : at_ T s 1 x = true) (hk : k ≠ 1) : at_ T s k [] = false := by
  obtain ⟨hb, hp⟩ := nx_in h
  rw [at_val hb hp] at h ⊢
  simp only [Bool.and_eq_true, beq_iff_eq] at h
  rw [h.1, show ((1 : Nat) == k) = false by rw [beq_eq_false_iff_ne]; exact fun e => hk e.symm, Bool.false_and]
def Late (T : List Tk) (last : Nat) (s a : Pi) : Prop := a = s ∨ (a = fail T last s ∧ ∃ x, x ≠ [] ∧ at_ T s 1 x = true)
theorem late_text {s a : Pi} (h : Late T last s a) : L15.text T last a = take T last 4 [] s := by
  rcases h with rfl | ⟨rfl, x, -, hx⟩
  · rfl
  · unfold L15.text L15.take
    rw [at_fail, at_kind hx (by decide), fail_idem]; rfl
theorem late_number {s a : Pi} (h : Late T last s a) : number T last a = number T last s := by
  rcases h with rfl | ⟨rfl, x, -, hx⟩
  · rfl
  · unfold number
    rw [at_fail, at_kind hx (by decide), fail_idem]; rfl
theorem late_span {s a : Pi} (h : Late T last s a) : span T last a = span T last s := by
  rcases h with rfl | ⟨rfl, x, -, hx⟩
  · rfl
  · unfold span
    rw [at_fail, at_kind hx (by decide), fail_idem]; rfl
theorem wcl_ne : ∀ i, i < 5 → ∀ y ∈ wClauses.take i, y ≠ [] ∧ y ≠ wClauses.getD i [] := by decide
theorem wcl_nn : ∀ y ∈ wClauses, y ≠ [] := by decide
theorem wcl_at (i : Nat) (hi : i < 5) : wClauses = wClauses.take i ++ wClauses.getD i [] :: wClauses.drop (i + 1) ∧ (wClauses.take i).length = i ∧ wClauses.getD i [] ≠ [] := by
  obtain rfl | rfl | rfl | rfl | rfl : i = 0 ∨ i = 1 ∨ i = 2 ∨ i = 3 ∨ i = 4 := by omega
  all_goals exact ⟨rfl, rfl, by decide⟩
theorem which_at1 {s : Pi} {i : Nat} (hi : i < 5) (h : at_ T s 1 (wClauses.getD i []) = true) (hs : seen.contains i = false) : ∃ a, which T last seen wClauses 0 none s = (some i, a) ∧ Late T last (nx s) a := by
  obtain ⟨e1, e2, e3⟩ := wcl_at i hi
  have hB : ∀ x ∈ wClauses.drop (i + 1), x ≠ [] := fun x hx => wcl_nn x (List.mem_of_mem_drop hx)
  have := which_hit (last := last) (seen := seen) hB h (wClauses.take i) 0 (fun y hy => at_ne h e3 (wcl_ne i hi y hy).1 (wcl_ne i hi y hy).2) (by rw [e2, Nat.zero_add]; exact hs)
  rw [← e1, e2, Nat.zero_add] at this
  exact this
/-- No word of a clause that may come: it is wrong. -/
theorem clause_miss {s : Pi} {w : Wt} (h : ∀ i, i < 5 → (!seen.contains i && at_ T s 1 (wClauses.getD i [])) = false) : clause T last w seen s = (w, seen, fail T last s) := by
  unfold clause
  by_cases hx : ∃ i, i < 5 ∧ at_ T s 1 (wClauses.getD i []) = true
  · obtain ⟨i, hi, hat⟩ := hx
    have hs : seen.contains i = true := by have := h i hi; rw [hat, Bool.and_true] at this; simpa using this
    obtain ⟨e1, e2, e3⟩ := wcl_at i hi
    have := which_seen (last := last) (seen := seen) (B := wClauses.drop (i + 1)) hat (wClauses.take i) 0 (fun y hy => at_ne hat e3 (wcl_ne i hi y hy).1 (wcl_ne i hi y hy).2) (by rw [e2, Nat.zero_add]; exact hs)
    rw [← e1] at this
    rw [this]
    simp only
    rw [fail_idem]
  · have : ∀ x ∈ wClauses, at_ T s 1 x = false := by
      intro x hm
      have : x = wClauses.getD 0 [] ∨ x = wClauses.getD 1 [] ∨ x = wClauses.getD 2 [] ∨ x = wClauses.getD 3 [] ∨ x = wClauses.getD 4 [] := by
        simp only [wClauses, List.mem_cons, List.mem_nil_iff, or_false] at hm
        exact hm
      have hz : ∀ i, i < 5 → at_ T s 1 (wClauses.getD i []) = false := fun i hi => by
        cases hq : at_ T s 1 (wClauses.getD i []) with
        | false => rfl
        | true => exact absurd ⟨i, hi, hq⟩ hx
      rcases this with rfl | rfl | rfl | rfl | rfl
      · exact hz 0 (by omega)
      · exact hz 1 (by omega)
      · exact hz 2 (by omega)
      · exact hz 3 (by omega)
      · exact hz 4 (by omega)
    rw [which_pass wClauses 0 s this]
theorem clause_0 {s : Pi} {w : Wt} (h : (!seen.contains 0 && at_ T s 1 (wClauses.getD 0 [])) = true) : clause T last w seen s = ({ w with cl := (take T last 4 [] (nx s)).1 }, seen ++ [0], sign T last [59] (take T last 4 [] (nx s)).2) := by
  rw [Bool.and_eq_true] at h
  obtain ⟨a, e, hl⟩ := which_at1 (last := last) (seen := seen) (i := 0) (by decide) h.2 (by simpa using h.1)
  unfold clause
  rw [e]
  simp only [late_text hl, late_number hl, late_span hl]
  rfl
theorem clause_1 {s : Pi} {w : Wt} (h : (!seen.contains 1 && at_ T s 1 (wClauses.getD 1 [])) = true) : clause T last w seen s = ({ w with ot := (take T last 4 [] (nx s)).1 }, seen ++ [1], sign T last [59] (take T last 4 [] (nx s)).2) := by
  rw [Bool.and_eq_true] at h
  obtain ⟨a, e, hl⟩ := which_at1 (last := last) (seen := seen) (i := 1) (by decide) h.2 (by simpa using h.1)
  unfold clause
  rw [e]
  simp only [late_text hl, late_number hl, late_span hl]
  rfl
theorem clause_2 {s : Pi} {w : Wt} (h : (!seen.contains 2 && at_ T s 1 (wClauses.getD 2 [])) = true) : clause T last w seen s = ({ w with ct := (number T last (nx s)).1 }, seen ++ [2], sign T last [59] (number T last (nx s)).2) := by
  rw [Bool.and_eq_true] at h
  obtain ⟨a, e, hl⟩ := which_at1 (last := last) (seen := seen) (i := 2) (by decide) h.2 (by simpa using h.1)
  unfold clause
  rw [e]
  simp only [late_text hl, late_number hl, late_span hl]
  rfl
theorem clause_3 {s : Pi} {w : Wt} (h : (!seen.contains 3 && at_ T s 1 (wClauses.getD 3 [])) = true) : clause T last w seen s = ({ w with wn := (span T last (nx s)).1 }, seen ++ [3], sign T last [59] (span T last (nx s)).2) := by
  rw [Bool.and_eq_true] at h
  obtain ⟨a, e, hl⟩ := which_at1 (last := last) (seen := seen) (i := 3) (by decide) h.2 (by simpa using h.1)
  unfold clause
  rw [e]
  simp only [late_text hl, late_number hl, late_span hl]
  rfl
theorem clause_4 {s : Pi} {w : Wt} (h : (!seen.contains 4 && at_ T s 1 (wClauses.getD 4 [])) = true) : clause T last w seen s = ({ w with ra := (take T last 4 [] (nx s)).1, lv := (number T last (take T last 4 [] (nx s)).2).1, tx := (take T last 4 [] (number T last (take T last 4 [] (nx s)).2).2).1 }, seen ++ [4], sign T last [59] (take T last 4 [] (number T last (take T last 4 [] (nx s)).2).2).2) := by
  rw [Bool.and_eq_true] at h
  obtain ⟨a, e, hl⟩ := which_at1 (last := last) (seen := seen) (i := 4) (by decide) h.2 (by simpa using h.1)
  unfold clause
  rw [e]
  simp only [late_text hl, late_number hl, late_span hl]
  rfl
end
/-! ### What was seen, as bits -/
def mk5 (a b c d e : Bool) : Int := (if a then 2 else 0) + (if b then 4 else 0) + (if c then 8 else 0) + (if d then 16 else 0) + (if e then 32 else 0)
def mask (l : List Nat) : Int := mk5 (l.contains 0) (l.contains 1) (l.contains 2) (l.contains 3) (l.contains 4)
theorem mask_nil : mask [] = 0 := by decide
theorem con_snoc (l : List Nat) (j i : Nat) : (l ++ [j]).contains i = (l.contains i || [j].contains i) := List.contains_append
theorem and_0 : ∀ a b c d e : Bool, (bits .and .i64 (mk5 a b c d e) 2 == 0) = !a := by decide
theorem or_0 : ∀ a b c d e : Bool, a = false → bits .or .i64 (mk5 a b c d e) 2 = mk5 true b c d e := by decide
theorem mask_and0 (l : List Nat) : (bits .and .i64 (mask l) 2 == 0) = !l.contains 0 := and_0 _ _ _ _ _
theorem mask_or0 (l : List Nat) (h : l.contains 0 = false) : bits .or .i64 (mask l) 2 = mask (l ++ [0]) := by
  unfold mask
  rw [or_0 _ _ _ _ _ h, con_snoc, con_snoc, con_snoc, con_snoc, con_snoc]
  simp
theorem and_1 : ∀ a b c d e : Bool, (bits .and .i64 (mk5 a b c d e) 4 == 0) = !b := by decide
theorem or_1 : ∀ a b c d e : Bool, b = false → bits .or .i64 (mk5 a b c d e) 4 = mk5 a true c d e := by decide
theorem mask_and1 (l : List Nat) : (bits .and .i64 (mask l) 4 == 0) = !l.contains 1 := and_1 _ _ _ _ _
theorem mask_or1 (l : List Nat) (h : l.contains 1 = false) : bits .or .i64 (mask l) 4 = mask (l ++ [1]) := by
  unfold mask
  rw [or_1 _ _ _ _ _ h, con_snoc, con_snoc, con_snoc, con_snoc, con_snoc]
  simp
theorem and_2 : ∀ a b c d e : Bool, (bits .and .i64 (mk5 a b c d e) 8 == 0) = !c := by decide
theorem or_2 : ∀ a b c d e : Bool, c = false → bits .or .i64 (mk5 a b c d e) 8 = mk5 a b true d e := by decide
theorem mask_and2 (l : List Nat) : (bits .and .i64 (mask l) 8 == 0) = !l.contains 2 := and_2 _ _ _ _ _
theorem mask_or2 (l : List Nat) (h : l.contains 2 = false) : bits .or .i64 (mask l) 8 = mask (l ++ [2]) := by
  unfold mask
  rw [or_2 _ _ _ _ _ h, con_snoc, con_snoc, con_snoc, con_snoc, con_snoc]
  simp
theorem and_3 : ∀ a b c d e : Bool, (bits .and .i64 (mk5 a b c d e) 16 == 0) = !d := by decide
theorem or_3 : ∀ a b c d e : Bool, d = false → bits .or .i64 (mk5 a b c d e) 16 = mk5 a b c true e := by decide
theorem mask_and3 (l : List Nat) : (bits .and .i64 (mask l) 16 == 0) = !l.contains 3 := and_3 _ _ _ _ _
theorem mask_or3 (l : List Nat) (h : l.contains 3 = false) : bits .or .i64 (mask l) 16 = mask (l ++ [3]) := by
  unfold mask
  rw [or_3 _ _ _ _ _ h, con_snoc, con_snoc, con_snoc, con_snoc, con_snoc]
  simp
theorem and_4 : ∀ a b c d e : Bool, (bits .and .i64 (mk5 a b c d e) 32 == 0) = !e := by decide
theorem or_4 : ∀ a b c d e : Bool, e = false → bits .or .i64 (mk5 a b c d e) 32 = mk5 a b c d true := by decide
theorem mask_and4 (l : List Nat) : (bits .and .i64 (mask l) 32 == 0) = !l.contains 4 := and_4 _ _ _ _ _
theorem mask_or4 (l : List Nat) (h : l.contains 4 = false) : bits .or .i64 (mask l) 32 = mask (l ++ [4]) := by
  unfold mask
  rw [or_4 _ _ _ _ _ h, con_snoc, con_snoc, con_snoc, con_snoc, con_snoc]
  simp
end PQ
end Go.Proofs.YtaeglmgpoboihaaGreatDoor
/- The program's reader of rules: refuse, text, must, inside. -/
namespace Go.Proofs.YtaeglmgpoboihaaGreatDoor
open Go.ChangeShapes Go.WideShapes Go.ChangeAt Go.RowKit K L15
open L14 (Tk)
set_option linter.unusedVariables false
namespace PQ
/-- The reader, once it is wrong. -/
theorem jnr_fail {w w' : World} {b l : Nat} {T : List Tk} {ao : Option Addr} {cap last : Nat} {s : Pi} (h : JnR w b T ao cap last s) (hl : (fail T last s).bad = some l) (k : Kp [b] w w') (hb : w'.heap[b]? = some (.cells #[.slice none 0 0, .int .i64 (l : Nat), .bool true] 58 (0, 0))) : JnP w b T ao cap last (fail T last s) w' := by
  obtain ⟨-, -, -, -, -, h4, h5, h6, h7, -, h9, h10⟩ := h
  have hr := rest_bad (T := T) hl
  refine ⟨⟨none, 0, ?_, .inl (by rw [hr]; rfl), fun a e => (by cases e), h4, (by rw [fail_p]; exact h5), h6, h7, (by rw [hr]; exact Nat.le_refl _), h9, h10.kp k (fun x hx => by simp at hx; omega)⟩, k⟩
  rw [hr, show lnO T (fail T last s) = l by unfold lnO; rw [hl], hl]
  exact hb
theorem last_at {T : List Tk} (h : T.length ≠ 0) : lastL T = (T.getD (T.length - 1) noTk).l := by
  unfold lastL
  rw [List.getLast?_eq_getElem?, List.getD_eq_getElem?_getD]
  cases hx : T[T.length - 1]? with
  | none => rw [List.getElem?_eq_none_iff] at hx; omega
  | some x => rfl
theorem fail_at {T : List Tk} {last : Nat} {s : Pi} (hb : s.bad = none) (hp : s.p < T.length) : (fail T last s).bad = some (T.getD s.p noTk).l := by
  unfold fail
  rw [hb]
  simp [List.getD, hp]
theorem fail_no {T : List Tk} {last : Nat} {s : Pi} (h : rest T s = []) (hp : s.p ≤ T.length) (hl : last = lastL T) : (fail T last s).bad = some (lnO T s) := by
  unfold fail lnO
  cases hb : s.bad with
  | some l => exact hb
  | none =>
    rw [rest_ok hb] at h
    have hp2 : s.p = T.length := by have := List.drop_eq_nil_iff.1 h; omega
    simp only [hp2, List.getElem?_eq_none (Nat.le_refl _)]
    by_cases h0 : T.length = 0
    · rw [if_pos h0, hl]
      have : T = [] := List.length_eq_zero_iff.1 h0
      subst this; rfl
    · rw [if_neg h0, hl, last_at h0]
set_option maxRecDepth 100000 in
set_option maxHeartbeats 1500000 in
theorem prefuse_walk (b : Nat) (T : List Tk) (ao : Option Addr) (cap last : Nat) (s : Pi) (w : World) (h : JnR w b T ao cap last s) :
    Calls Tryz.prog 27 #[.pointer (some ⟨b, 0, none⟩)] w fun e w' => e = .returned (.tuple #[]) ∧ JnP w b T ao cap last (fail T last s) w' := by
  have HH := Lib.hid h
  rcases h.view with ⟨hr, hno, v, c, hb⟩ | ⟨hs, hp, g, o, c, hb, hgb, hc, -, hat, k0, k1, k2⟩
  · have hf : (fail T last s).bad = some (lnO T s) := by
      obtain ⟨-, -, -, -, -, h4, h5, h6, h7, -⟩ := h
      exact fail_no hr h5 h7
    have HF := Lib.hid hf
    have c0 := cellRow hb 0
    have c2 := cellRow hb 2
    have f0 := freeRow hb 0
    have f2 := freeRow hb 2
    simp at c0 c2
    have HR := Lib.hid (row_to (rowSet (rowSet hb 0 (.slice none 0 0)) 2 (.bool true)) (show _ = #[.slice none 0 0, .int .i64 (lnO T s : Nat), .bool true] by simp))
    have HK := Lib.hid ((((Kp.refl [b] w).set ⟨b, 0, none⟩ (by simp) (.slice none 0 0)).set ⟨b, 2, none⟩ (by simp) (.bool true)))
    clear h hno hb hr hf
    go_enter Tryz.func27, Tryz.ntmps27
    go_wp2
    go_end0
    exact ⟨rfl, jnr_fail HH.out HF.out HK.out HR.out⟩
  · have hpi : (0 : Int) < ((T.length - s.p : Nat) : Int) := by omega
    have c0 := cellRow hb 0
    simp at c0
    have HF := Lib.hid (fail_at (last := last) hs hp)
    have HT := Lib.hid (fun w1 h1 => ptake_walk b T ao cap last s hs hp w1 h1)
    have HN := Lib.hid (show lnO T (nx s) = _ from lnO_nx hs)
    have HB := Lib.hid (show (nx s).bad = none from hs)
    clear h hb hgb hc hat k0 k1 k2 hp hs
    go_enter Tryz.func27, Tryz.ntmps27
    go_wp2_with fail
    refine (HT.out _ HH.out).mono ?_
    rintro e w1 ⟨rfl, p1⟩
    obtain ⟨⟨v, c', hb, -⟩, kk⟩ := p1
    rw [HN.out, HB.out] at hb
    clear c0
    generalize (T.getD s.p noTk).l = ll at *
    have c0 := cellRow hb 0
    have c2 := cellRow hb 2
    have f0 := freeRow hb 0
    have f2 := freeRow hb 2
    simp at c0 c2
    have HR := Lib.hid (row_to (rowSet (rowSet hb 0 (.slice none 0 0)) 2 (.bool true)) (show _ = #[.slice none 0 0, .int .i64 (ll : Nat), .bool true] by simp))
    have HK := Lib.hid ((kk.set ⟨b, 0, none⟩ (by simp) (.slice none 0 0)).set ⟨b, 2, none⟩ (by simp) (.bool true))
    clear hb kk
    go_wp2
    go_end0
    exact ⟨rfl, jnr_fail HH.out HF.out HK.out HR.out⟩
set_option maxRecDepth 100000 in
set_option maxHeartbeats 1500000 in
theorem ptext_walk (b : Nat) (T : List Tk) (ao : Option Addr) (cap last : Nat) (s : Pi) (k : Nat) (w : World) (h : JnR w b T ao cap last s) :
    Calls Tryz.prog 44 #[.pointer (some ⟨b, 0, none⟩), .int .i64 (k : Nat)] w fun e w' => e = .returned (.string (bs (take T last k [] s).1)) ∧ JnP w b T ao cap last (take T last k [] s).2 w' := by
  have HA := Lib.hid (comes_walk b T ao cap last s k w h)
  unfold L15.take
  cases ha : at_ T s k [] with
  | false =>
    rw [ha] at HA
    simp only [Bool.false_eq_true, if_false]
    clear h ha
    go_enter Tryz.func44, Tryz.ntmps44
    go_wp2_with fail
    refine HA.out.mono ?_
    rintro e w1 ⟨rfl, p1⟩
    have P1 := Lib.hid p1
    clear p1
    go_wp2_with fail
    refine (prefuse_walk b T ao cap last s _ P1.out.1).mono ?_
    rintro e w2 ⟨rfl, p2⟩
    have P2 := Lib.hid (JnP.then P1.out.2 p2)
    clear p2
    go_wp2
    go_ret
    exact ⟨rfl, P2.out⟩
  | true =>
    rw [ha] at HA
    simp only [if_true]
    obtain ⟨hb, hp⟩ := nx_in ha
    have HT := Lib.hid (fun w1 h1 => ptake_walk b T ao cap last s hb hp w1 h1)
    clear h ha
    go_enter Tryz.func44, Tryz.ntmps44
    go_wp2_with fail
    refine HA.out.mono ?_
    rintro e w1 ⟨rfl, p1⟩
    have P1 := Lib.hid p1
    clear p1
    go_wp2_with fail
    refine (HT.out _ P1.out.1).mono ?_
    rintro e w2 ⟨rfl, p2⟩
    have P2 := Lib.hid (JnP.then P1.out.2 p2)
    clear p2
    go_wp2
    go_ret
    exact ⟨rfl, P2.out⟩
/-- must: the token, or wrong. -/
def mst (T : List Tk) (last : Nat) (s : Pi) (t : List UInt8) : Pi := if tkB T s t then nx s else fail T last s
set_option maxRecDepth 100000 in
set_option maxHeartbeats 1500000 in
theorem pmust_walk (b : Nat) (T : List Tk) (ao : Option Addr) (cap last : Nat) (s : Pi) (t : List UInt8) (w : World) (h : JnR w b T ao cap last s) :
    Calls Tryz.prog 45 #[.pointer (some ⟨b, 0, none⟩), .string (bs t)] w fun e w' => e = .returned (.tuple #[]) ∧ JnP w b T ao cap last (mst T last s t) w' := by
  have HA := Lib.hid (took_walkP b T ao cap last s t w h)
  unfold mst
  cases ha : tkB T s t with
  | false =>
    rw [ha] at HA
    simp only [Bool.false_eq_true, if_false] at HA ⊢
    clear h ha
    go_enter Tryz.func45, Tryz.ntmps45
    go_wp2_with fail
    refine HA.out.mono ?_
    rintro e w1 ⟨rfl, p1⟩
    have P1 := Lib.hid p1
    clear p1
    go_wp2_with fail
    refine (prefuse_walk b T ao cap last s _ P1.out.1).mono ?_
    rintro e w2 ⟨rfl, p2⟩
    have P2 := Lib.hid (JnP.then P1.out.2 p2)
    clear p2
    go_wp2
    go_end0
    exact ⟨rfl, P2.out⟩
  | true =>
    rw [ha] at HA
    simp only [if_true] at HA ⊢
    clear h ha
    go_enter Tryz.func45, Tryz.ntmps45
    go_wp2_with fail
    refine HA.out.mono ?_
    rintro e w1 ⟨rfl, p1⟩
    have P1 := Lib.hid p1
    clear p1
    go_wp2
    go_end0
    exact ⟨rfl, P1.out⟩
theorem JnR.ok {w : World} {b : Nat} {T : List Tk} {ao : Option Addr} {cap last : Nat} {s : Pi} (h : JnR w b T ao cap last s) : TOk T := by
  obtain ⟨-, -, -, -, -, h4, h5, h6, h7, -⟩ := h
  exact h6
theorem JnR.few {w : World} {b : Nat} {T : List Tk} {ao : Option Addr} {cap last : Nat} {s : Pi} (h : JnR w b T ao cap last s) : T.length ≤ 5000 ∧ s.p ≤ T.length := by
  obtain ⟨-, -, -, -, -, h4, h5, h6, h7, -⟩ := h
  exact ⟨h4, h5⟩
theorem mst_sign {T : List Tk} {last : Nat} {s : Pi} {c : UInt8} (hT : TOk T) (hc : L14.ltN c.toNat = false) : mst T last s [c] = sign T last [c] s := by
  unfold mst sign L15.take
  rw [tk_sign hT hc]
  split <;> rfl
theorem psign_walk (b : Nat) (T : List Tk) (ao : Option Addr) (cap last : Nat) (s : Pi) (c : UInt8) (hc : L14.ltN c.toNat = false) (w : World) (h : JnR w b T ao cap last s) :
    Calls Tryz.prog 45 #[.pointer (some ⟨b, 0, none⟩), .string (bs [c])] w fun e w' => e = .returned (.tuple #[]) ∧ JnP w b T ao cap last (sign T last [c] s) w' := by
  have := pmust_walk b T ao cap last s [c] w h
  rw [mst_sign h.ok hc] at this
  exact this
theorem pword_walk (b : Nat) (T : List Tk) (ao : Option Addr) (cap last : Nat) (s : Pi) (t : List UInt8) (ht : 2 ≤ t.length) (w : World) (h : JnR w b T ao cap last s) :
    Calls Tryz.prog 23 #[.pointer (some ⟨b, 0, none⟩), .string (bs t)] w fun e w' => e = .returned (.bool (word T t s).1) ∧ JnP w b T ao cap last (word T t s).2 w' := by
  have := took_walkP b T ao cap last s t w h
  rw [tk_word h.ok ht] at this
  unfold word
  cases hat : at_ T s 1 t with
  | true => rw [hat] at this; exact this
  | false => rw [hat] at this; exact this
/-- took, of a sign. -/
def stp (T : List Tk) (s : Pi) (c : UInt8) : Pi := if at_ T s 5 [c] then nx s else s
theorem ptook_walk (b : Nat) (T : List Tk) (ao : Option Addr) (cap last : Nat) (s : Pi) (c : UInt8) (hc : L14.ltN c.toNat = false) (w : World) (h : JnR w b T ao cap last s) :
    Calls Tryz.prog 23 #[.pointer (some ⟨b, 0, none⟩), .string (bs [c])] w fun e w' => e = .returned (.bool (at_ T s 5 [c])) ∧ JnP w b T ao cap last (stp T s c) w' := by
  have := took_walkP b T ao cap last s [c] w h
  rw [tk_sign h.ok hc] at this
  exact this
theorem goOn_stp {T : List Tk} {last : Nat} {s : Pi} : stp T s 125 = if goOn T s then s else sign T last [125] s := by
  unfold stp goOn sign L15.take
  cases h : at_ T s 5 [125] with
  | true => simp
  | false =>
    cases hb : s.bad with
    | none => simp
    | some l => simp; unfold fail; rw [hb]
set_option maxRecDepth 100000 in
set_option maxHeartbeats 1500000 in
theorem pinside_walk (b : Nat) (T : List Tk) (ao : Option Addr) (cap last : Nat) (s : Pi) (w : World) (h : JnR w b T ao cap last s) :
    Calls Tryz.prog 50 #[.pointer (some ⟨b, 0, none⟩)] w fun e w' => e = .returned (.bool (goOn T s)) ∧ JnP w b T ao cap last (if goOn T s then s else sign T last [125] s) w' := by
  have HA := Lib.hid (ptook_walk b T ao cap last s 125 (by decide) w h)
  rw [show bs [125] = ({ data := #[125] } : ByteArray) from rfl, goOn_stp (last := last)] at HA
  cases hg : goOn T s with
  | true =>
    have hg' := hg
    unfold goOn at hg'
    rw [Bool.and_eq_true] at hg'
    have h5 : at_ T s 5 [125] = false := by simpa using hg'.2
    have hb : s.bad.isSome = false := by rw [← Option.not_isNone, hg'.1]; rfl
    rw [h5, hg] at HA
    simp only [if_true] at HA ⊢
    have HB := Lib.hid hb
    clear h hg hg' h5 hb
    go_enter Tryz.func50, Tryz.ntmps50
    go_wp2_with fail
    refine HA.out.mono ?_
    rintro e w1 ⟨rfl, p1⟩
    have P1 := Lib.hid p1
    obtain ⟨⟨v, c', hb, -⟩, kk⟩ := p1
    rw [HB.out] at hb
    have c2 := cellRow hb 2
    simp at c2
    clear hb kk
    go_wp2
    go_ret
    exact ⟨rfl, P1.out⟩
  | false =>
    rw [hg] at HA
    simp only [Bool.false_eq_true, if_false] at HA ⊢
    cases h5 : at_ T s 5 [125] with
    | true =>
      rw [h5] at HA
      clear h hg h5
      go_enter Tryz.func50, Tryz.ntmps50
      go_wp2_with fail
      refine HA.out.mono ?_
      rintro e w1 ⟨rfl, p1⟩
      have P1 := Lib.hid p1
      clear p1
      go_wp2
      go_ret
      exact ⟨rfl, P1.out⟩
    | false =>
      have hb : s.bad.isSome = true := by
        unfold goOn at hg
        rw [h5] at hg
        cases hx : s.bad with
        | none => rw [hx] at hg; cases hg
        | some l => rfl
      have hsg : (sign T last [125] s).bad = s.bad := by
        unfold sign L15.take
        rw [h5]
        simp only [Bool.false_eq_true, if_false]
        unfold fail
        cases hx : s.bad with
        | none => rw [hx] at hb; cases hb
        | some l => exact hx
      have HB := Lib.hid (show (sign T last [125] s).bad.isSome = true by rw [hsg]; exact hb)
      rw [h5] at HA
      clear h hg h5 hb hsg
      go_enter Tryz.func50, Tryz.ntmps50
      go_wp2_with fail
      refine HA.out.mono ?_
      rintro e w1 ⟨rfl, p1⟩
      have P1 := Lib.hid p1
      obtain ⟨⟨v, c', hb, -⟩, kk⟩ := p1
      rw [HB.out] at hb
      have c2 := cellRow hb 2
      simp at c2
      clear hb kk
      go_wp2
      go_ret
      exact ⟨rfl, P1.out⟩
end PQ
end Go.Proofs.YtaeglmgpoboihaaGreatDoor
