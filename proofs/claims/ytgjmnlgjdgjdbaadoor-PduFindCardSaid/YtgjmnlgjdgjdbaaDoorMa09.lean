/- Texts on the program and on the document, joined: OidQ. -/
import Derived.Test.YtgjmnlgjdgjdbaaDoorMa08
/- Identifiers as bytes: plain mathematics, of no program. -/
namespace Go.Proofs.YtgjmnlgjdgjdbaaDoor
open K O6
def ebt (l : List Nat) (i : Nat) : List UInt8 := P1.grp (40 * l.getD 0 0 + l.getD 1 0) ++ ((l.take i).drop 2).flatMap P1.grp
/-- The body of arcs. -/
def eb (l : List Nat) : List UInt8 := P1.grp (40 * l.getD 0 0 + l.getD 1 0) ++ (l.drop 2).flatMap P1.grp
theorem ebt_two (l : List Nat) : ebt l 2 = P1.grp (40 * l.getD 0 0 + l.getD 1 0) := by
  unfold ebt
  rw [show (l.take 2).drop 2 = [] by rw [List.drop_take]; simp]; simp
theorem ebt_all (l : List Nat) : ebt l l.length = eb l := by unfold ebt eb; rw [List.take_length]
theorem ebt_snoc (l : List Nat) (i : Nat) (hi : i < l.length) (h2 : 2 ≤ i) : ebt l (i + 1) = ebt l i ++ P1.grp (l.getD i 0) := by
  unfold ebt
  rw [List.take_succ_eq_append_getElem hi, List.drop_append_of_le_length (by rw [List.length_take]; omega), List.flatMap_append, ← List.append_assoc]
  congr 1
  rw [List.getD, List.getElem?_eq_getElem hi]; simp

/-! ### The numbers that stand in bytes as groups -/
def gp : Nat → List UInt8 → Option (List Nat)
  | 0, l => if l.isEmpty then some [] else none
  | f + 1, l =>
    if l.isEmpty then some []
    else if (P1.rgo l 4294967295 9 0 0).2.2 = 0 then
      match gp f (l.drop (P1.rgo l 4294967295 9 0 0).2.1) with
      | none => none
      | some r => some ((P1.rgo l 4294967295 9 0 0).1 :: r)
    else none
theorem rgo_used {l : List UInt8} {most : Int} (h : (P1.rgo l most 9 0 0).2.2 = 0) : 1 ≤ (P1.rgo l most 9 0 0).2.1 ∧ (P1.rgo l most 9 0 0).2.1 ≤ l.length := by
  have h1 := P1.rgo_grp0 l most h
  have h2 := P1.rgo_bound l most 9 0 0 (by omega) (by omega)
  refine ⟨?_, h2.2.1⟩
  rcases Nat.eq_zero_or_pos (P1.rgo l most 9 0 0).2.1 with h0 | h0
  · rw [h0] at h1
    have := congrArg List.length h1
    simp [P1.grp] at this
  · exact h0
theorem rgo_most (l : List UInt8) (most : Int) : ∀ (f i n : Nat), (P1.rgo l most f i n).2.2 = 0 → ((P1.rgo l most f i n).1 : Int) ≤ most := by
  intro f
  induction f with
  | zero => intro i n h; simp [P1.rgo] at h
  | succ f ih =>
    intro i n h
    unfold P1.rgo at h ⊢
    by_cases h1 : l.length ≤ i
    · rw [if_pos h1] at h; simp at h
    · rw [if_neg h1] at h ⊢
      by_cases h2 : i = 0 ∧ byt l 0 = 128
      · rw [if_pos h2] at h; simp at h
      · rw [if_neg h2] at h ⊢
        by_cases h3 : most < ((n * 128 + byt l i % 128 : Nat) : Int)
        · rw [if_pos h3] at h; simp at h
        · rw [if_neg h3] at h ⊢
          by_cases h4 : byt l i < 128
          · rw [if_pos h4] at h ⊢; show ((n * 128 + byt l i % 128 : Nat) : Int) ≤ most; omega
          · rw [if_neg h4] at h ⊢; exact ih _ _ h
theorem gp_nil (f : Nat) : gp f [] = some [] := by cases f <;> rfl
theorem gp_more : ∀ (n k m : Nat) (l : List UInt8), l.length ≤ n → l.length ≤ k → l.length ≤ m → gp k l = gp m l
  | 0, k, m, l, hn, _, _ => by
    obtain rfl : l = [] := List.length_eq_zero_iff.1 (by omega)
    rw [gp_nil, gp_nil]
  | n + 1, k, m, l, hn, hk, hm => by
    by_cases h : l = []
    · subst h; rw [gp_nil, gp_nil]
    · have hp := List.length_pos_iff.2 h
      obtain ⟨k, rfl⟩ : ∃ j, k = j + 1 := ⟨k - 1, by omega⟩
      obtain ⟨m, rfl⟩ : ∃ j, m = j + 1 := ⟨m - 1, by omega⟩
      unfold gp
      by_cases hc : (P1.rgo l 4294967295 9 0 0).2.2 = 0
      · have hu := rgo_used hc
        rw [gp_more n k m (l.drop (P1.rgo l 4294967295 9 0 0).2.1) (by rw [List.length_drop]; omega) (by rw [List.length_drop]; omega) (by rw [List.length_drop]; omega)]
      · rw [if_neg hc, if_neg hc]
def gpl (l : List UInt8) : Option (List Nat) := gp l.length l
theorem gpl_nil : gpl [] = some [] := rfl
theorem gpl_step {l : List UInt8} (h : l ≠ []) : gpl l = if (P1.rgo l 4294967295 9 0 0).2.2 = 0 then
      match gpl (l.drop (P1.rgo l 4294967295 9 0 0).2.1) with
      | none => none
      | some r => some ((P1.rgo l 4294967295 9 0 0).1 :: r)
    else none := by
  have hp := List.length_pos_iff.2 h
  obtain ⟨k, hk⟩ : ∃ k, l.length = k + 1 := ⟨l.length - 1, by omega⟩
  have he : l.isEmpty = false := List.isEmpty_eq_false_iff.2 h
  unfold gpl
  rw [hk]
  conv => lhs; unfold gp
  rw [he]
  by_cases hc : (P1.rgo l 4294967295 9 0 0).2.2 = 0
  · have hu := rgo_used hc
    rw [if_pos hc, if_pos hc, gp_more k k (l.drop (P1.rgo l 4294967295 9 0 0).2.1).length _ (by rw [List.length_drop]; omega) (by rw [List.length_drop]; omega) (Nat.le_refl _)]
    rfl
  · rw [if_neg hc, if_neg hc]; rfl
theorem grp_ne (n : Nat) (r : List UInt8) : P1.grp n ++ r ≠ [] := by unfold P1.grp; simp
theorem gpl_grp (n : Nat) (r : List UInt8) (h : n ≤ 4294967295) : gpl (P1.grp n ++ r) = match gpl r with | none => none | some x => some (n :: x) := by
  rw [gpl_step (grp_ne n r), P1.rgo_back n r 4294967295 (by omega) (by omega), if_pos rfl]
  show (match gpl ((P1.grp n ++ r).drop (P1.grp n).length) with | none => none | some x => some (n :: x)) = _
  rw [List.drop_left]
theorem gpl_all : ∀ xs : List Nat, (∀ x ∈ xs, x ≤ 4294967295) → gpl (xs.flatMap P1.grp) = some xs
  | [], _ => rfl
  | x :: xs, h => by
    rw [List.flatMap_cons, gpl_grp x _ (h x (by simp)), gpl_all xs (fun y hy => h y (by simp [hy]))]
theorem gpl_inv : ∀ (n : Nat) (l : List UInt8) (xs : List Nat), l.length ≤ n → gpl l = some xs → xs.flatMap P1.grp = l ∧ (∀ x ∈ xs, x ≤ 4294967295) ∧ xs.length ≤ l.length
  | 0, l, xs, hn, h => by
    obtain rfl : l = [] := List.length_eq_zero_iff.1 (by omega)
    rw [gpl_nil] at h; cases h
    exact ⟨rfl, by simp, Nat.le_refl _⟩
  | n + 1, l, xs, hn, h => by
    by_cases he : l = []
    · subst he
      rw [gpl_nil] at h; cases h
      exact ⟨rfl, by simp, Nat.le_refl _⟩
    · rw [gpl_step he] at h
      by_cases hc : (P1.rgo l 4294967295 9 0 0).2.2 = 0
      · rw [if_pos hc] at h
        have hu := rgo_used hc
        have hm := rgo_most l 4294967295 9 0 0 hc
        have hg := P1.rgo_grp0 l 4294967295 hc
        cases hr : gpl (l.drop (P1.rgo l 4294967295 9 0 0).2.1) with
        | none => rw [hr] at h; cases h
        | some r =>
          rw [hr] at h
          cases h
          obtain ⟨i1, i2, i3⟩ := gpl_inv n _ r (by rw [List.length_drop]; omega) hr
          rw [List.length_drop] at i3
          refine ⟨?_, ?_, by rw [List.length_cons]; omega⟩
          · rw [List.flatMap_cons, i1, hg, List.take_append_drop]
          · intro x hx
            rcases List.mem_cons.1 hx with rfl | hx
            · omega
            · exact i2 x hx
      · rw [if_neg hc] at h; cases h
/-- The first two arcs of their number. -/
def a0 (n : Nat) : Nat := min (n / 40) 2
def a1 (n : Nat) : Nat := n - 40 * a0 n
theorem a_back (n : Nat) : 40 * a0 n + a1 n = n ∧ a0 n ≤ 2 := by unfold a1 a0; omega
theorem a_of {x y : Nat} (h : (x < 2 ∧ y ≤ 39) ∨ x = 2) : a0 (40 * x + y) = x ∧ a1 (40 * x + y) = y := by unfold a1 a0; omega
/-- The arcs of a body. -/
def deA (b : List UInt8) : Option (List Nat) :=
  if b = [] ∨ 640 < b.length then none
  else match gpl b with
    | some (n :: r) => if isArcs (a0 n :: a1 n :: r) then some (a0 n :: a1 n :: r) else none
    | _ => none
theorem isArcs_two {l : List Nat} (h : isArcs l = true) : ∃ x y r, l = x :: y :: r ∧ ((x < 2 ∧ y ≤ 39) ∨ (x = 2 ∧ y ≤ 4294967215)) ∧ ∀ z ∈ r, z ≤ 4294967295 := by
  have hl := isArcs_len h
  have hle := isArcs_le h
  match l, hl with
  | x :: y :: r, _ =>
    refine ⟨x, y, r, rfl, ?_, fun z hz => hle z (by simp [hz])⟩
    unfold isArcs at h
    simp only [Bool.and_eq_true, Bool.or_eq_true, decide_eq_true_eq, beq_iff_eq] at h
    exact h.2.2.2
theorem grp_small (n : Nat) (h : n < 128 ^ 5) : (P1.grp n).length ≤ 5 := by
  have e : P1.low 8 (n / 128) = P1.low 4 (n / 128) := P1.low_up 4 4 (n / 128) (by omega)
  have := P1.low_length 4 (n / 128)
  unfold P1.grp
  rw [e, List.length_append]; simp; omega
theorem flat_small : ∀ xs : List Nat, (∀ x ∈ xs, x ≤ 4294967295) → (xs.flatMap P1.grp).length ≤ 5 * xs.length
  | [], _ => by simp
  | x :: xs, h => by
    have h1 := grp_small x (by have := h x (by simp); omega)
    have h2 := flat_small xs (fun y hy => h y (by simp [hy]))
    rw [List.flatMap_cons, List.length_append, List.length_cons]; omega
theorem eb_two (x y : Nat) (r : List Nat) : eb (x :: y :: r) = ((40 * x + y) :: r).flatMap P1.grp := rfl
theorem deA_eb {l : List Nat} (h : isArcs l = true) : deA (eb l) = some l := by
  have hl := isArcs_len h
  obtain ⟨x, y, r, rfl, hxy, hr⟩ := isArcs_two h
  have hall : ∀ z ∈ (40 * x + y) :: r, z ≤ 4294967295 := by
    intro z hz
    rcases List.mem_cons.1 hz with rfl | hz
    · omega
    · exact hr z hz
  have hlen := flat_small _ hall
  rw [List.length_cons] at hlen
  simp only [List.length_cons] at hl
  unfold deA
  rw [eb_two, if_neg, gpl_all _ hall]
  · show (if isArcs (a0 (40 * x + y) :: a1 (40 * x + y) :: r) then _ else none) = _
    obtain ⟨e1, e2⟩ := a_of (x := x) (y := y) (by omega)
    rw [e1, e2, if_pos h]
  · rintro (h0 | h0)
    · exact grp_ne _ _ h0
    · omega
theorem deA_inv {b : List UInt8} {l : List Nat} (h : deA b = some l) : isArcs l = true ∧ eb l = b := by
  unfold deA at h
  by_cases hc : b = [] ∨ 640 < b.length
  · rw [if_pos hc] at h; cases h
  · rw [if_neg hc] at h
    cases hg : gpl b with
    | none => rw [hg] at h; cases h
    | some xs =>
      rw [hg] at h
      cases xs with
      | nil => cases h
      | cons n r =>
        by_cases hi : isArcs (a0 n :: a1 n :: r) = true
        · simp only [hi, if_true] at h
          cases h
          refine ⟨hi, ?_⟩
          rw [eb_two, (a_back n).1]
          exact (gpl_inv b.length b _ (Nat.le_refl _) hg).1
        · simp only [hi] at h; cases h
def deE (b : List UInt8) : Nat := if (deA b).isSome then 0 else 60
def deS (b : List UInt8) : List UInt8 := match deA b with | some l => put l | none => []
theorem de_some {b : List UInt8} {l : List Nat} (h : deA b = some l) : deE b = 0 ∧ deS b = put l := by unfold deE deS; rw [h]; exact ⟨rfl, rfl⟩
theorem de_none {b : List UInt8} (h : deA b = none) : deE b = 60 ∧ deS b = [] := by unfold deE deS; rw [h]; exact ⟨rfl, rfl⟩
end Go.Proofs.YtgjmnlgjdgjdbaaDoor
