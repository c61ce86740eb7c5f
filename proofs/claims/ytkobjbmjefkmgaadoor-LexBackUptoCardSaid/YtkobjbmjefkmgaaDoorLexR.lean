/- Words of a file of rules: files that are printed, and read again; blanks. Plain mathematics, of no program. -/
import Derived.Test.YtkobjbmjefkmgaaDoorLexQ
namespace Go.Proofs.YtkobjbmjefkmgaaDoor
open K
set_option linter.unusedVariables false
set_option linter.unusedSimpArgs false
namespace L14
/-- Blanks and remarks that are whole: what stands behind begins anew. -/
def Clo (b : List UInt8) : Prop := ∀ y, skp false (b ++ y) = b.length + skp false y
theorem clo_nil : Clo [] := fun y => by simp
theorem Clo.app {a b : List UInt8} (h : Clo a) (k : Clo b) : Clo (a ++ b) := fun y => by rw [List.append_assoc, h, k, List.length_append]; omega
theorem clo_bl {c : UInt8} (h : blN c.toNat = true) (hc : (c == 35) = false) : Clo [c] := fun y => by
  have h35 : ¬ c = 35 := by simpa using hc
  simp only [List.cons_append, List.nil_append, skp, h, Bool.or_true, if_true, if_neg h35]
  rw [show (if c = 10 then false else false) = false by split <;> rfl]
  simp; omega
theorem skp_stop {c : UInt8} {r : List UInt8} (h : blN c.toNat = false) (hc : (c == 35) = false) : skp false (c :: r) = 0 := by
  simp only [skp, h, hc, Bool.or_false, Bool.false_eq_true, if_false]
theorem clo_rst {b y : List UInt8} (h : Clo b) : rst (b ++ y) = rst y := by
  unfold rst
  rw [h, List.drop_append]
  simp
theorem clo_lin {b y : List UInt8} (h : Clo b) (ln : Nat) : lin ln (b ++ y) = lin (ln + nls b) y := by
  unfold lin
  rw [h, List.take_append, nls_app]
  rw [List.take_of_length_le (by omega)]
  simp; omega
/-- Tokens, but for their lines. -/
def bare (l : List Tk) : List (Nat × List UInt8) := l.map fun x => (x.k, x.t)
/-- A token behind blanks. -/
theorem split_tok {b : List UInt8} (hb : Clo b) {k : Nat} {t : List UInt8} (h : isT k t = true) (r : List UInt8) (hr : k = 4 ∨ k = 5 ∨ ∃ x q, r = x :: q ∧ goN k x.toNat = false) (m ln : Nat) :
    split (m + 1) ln (b ++ (put k t ++ r)) = (match split m (ln + nls b) r with | .error e => .error e | .ok l => .ok (⟨k, t, ln + nls b⟩ :: l)) := by
  obtain ⟨c, q, hc, h1, h2⟩ := put_head h
  have e1 : rst (b ++ (put k t ++ r)) = put k t ++ r := by
    rw [clo_rst hb, hc]
    unfold rst
    rw [List.cons_append, skp_stop h1 h2]; rfl
  have e2 : lin ln (b ++ (put k t ++ r)) = ln + nls b := by
    rw [clo_lin hb, hc]
    unfold lin
    rw [List.cons_append, skp_stop h1 h2]; rfl
  have hx := nxt_put h r hr
  rw [split_go (by rw [e1, hc]; simp) (by rw [e1]; exact hx), e1, e2, List.drop_left]
  cases split m (ln + nls b) r <;> rfl
theorem split_blank {b : List UInt8} (hb : Clo b) (m ln : Nat) : split m ln b = .ok [] := by
  refine split_end ?_
  have := clo_rst (y := []) hb
  rw [List.append_nil] at this
  rw [this]; rfl
/-- Blanks ahead of a text. -/
theorem split_ahead {b : List UInt8} (hb : Clo b) (m ln : Nat) (y : List UInt8) : split m ln (b ++ y) = split m (ln + nls b) y := by
  by_cases h : rst y = []
  · rw [split_end h, split_end (by rw [clo_rst hb]; exact h)]
  · cases hx : nxt (rst y) with
    | none => rw [split_no h hx, split_no (by rw [clo_rst hb]; exact h) (by rw [clo_rst hb]; exact hx), clo_lin hb]
    | some z =>
      obtain ⟨⟨k, t⟩, n⟩ := z
      cases m with
      | zero => rw [split_full h hx, split_full (by rw [clo_rst hb]; exact h) (by rw [clo_rst hb]; exact hx), clo_lin hb]
      | succ m => rw [split_go h hx, split_go (by rw [clo_rst hb]; exact h) (by rw [clo_rst hb]; exact hx), clo_lin hb, clo_rst hb]
/-! ### There and back -/
def bhd (k : Nat) (t : List UInt8) : List UInt8 := if k = 5 ∧ (t = [59] ∨ t = [123] ∨ t = [125]) then [10] else [32]
theorem bhd_two (k : Nat) (t : List UInt8) : bhd k t = [10] ∨ bhd k t = [32] := by unfold bhd; split <;> simp
theorem bhd_clo (k : Nat) (t : List UInt8) : Clo (bhd k t) := by
  rcases bhd_two k t with h | h <;> rw [h]
  · exact clo_bl (by decide) (by decide)
  · exact clo_bl (by decide) (by decide)
theorem bhd_go (k : Nat) (t : List UInt8) (r : List UInt8) : ∃ x q, bhd k t ++ r = x :: q ∧ goN k x.toNat = false := by
  have h0 : ∀ n, n = 10 ∨ n = 32 → goN k n = false := by
    intro n hn
    unfold goN
    rcases hn with rfl | rfl
    · rw [show ltN 10 = false by decide, show dgN 10 = false by decide]
      simp only [Bool.false_or]
      split
      · decide
      · split <;> decide
    · rw [show ltN 32 = false by decide, show dgN 32 = false by decide]
      simp only [Bool.false_or]
      split
      · decide
      · split <;> decide
  rcases bhd_two k t with h | h <;> rw [h]
  · exact ⟨10, r, rfl, h0 10 (.inl rfl)⟩
  · exact ⟨32, r, rfl, h0 32 (.inr rfl)⟩
/-- Tokens as a file. -/
def file : List (Nat × List UInt8) → List UInt8
  | [] => []
  | x :: l => put x.1 x.2 ++ (bhd x.1 x.2 ++ file l)
theorem file_app : ∀ a b, file (a ++ b) = file a ++ file b
  | [], b => rfl
  | x :: a, b => by simp [file, file_app a b]
def allT (l : List (Nat × List UInt8)) : Bool := l.all fun x => isT x.1 x.2
/-- What is printed is split as it was. -/
theorem split_file : ∀ (l : List (Nat × List UInt8)) (b : List UInt8) (m ln : Nat), Clo b → allT l = true → l.length ≤ m → ∃ k, split m ln (b ++ file l) = .ok k ∧ bare k = l
  | [], b, m, ln, hb, _, _ => ⟨[], by simp only [file, List.append_nil]; exact split_blank hb m ln, rfl⟩
  | (k, t) :: l, b, 0, ln, _, _, hm => by simp at hm
  | (k, t) :: l, b, m + 1, ln, hb, ha, hm => by
    simp only [allT, List.all_cons, Bool.and_eq_true] at ha
    simp only [List.length_cons] at hm
    obtain ⟨r, hr, he⟩ := split_file l (bhd k t) m (ln + nls b) (bhd_clo k t) ha.2 (by omega)
    refine ⟨⟨k, t, ln + nls b⟩ :: r, ?_, by simp [bare] at he ⊢; exact he⟩
    have := split_tok hb (k := k) (t := t) ha.1 (bhd k t ++ file l) (.inr (.inr (bhd_go k t (file l)))) m ln
    rw [hr] at this
    exact this
/-- What is split are tokens, so many at most. -/
theorem split_is : ∀ (n m ln : Nat) (s : List UInt8) (k : List Tk), s.length ≤ n → split m ln s = .ok k → allT (bare k) = true ∧ k.length ≤ m := by
  intro n
  induction n with
  | zero =>
    intro m ln s k hs h
    have : s = [] := List.length_eq_zero_iff.1 (by omega)
    subst this
    rw [split_end (by rfl)] at h
    injection h with h; subst h
    exact ⟨rfl, by simp⟩
  | succ n ih =>
    intro m ln s k hs h
    by_cases hr : rst s = []
    · rw [split_end hr] at h
      injection h with h; subst h
      exact ⟨rfl, by simp⟩
    · cases hx : nxt (rst s) with
      | none => rw [split_no hr hx] at h; cases h
      | some z =>
        obtain ⟨⟨kk, t⟩, j⟩ := z
        cases m with
        | zero => rw [split_full hr hx] at h; cases h
        | succ m =>
          rw [split_go hr hx] at h
          have hn := nxt_n hx
          have hl := rst_len s
          cases hs2 : split m (lin ln s) ((rst s).drop j) with
          | error e => rw [hs2] at h; cases h
          | ok q =>
            rw [hs2] at h
            injection h with h; subst h
            obtain ⟨h1, h2⟩ := ih m _ _ q (by rw [List.length_drop]; omega) hs2
            refine ⟨?_, by simp only [List.length_cons]; omega⟩
            simp only [bare, List.map_cons, allT, List.all_cons, Bool.and_eq_true]
            exact ⟨nxt_is hx, h1⟩
/-- Where it is wrong: a line that it has. -/
theorem split_line : ∀ (n m ln : Nat) (s : List UInt8) (e : Nat × Nat), s.length ≤ n → split m ln s = .error e → ln ≤ e.1 ∧ e.1 ≤ ln + nls s ∧ (e.2 = 140 ∨ e.2 = 2) := by
  have hlin : ∀ (ln : Nat) (s : List UInt8), ln ≤ lin ln s ∧ lin ln s + nls (rst s) = ln + nls s := by
    intro ln s
    unfold lin rst
    have : nls s = nls (s.take (skp false s)) + nls (s.drop (skp false s)) := by rw [← nls_app, List.take_append_drop]
    omega
  have hdrop : ∀ (j : Nat) (s : List UInt8), nls (s.drop j) ≤ nls s := by
    intro j s
    have : nls s = nls (s.take j) + nls (s.drop j) := by rw [← nls_app, List.take_append_drop]
    omega
  intro n
  induction n with
  | zero =>
    intro m ln s e hs h
    have : s = [] := List.length_eq_zero_iff.1 (by omega)
    subst this
    rw [split_end (by rfl)] at h; cases h
  | succ n ih =>
    intro m ln s e hs h
    have h1 := hlin ln s
    by_cases hr : rst s = []
    · rw [split_end hr] at h; cases h
    · cases hx : nxt (rst s) with
      | none =>
        rw [split_no hr hx] at h
        injection h with h; subst h
        exact ⟨h1.1, by simp only; omega, .inl rfl⟩
      | some z =>
        obtain ⟨⟨kk, t⟩, j⟩ := z
        cases m with
        | zero =>
          rw [split_full hr hx] at h
          injection h with h; subst h
          exact ⟨h1.1, by simp only; omega, .inr rfl⟩
        | succ m =>
          rw [split_go hr hx] at h
          have hn := nxt_n hx
          have hl := rst_len s
          cases hs2 : split m (lin ln s) ((rst s).drop j) with
          | ok q => rw [hs2] at h; cases h
          | error e2 =>
            rw [hs2] at h
            injection h with h; subst h
            obtain ⟨a1, a2, a3⟩ := ih m _ _ e2 (by rw [List.length_drop]; omega) hs2
            have := hdrop j (rst s)
            exact ⟨by omega, by omega, a3⟩
end L14
end Go.Proofs.YtkobjbmjefkmgaaDoor
