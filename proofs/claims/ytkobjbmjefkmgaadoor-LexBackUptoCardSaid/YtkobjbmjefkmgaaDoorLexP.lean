/- Words of a file of rules: plain mathematics, of no program. -/
import Derived.Test.YtkobjbmjefkmgaaDoorLib
namespace Go.Proofs.YtkobjbmjefkmgaaDoor
open K
set_option linter.unusedVariables false
set_option linter.unusedSimpArgs false
namespace L14
/-! ### Bytes -/
def ltN (n : Nat) : Bool := (decide (97 ≤ n) && decide (n ≤ 122)) || (decide (65 ≤ n) && decide (n ≤ 90))
def dgN (n : Nat) : Bool := decide (48 ≤ n) && decide (n ≤ 57)
def goN (k n : Nat) : Bool := ltN n || dgN n || (if k = 1 then n == 95 || n == 45 else if k = 2 then n == 46 else n == 46 || n == 95 || n == 45 || n == 35 || n == 64)
def sgN (n : Nat) : Bool := n == 123 || n == 125 || n == 40 || n == 41 || n == 59 || n == 61 || n == 43 || n == 44
def blN (n : Nat) : Bool := n == 32 || n == 9 || n == 10 || n == 13
/-- How many bytes go on with a token of a kind. -/
def run (k : Nat) : List UInt8 → Nat
  | [] => 0
  | c :: t => if goN k c.toNat then run k t + 1 else 0
theorem run_le (k : Nat) : ∀ s, run k s ≤ s.length
  | [] => Nat.le_refl _
  | c :: t => by
    have := run_le k t
    simp only [run]; split <;> simp <;> omega
theorem run_whole {k : Nat} : ∀ {t : List UInt8}, run k t = t.length → ∀ x r, goN k x.toNat = false → run k (t ++ x :: r) = t.length
  | [], _, x, r, h => by simp [run, h]
  | c :: t, hw, x, r, h => by
    simp only [run] at hw
    split at hw
    · next hc =>
      simp only [List.length_cons, Nat.add_right_cancel_iff] at hw
      simp only [List.cons_append, run, if_pos hc, run_whole hw x r h, List.length_cons]
    · simp at hw
theorem run_take (k : Nat) : ∀ s : List UInt8, run k (s.take (run k s)) = run k s
  | [] => rfl
  | c :: t => by
    by_cases h : goN k c.toNat = true
    · simp only [run, if_pos h, List.take_succ_cons, run_take k t]
    · simp only [run, if_neg h, List.take_zero]
theorem run_pos {k : Nat} {c : UInt8} {t : List UInt8} (h : goN k c.toNat = true) : run k (c :: t) = run k t + 1 := by simp only [run, if_pos h]
/-! ### Texts -/
def nib (n : Nat) : Option Nat := if dgN n then some (n - 48) else if 97 ≤ n ∧ n ≤ 102 then some (n - 97 + 10) else if 65 ≤ n ∧ n ≤ 70 then some (n - 65 + 10) else none
def esc : List UInt8 → Option (UInt8 × Nat)
  | [] => none
  | c :: t => if c = 34 ∨ c = 92 then some (c, 1) else if c = 110 then some (10, 1) else if c = 116 then some (9, 1) else if c = 120 then
      (match t with
      | h :: l :: _ => (match nib h.toNat, nib l.toNat with | some a, some b => some (UInt8.ofNat (a * 16 + b), 3) | _, _ => none)
      | _ => none)
    else none
theorem esc_n {s : List UInt8} {b : UInt8} {n : Nat} (h : esc s = some (b, n)) : 1 ≤ n ∧ n ≤ s.length := by
  cases s with
  | nil => cases h
  | cons c t =>
    simp only [esc] at h
    split at h
    · injection h with h; injection h with _ h; subst h; simp
    · split at h
      · injection h with h; injection h with _ h; subst h; simp
      · split at h
        · injection h with h; injection h with _ h; subst h; simp
        · split at h
          · split at h
            · split at h
              · injection h with h; injection h with _ h; subst h; simp
              · cases h
            · cases h
          · cases h
def txt : Nat → List UInt8 → Option (List UInt8 × Nat)
  | 0, _ => none
  | _ + 1, [] => none
  | f + 1, c :: t => if c = 34 then some ([], 1) else if c.toNat < 32 then none else if c = 92 then
      (match esc t with
      | none => none
      | some (b, n) => (txt f (t.drop n)).map fun y => (b :: y.1, y.2 + 1 + n))
    else (txt f t).map fun y => (c :: y.1, y.2 + 1)
def text (s : List UInt8) : Option (List UInt8 × Nat) := txt (s.length + 1) s
theorem txt_more : ∀ (f g : Nat) (s : List UInt8), s.length < f → s.length < g → txt f s = txt g s
  | 0, _, _, h, _ => by omega
  | _ + 1, 0, _, _, h => by omega
  | f + 1, g + 1, [], _, _ => rfl
  | f + 1, g + 1, c :: t, h1, h2 => by
    simp only [List.length_cons] at h1 h2
    simp only [txt]
    rw [txt_more f g t (by omega) (by omega)]
    split
    · rfl
    · split
      · rfl
      · split
        · cases he : esc t with
          | none => rfl
          | some y =>
            obtain ⟨b, n⟩ := y
            simp only
            rw [txt_more f g (t.drop n) (by rw [List.length_drop]; omega) (by rw [List.length_drop]; omega)]
        · rfl
theorem txt_n : ∀ (f : Nat) (s o : List UInt8) (n : Nat), txt f s = some (o, n) → 1 ≤ n ∧ n ≤ s.length
  | 0, _, _, _, h => by cases h
  | f + 1, [], _, _, h => by cases h
  | f + 1, c :: t, o, n, h => by
    simp only [txt] at h
    split at h
    · injection h with h; injection h with _ h; subst h; simp
    · split at h
      · cases h
      · split at h
        · cases he : esc t with
          | none => rw [he] at h; cases h
          | some y =>
            obtain ⟨b, k⟩ := y
            rw [he] at h
            simp only at h
            obtain ⟨z, hz, h⟩ := Option.map_eq_some_iff.1 h
            obtain ⟨z1, z2⟩ := z
            have := txt_n f _ _ _ hz
            have he' := esc_n he
            injection h with _ h
            rw [List.length_drop] at this
            simp only at h
            subst h
            simp only [List.length_cons]; omega
        · obtain ⟨z, hz, h⟩ := Option.map_eq_some_iff.1 h
          obtain ⟨z1, z2⟩ := z
          have := txt_n f _ _ _ hz
          injection h with _ h
          simp only at h
          subst h
          simp only [List.length_cons]; omega
theorem text_n {s o : List UInt8} {n : Nat} (h : text s = some (o, n)) : 1 ≤ n ∧ n ≤ s.length := txt_n _ _ _ _ h
/-! ### A token at the beginning -/
def nxt : List UInt8 → Option ((Nat × List UInt8) × Nat)
  | [] => none
  | c :: t =>
    if sgN c.toNat then some ((5, [c]), 1)
    else if ltN c.toNat then some ((1, (c :: t).take (run 1 (c :: t))), run 1 (c :: t))
    else if dgN c.toNat then some ((2, (c :: t).take (run 2 (c :: t))), run 2 (c :: t))
    else if c = 36 then (if run 3 t = 0 then none else some ((3, t.take (run 3 t)), run 3 t + 1))
    else if c = 34 then (text t).map fun y => ((4, y.1), y.2 + 1)
    else none
theorem lt_go {k n : Nat} (h : ltN n = true) : goN k n = true := by unfold goN; rw [h]; rfl
theorem dg_go {k n : Nat} (h : dgN n = true) : goN k n = true := by unfold goN; rw [h, Bool.or_true]; rfl
theorem nxt_n {s : List UInt8} {k : Nat} {t : List UInt8} {n : Nat} (h : nxt s = some ((k, t), n)) : 1 ≤ n ∧ n ≤ s.length := by
  cases s with
  | nil => cases h
  | cons c r =>
    simp only [nxt] at h
    split at h
    · injection h with h; injection h with _ h; subst h; simp
    · split at h
      · next h1 =>
        injection h with h; injection h with _ h; subst h
        refine ⟨by rw [run_pos (lt_go h1)]; omega, run_le _ _⟩
      · split at h
        · next h1 =>
          injection h with h; injection h with _ h; subst h
          refine ⟨by rw [run_pos (dg_go h1)]; omega, run_le _ _⟩
        · split at h
          · split at h
            · cases h
            · injection h with h; injection h with _ h; subst h
              have := run_le 3 r
              simp only [List.length_cons]; omega
          · split at h
            · obtain ⟨y, hy, h⟩ := Option.map_eq_some_iff.1 h
              obtain ⟨o, m⟩ := y
              have := text_n hy
              injection h with _ h
              simp only at h
              subst h
              simp only [List.length_cons]; omega
            · cases h
/-! ### Blanks and remarks -/
def skp : Bool → List UInt8 → Nat
  | _, [] => 0
  | r, c :: t => if r || c == 35 || blN c.toNat then skp (if c = 10 then false else if c = 35 then true else r) t + 1 else 0
theorem skp_le : ∀ (r : Bool) (s : List UInt8), skp r s ≤ s.length
  | _, [] => Nat.le_refl _
  | r, c :: t => by
    have := skp_le (if c = 10 then false else if c = 35 then true else r) t
    simp only [skp]; split <;> simp only [List.length_cons] <;> omega
def nls (s : List UInt8) : Nat := s.countP (· == 10)
theorem nls_app (a b : List UInt8) : nls (a ++ b) = nls a + nls b := by simp [nls]
/-! ### A file's tokens -/
structure Tk where
  k : Nat
  t : List UInt8
  l : Nat
deriving DecidableEq
/-- What is left behind the blanks, and the line there. -/
def rst (s : List UInt8) : List UInt8 := s.drop (skp false s)
def lin (ln : Nat) (s : List UInt8) : Nat := ln + nls (s.take (skp false s))
/-- The tokens of a text, of which m more may come, from a line on; or where it is wrong, and why. -/
def sp : Nat → Nat → Nat → List UInt8 → Except (Nat × Nat) (List Tk)
  | 0, _, _, _ => .ok []
  | f + 1, m, ln, s =>
    if rst s = [] then .ok []
    else match nxt (rst s) with
      | none => .error (lin ln s, 140)
      | some ((k, t), n) => match m with
        | 0 => .error (lin ln s, 2)
        | m + 1 => match sp f m (lin ln s) ((rst s).drop n) with
          | .error e => .error e
          | .ok l => .ok (⟨k, t, lin ln s⟩ :: l)
theorem rst_len (s : List UInt8) : (rst s).length ≤ s.length := by unfold rst; rw [List.length_drop]; omega
theorem sp_more : ∀ (f g m ln : Nat) (s : List UInt8), s.length < f → s.length < g → sp f m ln s = sp g m ln s
  | 0, _, _, _, _, h, _ => by omega
  | _ + 1, 0, _, _, _, _, h => by omega
  | f + 1, g + 1, m, ln, s, h1, h2 => by
    simp only [sp]
    split
    · rfl
    · cases hx : nxt (rst s) with
      | none => rfl
      | some y =>
        obtain ⟨⟨k, t⟩, n⟩ := y
        cases m with
        | zero => rfl
        | succ m =>
          have := nxt_n hx
          have := rst_len s
          simp only
          rw [sp_more f g m (lin ln s) ((rst s).drop n) (by rw [List.length_drop]; omega) (by rw [List.length_drop]; omega)]
/-- A text's tokens. -/
def split (m ln : Nat) (s : List UInt8) : Except (Nat × Nat) (List Tk) := sp (s.length + 1) m ln s
theorem split_end {m ln : Nat} {s : List UInt8} (h : rst s = []) : split m ln s = .ok [] := by unfold split; simp only [sp, if_pos h]
theorem split_no {m ln : Nat} {s : List UInt8} (h : ¬ rst s = []) (hx : nxt (rst s) = none) : split m ln s = .error (lin ln s, 140) := by unfold split; simp only [sp, if_neg h, hx]
theorem split_full {ln : Nat} {s : List UInt8} {y : (Nat × List UInt8) × Nat} (h : ¬ rst s = []) (hx : nxt (rst s) = some y) : split 0 ln s = .error (lin ln s, 2) := by unfold split; simp only [sp, if_neg h, hx]
theorem split_go {m ln : Nat} {s : List UInt8} {k : Nat} {t : List UInt8} {n : Nat} (h : ¬ rst s = []) (hx : nxt (rst s) = some ((k, t), n)) :
    split (m + 1) ln s = (match split m (lin ln s) ((rst s).drop n) with | .error e => .error e | .ok l => .ok (⟨k, t, lin ln s⟩ :: l)) := by
  have hn := nxt_n hx
  have hl := rst_len s
  have e := sp_more s.length (((rst s).drop n).length + 1) m (lin ln s) ((rst s).drop n) (by rw [List.length_drop]; omega) (by omega)
  unfold split
  rw [← e]
  simp only [sp, if_neg h, hx]
end L14
end Go.Proofs.YtkobjbmjefkmgaaDoor
