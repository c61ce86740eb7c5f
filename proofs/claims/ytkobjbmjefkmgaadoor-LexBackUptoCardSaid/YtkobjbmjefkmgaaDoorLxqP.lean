/- Words of a file of rules: all tokens first, and then whether they are too many. Plain mathematics, of no program. -/
import Derived.Test.YtkobjbmjefkmgaaDoorLexR
namespace Go.Proofs.YtkobjbmjefkmgaaDoor
open K
set_option linter.unusedVariables false
set_option linter.unusedSimpArgs false
namespace L14
/-- With more room nothing that was told changes. -/
theorem split_wide : ∀ (n m M ln : Nat) (s : List UInt8), s.length ≤ n → m ≤ M → (∀ l, split m ln s = .ok l → split M ln s = .ok l) ∧ (∀ e, split m ln s = .error e → e.2 = 140 → split M ln s = .error e) := by
  intro n
  induction n with
  | zero =>
    intro m M ln s hs hm
    have : s = [] := List.length_eq_zero_iff.1 (by omega)
    subst this
    have h0 : rst [] = [] := rfl
    rw [split_end h0, split_end h0]
    exact ⟨fun l h => h, fun e h => by cases h⟩
  | succ n ih =>
    intro m M ln s hs hm
    by_cases hr : rst s = []
    · rw [split_end hr, split_end hr]
      exact ⟨fun l h => h, fun e h => by cases h⟩
    · cases hx : nxt (rst s) with
      | none =>
        rw [split_no hr hx, split_no hr hx]
        exact ⟨fun l h => (by cases h), fun e h _ => h⟩
      | some z =>
        obtain ⟨⟨k, t⟩, j⟩ := z
        cases m with
        | zero =>
          rw [split_full hr hx]
          exact ⟨fun l h => (by cases h), fun e h h2 => by injection h with h; subst h; cases h2⟩
        | succ m =>
          obtain ⟨M, rfl⟩ : ∃ N, M = N + 1 := ⟨M - 1, by omega⟩
          rw [split_go hr hx, split_go hr hx]
          have hn := nxt_n hx
          have hl := rst_len s
          obtain ⟨i1, i2⟩ := ih m M (lin ln s) ((rst s).drop j) (by rw [List.length_drop]; omega) (by omega)
          cases hy : split m (lin ln s) ((rst s).drop j) with
          | ok q =>
            rw [i1 q hy]
            exact ⟨fun l h => h, fun e h => by cases h⟩
          | error e2 =>
            refine ⟨fun l h => (by cases h), fun e h h2 => ?_⟩
            injection h with h; subst h
            rw [i2 e2 hy h2]
/-- With room enough only what is none is refused. -/
theorem split_room : ∀ (n M ln : Nat) (s : List UInt8) (e : Nat × Nat), s.length ≤ n → n < M → split M ln s = .error e → e.2 = 140 := by
  intro n
  induction n with
  | zero =>
    intro M ln s e hs hM h
    have : s = [] := List.length_eq_zero_iff.1 (by omega)
    subst this
    rw [split_end (by rfl)] at h; cases h
  | succ n ih =>
    intro M ln s e hs hM h
    by_cases hr : rst s = []
    · rw [split_end hr] at h; cases h
    · cases hx : nxt (rst s) with
      | none => rw [split_no hr hx] at h; injection h with h; subst h; rfl
      | some z =>
        obtain ⟨⟨k, t⟩, j⟩ := z
        obtain ⟨M, rfl⟩ : ∃ N, M = N + 1 := ⟨M - 1, by omega⟩
        rw [split_go hr hx] at h
        have hn := nxt_n hx
        have hl := rst_len s
        cases hy : split M (lin ln s) ((rst s).drop j) with
        | ok q => rw [hy] at h; cases h
        | error e2 =>
          rw [hy] at h
          injection h with h; subst h
          exact ih M _ _ e2 (by rw [List.length_drop]; omega) (by omega) hy
/-- No more tokens than bytes. -/
theorem split_few : ∀ (n M ln : Nat) (s : List UInt8) (l : List Tk), s.length ≤ n → split M ln s = .ok l → l.length ≤ s.length ∧ ∀ x ∈ l, ln ≤ x.l ∧ x.l ≤ ln + nls s := by
  have hlin : ∀ (ln : Nat) (s : List UInt8), ln ≤ lin ln s ∧ lin ln s + nls (rst s) = ln + nls s := by
    intro ln s
    unfold lin rst
    have : nls s = nls (s.take (skp false s)) + nls (s.drop (skp false s)) := by rw [← nls_app, List.take_append_drop]
    omega
  have hdrop : ∀ (j : Nat) (s : List UInt8), nls (s.drop j) ≤ nls s := by
    intro j s
    have : nls s = nls (s.take j) + nls (s.drop j) := by rw [← nls_app, List.take_append_drop]
    omega
  intro n
  induction n with
  | zero =>
    intro M ln s l hs h
    have : s = [] := List.length_eq_zero_iff.1 (by omega)
    subst this
    rw [split_end (by rfl)] at h; injection h with h; subst h
    exact ⟨by simp, fun x hx => by cases hx⟩
  | succ n ih =>
    intro M ln s l hs h
    have h1 := hlin ln s
    by_cases hr : rst s = []
    · rw [split_end hr] at h; injection h with h; subst h
      exact ⟨by simp, fun x hx => by cases hx⟩
    · cases hx : nxt (rst s) with
      | none => rw [split_no hr hx] at h; cases h
      | some z =>
        obtain ⟨⟨k, t⟩, j⟩ := z
        cases M with
        | zero => rw [split_full hr hx] at h; cases h
        | succ M =>
          rw [split_go hr hx] at h
          have hn := nxt_n hx
          have hl := rst_len s
          cases hy : split M (lin ln s) ((rst s).drop j) with
          | error e2 => rw [hy] at h; cases h
          | ok q =>
            rw [hy] at h
            injection h with h; subst h
            obtain ⟨i1, i2⟩ := ih M _ _ q (by rw [List.length_drop]; omega) hy
            rw [List.length_drop] at i1
            have := hdrop j (rst s)
            refine ⟨by simp only [List.length_cons]; omega, fun x hx => ?_⟩
            rcases List.mem_cons.1 hx with rfl | hx
            · show ln ≤ lin ln s ∧ lin ln s ≤ ln + nls s; omega
            · have := i2 x hx; omega
/-- No token. -/
def noT1 : Tk := ⟨0, [], 0⟩
/-- All tokens, or the line of what is none. -/
def all14 (s : List UInt8) : Except (Nat × Nat) (List Tk) := split (s.length + 1) 1 s
def pgE (s : List UInt8) : Nat := if 65536 < s.length then 2 else match all14 s with | .error e => 140 | .ok l => if 4096 < l.length then 2 else 0
def pgN (s : List UInt8) : Nat := if 65536 < s.length then 0 else match all14 s with | .error e => e.1 | .ok l => if 4096 < l.length then (l.getD 4096 noT1).l else 0
def pgL (s : List UInt8) : List Tk := if 65536 < s.length then [] else match all14 s with | .error _ => [] | .ok l => if 4096 < l.length then [] else l
theorem pg_long {s : List UInt8} (h : 65536 < s.length) : pgE s = 2 ∧ pgN s = 0 ∧ pgL s = [] := by unfold pgE pgN pgL; rw [if_pos h, if_pos h, if_pos h]; exact ⟨rfl, rfl, rfl⟩
theorem pg_er {s : List UInt8} (hs : s.length ≤ 65536) {e : Nat × Nat} (h : all14 s = .error e) : pgE s = 140 ∧ pgN s = e.1 ∧ pgL s = [] := by
  have h0 : ¬ 65536 < s.length := by omega
  unfold pgE pgN pgL; rw [if_neg h0, if_neg h0, if_neg h0, h]; exact ⟨rfl, rfl, rfl⟩
theorem pg_many {s : List UInt8} (hs : s.length ≤ 65536) {l : List Tk} (h : all14 s = .ok l) (hl : 4096 < l.length) : pgE s = 2 ∧ pgN s = (l.getD 4096 noT1).l ∧ pgL s = [] := by
  have h0 : ¬ 65536 < s.length := by omega
  unfold pgE pgN pgL; rw [if_neg h0, if_neg h0, if_neg h0, h]
  simp only
  rw [if_pos hl, if_pos hl, if_pos hl]; exact ⟨rfl, rfl, rfl⟩
theorem pg_all {s : List UInt8} (hs : s.length ≤ 65536) {l : List Tk} (h : all14 s = .ok l) (hl : l.length ≤ 4096) : pgE s = 0 ∧ pgN s = 0 ∧ pgL s = l := by
  have h0 : ¬ 65536 < s.length := by omega
  have h1 : ¬ 4096 < l.length := by omega
  unfold pgE pgN pgL; rw [if_neg h0, if_neg h0, if_neg h0, h]
  simp only
  rw [if_neg h1, if_neg h1, if_neg h1]; exact ⟨rfl, rfl, rfl⟩
theorem all_of {s : List UInt8} {l : List Tk} (h : split 4096 1 s = .ok l) : all14 s = .ok l := by
  unfold all14
  by_cases hm : 4096 ≤ s.length + 1
  · exact (split_wide s.length 4096 (s.length + 1) 1 s (Nat.le_refl _) hm).1 l h
  · obtain hx | hx : (∃ e, split (s.length + 1) 1 s = .error e) ∨ ∃ q, split (s.length + 1) 1 s = .ok q := by cases split (s.length + 1) 1 s <;> simp
    · obtain ⟨e, he⟩ := hx
      have h2 := split_room s.length (s.length + 1) 1 s e (Nat.le_refl _) (by omega) he
      have := (split_wide s.length (s.length + 1) 4096 1 s (Nat.le_refl _) (by omega)).2 e he h2
      rw [h] at this; cases this
    · obtain ⟨q, hq⟩ := hx
      have := (split_wide s.length (s.length + 1) 4096 1 s (Nat.le_refl _) (by omega)).1 q hq
      rw [h] at this; injection this with this; rw [hq, this]
theorem pg_ok {s : List UInt8} {l : List Tk} (hs : s.length ≤ 65536) (h : split 4096 1 s = .ok l) : pgE s = 0 ∧ pgN s = 0 ∧ pgL s = l :=
  pg_all hs (all_of h) (split_is s.length 4096 1 s l (Nat.le_refl _) h).2
/-- Where it is wrong: a line that it has. -/
theorem pgE_er {s : List UInt8} (h : pgE s ≠ 0) : pgL s = [] ∧ (s.length ≤ 65536 → 0 < pgN s ∧ pgN s ≤ 1 + nls s) := by
  by_cases hs : s.length ≤ 65536
  · cases hx : all14 s with
    | error e =>
      obtain ⟨_, h2, h3⟩ := pg_er hs hx
      have := split_line s.length (s.length + 1) 1 s e (Nat.le_refl _) hx
      exact ⟨h3, fun _ => by rw [h2]; omega⟩
    | ok l =>
      by_cases hl : 4096 < l.length
      · obtain ⟨_, h2, h3⟩ := pg_many hs hx hl
        have := (split_few s.length (s.length + 1) 1 s l (Nat.le_refl _) hx).2 (l.getD 4096 noT1) (by
          rw [List.getD_eq_getElem?_getD, List.getElem?_eq_getElem hl]; exact List.getElem_mem hl)
        exact ⟨h3, fun _ => by rw [h2]; omega⟩
      · exact absurd (pg_all hs hx (by omega)).1 h
  · exact ⟨(pg_long (by omega)).2.2, fun h => by omega⟩
end L14
end Go.Proofs.YtkobjbmjefkmgaaDoor
