/- Frames in a stream: plain mathematics, of no program. -/
import Derived.Test.YtndinelljmjfaaaDoorLib
namespace Go.Proofs.YtndinelljmjfaaaDoor
open K
namespace F12

/-- A stream's beginning: bad, not whole yet, or a number, how many bytes it has with its blank, and what stands behind. -/
inductive Hd
  | bad
  | more
  | num (n k : Nat) (r : List UInt8)
/-- i bytes of digits have been read, they tell n. -/
def hd (most : Nat) : List UInt8 → Nat → Nat → Hd
  | [], _, _ => .more
  | c :: r, n, i =>
    if c = 32 ∧ 0 < i then .num n (i + 1) r
    else if c < 48 ∨ 57 < c ∨ (i = 0 ∧ c = 48) then .bad
    else if most < n * 10 + (c.toNat - 48) then .bad
    else hd most r (n * 10 + (c.toNat - 48)) (i + 1)
theorem hd_rest (most : Nat) : ∀ (s : List UInt8) (n i m k : Nat) (r : List UInt8), hd most s n i = .num m k r → s.length + i = r.length + k ∧ i < k
  | [], _, _, _, _, _, h => by cases h
  | c :: s, n, i, m, k, r, h => by
    unfold hd at h
    split at h
    · injection h with _ h2 h3
      subst h2; subst h3
      simp; omega
    · split at h
      · cases h
      · split at h
        · cases h
        · have := hd_rest most s _ _ m k r h
          simp; omega
/-- What stands behind changes nothing of what is bad or whole. -/
theorem hd_bad (most : Nat) : ∀ (s b : List UInt8) (n i : Nat), hd most s n i = .bad → hd most (s ++ b) n i = .bad
  | [], _, _, _, h => by cases h
  | c :: s, b, n, i, h => by
    show hd most (c :: (s ++ b)) n i = .bad
    unfold hd at h ⊢
    split at h
    · cases h
    · split at h
      · rename_i h1 h2
        rw [if_neg h1, if_pos h2]
      · split at h
        · rename_i h1 h2 h3
          rw [if_neg h1, if_neg h2, if_pos h3]
        · rename_i h1 h2 h3
          rw [if_neg h1, if_neg h2, if_neg h3]
          exact hd_bad most s b _ _ h
theorem hd_num (most : Nat) : ∀ (s b : List UInt8) (n i m k : Nat) (r : List UInt8), hd most s n i = .num m k r → hd most (s ++ b) n i = .num m k (r ++ b)
  | [], _, _, _, _, _, _, h => by cases h
  | c :: s, b, n, i, m, k, r, h => by
    show hd most (c :: (s ++ b)) n i = _
    unfold hd at h ⊢
    split at h
    · rename_i h1
      injection h with e1 e2 e3
      rw [if_pos h1, e1, e2, e3]
    · split at h
      · cases h
      · split at h
        · cases h
        · rename_i h1 h2 h3
          rw [if_neg h1, if_neg h2, if_neg h3]
          exact hd_num most s b _ _ m k r h
/-- What a stream tells, and what is held of it: none, if it is dead. The fuel: one more than its bytes. -/
def run (most : Nat) : Nat → List UInt8 → List (List UInt8) × Option (List UInt8)
  | 0, s => ([], some s)
  | f + 1, s =>
    match hd most s 0 0 with
    | .bad => ([], none)
    | .more => ([], some s)
    | .num n _ r => if n ≤ r.length then (r.take n :: (run most f (r.drop n)).1, (run most f (r.drop n)).2) else ([], some s)
theorem drop_lt {most : Nat} {s : List UInt8} {n k : Nat} {r : List UInt8} (h : hd most s 0 0 = .num n k r) : (r.drop n).length < s.length := by
  have := hd_rest most s 0 0 n k r h
  rw [List.length_drop]; omega
/-- Enough fuel is as good as any more. -/
theorem run_fuel (most : Nat) : ∀ (f g : Nat) (s : List UInt8), s.length < f → s.length < g → run most f s = run most g s
  | 0, _, _, h, _ => by omega
  | _ + 1, 0, _, _, h => by omega
  | f + 1, g + 1, s, h1, h2 => by
    unfold run
    cases hh : hd most s 0 0 with
    | bad => rfl
    | more => rfl
    | num n k r =>
      have hl := drop_lt hh
      have := run_fuel most f g (r.drop n) (by omega) (by omega)
      simp only [this]
def feed (most : Nat) (s : List UInt8) : List (List UInt8) × Option (List UInt8) := run most (s.length + 1) s
theorem feed_run {most f : Nat} {s : List UInt8} (h : s.length < f) : run most f s = feed most s := run_fuel most f _ s h (by omega)
theorem feed_bad {most : Nat} {s : List UInt8} (h : hd most s 0 0 = .bad) : feed most s = ([], none) := by
  unfold feed run; rw [h]
theorem feed_more {most : Nat} {s : List UInt8} (h : hd most s 0 0 = .more) : feed most s = ([], some s) := by
  unfold feed run; rw [h]
theorem feed_short {most : Nat} {s : List UInt8} {n k : Nat} {r : List UInt8} (h : hd most s 0 0 = .num n k r) (hn : ¬ n ≤ r.length) : feed most s = ([], some s) := by
  unfold feed run; rw [h]; simp only; rw [if_neg hn]
theorem feed_num {most : Nat} {s : List UInt8} {n k : Nat} {r : List UInt8} (h : hd most s 0 0 = .num n k r) (hn : n ≤ r.length) : feed most s = (r.take n :: (feed most (r.drop n)).1, (feed most (r.drop n)).2) := by
  have hl := drop_lt h
  have e : run most s.length (r.drop n) = feed most (r.drop n) := feed_run hl
  show run most (s.length + 1) s = _
  unfold run
  rw [h]
  simp only
  rw [if_pos hn, e]
/-- HOWEVER IT IS CUT: what stands behind is told behind what was held; what is dead stays so. -/
theorem feed_app (most : Nat) : ∀ (l : Nat) (s b : List UInt8), s.length ≤ l →
    (∀ h, (feed most s).2 = some h → feed most (s ++ b) = ((feed most s).1 ++ (feed most (h ++ b)).1, (feed most (h ++ b)).2)) ∧
    ((feed most s).2 = none → feed most (s ++ b) = ((feed most s).1, none)) := by
  intro l
  induction l with
  | zero =>
    intro s b hl
    obtain rfl : s = [] := List.length_eq_zero_iff.1 (by omega)
    have e : feed most [] = ([], some []) := feed_more rfl
    rw [e]
    exact ⟨fun h hh => by injection hh with hh; subst hh; simp, fun hh => by cases hh⟩
  | succ l ih =>
    intro s b hl
    cases hh : hd most s 0 0 with
    | bad =>
      rw [feed_bad hh, feed_bad (hd_bad most s b 0 0 hh)]
      exact ⟨fun _ h => (by cases h), fun _ => rfl⟩
    | more =>
      rw [feed_more hh]
      exact ⟨fun h e => by injection e with e; subst e; simp, fun h => by cases h⟩
    | num n k r =>
      by_cases hn : n ≤ r.length
      · have hb := hd_num most s b 0 0 n k r hh
        rw [feed_num hh hn, feed_num hb (by rw [List.length_append]; omega), List.take_append_of_le_length hn, List.drop_append_of_le_length hn]
        have hlt := drop_lt hh
        obtain ⟨i1, i2⟩ := ih (r.drop n) b (by omega)
        refine ⟨fun h e => ?_, fun e => ?_⟩
        · rw [i1 h e]; simp
        · rw [i2 e]
      · rw [feed_short hh hn]
        exact ⟨fun h e => by injection e with e; subst e; simp, fun h => by cases h⟩
/-- A stream that is fed in pieces: what has been told, and what is held. -/
def fedL (most : Nat) : List (List UInt8) → List (List UInt8) × Option (List UInt8) → List (List UInt8) × Option (List UInt8)
  | [], x => x
  | _ :: cs, (ms, none) => fedL most cs (ms, none)
  | c :: cs, (ms, some h) => fedL most cs (ms ++ (feed most (h ++ c)).1, (feed most (h ++ c)).2)
theorem fedL_dead (most : Nat) : ∀ (cs : List (List UInt8)) (ms : List (List UInt8)), fedL most cs (ms, none) = (ms, none)
  | [], _ => rfl
  | _ :: cs, ms => fedL_dead most cs ms
/-- What is held was looked at: it tells nothing more by itself. -/
theorem feed_held (most : Nat) : ∀ (l : Nat) (s h : List UInt8), s.length ≤ l → (feed most s).2 = some h → feed most h = ([], some h) := by
  intro l
  induction l with
  | zero =>
    intro s h hl e
    obtain rfl : s = [] := List.length_eq_zero_iff.1 (by omega)
    have e0 : feed most [] = ([], some []) := feed_more rfl
    rw [e0] at e
    injection e with e
    subst e
    exact e0
  | succ l ih =>
    intro s h hl e
    cases hh : hd most s 0 0 with
    | bad => rw [feed_bad hh] at e; cases e
    | more => rw [feed_more hh] at e; injection e with e; subst e; exact feed_more hh
    | num n k r =>
      by_cases hn : n ≤ r.length
      · rw [feed_num hh hn] at e
        have hlt := drop_lt hh
        exact ih (r.drop n) h (by omega) e
      · rw [feed_short hh hn] at e; injection e with e; subst e; exact feed_short hh hn
theorem fedL_all (most : Nat) : ∀ (cs : List (List UInt8)) (s : List UInt8), fedL most cs (feed most s) = feed most (s ++ cs.flatten)
  | [], s => by simp [fedL]
  | c :: cs, s => by
    obtain ⟨i1, i2⟩ := feed_app most s.length s c (by omega)
    obtain ⟨j1, j2⟩ := feed_app most s.length s (c ++ cs.flatten) (by omega)
    rw [List.flatten_cons]
    cases he : (feed most s).2 with
    | none =>
      rw [j2 he, show feed most s = ((feed most s).1, none) by rw [← he]]
      exact fedL_dead most (c :: cs) _
    | some h =>
      have e1 : fedL most (c :: cs) (feed most s) = fedL most cs (feed most (s ++ c)) := by
        rw [i1 h he]
        rw [show feed most s = ((feed most s).1, some h) by rw [← he]]
        rfl
      rw [e1, fedL_all most cs (s ++ c), List.append_assoc]
end F12
end Go.Proofs.YtndinelljmjfaaaDoor
