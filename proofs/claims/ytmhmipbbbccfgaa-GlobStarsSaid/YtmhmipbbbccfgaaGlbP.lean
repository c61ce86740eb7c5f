/- Patterns that texts match: plain mathematics, of no program. -/
import Derived.Test.YtmhmipbbbccfgaaLib
namespace Go.Proofs.Ytmhmipbbbccfgaa
open K
set_option linter.unusedVariables false
set_option linter.unusedSimpArgs false
namespace G13
/-- A piece: any bytes; a byte for itself; a byte of a set. -/
inductive Pc
  | any
  | one (b : UInt8)
  | set (f : UInt8 → Bool)
/-- Does one byte stand for it? -/
def Pc.hit : Pc → UInt8 → Bool
  | .any, _ => false
  | .one b, c => b == c
  | .set f, c => f c
def Pc.isAny : Pc → Bool
  | .any => true
  | _ => false
/-- A byte of a range. -/
def mem13 : List UInt8 → Option (UInt8 × List UInt8)
  | [] => none
  | c :: r => if c = 93 ∨ c = 45 then none else if c = 92 then (match r with | [] => none | d :: q => some (d, q)) else some (c, r)
theorem mem_len {s : List UInt8} {a : UInt8} {r : List UInt8} (h : mem13 s = some (a, r)) : r.length < s.length := by
  cases s with
  | nil => cases h
  | cons c t =>
    simp only [mem13] at h
    split at h
    · cases h
    · split at h
      · split at h
        · cases h
        · injection h with h; injection h with h1 h2; subst h2; simp; omega
      · injection h with h; injection h with h1 h2; subst h2; simp
/-- What stands behind is kept. -/
theorem mem_app {s : List UInt8} {a : UInt8} {r : List UInt8} (h : mem13 s = some (a, r)) (q : List UInt8) : mem13 (s ++ q) = some (a, r ++ q) := by
  cases s with
  | nil => cases h
  | cons c t =>
    simp only [mem13, List.cons_append] at h ⊢
    split at h
    · cases h
    · next h1 =>
      rw [if_neg h1]
      split at h
      · next h2 =>
        rw [if_pos h2]
        cases t with
        | nil => cases h
        | cons d t => simp only [List.cons_append] at h ⊢; injection h with h; injection h with e1 e2; subst e1 e2; rfl
      · next h2 =>
        rw [if_neg h2]
        injection h with h; injection h with e1 e2; subst e1 e2; rfl
/-- One range at the beginning. -/
def rng (s : List UInt8) : Option ((UInt8 × UInt8) × List UInt8) :=
  match mem13 s with
  | none => none
  | some (a, r) =>
    match r with
    | [] => some ((a, a), [])
    | d :: r' => if d = 45 then (match mem13 r' with | none => none | some (b, q) => if a ≤ b then some ((a, b), q) else none) else some ((a, a), d :: r')
theorem rng_len {s : List UInt8} {x : UInt8 × UInt8} {r : List UInt8} (h : rng s = some (x, r)) : r.length < s.length := by
  unfold rng at h
  split at h
  · cases h
  · next a r1 hm =>
    have h1 := mem_len hm
    split at h
    · injection h with h; injection h with _ h; subst h; exact h1
    · next d r2 =>
      split at h
      · split at h
        · cases h
        · next b q hm2 =>
          have h2 := mem_len hm2
          split at h
          · injection h with h; injection h with _ h; subst h; simp only [List.length_cons] at h1; omega
          · cases h
      · injection h with h; injection h with _ h; subst h; exact h1
theorem rng_app {s : List UInt8} {x : UInt8 × UInt8} {r : List UInt8} (h : rng s = some (x, r)) (hr : r ≠ []) (q : List UInt8) : rng (s ++ q) = some (x, r ++ q) := by
  unfold rng at h ⊢
  split at h
  · cases h
  · next a r1 hm =>
    rw [mem_app hm q]
    split at h
    · injection h with h; injection h with _ h; exact absurd h.symm hr
    · next d r2 =>
      simp only [List.cons_append]
      split at h
      · next hd =>
        rw [if_pos hd]
        split at h
        · cases h
        · next b q2 hm2 =>
          rw [mem_app hm2 q]
          simp only
          split at h
          · next hab =>
            rw [if_pos hab]
            injection h with h; injection h with e1 e2; subst e1 e2; rfl
          · cases h
      · next hd =>
        rw [if_neg hd]
        injection h with h; injection h with e1 e2; subst e1 e2; rfl
/-- Ranges up to their ]. -/
def rngs : Nat → List UInt8 → Option (List (UInt8 × UInt8) × List UInt8)
  | 0, _ => none
  | k + 1, s =>
    match s with
    | [] => none
    | c :: t => if c = 93 then some ([], t) else
      match rng (c :: t) with
      | none => none
      | some (x, r) => (rngs k r).map fun y => (x :: y.1, y.2)
theorem rngs_more : ∀ (k m : Nat) (s : List UInt8), s.length < k → s.length < m → rngs k s = rngs m s
  | 0, _, _, h, _ => by omega
  | _ + 1, 0, _, _, h => by omega
  | k + 1, m + 1, [], _, _ => rfl
  | k + 1, m + 1, c :: t, h1, h2 => by
    simp only [rngs]
    split
    · rfl
    · cases hr : rng (c :: t) with
      | none => rfl
      | some x =>
        have := rng_len (x := x.1) (r := x.2) hr
        simp only
        rw [rngs_more k m x.2 (by omega) (by omega)]
theorem rngs_len : ∀ (k : Nat) (s : List UInt8) (x : List (UInt8 × UInt8)) (r : List UInt8), rngs k s = some (x, r) → r.length < s.length
  | 0, _, _, _, h => by cases h
  | k + 1, [], _, _, h => by cases h
  | k + 1, c :: t, x, r, h => by
    simp only [rngs] at h
    split at h
    · injection h with h; injection h with _ h; subst h; simp
    · cases hr : rng (c :: t) with
      | none => rw [hr] at h; cases h
      | some y =>
        rw [hr] at h
        simp only at h
        obtain ⟨z, hz, he⟩ := Option.map_eq_some_iff.1 h
        injection he with _ he
        subst he
        have h1 := rng_len (x := y.1) (r := y.2) hr
        have h2 := rngs_len k y.2 z.1 z.2 hz
        omega
theorem rngs_app : ∀ (k m : Nat) (s : List UInt8) (x : List (UInt8 × UInt8)) (r : List UInt8), rngs k s = some (x, r) → ∀ q : List UInt8, (s ++ q).length < m → rngs m (s ++ q) = some (x, r ++ q)
  | 0, _, _, _, _, h, _, _ => by cases h
  | k + 1, _, [], _, _, h, _, _ => by cases h
  | k + 1, 0, c :: t, _, _, _, _, hm => by omega
  | k + 1, m + 1, c :: t, x, r, h, q, hm => by
    simp only [rngs] at h
    simp only [List.cons_append, rngs]
    split at h
    · next hc =>
      rw [if_pos hc]
      injection h with h; injection h with e1 e2; subst e1 e2; rfl
    · next hc =>
      rw [if_neg hc]
      cases hr : rng (c :: t) with
      | none => rw [hr] at h; cases h
      | some y =>
        rw [hr] at h
        simp only at h
        obtain ⟨z, hz, he⟩ := Option.map_eq_some_iff.1 h
        injection he with e1 e2
        subst e1 e2
        have hne : y.2 ≠ [] := by
          intro e
          rw [e] at hz
          cases k with
          | zero => cases hz
          | succ k => cases hz
        have h1 := rng_app (x := y.1) (r := y.2) hr hne q
        have hl := rng_len (x := y.1) (r := y.2) hr
        rw [List.cons_append] at h1
        rw [h1]
        simp only
        rw [rngs_app k m y.2 z.1 z.2 hz q (by simp only [List.length_append, List.length_cons] at hm hl ⊢; omega)]
        rfl
def inR (x : List (UInt8 × UInt8)) (c : UInt8) : Bool := x.any fun y => decide (y.1 ≤ c) && decide (c ≤ y.2)
/-- A set behind its [. -/
def st13 (s : List UInt8) : Option ((UInt8 → Bool) × List UInt8) :=
  match s with
  | [] => none
  | c :: t =>
    if c = 33 then (match rngs (t.length + 1) t with | none => none | some (x, r) => if x.isEmpty then none else some ((fun b => !inR x b), r))
    else (match rngs ((c :: t).length + 1) (c :: t) with | none => none | some (x, r) => if x.isEmpty then none else some (inR x, r))
theorem st_len {s : List UInt8} {f : UInt8 → Bool} {r : List UInt8} (h : st13 s = some (f, r)) : r.length < s.length := by
  unfold st13 at h
  split at h
  · cases h
  · next c t =>
    split at h
    · split at h
      · cases h
      · next x r2 hr =>
        have := rngs_len _ _ _ _ hr
        split at h
        · cases h
        · injection h with h; injection h with _ h; subst h; simp only [List.length_cons]; omega
    · split at h
      · cases h
      · next x r2 hr =>
        have := rngs_len _ _ _ _ hr
        split at h
        · cases h
        · injection h with h; injection h with _ h; subst h; exact this
theorem st_app {s : List UInt8} {f : UInt8 → Bool} {r : List UInt8} (h : st13 s = some (f, r)) (q : List UInt8) : st13 (s ++ q) = some (f, r ++ q) := by
  cases s with
  | nil => cases h
  | cons c t =>
    simp only [st13, List.cons_append] at h ⊢
    split at h
    · next hc =>
      rw [if_pos hc]
      split at h
      · cases h
      · next x r2 hr =>
        rw [rngs_app _ ((t ++ q).length + 1) _ _ _ hr q (by omega)]
        simp only
        split at h
        · cases h
        · next hx =>
          rw [if_neg hx]
          injection h with h; injection h with e1 e2; subst e1 e2; rfl
    · next hc =>
      rw [if_neg hc]
      split at h
      · cases h
      · next x r2 hr =>
        have := rngs_app _ ((c :: (t ++ q)).length + 1) _ _ _ hr q (by simp)
        rw [List.cons_append] at this
        rw [this]
        simp only
        split at h
        · cases h
        · next hx =>
          rw [if_neg hx]
          injection h with h; injection h with e1 e2; subst e1 e2; rfl
/-- The pieces of a text, whatever its length. -/
def pcs : Nat → List UInt8 → Option (List Pc)
  | 0, _ => none
  | k + 1, s =>
    match s with
    | [] => some []
    | c :: t =>
      if c = 42 then (pcs k t).map (Pc.any :: ·)
      else if c = 63 then (pcs k t).map (Pc.set (fun _ => true) :: ·)
      else if c = 91 then (match st13 t with | none => none | some (f, r) => (pcs k r).map (Pc.set f :: ·))
      else if c = 92 then (match t with | [] => none | d :: r => (pcs k r).map (Pc.one d :: ·))
      else (pcs k t).map (Pc.one c :: ·)
theorem pcs_more : ∀ (k m : Nat) (s : List UInt8), s.length < k → s.length < m → pcs k s = pcs m s
  | 0, _, _, h, _ => by omega
  | _ + 1, 0, _, _, h => by omega
  | k + 1, m + 1, [], _, _ => rfl
  | k + 1, m + 1, c :: t, h1, h2 => by
    simp only [List.length_cons] at h1 h2
    simp only [pcs]
    rw [pcs_more k m t (by omega) (by omega)]
    split
    · rfl
    · split
      · rfl
      · split
        · cases hs : st13 t with
          | none => rfl
          | some x =>
            have := st_len (f := x.1) (r := x.2) hs
            simp only
            rw [pcs_more k m x.2 (by omega) (by omega)]
        · split
          · cases t with
            | nil => rfl
            | cons d r => simp only [List.length_cons] at h1 h2; show Option.map _ (pcs _ r) = Option.map _ (pcs _ r); rw [pcs_more k m r (by omega) (by omega)]
          · rfl
def pieces (s : List UInt8) : Option (List Pc) := pcs (s.length + 1) s
theorem pcs_app : ∀ (k m : Nat) (p : List UInt8) (l : List Pc), pcs k p = some l → ∀ q : List UInt8, (p ++ q).length < m → pcs m (p ++ q) = (pieces q).map (l ++ ·)
  | 0, _, _, _, h, _, _ => by cases h
  | _ + 1, 0, _, _, _, _, hm => by omega
  | k + 1, m + 1, [], l, h, q, hm => by
    simp only [pcs] at h
    injection h with h
    subst h
    simp only [List.nil_append] at hm ⊢
    have e : pcs (m + 1) q = pieces q := pcs_more (m + 1) (q.length + 1) q hm (by omega)
    rw [e]
    cases pieces q <;> simp
  | k + 1, m + 1, c :: t, l, h, q, hm => by
    simp only [List.cons_append, List.length_cons] at hm
    simp only [pcs] at h
    simp only [List.cons_append, pcs]
    have comp : ∀ (x : Pc) (l' : List Pc) (o : Option (List Pc)), (o.map (l' ++ ·)).map (x :: ·) = o.map ((x :: l') ++ ·) := by
      intro x l' o; cases o <;> simp
    split at h
    · next hc =>
      rw [if_pos hc]
      obtain ⟨l', hl, rfl⟩ := Option.map_eq_some_iff.1 h
      rw [pcs_app k m t l' hl q (by omega), comp]
    · next hc =>
      rw [if_neg hc]
      split at h
      · next hc2 =>
        rw [if_pos hc2]
        obtain ⟨l', hl, rfl⟩ := Option.map_eq_some_iff.1 h
        rw [pcs_app k m t l' hl q (by omega), comp]
      · next hc2 =>
        rw [if_neg hc2]
        split at h
        · next hc3 =>
          rw [if_pos hc3]
          cases hs : st13 t with
          | none => rw [hs] at h; cases h
          | some x =>
            rw [hs] at h
            simp only at h
            obtain ⟨l', hl, rfl⟩ := Option.map_eq_some_iff.1 h
            rw [st_app (f := x.1) (r := x.2) hs q]
            have hln := st_len (f := x.1) (r := x.2) hs
            simp only
            rw [pcs_app k m x.2 l' hl q (by rw [List.length_append] at hm ⊢; omega), comp]
        · next hc3 =>
          rw [if_neg hc3]
          split at h
          · next hc4 =>
            rw [if_pos hc4]
            cases t with
            | nil => cases h
            | cons d r =>
              simp only at h
              obtain ⟨l', hl, rfl⟩ := Option.map_eq_some_iff.1 h
              simp only [List.cons_append, List.length_cons] at hm ⊢
              rw [pcs_app k m r l' hl q (by omega), comp]
              rfl
          · next hc4 =>
            rw [if_neg hc4]
            obtain ⟨l', hl, rfl⟩ := Option.map_eq_some_iff.1 h
            rw [pcs_app k m t l' hl q (by omega), comp]
/-- ONE BEHIND THE OTHER: the pieces are those of both. -/
theorem pieces_app {p q : List UInt8} {l k : List Pc} (h1 : pieces p = some l) (h2 : pieces q = some k) : pieces (p ++ q) = some (l ++ k) := by
  have := pcs_app _ ((p ++ q).length + 1) p l h1 q (by omega)
  rw [h2] at this
  exact this
/-! ### Which texts match -/
def mt : List Pc → List UInt8 → Bool
  | [], s => s.isEmpty
  | .any :: l, [] => mt l []
  | .any :: l, c :: s => mt l (c :: s) || mt (.any :: l) s
  | .one b :: l, [] => false
  | .one b :: l, c :: s => b == c && mt l s
  | .set f :: l, [] => false
  | .set f :: l, c :: s => f c && mt l s
termination_by l s => (l.length, s.length)
/-- The same, by the pieces alone. -/
def sfx (f : List UInt8 → Bool) : List UInt8 → Bool
  | [] => f []
  | c :: s => f (c :: s) || sfx f s
def mu : List Pc → List UInt8 → Bool
  | [], s => s.isEmpty
  | .any :: l, s => sfx (mu l) s
  | .one b :: l, s => (match s with | [] => false | c :: t => b == c && mu l t)
  | .set f :: l, s => (match s with | [] => false | c :: t => f c && mu l t)
theorem mt_mu : ∀ (l : List Pc) (s : List UInt8), mt l s = mu l s
  | [], s => by rw [mt, mu]
  | .any :: l, [] => by rw [mt, mu, sfx, mt_mu l]
  | .any :: l, c :: s => by
    have h := mt_mu (.any :: l) s
    rw [mu] at h
    rw [mt, mu, sfx, mt_mu l, h]
  | .one b :: l, [] => by rw [mt, mu]
  | .one b :: l, c :: s => by rw [mt, mu, mt_mu l]
  | .set f :: l, [] => by rw [mt, mu]
  | .set f :: l, c :: s => by rw [mt, mu, mt_mu l]
theorem mt_any (l : List Pc) : ∀ s : List UInt8, mt (.any :: l) s = true ↔ ∃ i, i ≤ s.length ∧ mt l (s.drop i) = true
  | [] => by
    rw [mt]
    constructor
    · intro h; exact ⟨0, by simp, h⟩
    · rintro ⟨i, hi, h⟩
      have : i = 0 := by simpa using hi
      subst this; exact h
  | c :: s => by
    rw [mt, Bool.or_eq_true, mt_any l s]
    constructor
    · rintro (h | ⟨i, hi, h⟩)
      · exact ⟨0, by simp, h⟩
      · exact ⟨i + 1, by simp only [List.length_cons]; omega, h⟩
    · rintro ⟨i, hi, h⟩
      cases i with
      | zero => exact .inl h
      | succ i => exact .inr ⟨i, by simpa using hi, h⟩
/-- A text matches two lists of pieces, one behind the other, just if it can be cut so. -/
theorem mt_app : ∀ (l k : List Pc) (s : List UInt8), mt (l ++ k) s = true ↔ ∃ i, i ≤ s.length ∧ mt l (s.take i) = true ∧ mt k (s.drop i) = true
  | [], k, s => by
    constructor
    · intro h; exact ⟨0, by omega, by rw [mt]; rfl, h⟩
    · rintro ⟨i, hi, h1, h2⟩
      rw [mt] at h1
      have h0 : s.take i = [] := List.isEmpty_iff.1 h1
      have hl := congrArg List.length h0
      rw [List.length_take, List.length_nil] at hl
      have : i = 0 := by omega
      subst this; exact h2
  | .any :: l, k, s => by
    rw [List.cons_append, mt_any]
    constructor
    · rintro ⟨j, hj, h⟩
      obtain ⟨i, hi, h1, h2⟩ := (mt_app l k (s.drop j)).1 h
      rw [List.length_drop] at hi
      refine ⟨j + i, by omega, (mt_any l _).2 ⟨j, by rw [List.length_take]; omega, ?_⟩, by rw [List.drop_drop] at h2; exact h2⟩
      rw [List.drop_take, show j + i - j = i by omega]; exact h1
    · rintro ⟨i, hi, h1, h2⟩
      obtain ⟨j, hj, h3⟩ := (mt_any l _).1 h1
      rw [List.length_take] at hj
      rw [List.drop_take] at h3
      refine ⟨j, by omega, (mt_app l k (s.drop j)).2 ⟨i - j, by rw [List.length_drop]; omega, h3, ?_⟩⟩
      rw [List.drop_drop, show j + (i - j) = i by omega]; exact h2
  | .one b :: l, k, [] => by
    rw [List.cons_append, mt]
    constructor
    · intro h; cases h
    · rintro ⟨i, _, h, _⟩; rw [List.take_nil, mt] at h; cases h
  | .one b :: l, k, c :: s => by
    rw [List.cons_append, mt, Bool.and_eq_true, mt_app l k s]
    constructor
    · rintro ⟨hb, i, hi, h1, h2⟩
      exact ⟨i + 1, by simp only [List.length_cons]; omega, by rw [List.take_succ_cons, mt, hb, h1]; rfl, h2⟩
    · rintro ⟨i, hi, h1, h2⟩
      cases i with
      | zero => rw [List.take_zero, mt] at h1; cases h1
      | succ i =>
        rw [List.take_succ_cons, mt, Bool.and_eq_true] at h1
        exact ⟨h1.1, i, by simpa using hi, h1.2, h2⟩
  | .set f :: l, k, [] => by
    rw [List.cons_append, mt]
    constructor
    · intro h; cases h
    · rintro ⟨i, _, h, _⟩; rw [List.take_nil, mt] at h; cases h
  | .set f :: l, k, c :: s => by
    rw [List.cons_append, mt, Bool.and_eq_true, mt_app l k s]
    constructor
    · rintro ⟨hb, i, hi, h1, h2⟩
      exact ⟨i + 1, by simp only [List.length_cons]; omega, by rw [List.take_succ_cons, mt, hb, h1]; rfl, h2⟩
    · rintro ⟨i, hi, h1, h2⟩
      cases i with
      | zero => rw [List.take_zero, mt] at h1; cases h1
      | succ i =>
        rw [List.take_succ_cons, mt, Bool.and_eq_true] at h1
        exact ⟨h1.1, i, by simpa using hi, h1.2, h2⟩
/-! ### What is escaped -/
def sp13 (b : UInt8) : Bool := b == 42 || b == 63 || b == 91 || b == 92
def esc13 : List UInt8 → List UInt8
  | [] => []
  | b :: r => if sp13 b then 92 :: b :: esc13 r else b :: esc13 r
theorem pcs_esc : ∀ (s : List UInt8) (k : Nat), (esc13 s).length < k → pcs k (esc13 s) = some (s.map Pc.one)
  | [], 0, h => by simp [esc13] at h
  | [], k + 1, _ => rfl
  | b :: r, 0, h => by simp at h
  | b :: r, k + 1, h => by
    simp only [esc13] at h ⊢
    cases hs : sp13 b
    · rw [hs] at h
      simp only [Bool.false_eq_true, if_false, List.length_cons] at h ⊢
      simp only [sp13, Bool.or_eq_false_iff, beq_eq_false_iff_ne] at hs
      obtain ⟨⟨⟨h1, h2⟩, h3⟩, h4⟩ := hs
      simp only [pcs, if_neg h1, if_neg h2, if_neg h3, if_neg h4]
      rw [pcs_esc r k (by omega)]; rfl
    · rw [hs] at h
      simp only [if_true, List.length_cons] at h
      simp only [if_true, List.length_cons, pcs]
      have e : pcs (k + 1) (92 :: b :: esc13 r) = Option.map (fun x => Pc.one b :: x) (pcs k (esc13 r)) := rfl
      first
        | (rw [e, pcs_esc r k (by omega)]; rfl)
        | (show Option.map (fun x => Pc.one b :: x) (pcs k (esc13 r)) = _; rw [pcs_esc r k (by omega)]; rfl)
theorem pieces_esc (s : List UInt8) : pieces (esc13 s) = some (s.map Pc.one) := pcs_esc s _ (by omega)
/-- ITSELF ALONE. -/
theorem mt_ones : ∀ s t : List UInt8, mt (s.map Pc.one) t = (s == t)
  | [], [] => by simp [mt]
  | [], c :: t => by simp [mt]
  | b :: s, [] => by simp [mt]
  | b :: s, c :: t => by
    rw [List.map_cons, mt, mt_ones s t]
    rw [Bool.eq_iff_iff, Bool.and_eq_true, beq_iff_eq, beq_iff_eq, beq_iff_eq, List.cons.injEq]
/-- The one text that matches. -/
def plain : List Pc → Option (List UInt8)
  | [] => some []
  | .one b :: l => (plain l).map (b :: ·)
  | _ :: _ => none
theorem plain_ones : ∀ s : List UInt8, plain (s.map Pc.one) = some s
  | [] => rfl
  | b :: s => by rw [List.map_cons, plain, plain_ones s]; rfl
/-! ### Stars and question marks -/
theorem pcs_stars : ∀ (n k : Nat), n < k → pcs k (List.replicate n 42) = some (List.replicate n Pc.any)
  | 0, 0, h => by omega
  | 0, k + 1, _ => rfl
  | n + 1, 0, h => by omega
  | n + 1, k + 1, h => by
    rw [List.replicate_succ, List.replicate_succ]
    simp only [pcs, if_true]
    rw [pcs_stars n k (by omega)]; rfl
theorem pcs_asks : ∀ (n k : Nat), n < k → pcs k (List.replicate n 63) = some (List.replicate n (Pc.set fun _ => true))
  | 0, 0, h => by omega
  | 0, k + 1, _ => rfl
  | n + 1, 0, h => by omega
  | n + 1, k + 1, h => by
    rw [List.replicate_succ, List.replicate_succ]
    simp only [pcs]
    rw [if_neg (by decide), if_pos trivial, pcs_asks n k (by omega)]; rfl
theorem mt_stars : ∀ (n : Nat) (s : List UInt8), mt (List.replicate (n + 1) Pc.any) s = true
  | 0, s => (mt_any [] s).2 ⟨s.length, Nat.le_refl _, by rw [List.drop_length]; simp [mt]⟩
  | n + 1, s => (mt_any _ s).2 ⟨0, by omega, by rw [List.drop_zero]; exact mt_stars n s⟩
theorem mt_asks : ∀ (n : Nat) (s : List UInt8), mt (List.replicate n (Pc.set fun _ => true)) s = (s.length == n)
  | 0, [] => by simp [mt]
  | 0, c :: s => by simp [mt]
  | n + 1, [] => by simp [List.replicate_succ, mt]
  | n + 1, c :: s => by
    rw [List.replicate_succ, mt, mt_asks n s]
    simp
/-- A star ahead and behind: it holds what stands between. -/
theorem mt_holds (p s : List UInt8) : mt (Pc.any :: (p.map Pc.one ++ [Pc.any])) s = true ↔ ∃ a b, s = a ++ (p ++ b) := by
  rw [mt_any]
  constructor
  · rintro ⟨i, hi, h⟩
    obtain ⟨j, hj, h1, h2⟩ := (mt_app _ _ _).1 h
    rw [mt_ones] at h1
    refine ⟨s.take i, (s.drop i).drop j, ?_⟩
    rw [beq_iff_eq.1 h1, List.take_append_drop, List.take_append_drop]
  · rintro ⟨a, b, rfl⟩
    refine ⟨a.length, by simp, (mt_app _ _ _).2 ⟨p.length, by simp, ?_, ?_⟩⟩
    · rw [List.drop_left, List.take_left, mt_ones]; simp
    · rw [List.drop_left, List.drop_left]; exact mt_stars 0 b
theorem pieces_holds (p : List UInt8) : pieces (42 :: (esc13 p ++ [42])) = some (Pc.any :: (p.map Pc.one ++ [Pc.any])) := by
  have h1 : pieces (esc13 p ++ [42]) = some (p.map Pc.one ++ [Pc.any]) := pieces_app (pieces_esc p) rfl
  unfold pieces at h1 ⊢
  simp only [List.length_cons]
  have e : ∀ (k : Nat) (t : List UInt8), pcs (k + 1) (42 :: t) = Option.map (fun x => Pc.any :: x) (pcs k t) := fun k t => rfl
  rw [e, h1]; rfl
end G13
end Go.Proofs.Ytmhmipbbbccfgaa
