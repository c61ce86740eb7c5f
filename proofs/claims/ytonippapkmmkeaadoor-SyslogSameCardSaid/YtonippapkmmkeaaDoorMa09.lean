/- Texts on the program and on the document, joined: QuoP. -/
import Derived.Test.YtonippapkmmkeaaDoorMa01
import Derived.Test.YtonippapkmmkeaaDoorMa06
/- Structured data, plain: names, values escaped and told, elements as text and told by it. Of no program. -/
namespace Go.Proofs.YtonippapkmmkeaaDoor
open K U4
set_option linter.unusedVariables false
set_option linter.unusedSimpArgs false
namespace Q10
structure Pm where
  n : List UInt8
  v : List UInt8
deriving DecidableEq
structure El where
  id : List UInt8
  ps : List Pm
deriving DecidableEq
/-- May a byte be in a name? -/
def nb (b : UInt8) : Bool := decide (33 ≤ b.toNat) && decide (b.toNat ≤ 126) && !(b == 61) && !(b == 93) && !(b == 34)
def isN (s : List UInt8) : Bool := !s.isEmpty && decide (s.length ≤ 32) && s.all nb
/-- Is a byte escaped? -/
def spc (b : UInt8) : Bool := b == 34 || b == 92 || b == 93
def esc : List UInt8 → List UInt8
  | [] => []
  | b :: r => if spc b then 92 :: b :: esc r else b :: esc r
theorem esc_app (a b : List UInt8) : esc (a ++ b) = esc a ++ esc b := by
  induction a with
  | nil => rfl
  | cons x r ih => simp only [List.cons_append, esc]; split <;> simp [ih]
theorem esc_len (a : List UInt8) : (esc a).length = a.length + a.countP spc := by
  induction a with
  | nil => rfl
  | cons x r ih => simp only [esc, List.countP_cons]; split <;> simp_all <;> omega
theorem esc_le (a : List UInt8) : (esc a).length ≤ 2 * a.length := by
  have := esc_len a
  have := List.countP_le_length (p := spc) (l := a)
  omega
def pmOk (p : Pm) : Bool := isN p.n && (chE p.v == 0)
def elOk (x : El) : Bool := isN x.id && (decide (x.ps.length ≤ 4096) && x.ps.all pmOk)
/-- No two of these are the same. -/
def uniq : List (List UInt8) → Bool
  | [] => true
  | a :: r => !(r.contains a) && uniq r
def okL (l : List El) : Bool := decide (l.length ≤ 4096) && (l.all elOk && uniq (l.map El.id))
def pmT (p : Pm) : List UInt8 := 32 :: (p.n ++ (61 :: 34 :: (esc p.v ++ [34])))
def psT (l : List Pm) : List UInt8 := l.flatMap pmT
def elT (x : El) : List UInt8 := 91 :: (x.id ++ (psT x.ps ++ [93]))
def elsT (l : List El) : List UInt8 := l.flatMap elT
def put (l : List El) : List UInt8 := if l.isEmpty then [45] else elsT l
theorem psT_cons (p : Pm) (l : List Pm) : psT (p :: l) = pmT p ++ psT l := by simp [psT]
theorem psT_app (a b : List Pm) : psT (a ++ b) = psT a ++ psT b := by simp [psT]
theorem elsT_cons (x : El) (l : List El) : elsT (x :: l) = elT x ++ elsT l := by simp [elsT]
theorem elsT_app (a b : List El) : elsT (a ++ b) = elsT a ++ elsT b := by simp [elsT]
def prS (l : List El) : List UInt8 := if okL l then (if (put l).length ≤ 65536 then put l else []) else []
def prE (l : List El) : Nat := if okL l then (if (put l).length ≤ 65536 then 0 else 2) else 100
def ckE (l : List El) : Nat := if okL l then 0 else 100
/-- Does a name end here? -/
def stp (b : UInt8) : Bool := b == 32 || b == 61 || b == 93 || b == 34
def nmT (s : List UInt8) : List UInt8 := s.takeWhile fun b => !stp b
def nmR (s : List UInt8) : List UInt8 := s.dropWhile fun b => !stp b
theorem nm_split (s : List UInt8) : s = nmT s ++ nmR s := (List.takeWhile_append_dropWhile).symm
theorem nb_stp {b : UInt8} (h : nb b = true) : stp b = false := by
  cases hs : stp b
  · rfl
  · exfalso
    simp only [stp, Bool.or_eq_true, beq_iff_eq] at hs
    rcases hs with ((rfl | rfl) | rfl) | rfl <;> revert h <;> decide
theorem nm_app {n r : List UInt8} (h : ∀ b ∈ n, stp b = false) (hr : ∀ b, r.head? = some b → stp b = true) : nmT (n ++ r) = n ∧ nmR (n ++ r) = r := by
  have h' : ∀ b ∈ n, (!stp b) = true := fun b hb => by rw [h b hb]; rfl
  cases r with
  | nil =>
    rw [List.append_nil]
    refine ⟨?_, ?_⟩
    · unfold nmT
      rw [show n = n ++ [] by simp, List.takeWhile_append_of_pos h']; simp
    · unfold nmR
      rw [show n = n ++ [] by simp, List.dropWhile_append_of_pos h']; simp
  | cons b t =>
    have hb := hr b rfl
    refine ⟨?_, ?_⟩
    · unfold nmT; rw [List.takeWhile_append_of_pos h', List.takeWhile_cons]; simp [hb]
    · unfold nmR; rw [List.dropWhile_append_of_pos h', List.dropWhile_cons]; simp [hb]
theorem isN_stp {n : List UInt8} (h : isN n = true) : ∀ b ∈ n, stp b = false := by
  unfold isN at h
  simp only [Bool.and_eq_true, List.all_eq_true] at h
  exact fun b hb => nb_stp (h.2 b hb)
/-- One byte more of a value. -/
def vc (b : UInt8) : Option (List UInt8 × List UInt8) → Option (List UInt8 × List UInt8)
  | some (o, r) => some (b :: o, r)
  | none => none
/-- What is escaped, up to its end, and what stands behind that. -/
def vl : List UInt8 → Option (List UInt8 × List UInt8)
  | [] => none
  | [b] => if b = 34 then some ([], []) else none
  | b :: c :: q => if b = 34 then some ([], c :: q) else if b = 93 then none else if b = 92 ∧ spc c = true then vc c (vl q) else vc b (vl (c :: q))
theorem vl_end (r : List UInt8) : vl (34 :: r) = some ([], r) := by
  cases r <;> simp [vl]
theorem vl_no (r : List UInt8) : vl (93 :: r) = none := by
  cases r <;> simp [vl]
theorem vl_esc1 {c : UInt8} (h : spc c = true) (r : List UInt8) : vl (92 :: c :: r) = vc c (vl r) := by
  simp [vl, h]
theorem vl_one {b : UInt8} (h1 : b ≠ 34) (h2 : b ≠ 93) {r : List UInt8} (h3 : b = 92 → ∀ c q, r = c :: q → spc c = false) : vl (b :: r) = vc b (vl r) := by
  cases r with
  | nil => simp [vl, h1, vc]
  | cons c q =>
    simp only [vl, if_neg h1, if_neg h2]
    rw [if_neg]
    rintro ⟨e, k⟩
    rw [h3 e c q rfl] at k
    cases k
theorem vl_plain {b : UInt8} (h : spc b = false) (r : List UInt8) : vl (b :: r) = vc b (vl r) := by
  simp only [spc, Bool.or_eq_false_iff, beq_eq_false_iff_ne] at h
  exact vl_one h.1.1 h.2 (fun e => absurd e h.1.2)
theorem vl_esc (v r : List UInt8) : vl (esc v ++ 34 :: r) = some (v, r) := by
  induction v with
  | nil => exact vl_end r
  | cons b t ih =>
    simp only [esc]
    cases h : spc b
    · simp only [Bool.false_eq_true, if_false, List.cons_append]
      rw [vl_plain h, ih]; rfl
    · simp only [if_true, List.cons_append]
      rw [vl_esc1 h, ih]; rfl
theorem vl_len : ∀ (n : Nat) (s : List UInt8), s.length ≤ n → ∀ o r, vl s = some (o, r) → o.length + r.length + 1 ≤ s.length ∧ ∃ p, s = p ++ r
  | _, [], _, o, r, h => by simp [vl] at h
  | _, [b], _, o, r, h => by
    simp only [vl] at h
    split at h
    · simp only [Option.some.injEq, Prod.mk.injEq] at h
      obtain ⟨rfl, rfl⟩ := h
      exact ⟨by simp, [b], by simp⟩
    · cases h
  | 0, b :: c :: q, hn, o, r, h => by simp at hn
  | n + 1, b :: c :: q, hn, o, r, h => by
    simp only [List.length_cons] at hn
    simp only [vl] at h
    split at h
    · simp only [Option.some.injEq, Prod.mk.injEq] at h
      obtain ⟨rfl, rfl⟩ := h
      exact ⟨by simp, [b], by simp⟩
    · split at h
      · cases h
      · split at h
        · cases hv : vl q with
          | none => rw [hv] at h; cases h
          | some x =>
            obtain ⟨o', r'⟩ := x
            rw [hv] at h
            simp only [vc, Option.some.injEq, Prod.mk.injEq] at h
            obtain ⟨rfl, rfl⟩ := h
            obtain ⟨h1, p, hp⟩ := vl_len n q (by omega) o' r' hv
            exact ⟨by simp only [List.length_cons]; omega, b :: c :: p, by rw [hp]; rfl⟩
        · cases hv : vl (c :: q) with
          | none => rw [hv] at h; cases h
          | some x =>
            obtain ⟨o', r'⟩ := x
            rw [hv] at h
            simp only [vc, Option.some.injEq, Prod.mk.injEq] at h
            obtain ⟨rfl, rfl⟩ := h
            obtain ⟨h1, p, hp⟩ := vl_len n (c :: q) (by simp only [List.length_cons]; omega) o' r' hv
            simp only [List.length_cons] at h1
            exact ⟨by simp only [List.length_cons]; omega, b :: p, by rw [hp]; rfl⟩
/-- One param at the beginning, behind its blank. -/
def pm1 (t : List UInt8) : Option (Pm × List UInt8) :=
  match nmR t with
  | a :: b :: q => if a = 61 ∧ b = 34 then (vl q).map (fun x => (⟨nmT t, x.1⟩, x.2)) else none
  | _ => none
theorem pm1_iff (t : List UInt8) (p : Pm) (r : List UInt8) : pm1 t = some (p, r) ↔ ∃ q, nmR t = 61 :: 34 :: q ∧ vl q = some (p.v, r) ∧ p.n = nmT t := by
  unfold pm1
  constructor
  · intro h
    split at h
    · next a b q hq =>
      split at h
      · next hab =>
        obtain ⟨rfl, rfl⟩ := hab
        obtain ⟨x, hx, he⟩ := Option.map_eq_some_iff.1 h
        simp only [Prod.mk.injEq] at he
        obtain ⟨rfl, rfl⟩ := he
        exact ⟨q, hq, by rw [hx], rfl⟩
      · cases h
    · cases h
  · rintro ⟨q, hq, hv, hn⟩
    rw [hq]
    simp only [and_self, if_true, hv, Option.map_some, ← hn]
theorem pm1_len {t : List UInt8} {p : Pm} {r : List UInt8} (h : pm1 t = some (p, r)) : p.n.length + p.v.length + r.length + 3 ≤ t.length ∧ ∃ u, t = u ++ r := by
  obtain ⟨q, hq, hv, hn⟩ := (pm1_iff t p r).1 h
  obtain ⟨h1, u, hu⟩ := vl_len q.length q (Nat.le_refl _) _ _ hv
  have hs := nm_split t
  rw [hq] at hs
  have hl := congrArg List.length hs
  simp only [List.length_append, List.length_cons] at hl
  refine ⟨by rw [hn]; omega, nmT t ++ 61 :: 34 :: u, ?_⟩
  calc t = _ := hs
    _ = _ := by rw [hu]; simp
/-- Params, as many as there are; with fuel. -/
def prs : Nat → List UInt8 → Option (List Pm × List UInt8)
  | 0, s => some ([], s)
  | k + 1, s =>
    match s with
    | [] => some ([], [])
    | b :: t => if b = 32 then (match pm1 t with | none => none | some x => (prs k x.2).map fun y => (x.1 :: y.1, y.2)) else some ([], b :: t)
theorem prs_stop (k : Nat) {s : List UInt8} (h : ∀ t, s ≠ 32 :: t) : prs k s = some ([], s) := by
  cases k with
  | zero => rfl
  | succ k =>
    cases s with
    | nil => rfl
    | cons b t =>
      have : b ≠ 32 := fun e => h t (by rw [e])
      simp [prs, this]
theorem prs_more : ∀ (n k m : Nat) (s : List UInt8), s.length ≤ n → s.length ≤ k → s.length ≤ m → prs k s = prs m s
  | n, k, m, [], _, _, _ => by rw [prs_stop k (by simp), prs_stop m (by simp)]
  | n, 0, m, b :: t, _, h, _ => by simp at h
  | n, k, 0, b :: t, _, _, h => by simp at h
  | 0, k, m, b :: t, h, _, _ => by simp at h
  | n + 1, k + 1, m + 1, b :: t, h1, h2, h3 => by
    simp only [List.length_cons] at h1 h2 h3
    simp only [prs]
    split
    · cases hp : pm1 t with
      | none => rfl
      | some x =>
        have := (pm1_len (p := x.1) (r := x.2) hp).1
        simp only
        rw [prs_more n k m x.2 (by omega) (by omega) (by omega)]
    · rfl
def prsL (s : List UInt8) : Option (List Pm × List UInt8) := prs s.length s
theorem prsL_stop {s : List UInt8} (h : ∀ t, s ≠ 32 :: t) : prsL s = some ([], s) := prs_stop _ h
theorem prsL_step {t : List UInt8} {p : Pm} {r : List UInt8} (h : pm1 t = some (p, r)) : prsL (32 :: t) = (prsL r).map fun y => (p :: y.1, y.2) := by
  have hl := (pm1_len h).1
  unfold prsL
  simp only [List.length_cons, prs, if_true, h]
  rw [prs_more t.length t.length r.length r (by omega) (by omega) (Nat.le_refl _)]
theorem prsL_none {t : List UInt8} (h : pm1 t = none) : prsL (32 :: t) = none := by
  unfold prsL
  simp only [List.length_cons, prs, if_true, h]
theorem prs_len : ∀ (n : Nat) (s : List UInt8), s.length ≤ n → ∀ l r, prsL s = some (l, r) → (psT l).length + 2 * r.length ≤ 2 * s.length ∧ l.length + r.length ≤ s.length ∧ (∃ u, s = u ++ r)
  | n, s, hn, l, r, h => by
    by_cases hs : ∃ t, s = 32 :: t
    · obtain ⟨t, rfl⟩ := hs
      cases n with
      | zero => simp at hn
      | succ n =>
        cases hp : pm1 t with
        | none => rw [prsL_none hp] at h; cases h
        | some x =>
          obtain ⟨p, q⟩ := x
          rw [prsL_step hp] at h
          obtain ⟨y, hy, he⟩ := Option.map_eq_some_iff.1 h
          simp only [Prod.mk.injEq] at he
          obtain ⟨rfl, rfl⟩ := he
          obtain ⟨h1, u, hu⟩ := pm1_len hp
          simp only [List.length_cons] at hn
          obtain ⟨h2, h3, u', hu'⟩ := prs_len n q (by omega) y.1 y.2 hy
          have h4 := esc_le p.v
          rw [psT_cons, List.length_append]
          refine ⟨?_, ?_, 32 :: (u ++ u'), ?_⟩
          · simp only [pmT, List.length_cons, List.length_append, List.length_nil]; omega
          · simp only [List.length_cons]; omega
          · rw [hu, hu']; simp
    · rw [prsL_stop (fun t e => hs ⟨t, e⟩)] at h
      simp only [Option.some.injEq, Prod.mk.injEq] at h
      obtain ⟨rfl, rfl⟩ := h
      exact ⟨by simp [psT], by simp, [], rfl⟩
/-- An element at the beginning, behind its [. -/
def one (s : List UInt8) : Option (El × List UInt8) :=
  match prsL (nmR s) with
  | some (ps, 93 :: z) => some (⟨nmT s, ps⟩, z)
  | _ => none
theorem one_iff (s : List UInt8) (x : El) (z : List UInt8) : one s = some (x, z) ↔ x.id = nmT s ∧ prsL (nmR s) = some (x.ps, 93 :: z) := by
  unfold one
  constructor
  · intro h
    split at h
    · next ps z' hp =>
      simp only [Option.some.injEq, Prod.mk.injEq] at h
      obtain ⟨rfl, rfl⟩ := h
      exact ⟨rfl, hp⟩
    · cases h
  · rintro ⟨h1, h2⟩
    obtain ⟨i, ps⟩ := x
    simp only at h1 h2
    subst h1
    rw [h2]
    rfl
theorem one_len {s : List UInt8} {x : El} {z : List UInt8} (h : one s = some (x, z)) : (elT x).length + 2 * z.length ≤ 2 * s.length + 1 ∧ z.length + 1 ≤ s.length ∧ ∃ u, s = u ++ z := by
  obtain ⟨h1, h2⟩ := (one_iff s x z).1 h
  obtain ⟨h3, h4, u, hu⟩ := prs_len _ _ (Nat.le_refl _) _ _ h2
  have hs := nm_split s
  have hl := congrArg List.length hs
  simp only [List.length_append, List.length_cons] at hl h3 h4
  refine ⟨?_, by omega, nmT s ++ (u ++ [93]), ?_⟩
  · simp only [elT, List.length_cons, List.length_append, List.length_nil, h1]; omega
  · calc s = _ := hs
      _ = _ := by rw [hu]; simp
/-- Elements, as many as there are; with fuel. -/
def els : Nat → List UInt8 → Option (List El × List UInt8)
  | 0, s => some ([], s)
  | k + 1, s =>
    match s with
    | [] => some ([], [])
    | b :: t => if b = 91 then (match one t with | none => none | some x => (els k x.2).map fun y => (x.1 :: y.1, y.2)) else some ([], b :: t)
theorem els_stop (k : Nat) {s : List UInt8} (h : ∀ t, s ≠ 91 :: t) : els k s = some ([], s) := by
  cases k with
  | zero => rfl
  | succ k =>
    cases s with
    | nil => rfl
    | cons b t =>
      have : b ≠ 91 := fun e => h t (by rw [e])
      simp [els, this]
theorem els_more : ∀ (n k m : Nat) (s : List UInt8), s.length ≤ n → s.length ≤ k → s.length ≤ m → els k s = els m s
  | n, k, m, [], _, _, _ => by rw [els_stop k (by simp), els_stop m (by simp)]
  | n, 0, m, b :: t, _, h, _ => by simp at h
  | n, k, 0, b :: t, _, _, h => by simp at h
  | 0, k, m, b :: t, h, _, _ => by simp at h
  | n + 1, k + 1, m + 1, b :: t, h1, h2, h3 => by
    simp only [List.length_cons] at h1 h2 h3
    simp only [els]
    split
    · cases hp : one t with
      | none => rfl
      | some x =>
        have := (one_len (x := x.1) (z := x.2) hp).2.1
        simp only
        rw [els_more n k m x.2 (by omega) (by omega) (by omega)]
    · rfl
def elsL (s : List UInt8) : Option (List El × List UInt8) := els s.length s
theorem elsL_stop {s : List UInt8} (h : ∀ t, s ≠ 91 :: t) : elsL s = some ([], s) := els_stop _ h
theorem elsL_step {t : List UInt8} {x : El} {r : List UInt8} (h : one t = some (x, r)) : elsL (91 :: t) = (elsL r).map fun y => (x :: y.1, y.2) := by
  have hl := (one_len h).2.1
  unfold elsL
  simp only [List.length_cons, els, if_true, h]
  rw [els_more t.length t.length r.length r (by omega) (by omega) (Nat.le_refl _)]
theorem elsL_none {t : List UInt8} (h : one t = none) : elsL (91 :: t) = none := by
  unfold elsL
  simp only [List.length_cons, els, if_true, h]
theorem els_len : ∀ (n : Nat) (s : List UInt8), s.length ≤ n → ∀ l r, elsL s = some (l, r) → (elsT l).length + 2 * r.length ≤ 2 * s.length ∧ l.length + r.length ≤ s.length ∧ (∃ u, s = u ++ r) ∧ (∀ t, r ≠ 91 :: t)
  | n, s, hn, l, r, h => by
    by_cases hs : ∃ t, s = 91 :: t
    · obtain ⟨t, rfl⟩ := hs
      cases n with
      | zero => simp at hn
      | succ n =>
        cases hp : one t with
        | none => rw [elsL_none hp] at h; cases h
        | some x =>
          obtain ⟨x, q⟩ := x
          rw [elsL_step hp] at h
          obtain ⟨y, hy, he⟩ := Option.map_eq_some_iff.1 h
          simp only [Prod.mk.injEq] at he
          obtain ⟨rfl, rfl⟩ := he
          obtain ⟨h1, h0, u, hu⟩ := one_len hp
          simp only [List.length_cons] at hn
          obtain ⟨h2, h3, ⟨u', hu'⟩, h5⟩ := els_len n q (by omega) y.1 y.2 hy
          rw [elsT_cons, List.length_append]
          refine ⟨?_, ?_, ⟨91 :: (u ++ u'), ?_⟩, h5⟩
          · simp only [List.length_cons]; omega
          · simp only [List.length_cons]; omega
          · rw [hu, hu']; simp
    · rw [elsL_stop (fun t e => hs ⟨t, e⟩)] at h
      simp only [Option.some.injEq, Prod.mk.injEq] at h
      obtain ⟨rfl, rfl⟩ := h
      exact ⟨by simp [elsT], by simp, ⟨[], rfl⟩, fun t e => hs ⟨t, e⟩⟩
/-- Structured data at the beginning of a text, and what stands behind them. -/
def pa (s : List UInt8) : Option (List El × List UInt8) :=
  match s with
  | [] => none
  | b :: r => if b = 45 then some ([], r) else
    match elsL (b :: r) with
    | some (l, z) => if !l.isEmpty && okL l then some (l, z) else none
    | none => none
def paL (s : List UInt8) : List El := match pa s with | some (l, _) => l | none => []
def paR (s : List UInt8) : List UInt8 := match pa s with | some (_, r) => r | none => []
def paE (s : List UInt8) : Nat := if (pa s).isSome then 0 else 100
theorem pa_els {s : List UInt8} (h : ∀ r, s ≠ 45 :: r) {l : List El} {z : List UInt8} (he : elsL s = some (l, z)) (hl : l ≠ []) (hk : okL l = true) : pa s = some (l, z) := by
  cases s with
  | nil => rw [elsL_stop (by simp)] at he; simp only [Option.some.injEq, Prod.mk.injEq] at he; exact absurd he.1.symm hl
  | cons b r =>
    have hb : b ≠ 45 := fun e => h r (by rw [e])
    have hl' : l.isEmpty = false := by cases l <;> simp_all
    simp only [pa, if_neg hb, he, hl', hk, Bool.not_false, Bool.and_self, if_true]
theorem pm1_put (p : Pm) (r : List UInt8) (h : isN p.n = true) : pm1 (p.n ++ (61 :: 34 :: (esc p.v ++ 34 :: r))) = some (p, r) := by
  have hn := nm_app (r := 61 :: 34 :: (esc p.v ++ 34 :: r)) (isN_stp h) (fun b hb => by simp only [List.head?_cons, Option.some.injEq] at hb; subst hb; rfl)
  exact (pm1_iff _ _ _).2 ⟨_, hn.2, vl_esc _ _, hn.1.symm⟩
theorem prs_put : ∀ (l : List Pm) (r : List UInt8), (∀ p ∈ l, isN p.n = true) → (∀ t, r ≠ 32 :: t) → prsL (psT l ++ r) = some (l, r)
  | [], r, _, hr => prsL_stop hr
  | p :: l, r, h, hr => by
    have e : psT (p :: l) ++ r = 32 :: (p.n ++ (61 :: 34 :: (esc p.v ++ 34 :: (psT l ++ r)))) := by
      rw [psT_cons]; simp [pmT]
    rw [e, prsL_step (pm1_put p _ (h p (by simp))), prs_put l r (fun q hq => h q (by simp [hq])) hr]
    rfl
theorem psT_head (l : List Pm) (z : List UInt8) : ∀ b, (psT l ++ 93 :: z).head? = some b → stp b = true := by
  cases l with
  | nil => intro b hb; simp [psT] at hb; subst hb; rfl
  | cons p l => intro b hb; rw [psT_cons] at hb; simp [pmT] at hb; subst hb; rfl
theorem one_put (x : El) (z : List UInt8) (h : elOk x = true) : one (x.id ++ (psT x.ps ++ 93 :: z)) = some (x, z) := by
  unfold elOk at h
  simp only [Bool.and_eq_true, List.all_eq_true] at h
  have hn := nm_app (r := psT x.ps ++ 93 :: z) (isN_stp h.1) (psT_head _ _)
  refine (one_iff _ _ _).2 ⟨hn.1.symm, ?_⟩
  rw [hn.2]
  refine prs_put x.ps (93 :: z) (fun p hp => ?_) (by simp)
  have := h.2.2 p hp
  unfold pmOk at this
  simp only [Bool.and_eq_true] at this
  exact this.1
theorem els_put : ∀ (l : List El) (r : List UInt8), (∀ x ∈ l, elOk x = true) → (∀ t, r ≠ 91 :: t) → elsL (elsT l ++ r) = some (l, r)
  | [], r, _, hr => elsL_stop hr
  | x :: l, r, h, hr => by
    have e : elsT (x :: l) ++ r = 91 :: (x.id ++ (psT x.ps ++ 93 :: (elsT l ++ r))) := by
      rw [elsT_cons]; simp [elT]
    rw [e, elsL_step (one_put x _ (h x (by simp))), els_put l r (fun q hq => h q (by simp [hq])) hr]
    rfl
theorem okL_all {l : List El} (h : okL l = true) : ∀ x ∈ l, elOk x = true := by
  unfold okL at h
  simp only [Bool.and_eq_true, List.all_eq_true] at h
  exact h.2.1
/-- There and back. -/
theorem pa_put {l : List El} (h : okL l = true) {r : List UInt8} (hr : ∀ t, r ≠ 91 :: t) : pa (put l ++ r) = some (l, r) := by
  cases l with
  | nil => rfl
  | cons x l =>
    have e : put (x :: l) = elsT (x :: l) := rfl
    rw [e]
    refine pa_els ?_ (els_put _ r (okL_all h) hr) (by simp) h
    intro t ht
    rw [elsT_cons] at ht
    simp [elT] at ht
/-- What is told of a text: it may be, its text is not too long, and what stands behind it is the text's end. -/
theorem pa_some {s : List UInt8} {l : List El} {r : List UInt8} (h : pa s = some (l, r)) : okL l = true ∧ (put l).length + 2 * r.length ≤ 2 * s.length ∧ l.length ≤ s.length ∧ ∃ u, s = u ++ r := by
  cases s with
  | nil => cases h
  | cons b t =>
    simp only [pa] at h
    split at h
    · simp only [Option.some.injEq, Prod.mk.injEq] at h
      obtain ⟨rfl, rfl⟩ := h
      exact ⟨rfl, by simp [put]; omega, by simp, [b], rfl⟩
    · split at h
      · next l' z he =>
        split at h
        · next hk =>
          simp only [Option.some.injEq, Prod.mk.injEq] at h
          obtain ⟨rfl, rfl⟩ := h
          simp only [Bool.and_eq_true, Bool.not_eq_true'] at hk
          obtain ⟨h1, h2, h3, _⟩ := els_len _ _ (Nat.le_refl _) _ _ he
          refine ⟨hk.2, ?_, by omega, h3⟩
          unfold put
          rw [hk.1]
          exact h1
        · cases h
      · cases h
theorem pa_of {s : List UInt8} {l : List El} {r : List UInt8} (h : pa s = some (l, r)) : paL s = l ∧ paR s = r ∧ paE s = 0 := by
  unfold paL paR paE; rw [h]; exact ⟨rfl, rfl, rfl⟩
theorem pa_no {s : List UInt8} (h : pa s = none) : paL s = [] ∧ paR s = [] ∧ paE s = 100 := by
  unfold paL paR paE; rw [h]; exact ⟨rfl, rfl, rfl⟩
/-- The first value of a name in the first element of an id. -/
def gtP (l : List Pm) (n : List UInt8) : Option (List UInt8) := (l.find? fun p => p.n == n).map Pm.v
def gt (l : List El) (id n : List UInt8) : Option (List UInt8) := (l.find? fun x => x.id == id).bind fun x => gtP x.ps n
theorem gt_front {l : List El} {x : El} {id n : List UInt8} (h : x.id ≠ id) : gt (x :: l) id n = gt l id n := by
  unfold gt
  rw [List.find?_cons]
  rw [beq_eq_false_iff_ne.2 h]
theorem gt_one (l : List El) (id n v : List UInt8) : gt (⟨id, [⟨n, v⟩]⟩ :: l) id n = some v := by
  simp [gt, gtP]
end Q10
end Go.Proofs.YtonippapkmmkeaaDoor
