/- Words of a file of rules: as they are printed, and read again. Plain mathematics, of no program. -/
import Derived.Test.YtkobjbmjefkmgaaDoorLexP
namespace Go.Proofs.YtkobjbmjefkmgaaDoor
open K
set_option linter.unusedVariables false
set_option linter.unusedSimpArgs false
namespace L14
def hxd (n : Nat) : UInt8 := if n < 10 then UInt8.ofNat (48 + n) else UInt8.ofNat (87 + n)
/-- A byte, as it stands in quotes. -/
def qb (b : UInt8) : List UInt8 :=
  if b = 34 ∨ b = 92 then [92, b] else if b = 10 then [92, 110] else if b = 9 then [92, 116]
  else if b.toNat < 32 ∨ 127 ≤ b.toNat then [92, 120, hxd (b.toNat / 16), hxd (b.toNat % 16)] else [b]
def qbd : List UInt8 → List UInt8
  | [] => []
  | b :: t => qb b ++ qbd t
def quo (s : List UInt8) : List UInt8 := 34 :: (qbd s ++ [34])
theorem qb_len (b : UInt8) : 1 ≤ (qb b).length ∧ (qb b).length ≤ 4 := by unfold qb; (repeat' split) <;> simp
theorem qbd_len : ∀ s, s.length ≤ (qbd s).length ∧ (qbd s).length ≤ 4 * s.length
  | [] => by simp [qbd]
  | b :: t => by
    have := qbd_len t
    have := qb_len b
    simp only [qbd, List.length_append, List.length_cons]; omega
theorem qbd_app : ∀ a b, qbd (a ++ b) = qbd a ++ qbd b
  | [], b => rfl
  | x :: a, b => by simp [qbd, qbd_app a b]
theorem nib_hxd : ∀ n : Fin 16, nib (hxd n.val).toNat = some n.val := by decide
theorem nib_hx {n : Nat} (h : n < 16) : nib (hxd n).toNat = some n := nib_hxd ⟨n, h⟩
/-- In quotes a text is read as it is. -/
theorem txt_q : ∀ (s : List UInt8) (f : Nat) (r : List UInt8), (qbd s).length < f → txt f (qbd s ++ 34 :: r) = some (s, (qbd s).length + 1)
  | [], 0, _, h => by simp at h
  | [], f + 1, r, _ => by simp [qbd, txt]
  | b :: t, 0, _, h => by simp at h
  | b :: t, f + 1, r, h => by
    have hl := qb_len b
    simp only [qbd, List.length_append] at h ⊢
    have ih := fun g (hg : (qbd t).length < g) => txt_q t g r hg
    rw [List.append_assoc]
    by_cases h1 : b = 34 ∨ b = 92
    · have e : qb b = [92, b] := by unfold qb; rw [if_pos h1]
      rw [e] at hl h ⊢
      simp only [List.cons_append, List.nil_append, txt, List.length_cons, List.length_nil] at h ⊢
      rw [if_neg (by decide), if_neg (by decide), if_pos trivial]
      have he : esc (b :: (qbd t ++ 34 :: r)) = some (b, 1) := by simp only [esc, if_pos h1]
      rw [he]
      simp only [List.drop_succ_cons, List.drop_zero]
      rw [ih f (by omega)]
      simp; omega
    by_cases h2 : b = 10
    · subst h2
      have e : qb 10 = [92, 110] := rfl
      rw [e] at hl h ⊢
      simp only [List.cons_append, List.nil_append, txt, List.length_cons, List.length_nil] at h ⊢
      rw [if_neg (by decide), if_neg (by decide), if_pos trivial]
      have he : esc (110 :: (qbd t ++ 34 :: r)) = some (10, 1) := rfl
      rw [he]
      simp only [List.drop_succ_cons, List.drop_zero]
      rw [ih f (by omega)]
      simp; omega
    by_cases h3 : b = 9
    · subst h3
      have e : qb 9 = [92, 116] := rfl
      rw [e] at hl h ⊢
      simp only [List.cons_append, List.nil_append, txt, List.length_cons, List.length_nil] at h ⊢
      rw [if_neg (by decide), if_neg (by decide), if_pos trivial]
      have he : esc (116 :: (qbd t ++ 34 :: r)) = some (9, 1) := rfl
      rw [he]
      simp only [List.drop_succ_cons, List.drop_zero]
      rw [ih f (by omega)]
      simp; omega
    by_cases h4 : b.toNat < 32 ∨ 127 ≤ b.toNat
    · have hb := b.toNat_lt
      have e : qb b = [92, 120, hxd (b.toNat / 16), hxd (b.toNat % 16)] := by unfold qb; rw [if_neg h1, if_neg h2, if_neg h3, if_pos h4]
      rw [e] at hl h ⊢
      simp only [List.cons_append, List.nil_append, txt, List.length_cons, List.length_nil] at h ⊢
      rw [if_neg (by decide), if_neg (by decide), if_pos trivial]
      have he : esc (120 :: hxd (b.toNat / 16) :: hxd (b.toNat % 16) :: (qbd t ++ 34 :: r)) = some (b, 3) := by
        simp only [esc]
        rw [if_neg (by decide), if_neg (by decide), if_neg (by decide), if_pos trivial, nib_hx (by omega), nib_hx (by omega)]
        simp only
        rw [show b.toNat / 16 * 16 + b.toNat % 16 = b.toNat by omega]
        simp
      rw [he]
      simp only [List.drop_succ_cons, List.drop_zero]
      rw [ih f (by omega)]
      simp; omega
    · have e : qb b = [b] := by unfold qb; rw [if_neg h1, if_neg h2, if_neg h3, if_neg h4]
      have n1 : ¬ b = 34 := fun x => h1 (.inl x)
      have n2 : ¬ b = 92 := fun x => h1 (.inr x)
      rw [e] at hl h ⊢
      simp only [List.cons_append, List.nil_append, txt, List.length_cons, List.length_nil] at h ⊢
      rw [if_neg n1, if_neg (by omega), if_neg n2, ih f (by omega)]
      simp; omega
theorem text_q (s r : List UInt8) : text (qbd s ++ 34 :: r) = some (s, (qbd s).length + 1) := by
  unfold text
  exact txt_q s _ r (by rw [List.length_append]; omega)
/-! ### Tokens as they are printed -/
def isW (t : List UInt8) : Bool := (match t with | [] => false | c :: _ => ltN c.toNat) && run 1 t == t.length
def isF (t : List UInt8) : Bool := (match t with | [] => false | c :: _ => dgN c.toNat) && run 2 t == t.length
def isD (t : List UInt8) : Bool := !t.isEmpty && run 3 t == t.length
def isS (t : List UInt8) : Bool := match t with | [c] => sgN c.toNat | _ => false
/-- A token as it stands in a file; nothing: it is none. -/
def put (k : Nat) (t : List UInt8) : List UInt8 :=
  if k = 1 then (if isW t then t else []) else if k = 2 then (if isF t then t else []) else if k = 3 then (if isD t then 36 :: t else [])
  else if k = 4 then quo t else if k = 5 then (if isS t then t else []) else []
def isT (k : Nat) (t : List UInt8) : Bool := if k = 1 then isW t else if k = 2 then isF t else if k = 3 then isD t else if k = 4 then true else if k = 5 then isS t else false
theorem put_is (k : Nat) (t : List UInt8) : (put k t).isEmpty = !isT k t := by
  unfold put isT
  split
  · split
    · next h => rw [h]; unfold isW at h; cases t with
      | nil => cases h
      | cons c r => rfl
    · next h => rw [Bool.not_eq_true] at h; rw [h]; rfl
  · split
    · split
      · next h => rw [h]; unfold isF at h; cases t with
        | nil => cases h
        | cons c r => rfl
      · next h => rw [Bool.not_eq_true] at h; rw [h]; rfl
    · split
      · split
        · next h => rw [h]; rfl
        · next h => rw [Bool.not_eq_true] at h; rw [h]; rfl
      · split
        · rfl
        · split
          · split
            · next h => rw [h]; unfold isS at h; cases t with
              | nil => cases h
              | cons c r => rfl
            · next h => rw [Bool.not_eq_true] at h; rw [h]; rfl
          · rfl
theorem sg_not {n : Nat} (h : sgN n = true) : ltN n = false ∧ dgN n = false ∧ blN n = false ∧ n ≠ 35 ∧ n < 256 := by
  unfold sgN at h
  simp only [Bool.or_eq_true, beq_iff_eq] at h
  rcases h with ((((((h | h) | h) | h) | h) | h) | h) | h <;> subst h <;> decide
theorem lt_not {n : Nat} (h : ltN n = true) : sgN n = false ∧ blN n = false ∧ n ≠ 35 := by
  unfold ltN at h
  simp only [Bool.or_eq_true, Bool.and_eq_true, decide_eq_true_eq] at h
  refine ⟨?_, ?_, by omega⟩
  · unfold sgN; simp only [Bool.or_eq_false_iff, beq_eq_false_iff_ne]; omega
  · unfold blN; simp only [Bool.or_eq_false_iff, beq_eq_false_iff_ne]; omega
theorem dg_not {n : Nat} (h : dgN n = true) : sgN n = false ∧ ltN n = false ∧ blN n = false ∧ n ≠ 35 := by
  unfold dgN at h
  simp only [Bool.and_eq_true, decide_eq_true_eq] at h
  refine ⟨?_, ?_, ?_, by omega⟩
  · unfold sgN; simp only [Bool.or_eq_false_iff, beq_eq_false_iff_ne]; omega
  · unfold ltN; simp only [Bool.or_eq_false_iff, Bool.and_eq_false_iff, decide_eq_false_iff_not]; omega
  · unfold blN; simp only [Bool.or_eq_false_iff, beq_eq_false_iff_ne]; omega
/-- It begins with no blank, and no remark. -/
theorem put_head {k : Nat} {t : List UInt8} (h : isT k t = true) : ∃ c r, put k t = c :: r ∧ blN c.toNat = false ∧ (c == 35) = false := by
  have h35 : ∀ c : UInt8, c.toNat ≠ 35 → (c == 35) = false := fun c hc => by
    rw [beq_eq_false_iff_ne]; intro e; subst e; exact hc rfl
  unfold isT at h
  unfold put
  split at h
  · next e =>
    rw [if_pos e, if_pos h]
    unfold isW at h
    cases t with
    | nil => cases h
    | cons c r =>
      rw [Bool.and_eq_true] at h
      obtain ⟨_, h2, h3⟩ := lt_not h.1
      exact ⟨c, r, rfl, h2, h35 c h3⟩
  next e1 =>
  rw [if_neg e1]
  split at h
  · next e =>
    rw [if_pos e, if_pos h]
    unfold isF at h
    cases t with
    | nil => cases h
    | cons c r =>
      rw [Bool.and_eq_true] at h
      obtain ⟨_, _, h2, h3⟩ := dg_not h.1
      exact ⟨c, r, rfl, h2, h35 c h3⟩
  next e2 =>
  rw [if_neg e2]
  split at h
  · next e => rw [if_pos e, if_pos h]; exact ⟨36, t, rfl, rfl, rfl⟩
  next e3 =>
  rw [if_neg e3]
  split at h
  · next e => rw [if_pos e]; exact ⟨34, _, rfl, rfl, rfl⟩
  next e4 =>
  rw [if_neg e4]
  split at h
  · next e =>
    rw [if_pos e, if_pos h]
    unfold isS at h
    match t, h with
    | [c], h =>
      obtain ⟨_, _, h2, h3, _⟩ := sg_not h
      exact ⟨c, [], rfl, h2, h35 c h3⟩
  · cases h
/-- What is printed is the token at the beginning, if what stands behind does not go on with it. -/
theorem nxt_put {k : Nat} {t : List UInt8} (h : isT k t = true) (r : List UInt8) (hr : k = 4 ∨ k = 5 ∨ ∃ x q, r = x :: q ∧ goN k x.toNat = false) : nxt (put k t ++ r) = some ((k, t), (put k t).length) := by
  unfold isT at h
  unfold put
  split at h
  · next e =>
    subst e
    rw [if_pos rfl, if_pos h]
    rcases hr with hr | hr | ⟨x, q, rfl, hx⟩
    · omega
    · omega
    unfold isW at h
    cases t with
    | nil => cases h
    | cons c t =>
      rw [Bool.and_eq_true, beq_iff_eq] at h
      obtain ⟨h0, h1⟩ := h
      obtain ⟨s1, _, _⟩ := lt_not h0
      have hw := run_whole h1 x q hx
      simp only [List.cons_append, nxt] at hw ⊢
      rw [if_neg (by rw [s1]; decide), if_pos h0, hw]
      rw [show (c :: (t ++ x :: q)) = (c :: t) ++ x :: q from rfl, List.take_left]
  next e1 =>
  rw [if_neg e1]
  split at h
  · next e =>
    subst e
    rw [if_pos rfl, if_pos h]
    rcases hr with hr | hr | ⟨x, q, rfl, hx⟩
    · omega
    · omega
    unfold isF at h
    cases t with
    | nil => cases h
    | cons c t =>
      rw [Bool.and_eq_true, beq_iff_eq] at h
      obtain ⟨h0, h1⟩ := h
      obtain ⟨s1, s2, _, _⟩ := dg_not h0
      have hw := run_whole h1 x q hx
      simp only [List.cons_append, nxt] at hw ⊢
      rw [if_neg (by rw [s1]; decide), if_neg (by rw [s2]; decide), if_pos h0, hw]
      rw [show (c :: (t ++ x :: q)) = (c :: t) ++ x :: q from rfl, List.take_left]
  next e2 =>
  rw [if_neg e2]
  split at h
  · next e =>
    subst e
    rw [if_pos rfl, if_pos h]
    rcases hr with hr | hr | ⟨x, q, rfl, hx⟩
    · omega
    · omega
    unfold isD at h
    rw [Bool.and_eq_true, beq_iff_eq] at h
    obtain ⟨h0, h1⟩ := h
    have hw := run_whole h1 x q hx
    have hpos : t.length ≠ 0 := by
      intro e
      have : t = [] := List.length_eq_zero_iff.1 e
      subst this; cases h0
    simp only [List.cons_append, nxt]
    rw [if_neg (by decide), if_neg (by decide), if_neg (by decide), if_pos trivial, hw, if_neg hpos, List.take_left]
    rfl
  next e3 =>
  rw [if_neg e3]
  split at h
  · next e =>
    subst e
    rw [if_pos rfl]
    unfold quo
    simp only [List.cons_append, List.append_assoc, List.nil_append, nxt]
    rw [if_neg (by decide), if_neg (by decide), if_neg (by decide), if_neg (by decide), if_pos trivial, text_q]
    simp
  next e4 =>
  rw [if_neg e4]
  split at h
  · next e =>
    subst e
    rw [if_pos rfl, if_pos h]
    unfold isS at h
    match t, h with
    | [c], h =>
      simp only [List.cons_append, List.nil_append, nxt]
      rw [if_pos h]
      rfl
  · cases h
/-- What stands at the beginning is a token. -/
theorem nxt_is {s : List UInt8} {k : Nat} {t : List UInt8} {n : Nat} (h : nxt s = some ((k, t), n)) : isT k t = true := by
  cases s with
  | nil => cases h
  | cons c r =>
    simp only [nxt] at h
    split at h
    · next h1 =>
      injection h with h; injection h with h _; injection h with h2 h3; subst h2 h3
      exact h1
    · split at h
      · next h1 =>
        injection h with h; injection h with h _; injection h with h2 h3; subst h2 h3
        show isW _ = true
        unfold isW
        rw [run_take, Bool.and_eq_true, beq_iff_eq, List.length_take, Nat.min_eq_left (run_le _ _)]
        rw [run_pos (lt_go h1), List.take_succ_cons]
        exact ⟨h1, rfl⟩
      · split at h
        · next h1 =>
          injection h with h; injection h with h _; injection h with h2 h3; subst h2 h3
          show isF _ = true
          unfold isF
          rw [run_take, Bool.and_eq_true, beq_iff_eq, List.length_take, Nat.min_eq_left (run_le _ _)]
          rw [run_pos (dg_go h1), List.take_succ_cons]
          exact ⟨h1, rfl⟩
        · split at h
          · split at h
            · cases h
            · next h1 =>
              injection h with h; injection h with h _; injection h with h2 h3; subst h2 h3
              show isD _ = true
              unfold isD
              rw [run_take, Bool.and_eq_true, beq_iff_eq, List.length_take, Nat.min_eq_left (run_le _ _)]
              refine ⟨?_, rfl⟩
              have hp : 0 < (r.take (run 3 r)).length := by rw [List.length_take, Nat.min_eq_left (run_le _ _)]; omega
              cases hx : r.take (run 3 r) with
              | nil => rw [hx] at hp; simp at hp
              | cons a b => rfl
          · split at h
            · obtain ⟨y, hy, h⟩ := Option.map_eq_some_iff.1 h
              injection h with h _; injection h with h2 h3; subst h2 h3
              rfl
            · cases h
end L14
end Go.Proofs.YtkobjbmjefkmgaaDoor
