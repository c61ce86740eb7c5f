/- Texts on the program and on the document, joined: LexQ, LexD, LexE, LexR. -/
import Derived.Test.YtaeglmgpoboihaaGreatDoorMa01
import Derived.Test.YtaeglmgpoboihaaGreatDoorMa03
/- Words of a file of rules: as they are printed, and read again. Plain mathematics, of no program. -/
namespace Go.Proofs.YtaeglmgpoboihaaGreatDoor
open K
set_option linter.unusedVariables false
set_option linter.unusedSimpArgs false
namespace L14
def hxd (n : Nat) : UInt8 := if n < 10 then UInt8.ofNat (48 + n) else UInt8.ofNat (87 + n)
/-- A byte, as it stands in quotes. -/
def qb (b : UInt8) : List UInt8 :=
  if b = 34 ∨ b = 92 then [92, b] else if b = 10 then [92, 110] else if b = 9 then [92, 116]
  else if b.toNat < 32 ∨ 127 ≤ b.toNat then [92, 120, hxd (b.toNat / 16), hxd (b.toNat % 16)] else [b]
def qbd : List UInt8 → List UInt8
  | [] => []
  | b :: t => qb b ++ qbd t
def quo (s : List UInt8) : List UInt8 := 34 :: (qbd s ++ [34])
theorem qb_len (b : UInt8) : 1 ≤ (qb b).length ∧ (qb b).length ≤ 4 := by unfold qb; (repeat' split) <;> simp
theorem qbd_len : ∀ s, s.length ≤ (qbd s).length ∧ (qbd s).length ≤ 4 * s.length
  | [] => by simp [qbd]
  | b :: t => by
    have := qbd_len t
    have := qb_len b
    simp only [qbd, List.length_append, List.length_cons]; omega
theorem qbd_app : ∀ a b, qbd (a ++ b) = qbd a ++ qbd b
  | [], b => rfl
  | x :: a, b => by simp [qbd, qbd_app a b]
theorem nib_hxd : ∀ n : Fin 16, nib (hxd n.val).toNat = some n.val := by decide
theorem nib_hx {n : Nat} (h : n < 16) : nib (hxd n).toNat = some n := nib_hxd ⟨n, h⟩
/-- In quotes a text is read as it is. -/
theorem txt_q : ∀ (s : List UInt8) (f : Nat) (r : List UInt8), (qbd s).length < f → txt f (qbd s ++ 34 :: r) = some (s, (qbd s).length + 1)
  | [], 0, _, h => by simp at h
  | [], f + 1, r, _ => by simp [qbd, txt]
  | b :: t, 0, _, h => by simp at h
  | b :: t, f + 1, r, h => by
    have hl := qb_len b
    simp only [qbd, List.length_append] at h ⊢
    have ih := fun g (hg : (qbd t).length < g) => txt_q t g r hg
    rw [List.append_assoc]
    by_cases h1 : b = 34 ∨ b = 92
    · have e : qb b = [92, b] := by unfold qb; rw [if_pos h1]
      rw [e] at hl h ⊢
      simp only [List.cons_append, List.nil_append, txt, List.length_cons, List.length_nil] at h ⊢
      rw [if_neg (by decide), if_neg (by decide), if_pos trivial]
      have he : esc (b :: (qbd t ++ 34 :: r)) = some (b, 1) := by simp only [esc, if_pos h1]
      rw [he]
      simp only [List.drop_succ_cons, List.drop_zero]
      rw [ih f (by omega)]
      simp; omega
    by_cases h2 : b = 10
    · subst h2
      have e : qb 10 = [92, 110] := rfl
      rw [e] at hl h ⊢
      simp only [List.cons_append, List.nil_append, txt, List.length_cons, List.length_nil] at h ⊢
      rw [if_neg (by decide), if_neg (by decide), if_pos trivial]
      have he : esc (110 :: (qbd t ++ 34 :: r)) = some (10, 1) := rfl
      rw [he]
      simp only [List.drop_succ_cons, List.drop_zero]
      rw [ih f (by omega)]
      simp; omega
    by_cases h3 : b = 9
    · subst h3
      have e : qb 9 = [92, 116] := rfl
      rw [e] at hl h ⊢
      simp only [List.cons_append, List.nil_append, txt, List.length_cons, List.length_nil] at h ⊢
      rw [if_neg (by decide), if_neg (by decide), if_pos trivial]
      have he : esc (116 :: (qbd t ++ 34 :: r)) = some (9, 1) := rfl
      rw [he]
      simp only [List.drop_succ_cons, List.drop_zero]
      rw [ih f (by omega)]
      simp; omega
    by_cases h4 : b.toNat < 32 ∨ 127 ≤ b.toNat
    · have hb := b.toNat_lt
      have e : qb b = [92, 120, hxd (b.toNat / 16), hxd (b.toNat % 16)] := by unfold qb; rw [if_neg h1, if_neg h2, if_neg h3, if_pos h4]
      rw [e] at hl h ⊢
      simp only [List.cons_append, List.nil_append, txt, List.length_cons, List.length_nil] at h ⊢
      rw [if_neg (by decide), if_neg (by decide), if_pos trivial]
      have he : esc (120 :: hxd (b.toNat / 16) :: hxd (b.toNat % 16) :: (qbd t ++ 34 :: r)) = some (b, 3) := by
        simp only [esc]
        rw [if_neg (by decide), if_neg (by decide), if_neg (by decide), if_pos trivial, nib_hx (by omega), nib_hx (by omega)]
        simp only
        rw [show b.toNat / 16 * 16 + b.toNat % 16 = b.toNat by omega]
        simp
      rw [he]
      simp only [List.drop_succ_cons, List.drop_zero]
      rw [ih f (by omega)]
      simp; omega
    · have e : qb b = [b] := by unfold qb; rw [if_neg h1, if_neg h2, if_neg h3, if_neg h4]
      have n1 : ¬ b = 34 := fun x => h1 (.inl x)
      have n2 : ¬ b = 92 := fun x => h1 (.inr x)
      rw [e] at hl h ⊢
      simp only [List.cons_append, List.nil_append, txt, List.length_cons, List.length_nil] at h ⊢
      rw [if_neg n1, if_neg (by omega), if_neg n2, ih f (by omega)]
      simp; omega
theorem text_q (s r : List UInt8) : text (qbd s ++ 34 :: r) = some (s, (qbd s).length + 1) := by
  unfold text
  exact txt_q s _ r (by rw [List.length_append]; omega)
/-! ### Tokens as they are printed -/
def isW (t : List UInt8) : Bool := (match t with | [] => false | c :: _ => ltN c.toNat) && run 1 t == t.length
def isF (t : List UInt8) : Bool := (match t with | [] => false | c :: _ => dgN c.toNat) && run 2 t == t.length
def isD (t : List UInt8) : Bool := !t.isEmpty && run 3 t == t.length
def isS (t : List UInt8) : Bool := match t with | [c] => sgN c.toNat | _ => false
/-- A token as it stands in a file; nothing: it is none. -/
def put (k : Nat) (t : List UInt8) : List UInt8 :=
  if k = 1 then (if isW t then t else []) else if k = 2 then (if isF t then t else []) else if k = 3 then (if isD t then 36 :: t else [])
  else if k = 4 then quo t else if k = 5 then (if isS t then t else []) else []
def isT (k : Nat) (t : List UInt8) : Bool := if k = 1 then isW t else if k = 2 then isF t else if k = 3 then isD t else if k = 4 then true else if k = 5 then isS t else false
theorem put_is (k : Nat) (t : List UInt8) : (put k t).isEmpty = !isT k t := by
  unfold put isT
  split
  · split
    · next h => rw [h]; unfold isW at h; cases t with
      | nil => cases h
      | cons c r => rfl
    · next h => rw [Bool.not_eq_true] at h; rw [h]; rfl
  · split
    · split
      · next h => rw [h]; unfold isF at h; cases t with
        | nil => cases h
        | cons c r => rfl
      · next h => rw [Bool.not_eq_true] at h; rw [h]; rfl
    · split
      · split
        · next h => rw [h]; rfl
        · next h => rw [Bool.not_eq_true] at h; rw [h]; rfl
      · split
        · rfl
        · split
          · split
            · next h => rw [h]; unfold isS at h; cases t with
              | nil => cases h
              | cons c r => rfl
            · next h => rw [Bool.not_eq_true] at h; rw [h]; rfl
          · rfl
theorem sg_not {n : Nat} (h : sgN n = true) : ltN n = false ∧ dgN n = false ∧ blN n = false ∧ n ≠ 35 ∧ n < 256 := by
  unfold sgN at h
  simp only [Bool.or_eq_true, beq_iff_eq] at h
  rcases h with ((((((h | h) | h) | h) | h) | h) | h) | h <;> subst h <;> decide
theorem lt_not {n : Nat} (h : ltN n = true) : sgN n = false ∧ blN n = false ∧ n ≠ 35 := by
  unfold ltN at h
  simp only [Bool.or_eq_true, Bool.and_eq_true, decide_eq_true_eq] at h
  refine ⟨?_, ?_, by omega⟩
  · unfold sgN; simp only [Bool.or_eq_false_iff, beq_eq_false_iff_ne]; omega
  · unfold blN; simp only [Bool.or_eq_false_iff, beq_eq_false_iff_ne]; omega
theorem dg_not {n : Nat} (h : dgN n = true) : sgN n = false ∧ ltN n = false ∧ blN n = false ∧ n ≠ 35 := by
  unfold dgN at h
  simp only [Bool.and_eq_true, decide_eq_true_eq] at h
  refine ⟨?_, ?_, ?_, by omega⟩
  · unfold sgN; simp only [Bool.or_eq_false_iff, beq_eq_false_iff_ne]; omega
  · unfold ltN; simp only [Bool.or_eq_false_iff, Bool.and_eq_false_iff, decide_eq_false_iff_not]; omega
  · unfold blN; simp only [Bool.or_eq_false_iff, beq_eq_false_iff_ne]; omega
/-- It begins with no blank, and no remark. -/
theorem put_head {k : Nat} {t : List UInt8} (h : isT k t = true) : ∃ c r, put k t = c :: r ∧ blN c.toNat = false ∧ (c == 35) = false := by
  have h35 : ∀ c : UInt8, c.toNat ≠ 35 → (c == 35) = false := fun c hc => by
    rw [beq_eq_false_iff_ne]; intro e; subst e; exact hc rfl
  unfold isT at h
  unfold put
  split at h
  · next e =>
    rw [if_pos e, if_pos h]
    unfold isW at h
    cases t with
    | nil => cases h
    | cons c r =>
      rw [Bool.and_eq_true] at h
      obtain ⟨_, h2, h3⟩ := lt_not h.1
      exact ⟨c, r, rfl, h2, h35 c h3⟩
  next e1 =>
  rw [if_neg e1]
  split at h
  · next e =>
    rw [if_pos e, if_pos h]
    unfold isF at h
    cases t with
    | nil => cases h
    | cons c r =>
      rw [Bool.and_eq_true] at h
      obtain ⟨_, _, h2, h3⟩ := dg_not h.1
      exact ⟨c, r, rfl, h2, h35 c h3⟩
  next e2 =>
  rw [if_neg e2]
  split at h
  · next e => rw [if_pos e, if_pos h]; exact ⟨36, t, rfl, rfl, rfl⟩
  next e3 =>
  rw [if_neg e3]
  split at h
  · next e => rw [if_pos e]; exact ⟨34, _, rfl, rfl, rfl⟩
  next e4 =>
  rw [if_neg e4]
  split at h
  · next e =>
    rw [if_pos e, if_pos h]
    unfold isS at h
    match t, h with
    | [c], h =>
      obtain ⟨_, _, h2, h3, _⟩ := sg_not h
      exact ⟨c, [], rfl, h2, h35 c h3⟩
  · cases h
/-- What is printed is the token at the beginning, if what stands behind does not go on with it. -/
theorem nxt_put {k : Nat} {t : List UInt8} (h : isT k t = true) (r : List UInt8) (hr : k = 4 ∨ k = 5 ∨ ∃ x q, r = x :: q ∧ goN k x.toNat = false) : nxt (put k t ++ r) = some ((k, t), (put k t).length) := by
  unfold isT at h
  unfold put
  split at h
  · next e =>
    subst e
    rw [if_pos rfl, if_pos h]
    rcases hr with hr | hr | ⟨x, q, rfl, hx⟩
    · omega
    · omega
    unfold isW at h
    cases t with
    | nil => cases h
    | cons c t =>
      rw [Bool.and_eq_true, beq_iff_eq] at h
      obtain ⟨h0, h1⟩ := h
      obtain ⟨s1, _, _⟩ := lt_not h0
      have hw := run_whole h1 x q hx
      simp only [List.cons_append, nxt] at hw ⊢
      rw [if_neg (by rw [s1]; decide), if_pos h0, hw]
      rw [show (c :: (t ++ x :: q)) = (c :: t) ++ x :: q from rfl, List.take_left]
  next e1 =>
  rw [if_neg e1]
  split at h
  · next e =>
    subst e
    rw [if_pos rfl, if_pos h]
    rcases hr with hr | hr | ⟨x, q, rfl, hx⟩
    · omega
    · omega
    unfold isF at h
    cases t with
    | nil => cases h
    | cons c t =>
      rw [Bool.and_eq_true, beq_iff_eq] at h
      obtain ⟨h0, h1⟩ := h
      obtain ⟨s1, s2, _, _⟩ := dg_not h0
      have hw := run_whole h1 x q hx
      simp only [List.cons_append, nxt] at hw ⊢
      rw [if_neg (by rw [s1]; decide), if_neg (by rw [s2]; decide), if_pos h0, hw]
      rw [show (c :: (t ++ x :: q)) = (c :: t) ++ x :: q from rfl, List.take_left]
  next e2 =>
  rw [if_neg e2]
  split at h
  · next e =>
    subst e
    rw [if_pos rfl, if_pos h]
    rcases hr with hr | hr | ⟨x, q, rfl, hx⟩
    · omega
    · omega
    unfold isD at h
    rw [Bool.and_eq_true, beq_iff_eq] at h
    obtain ⟨h0, h1⟩ := h
    have hw := run_whole h1 x q hx
    have hpos : t.length ≠ 0 := by
      intro e
      have : t = [] := List.length_eq_zero_iff.1 e
      subst this; cases h0
    simp only [List.cons_append, nxt]
    rw [if_neg (by decide), if_neg (by decide), if_neg (by decide), if_pos trivial, hw, if_neg hpos, List.take_left]
    rfl
  next e3 =>
  rw [if_neg e3]
  split at h
  · next e =>
    subst e
    rw [if_pos rfl]
    unfold quo
    simp only [List.cons_append, List.append_assoc, List.nil_append, nxt]
    rw [if_neg (by decide), if_neg (by decide), if_neg (by decide), if_neg (by decide), if_pos trivial, text_q]
    simp
  next e4 =>
  rw [if_neg e4]
  split at h
  · next e =>
    subst e
    rw [if_pos rfl, if_pos h]
    unfold isS at h
    match t, h with
    | [c], h =>
      simp only [List.cons_append, List.nil_append, nxt]
      rw [if_pos h]
      rfl
  · cases h
/-- What stands at the beginning is a token. -/
theorem nxt_is {s : List UInt8} {k : Nat} {t : List UInt8} {n : Nat} (h : nxt s = some ((k, t), n)) : isT k t = true := by
  cases s with
  | nil => cases h
  | cons c r =>
    simp only [nxt] at h
    split at h
    · next h1 =>
      injection h with h; injection h with h _; injection h with h2 h3; subst h2 h3
      exact h1
    · split at h
      · next h1 =>
        injection h with h; injection h with h _; injection h with h2 h3; subst h2 h3
        show isW _ = true
        unfold isW
        rw [run_take, Bool.and_eq_true, beq_iff_eq, List.length_take, Nat.min_eq_left (run_le _ _)]
        rw [run_pos (lt_go h1), List.take_succ_cons]
        exact ⟨h1, rfl⟩
      · split at h
        · next h1 =>
          injection h with h; injection h with h _; injection h with h2 h3; subst h2 h3
          show isF _ = true
          unfold isF
          rw [run_take, Bool.and_eq_true, beq_iff_eq, List.length_take, Nat.min_eq_left (run_le _ _)]
          rw [run_pos (dg_go h1), List.take_succ_cons]
          exact ⟨h1, rfl⟩
        · split at h
          · split at h
            · cases h
            · next h1 =>
              injection h with h; injection h with h _; injection h with h2 h3; subst h2 h3
              show isD _ = true
              unfold isD
              rw [run_take, Bool.and_eq_true, beq_iff_eq, List.length_take, Nat.min_eq_left (run_le _ _)]
              refine ⟨?_, rfl⟩
              have hp : 0 < (r.take (run 3 r)).length := by rw [List.length_take, Nat.min_eq_left (run_le _ _)]; omega
              cases hx : r.take (run 3 r) with
              | nil => rw [hx] at hp; simp at hp
              | cons a b => rfl
          · split at h
            · obtain ⟨y, hy, h⟩ := Option.map_eq_some_iff.1 h
              injection h with h _; injection h with h2 h3; subst h2 h3
              rfl
            · cases h
end L14
end Go.Proofs.YtaeglmgpoboihaaGreatDoor
/- The document's next, walked. -/
namespace Go.Proofs.YtaeglmgpoboihaaGreatDoor
open Go.ChangeShapes Go.WideShapes Go.ChangeAt Go.RowKit K L14
set_option linter.unusedVariables false

theorem results_cell_row2x {P : Program} {fn : Func} {p u : Tmp} {ty : TypeId} (h : fn.results = #[.cell p ty, .tmp u]) (tmps : Array Value) (w : World) (g : Nat) (t : TypeId) (cs : Array Value) (fr : Nat × Nat) (d : TypeDesc)
    (hp : tmps.getD p undef = .pointer (some ⟨g, 0, none⟩)) (hg : w.heap[g]? = some (.cells cs t fr))
    (hu : P.underlying ty = some d) (hd : (match d with | .struct _ | .array _ _ => true | _ => false) = true) (hi : (P.info? ty).map (·.size) = some cs.size) :
    (results fn tmps).run P w = .ok (.tuple #[.agg cs, tmps.getD u undef]) w := by
  have hp' : tmps[p]?.getD undef = .pointer (some ⟨g, 0, none⟩) := by simpa using hp
  simp [results, h, hp', asAddr, run_loadVar_row w g t ty cs fr d hg hu hd hi]
/-- What next answers. -/
def nxK (s : List UInt8) : Nat := match nxt s with | some ((k, _), _) => k | none => 0
def nxT (s : List UInt8) : List UInt8 := match nxt s with | some ((_, t), _) => t | none => []
def nxN (s : List UInt8) : Nat := match nxt s with | some (_, n) => n | none => 0
theorem nx_some {s : List UInt8} {k : Nat} {t : List UInt8} {n : Nat} (h : nxt s = some ((k, t), n)) : nxK s = k ∧ nxT s = t ∧ nxN s = n := by
  unfold nxK nxT nxN; rw [h]; exact ⟨rfl, rfl, rfl⟩
theorem nx_none {s : List UInt8} (h : nxt s = none) : nxK s = 0 ∧ nxT s = [] ∧ nxN s = 0 := by
  unfold nxK nxT nxN; rw [h]; exact ⟨rfl, rfl, rfl⟩
/-- A token's three cells. -/
def Tr3 (k : Nat) (t : ByteArray) : Array Value := #[.int .i64 (k : Nat), .string t, .int .i64 0]
theorem three_sets {w : World} {q : Nat} {T : TypeId} {a b c : Value} (h : w.heap[q]? = some (.cells #[a, b, c] T (0, 0))) (x y z : Value) : (((w.setCell ⟨q, 0, none⟩ x).setCell ⟨q, 1, none⟩ y).setCell ⟨q, 2, none⟩ z).heap[q]? = some (.cells #[x, y, z] T (0, 0)) :=
  rowSet (rowSet (rowSet h 0 x) 1 y) 2 z
theorem below3 {B q : Nat} {y w : World} (h : Below B y w) (hq : B ≤ q) (a b c : Value) : Below B y (((w.setCell ⟨q, 0, none⟩ a).setCell ⟨q, 1, none⟩ b).setCell ⟨q, 2, none⟩ c) :=
  ((h.setCell (p := ⟨q, 0, none⟩) hq a).setCell (p := ⟨q, 1, none⟩) hq b).setCell (p := ⟨q, 2, none⟩) hq c
theorem cut1_run (l : List UInt8) (n : Nat) (h : 1 + n ≤ l.length) : ∀ w, (Instr.slice 9 (.string (bs l)) (some (.int .i64 1)) (some (.int .i64 (1 + (n : Int)))) none).run Tryz.prog w = .ok (.string (bs ((l.drop 1).take n))) w := by
  intro w
  rw [run_slice_string w 9 _ .i64 .i64 _ _ Tryz.underlying9 (by omega) (by omega) (by rw [bs_size]; omega)]
  rw [show ((1 : Int)).toNat = 1 by rfl, show ((1 : Int) + (n : Int)).toNat = 1 + n by omega, bs_extract, Nat.add_sub_cancel_left]
def NxPost (s : List UInt8) (w : World) (e : Ending) (w' : World) : Prop := e = .returned (.tuple #[.agg #[.int .i64 (nxK s : Nat), .string (bs (nxT s)), .int .i64 0], .int .i64 (nxN s : Nat)]) ∧ Below w.heap.size w w'
end Go.Proofs.YtaeglmgpoboihaaGreatDoor
/- The document's skip, walked. gen_lexe.py writes it. -/
namespace Go.Proofs.YtaeglmgpoboihaaGreatDoor
open Go.ChangeShapes Go.WideShapes Go.ChangeAt Go.RowKit K L14
set_option linter.unusedVariables false

def SkRel (s : List UInt8) (w : World) (g : Nat) (v3 v4 : Value) (wx : World) : Prop :=
  wx = w ∧ ∃ i r, i ≤ s.length ∧ s.length - i ≤ g ∧ v3 = .int .i64 (i : Nat) ∧ v4 = .bool r ∧ skp false s = i + skp r (s.drop i)
theorem skp_go (r r2 : Bool) (c : UInt8) (t : List UInt8) (h : (r || c == 35 || blN c.toNat) = true) (h2 : (if c = 10 then false else if c = 35 then true else r) = r2) : skp r (c :: t) = skp r2 t + 1 := by
  simp only [skp, h, if_true, h2]
theorem skp_no (r : Bool) (c : UInt8) (t : List UInt8) (h : (r || c == 35 || blN c.toNat) = false) : skp r (c :: t) = 0 := by
  simp only [skp, h, Bool.false_eq_true, if_false]
end Go.Proofs.YtaeglmgpoboihaaGreatDoor
/- Words of a file of rules: files that are printed, and read again; blanks. Plain mathematics, of no program. -/
namespace Go.Proofs.YtaeglmgpoboihaaGreatDoor
open K
set_option linter.unusedVariables false
set_option linter.unusedSimpArgs false
namespace L14
/-- Blanks and remarks that are whole: what stands behind begins anew. -/
def Clo (b : List UInt8) : Prop := ∀ y, skp false (b ++ y) = b.length + skp false y
theorem clo_nil : Clo [] := fun y => by simp
theorem Clo.app {a b : List UInt8} (h : Clo a) (k : Clo b) : Clo (a ++ b) := fun y => by rw [List.append_assoc, h, k, List.length_append]; omega
theorem clo_bl {c : UInt8} (h : blN c.toNat = true) (hc : (c == 35) = false) : Clo [c] := fun y => by
  have h35 : ¬ c = 35 := by simpa using hc
  simp only [List.cons_append, List.nil_append, skp, h, Bool.or_true, if_true, if_neg h35]
  rw [show (if c = 10 then false else false) = false by split <;> rfl]
  simp; omega
theorem skp_stop {c : UInt8} {r : List UInt8} (h : blN c.toNat = false) (hc : (c == 35) = false) : skp false (c :: r) = 0 := by
  simp only [skp, h, hc, Bool.or_false, Bool.false_eq_true, if_false]
theorem clo_rst {b y : List UInt8} (h : Clo b) : rst (b ++ y) = rst y := by
  unfold rst
  rw [h, List.drop_append]
  simp
theorem clo_lin {b y : List UInt8} (h : Clo b) (ln : Nat) : lin ln (b ++ y) = lin (ln + nls b) y := by
  unfold lin
  rw [h, List.take_append, nls_app]
  rw [List.take_of_length_le (by omega)]
  simp; omega
/-- Tokens, but for their lines. -/
def bare (l : List Tk) : List (Nat × List UInt8) := l.map fun x => (x.k, x.t)
/-- A token behind blanks. -/
theorem split_tok {b : List UInt8} (hb : Clo b) {k : Nat} {t : List UInt8} (h : isT k t = true) (r : List UInt8) (hr : k = 4 ∨ k = 5 ∨ ∃ x q, r = x :: q ∧ goN k x.toNat = false) (m ln : Nat) :
    split (m + 1) ln (b ++ (put k t ++ r)) = (match split m (ln + nls b) r with | .error e => .error e | .ok l => .ok (⟨k, t, ln + nls b⟩ :: l)) := by
  obtain ⟨c, q, hc, h1, h2⟩ := put_head h
  have e1 : rst (b ++ (put k t ++ r)) = put k t ++ r := by
    rw [clo_rst hb, hc]
    unfold rst
    rw [List.cons_append, skp_stop h1 h2]; rfl
  have e2 : lin ln (b ++ (put k t ++ r)) = ln + nls b := by
    rw [clo_lin hb, hc]
    unfold lin
    rw [List.cons_append, skp_stop h1 h2]; rfl
  have hx := nxt_put h r hr
  rw [split_go (by rw [e1, hc]; simp) (by rw [e1]; exact hx), e1, e2, List.drop_left]
  cases split m (ln + nls b) r <;> rfl
theorem split_blank {b : List UInt8} (hb : Clo b) (m ln : Nat) : split m ln b = .ok [] := by
  refine split_end ?_
  have := clo_rst (y := []) hb
  rw [List.append_nil] at this
  rw [this]; rfl
/-- Blanks ahead of a text. -/
theorem split_ahead {b : List UInt8} (hb : Clo b) (m ln : Nat) (y : List UInt8) : split m ln (b ++ y) = split m (ln + nls b) y := by
  by_cases h : rst y = []
  · rw [split_end h, split_end (by rw [clo_rst hb]; exact h)]
  · cases hx : nxt (rst y) with
    | none => rw [split_no h hx, split_no (by rw [clo_rst hb]; exact h) (by rw [clo_rst hb]; exact hx), clo_lin hb]
    | some z =>
      obtain ⟨⟨k, t⟩, n⟩ := z
      cases m with
      | zero => rw [split_full h hx, split_full (by rw [clo_rst hb]; exact h) (by rw [clo_rst hb]; exact hx), clo_lin hb]
      | succ m => rw [split_go h hx, split_go (by rw [clo_rst hb]; exact h) (by rw [clo_rst hb]; exact hx), clo_lin hb, clo_rst hb]
/-! ### There and back -/
def bhd (k : Nat) (t : List UInt8) : List UInt8 := if k = 5 ∧ (t = [59] ∨ t = [123] ∨ t = [125]) then [10] else [32]
theorem bhd_two (k : Nat) (t : List UInt8) : bhd k t = [10] ∨ bhd k t = [32] := by unfold bhd; split <;> simp
theorem bhd_clo (k : Nat) (t : List UInt8) : Clo (bhd k t) := by
  rcases bhd_two k t with h | h <;> rw [h]
  · exact clo_bl (by decide) (by decide)
  · exact clo_bl (by decide) (by decide)
theorem bhd_go (k : Nat) (t : List UInt8) (r : List UInt8) : ∃ x q, bhd k t ++ r = x :: q ∧ goN k x.toNat = false := by
  have h0 : ∀ n, n = 10 ∨ n = 32 → goN k n = false := by
    intro n hn
    unfold goN
    rcases hn with rfl | rfl
    · rw [show ltN 10 = false by decide, show dgN 10 = false by decide]
      simp only [Bool.false_or]
      split
      · decide
      · split <;> decide
    · rw [show ltN 32 = false by decide, show dgN 32 = false by decide]
      simp only [Bool.false_or]
      split
      · decide
      · split <;> decide
  rcases bhd_two k t with h | h <;> rw [h]
  · exact ⟨10, r, rfl, h0 10 (.inl rfl)⟩
  · exact ⟨32, r, rfl, h0 32 (.inr rfl)⟩
/-- Tokens as a file. -/
def file : List (Nat × List UInt8) → List UInt8
  | [] => []
  | x :: l => put x.1 x.2 ++ (bhd x.1 x.2 ++ file l)
theorem file_app : ∀ a b, file (a ++ b) = file a ++ file b
  | [], b => rfl
  | x :: a, b => by simp [file, file_app a b]
def allT (l : List (Nat × List UInt8)) : Bool := l.all fun x => isT x.1 x.2
/-- What is printed is split as it was. -/
theorem split_file : ∀ (l : List (Nat × List UInt8)) (b : List UInt8) (m ln : Nat), Clo b → allT l = true → l.length ≤ m → ∃ k, split m ln (b ++ file l) = .ok k ∧ bare k = l
  | [], b, m, ln, hb, _, _ => ⟨[], by simp only [file, List.append_nil]; exact split_blank hb m ln, rfl⟩
  | (k, t) :: l, b, 0, ln, _, _, hm => by simp at hm
  | (k, t) :: l, b, m + 1, ln, hb, ha, hm => by
    simp only [allT, List.all_cons, Bool.and_eq_true] at ha
    simp only [List.length_cons] at hm
    obtain ⟨r, hr, he⟩ := split_file l (bhd k t) m (ln + nls b) (bhd_clo k t) ha.2 (by omega)
    refine ⟨⟨k, t, ln + nls b⟩ :: r, ?_, by simp [bare] at he ⊢; exact he⟩
    have := split_tok hb (k := k) (t := t) ha.1 (bhd k t ++ file l) (.inr (.inr (bhd_go k t (file l)))) m ln
    rw [hr] at this
    exact this
/-- What is split are tokens, so many at most. -/
theorem split_is : ∀ (n m ln : Nat) (s : List UInt8) (k : List Tk), s.length ≤ n → split m ln s = .ok k → allT (bare k) = true ∧ k.length ≤ m := by
  intro n
  induction n with
  | zero =>
    intro m ln s k hs h
    have : s = [] := List.length_eq_zero_iff.1 (by omega)
    subst this
    rw [split_end (by rfl)] at h
    injection h with h; subst h
    exact ⟨rfl, by simp⟩
  | succ n ih =>
    intro m ln s k hs h
    by_cases hr : rst s = []
    · rw [split_end hr] at h
      injection h with h; subst h
      exact ⟨rfl, by simp⟩
    · cases hx : nxt (rst s) with
      | none => rw [split_no hr hx] at h; cases h
      | some z =>
        obtain ⟨⟨kk, t⟩, j⟩ := z
        cases m with
        | zero => rw [split_full hr hx] at h; cases h
        | succ m =>
          rw [split_go hr hx] at h
          have hn := nxt_n hx
          have hl := rst_len s
          cases hs2 : split m (lin ln s) ((rst s).drop j) with
          | error e => rw [hs2] at h; cases h
          | ok q =>
            rw [hs2] at h
            injection h with h; subst h
            obtain ⟨h1, h2⟩ := ih m _ _ q (by rw [List.length_drop]; omega) hs2
            refine ⟨?_, by simp only [List.length_cons]; omega⟩
            simp only [bare, List.map_cons, allT, List.all_cons, Bool.and_eq_true]
            exact ⟨nxt_is hx, h1⟩
/-- Where it is wrong: a line that it has. -/
theorem split_line : ∀ (n m ln : Nat) (s : List UInt8) (e : Nat × Nat), s.length ≤ n → split m ln s = .error e → ln ≤ e.1 ∧ e.1 ≤ ln + nls s ∧ (e.2 = 140 ∨ e.2 = 2) := by
  have hlin : ∀ (ln : Nat) (s : List UInt8), ln ≤ lin ln s ∧ lin ln s + nls (rst s) = ln + nls s := by
    intro ln s
    unfold lin rst
    have : nls s = nls (s.take (skp false s)) + nls (s.drop (skp false s)) := by rw [← nls_app, List.take_append_drop]
    omega
  have hdrop : ∀ (j : Nat) (s : List UInt8), nls (s.drop j) ≤ nls s := by
    intro j s
    have : nls s = nls (s.take j) + nls (s.drop j) := by rw [← nls_app, List.take_append_drop]
    omega
  intro n
  induction n with
  | zero =>
    intro m ln s e hs h
    have : s = [] := List.length_eq_zero_iff.1 (by omega)
    subst this
    rw [split_end (by rfl)] at h; cases h
  | succ n ih =>
    intro m ln s e hs h
    have h1 := hlin ln s
    by_cases hr : rst s = []
    · rw [split_end hr] at h; cases h
    · cases hx : nxt (rst s) with
      | none =>
        rw [split_no hr hx] at h
        injection h with h; subst h
        exact ⟨h1.1, by simp only; omega, .inl rfl⟩
      | some z =>
        obtain ⟨⟨kk, t⟩, j⟩ := z
        cases m with
        | zero =>
          rw [split_full hr hx] at h
          injection h with h; subst h
          exact ⟨h1.1, by simp only; omega, .inr rfl⟩
        | succ m =>
          rw [split_go hr hx] at h
          have hn := nxt_n hx
          have hl := rst_len s
          cases hs2 : split m (lin ln s) ((rst s).drop j) with
          | ok q => rw [hs2] at h; cases h
          | error e2 =>
            rw [hs2] at h
            injection h with h; subst h
            obtain ⟨a1, a2, a3⟩ := ih m _ _ e2 (by rw [List.length_drop]; omega) hs2
            have := hdrop j (rst s)
            exact ⟨by omega, by omega, a3⟩
end L14
end Go.Proofs.YtaeglmgpoboihaaGreatDoor
