/- Texts on the program and on the document, joined: OctR, OidQ, ValP. -/
import Derived.Test.YtmdibafofdghgaaGreatDoorMa04
import Derived.Test.YtmdibafofdghgaaGreatDoorMa07
import Derived.Test.YtmdibafofdghgaaGreatDoorMa03
/- Plain mathematics of layer 1: what is read was written, and the other way round. Nothing of the program. -/
namespace Go.Proofs.YtmdibafofdghgaaGreatDoor
open K
namespace P1

theorem b8_of (b : UInt8) (n : Nat) (h : n = b.toNat) : b8 n = b := by
  subst h; unfold b8; simp
theorem low_up (i : Nat) : ∀ (k n : Nat), n < 128 ^ i → low (i + k) n = low i n := by
  intro k
  induction k with
  | zero => intro n _; rfl
  | succ k ih =>
    intro n h
    rw [show i + (k + 1) = (i + k) + 1 by omega, low_more (i + k) n (Nat.lt_of_lt_of_le h (Nat.pow_le_pow_right (by omega) (by omega))), ih n h]

/-- What groups tell was written so. -/
theorem rgo_grp (l : List UInt8) (most : Int) : ∀ (f i n : Nat), i + f = 9 → n < 128 ^ i → i ≤ l.length → l.take i = low i n → (0 < i → 0 < n) → (0 < i → ¬ byt l 0 = 128) →
    (rgo l most f i n).2.2 = 0 → grp (rgo l most f i n).1 = l.take (rgo l most f i n).2.1 := by
  intro f
  induction f with
  | zero => intro i n _ _ _ _ _ _ h; simp [rgo] at h
  | succ f ih =>
    intro i n hi hn hil ht hp hb h
    by_cases h1 : l.length ≤ i
    · unfold rgo at h; rw [if_pos h1] at h; simp at h
    · have hlt : i < l.length := by omega
      by_cases h2 : i = 0 ∧ byt l 0 = 128
      · unfold rgo at h; rw [if_neg h1, if_pos h2] at h; simp at h
      · by_cases h3 : most < ((n * 128 + byt l i % 128 : Nat) : Int)
        · rw [rgo_long l most f i n hlt h2 h3] at h; simp at h
        · have hbt := byt_lt l i
          have hget := byt_get l i hlt
          by_cases h4 : byt l i < 128
          · rw [rgo_done l most f i n hlt h2 h3 h4]
            simp only [grp]
            rw [show (n * 128 + byt l i % 128) / 128 = n by omega, show (n * 128 + byt l i % 128) % 128 = byt l i by omega]
            rw [List.take_succ_eq_append_getElem hlt, ht, show (8 : Nat) = i + (8 - i) by omega, low_up i (8 - i) n hn, b8_of l[i] _ hget]
          · rw [rgo_more l most f i n hlt h2 h3 h4] at h ⊢
            have hn' : 0 < n * 128 + byt l i % 128 := by
              rcases Nat.eq_zero_or_pos i with h0 | h0
              · subst h0
                have : ¬ byt l 0 = 128 := fun e => h2 ⟨rfl, e⟩
                omega
              · have := hp h0; omega
            refine ih (i + 1) _ (by omega) (by rw [Nat.pow_succ]; omega) (by omega) ?_ (fun _ => hn') ?_ h
            · rw [List.take_succ_eq_append_getElem hlt, ht, low_step i _ hn', show (n * 128 + byt l i % 128) / 128 = n by omega, show (n * 128 + byt l i % 128) % 128 = byt l i % 128 by omega, b8_of l[i] _ (by rw [← hget]; omega)]
            · intro _
              rcases Nat.eq_zero_or_pos i with h0 | h0
              · subst h0; exact fun e => h2 ⟨rfl, e⟩
              · exact hb h0
theorem rgo_grp0 (l : List UInt8) (most : Int) (h : (rgo l most 9 0 0).2.2 = 0) : grp (rgo l most 9 0 0).1 = l.take (rgo l most 9 0 0).2.1 :=
  rgo_grp l most 9 0 0 (by omega) (by omega) (by omega) (by simp [low]) (by omega) (by omega) h

theorem byt_app (a t : List UInt8) (b : UInt8) : byt (a ++ ([b] ++ t)) a.length = b.toNat := by
  unfold byt; rw [List.getElem?_append_right (Nat.le_refl _), Nat.sub_self]; rfl
theorem low_nil (g q : Nat) (h : q < 128 ^ g) (hl : (low g q).length = 0) : q = 0 := by
  rcases g with _ | g
  · simp at h; omega
  · unfold low at hl
    split at hl
    · assumption
    · simp at hl
/-- The groups' first bytes are read so. -/
theorem rgo_low (most : Int) : ∀ (g q : Nat) (t : List UInt8), g ≤ 8 → q < 128 ^ g → (q : Int) ≤ most →
    rgo (low g q ++ t) most 9 0 0 = rgo (low g q ++ t) most (9 - (low g q).length) (low g q).length q := by
  intro g
  induction g with
  | zero => intro q t _ hq _; obtain rfl : q = 0 := by simp at hq; omega
            simp [low]
  | succ g ih =>
    intro q t hg hq hm
    by_cases h0 : q = 0
    · subst h0; simp [low]
    · have hs := low_step g q (by omega)
      have hq2 : q / 128 < 128 ^ g := by rw [Nat.pow_succ] at hq; omega
      have h := ih (q / 128) ([b8 (q % 128 + 128)] ++ t) (by omega) hq2 (by omega)
      have hlen := low_length g (q / 128)
      have hb : byt (low g (q / 128) ++ ([b8 (q % 128 + 128)] ++ t)) (low g (q / 128)).length = q % 128 + 128 := by
        rw [byt_app]; exact b8_toNat _ (by omega)
      have h2 : ¬ ((low g (q / 128)).length = 0 ∧ byt (low g (q / 128) ++ ([b8 (q % 128 + 128)] ++ t)) 0 = 128) := by
        rintro ⟨e1, e2⟩
        rw [e1] at hb
        have := low_nil g (q / 128) hq2 e1
        omega
      rw [hs, List.append_assoc, h, show 9 - (low g (q / 128)).length = (8 - (low g (q / 128)).length) + 1 by omega]
      rw [rgo_more _ most _ _ _ (by simp) h2 (by rw [hb]; omega) (by rw [hb]; omega)]
      rw [hb, show q / 128 * 128 + (q % 128 + 128) % 128 = q by omega]
      simp
/-- There and back. -/
theorem rgo_back (n : Nat) (t : List UInt8) (most : Int) (hn : n < 9223372036854775808) (hm : (n : Int) ≤ most) : rgo (grp n ++ t) most 9 0 0 = (n, (grp n).length, 0) := by
  have hq : n / 128 < 128 ^ 8 := by omega
  have h := rgo_low most 8 (n / 128) ([b8 (n % 128)] ++ t) (by omega) hq (by omega)
  have hlen := low_length 8 (n / 128)
  have hb : byt (low 8 (n / 128) ++ ([b8 (n % 128)] ++ t)) (low 8 (n / 128)).length = n % 128 := by
    rw [byt_app]; exact b8_toNat _ (by omega)
  have h2 : ¬ ((low 8 (n / 128)).length = 0 ∧ byt (low 8 (n / 128) ++ ([b8 (n % 128)] ++ t)) 0 = 128) := by
    rintro ⟨e1, e2⟩
    rw [e1] at hb
    omega
  unfold grp
  rw [List.append_assoc, h, show 9 - (low 8 (n / 128)).length = (8 - (low 8 (n / 128)).length) + 1 by omega]
  rw [rgo_done _ most _ _ _ (by simp) h2 (by rw [hb]; omega) (by rw [hb]; omega)]
  rw [hb, show n / 128 * 128 + n % 128 % 128 = n by omega]
  simp
/-- No groups begin others. -/
theorem grp_prefix (n m : Nat) (hn : n < 9223372036854775808) (hm : m < 9223372036854775808) (h : (grp m).take (grp n).length = grp n) : n = m := by
  have e : grp m = grp n ++ (grp m).drop (grp n).length := by conv => lhs; rw [← List.take_append_drop (grp n).length (grp m), h]
  have h1 := rgo_back n ((grp m).drop (grp n).length) 9223372036854775807 hn (by omega)
  have h2 := rgo_back m [] 9223372036854775807 hm (by omega)
  rw [← e] at h1
  rw [List.append_nil, h1] at h2
  exact (Prod.mk.inj h2).1

/-- 'n & 0x7fffffffffffffff'. -/
def low63 (n : Int) : Nat := (n % 9223372036854775808).toNat
theorem low63_lt (n : Int) : low63 n < 9223372036854775808 := by unfold low63; omega
theorem bits_low63 (n : Int) : bits .and .i64 n 9223372036854775807 = (low63 n : Nat) := by
  have h2 : (BitVec.ofInt 64 n).toNat = (n % 18446744073709551616).toNat := by rw [BitVec.toNat_ofInt]; rfl
  have h3 : (BitVec.ofInt 64 9223372036854775807).toNat = 2 ^ 63 - 1 := by decide +kernel
  have h4 : bits .and .i64 n 9223372036854775807 = IntKind.i64.wrap (((BitVec.ofInt 64 n).toNat &&& (BitVec.ofInt 64 9223372036854775807).toNat : Nat) : Int) := by
    show IntKind.i64.wrap (((BitVec.ofInt 64 n &&& BitVec.ofInt 64 9223372036854775807).toNat : Nat) : Int) = _
    rw [BitVec.toNat_and]
  rw [h4, h2, h3, Nat.and_two_pow_sub_one_eq_mod, IntKind.wrap_i64]
  unfold low63
  omega
end P1
end Go.Proofs.YtmdibafofdghgaaGreatDoor
/- Identifiers as bytes: plain mathematics, of no program. -/
namespace Go.Proofs.YtmdibafofdghgaaGreatDoor
open K O6
def ebt (l : List Nat) (i : Nat) : List UInt8 := P1.grp (40 * l.getD 0 0 + l.getD 1 0) ++ ((l.take i).drop 2).flatMap P1.grp
/-- The body of arcs. -/
def eb (l : List Nat) : List UInt8 := P1.grp (40 * l.getD 0 0 + l.getD 1 0) ++ (l.drop 2).flatMap P1.grp
theorem ebt_two (l : List Nat) : ebt l 2 = P1.grp (40 * l.getD 0 0 + l.getD 1 0) := by
  unfold ebt
  rw [show (l.take 2).drop 2 = [] by rw [List.drop_take]; simp]; simp
theorem ebt_all (l : List Nat) : ebt l l.length = eb l := by unfold ebt eb; rw [List.take_length]
theorem ebt_snoc (l : List Nat) (i : Nat) (hi : i < l.length) (h2 : 2 ≤ i) : ebt l (i + 1) = ebt l i ++ P1.grp (l.getD i 0) := by
  unfold ebt
  rw [List.take_succ_eq_append_getElem hi, List.drop_append_of_le_length (by rw [List.length_take]; omega), List.flatMap_append, ← List.append_assoc]
  congr 1
  rw [List.getD, List.getElem?_eq_getElem hi]; simp

/-! ### The numbers that stand in bytes as groups -/
def gp : Nat → List UInt8 → Option (List Nat)
  | 0, l => if l.isEmpty then some [] else none
  | f + 1, l =>
    if l.isEmpty then some []
    else if (P1.rgo l 4294967295 9 0 0).2.2 = 0 then
      match gp f (l.drop (P1.rgo l 4294967295 9 0 0).2.1) with
      | none => none
      | some r => some ((P1.rgo l 4294967295 9 0 0).1 :: r)
    else none
theorem rgo_used {l : List UInt8} {most : Int} (h : (P1.rgo l most 9 0 0).2.2 = 0) : 1 ≤ (P1.rgo l most 9 0 0).2.1 ∧ (P1.rgo l most 9 0 0).2.1 ≤ l.length := by
  have h1 := P1.rgo_grp0 l most h
  have h2 := P1.rgo_bound l most 9 0 0 (by omega) (by omega)
  refine ⟨?_, h2.2.1⟩
  rcases Nat.eq_zero_or_pos (P1.rgo l most 9 0 0).2.1 with h0 | h0
  · rw [h0] at h1
    have := congrArg List.length h1
    simp [P1.grp] at this
  · exact h0
theorem rgo_most (l : List UInt8) (most : Int) : ∀ (f i n : Nat), (P1.rgo l most f i n).2.2 = 0 → ((P1.rgo l most f i n).1 : Int) ≤ most := by
  intro f
  induction f with
  | zero => intro i n h; simp [P1.rgo] at h
  | succ f ih =>
    intro i n h
    unfold P1.rgo at h ⊢
    by_cases h1 : l.length ≤ i
    · rw [if_pos h1] at h; simp at h
    · rw [if_neg h1] at h ⊢
      by_cases h2 : i = 0 ∧ byt l 0 = 128
      · rw [if_pos h2] at h; simp at h
      · rw [if_neg h2] at h ⊢
        by_cases h3 : most < ((n * 128 + byt l i % 128 : Nat) : Int)
        · rw [if_pos h3] at h; simp at h
        · rw [if_neg h3] at h ⊢
          by_cases h4 : byt l i < 128
          · rw [if_pos h4] at h ⊢; show ((n * 128 + byt l i % 128 : Nat) : Int) ≤ most; omega
          · rw [if_neg h4] at h ⊢; exact ih _ _ h
theorem gp_nil (f : Nat) : gp f [] = some [] := by cases f <;> rfl
theorem gp_more : ∀ (n k m : Nat) (l : List UInt8), l.length ≤ n → l.length ≤ k → l.length ≤ m → gp k l = gp m l
  | 0, k, m, l, hn, _, _ => by
    obtain rfl : l = [] := List.length_eq_zero_iff.1 (by omega)
    rw [gp_nil, gp_nil]
  | n + 1, k, m, l, hn, hk, hm => by
    by_cases h : l = []
    · subst h; rw [gp_nil, gp_nil]
    · have hp := List.length_pos_iff.2 h
      obtain ⟨k, rfl⟩ : ∃ j, k = j + 1 := ⟨k - 1, by omega⟩
      obtain ⟨m, rfl⟩ : ∃ j, m = j + 1 := ⟨m - 1, by omega⟩
      unfold gp
      by_cases hc : (P1.rgo l 4294967295 9 0 0).2.2 = 0
      · have hu := rgo_used hc
        rw [gp_more n k m (l.drop (P1.rgo l 4294967295 9 0 0).2.1) (by rw [List.length_drop]; omega) (by rw [List.length_drop]; omega) (by rw [List.length_drop]; omega)]
      · rw [if_neg hc, if_neg hc]
def gpl (l : List UInt8) : Option (List Nat) := gp l.length l
theorem gpl_nil : gpl [] = some [] := rfl
theorem gpl_step {l : List UInt8} (h : l ≠ []) : gpl l = if (P1.rgo l 4294967295 9 0 0).2.2 = 0 then
      match gpl (l.drop (P1.rgo l 4294967295 9 0 0).2.1) with
      | none => none
      | some r => some ((P1.rgo l 4294967295 9 0 0).1 :: r)
    else none := by
  have hp := List.length_pos_iff.2 h
  obtain ⟨k, hk⟩ : ∃ k, l.length = k + 1 := ⟨l.length - 1, by omega⟩
  have he : l.isEmpty = false := List.isEmpty_eq_false_iff.2 h
  unfold gpl
  rw [hk]
  conv => lhs; unfold gp
  rw [he]
  by_cases hc : (P1.rgo l 4294967295 9 0 0).2.2 = 0
  · have hu := rgo_used hc
    rw [if_pos hc, if_pos hc, gp_more k k (l.drop (P1.rgo l 4294967295 9 0 0).2.1).length _ (by rw [List.length_drop]; omega) (by rw [List.length_drop]; omega) (Nat.le_refl _)]
    rfl
  · rw [if_neg hc, if_neg hc]; rfl
theorem grp_ne (n : Nat) (r : List UInt8) : P1.grp n ++ r ≠ [] := by unfold P1.grp; simp
theorem gpl_grp (n : Nat) (r : List UInt8) (h : n ≤ 4294967295) : gpl (P1.grp n ++ r) = match gpl r with | none => none | some x => some (n :: x) := by
  rw [gpl_step (grp_ne n r), P1.rgo_back n r 4294967295 (by omega) (by omega), if_pos rfl]
  show (match gpl ((P1.grp n ++ r).drop (P1.grp n).length) with | none => none | some x => some (n :: x)) = _
  rw [List.drop_left]
theorem gpl_all : ∀ xs : List Nat, (∀ x ∈ xs, x ≤ 4294967295) → gpl (xs.flatMap P1.grp) = some xs
  | [], _ => rfl
  | x :: xs, h => by
    rw [List.flatMap_cons, gpl_grp x _ (h x (by simp)), gpl_all xs (fun y hy => h y (by simp [hy]))]
theorem gpl_inv : ∀ (n : Nat) (l : List UInt8) (xs : List Nat), l.length ≤ n → gpl l = some xs → xs.flatMap P1.grp = l ∧ (∀ x ∈ xs, x ≤ 4294967295) ∧ xs.length ≤ l.length
  | 0, l, xs, hn, h => by
    obtain rfl : l = [] := List.length_eq_zero_iff.1 (by omega)
    rw [gpl_nil] at h; cases h
    exact ⟨rfl, by simp, Nat.le_refl _⟩
  | n + 1, l, xs, hn, h => by
    by_cases he : l = []
    · subst he
      rw [gpl_nil] at h; cases h
      exact ⟨rfl, by simp, Nat.le_refl _⟩
    · rw [gpl_step he] at h
      by_cases hc : (P1.rgo l 4294967295 9 0 0).2.2 = 0
      · rw [if_pos hc] at h
        have hu := rgo_used hc
        have hm := rgo_most l 4294967295 9 0 0 hc
        have hg := P1.rgo_grp0 l 4294967295 hc
        cases hr : gpl (l.drop (P1.rgo l 4294967295 9 0 0).2.1) with
        | none => rw [hr] at h; cases h
        | some r =>
          rw [hr] at h
          cases h
          obtain ⟨i1, i2, i3⟩ := gpl_inv n _ r (by rw [List.length_drop]; omega) hr
          rw [List.length_drop] at i3
          refine ⟨?_, ?_, by rw [List.length_cons]; omega⟩
          · rw [List.flatMap_cons, i1, hg, List.take_append_drop]
          · intro x hx
            rcases List.mem_cons.1 hx with rfl | hx
            · omega
            · exact i2 x hx
      · rw [if_neg hc] at h; cases h
/-- The first two arcs of their number. -/
def a0 (n : Nat) : Nat := min (n / 40) 2
def a1 (n : Nat) : Nat := n - 40 * a0 n
theorem a_back (n : Nat) : 40 * a0 n + a1 n = n ∧ a0 n ≤ 2 := by unfold a1 a0; omega
theorem a_of {x y : Nat} (h : (x < 2 ∧ y ≤ 39) ∨ x = 2) : a0 (40 * x + y) = x ∧ a1 (40 * x + y) = y := by unfold a1 a0; omega
/-- The arcs of a body. -/
def deA (b : List UInt8) : Option (List Nat) :=
  if b = [] ∨ 640 < b.length then none
  else match gpl b with
    | some (n :: r) => if isArcs (a0 n :: a1 n :: r) then some (a0 n :: a1 n :: r) else none
    | _ => none
theorem isArcs_two {l : List Nat} (h : isArcs l = true) : ∃ x y r, l = x :: y :: r ∧ ((x < 2 ∧ y ≤ 39) ∨ (x = 2 ∧ y ≤ 4294967215)) ∧ ∀ z ∈ r, z ≤ 4294967295 := by
  have hl := isArcs_len h
  have hle := isArcs_le h
  match l, hl with
  | x :: y :: r, _ =>
    refine ⟨x, y, r, rfl, ?_, fun z hz => hle z (by simp [hz])⟩
    unfold isArcs at h
    simp only [Bool.and_eq_true, Bool.or_eq_true, decide_eq_true_eq, beq_iff_eq] at h
    exact h.2.2.2
theorem grp_small (n : Nat) (h : n < 128 ^ 5) : (P1.grp n).length ≤ 5 := by
  have e : P1.low 8 (n / 128) = P1.low 4 (n / 128) := P1.low_up 4 4 (n / 128) (by omega)
  have := P1.low_length 4 (n / 128)
  unfold P1.grp
  rw [e, List.length_append]; simp; omega
theorem flat_small : ∀ xs : List Nat, (∀ x ∈ xs, x ≤ 4294967295) → (xs.flatMap P1.grp).length ≤ 5 * xs.length
  | [], _ => by simp
  | x :: xs, h => by
    have h1 := grp_small x (by have := h x (by simp); omega)
    have h2 := flat_small xs (fun y hy => h y (by simp [hy]))
    rw [List.flatMap_cons, List.length_append, List.length_cons]; omega
theorem eb_two (x y : Nat) (r : List Nat) : eb (x :: y :: r) = ((40 * x + y) :: r).flatMap P1.grp := rfl
theorem deA_eb {l : List Nat} (h : isArcs l = true) : deA (eb l) = some l := by
  have hl := isArcs_len h
  obtain ⟨x, y, r, rfl, hxy, hr⟩ := isArcs_two h
  have hall : ∀ z ∈ (40 * x + y) :: r, z ≤ 4294967295 := by
    intro z hz
    rcases List.mem_cons.1 hz with rfl | hz
    · omega
    · exact hr z hz
  have hlen := flat_small _ hall
  rw [List.length_cons] at hlen
  simp only [List.length_cons] at hl
  unfold deA
  rw [eb_two, if_neg, gpl_all _ hall]
  · show (if isArcs (a0 (40 * x + y) :: a1 (40 * x + y) :: r) then _ else none) = _
    obtain ⟨e1, e2⟩ := a_of (x := x) (y := y) (by omega)
    rw [e1, e2, if_pos h]
  · rintro (h0 | h0)
    · exact grp_ne _ _ h0
    · omega
theorem deA_inv {b : List UInt8} {l : List Nat} (h : deA b = some l) : isArcs l = true ∧ eb l = b := by
  unfold deA at h
  by_cases hc : b = [] ∨ 640 < b.length
  · rw [if_pos hc] at h; cases h
  · rw [if_neg hc] at h
    cases hg : gpl b with
    | none => rw [hg] at h; cases h
    | some xs =>
      rw [hg] at h
      cases xs with
      | nil => cases h
      | cons n r =>
        by_cases hi : isArcs (a0 n :: a1 n :: r) = true
        · simp only [hi, if_true] at h
          cases h
          refine ⟨hi, ?_⟩
          rw [eb_two, (a_back n).1]
          exact (gpl_inv b.length b _ (Nat.le_refl _) hg).1
        · simp only [hi] at h; cases h
def deE (b : List UInt8) : Nat := if (deA b).isSome then 0 else 60
def deS (b : List UInt8) : List UInt8 := match deA b with | some l => put l | none => []
theorem de_some {b : List UInt8} {l : List Nat} (h : deA b = some l) : deE b = 0 ∧ deS b = put l := by unfold deE deS; rw [h]; exact ⟨rfl, rfl⟩
theorem de_none {b : List UInt8} (h : deA b = none) : deE b = 60 ∧ deS b = [] := by unfold deE deS; rw [h]; exact ⟨rfl, rfl⟩
end Go.Proofs.YtmdibafofdghgaaGreatDoor
/- Values: which may be, their bodies, what is told: plain mathematics, of no program. -/
namespace Go.Proofs.YtmdibafofdghgaaGreatDoor
open Go.RowKit K P1
set_option linter.unusedSimpArgs false
namespace V7

/-! ### Numbers' bodies, and back -/
theorem byt_two (a b : UInt8) (r : List UInt8) : byt (a :: b :: r) 0 = a.toNat ∧ byt (a :: b :: r) 1 = b.toNat := by simp [byt]
theorem nv_fits (a : UInt8) (r : List UInt8) : -((128 * 256 ^ r.length : Nat) : Int) ≤ B5.nv (a :: r) ∧ B5.nv (a :: r) < ((128 * 256 ^ r.length : Nat) : Int) ∧ (0 ≤ B5.nv (a :: r) ↔ a.toNat < 128) := by
  have hb : byt (a :: r) 0 = a.toNat := by simp [byt]
  have ha := a.toNat_lt
  have hn := num_lt r
  have hpos : 0 < (256 : Nat) ^ r.length := Nat.pow_pos (by omega)
  unfold B5.nv
  rw [hb, num_cons, List.length_cons, Nat.pow_succ]
  generalize 256 ^ r.length = M at *
  generalize num r = N at *
  by_cases h : a.toNat < 128
  · rw [if_pos h]
    have : a.toNat * M ≤ 127 * M := Nat.mul_le_mul_right _ (by omega)
    generalize a.toNat * M = X at *
    omega
  · rw [if_neg h]
    have h1 : 128 * M ≤ a.toNat * M := Nat.mul_le_mul_right _ (by omega)
    have h2 : a.toNat * M ≤ 255 * M := Nat.mul_le_mul_right _ (by omega)
    generalize a.toNat * M = X at *
    omega
set_option maxRecDepth 100000 in
theorem nv_least (a b : UInt8) (r : List UInt8) (h : B5.same9 (a :: b :: r) = false) : ((128 * 256 ^ r.length : Nat) : Int) ≤ B5.nv (a :: b :: r) ∨ B5.nv (a :: b :: r) < -((128 * 256 ^ r.length : Nat) : Int) := by
  obtain ⟨e0, e1⟩ := byt_two a b r
  have ha := a.toNat_lt
  have hb := b.toNat_lt
  have hn := num_lt r
  have hpos : 0 < (256 : Nat) ^ r.length := Nat.pow_pos (by omega)
  unfold B5.same9 at h
  rw [e0, e1] at h
  simp only [Bool.or_eq_false_iff, Bool.and_eq_false_iff, beq_eq_false_iff_ne, decide_eq_false_iff_not] at h
  unfold B5.nv
  rw [e0, num_cons, num_cons]
  simp only [List.length_cons, Nat.pow_succ]
  generalize 256 ^ r.length = M at *
  generalize num r = N at *
  have e : a.toNat * (M * 256) + (b.toNat * M + N) = (a.toNat * 256 + b.toNat) * M + N := by
    rw [Nat.add_mul, Nat.mul_assoc, Nat.mul_comm M 256, Nat.add_assoc]
  rw [e]
  by_cases hc : a.toNat < 128
  · left
    rw [if_pos hc]
    have : 128 * M ≤ (a.toNat * 256 + b.toNat) * M := Nat.mul_le_mul_right _ (by omega)
    generalize (a.toNat * 256 + b.toNat) * M = X at *
    omega
  · right
    rw [if_neg hc]
    have : (a.toNat * 256 + b.toNat) * M ≤ 65407 * M := Nat.mul_le_mul_right _ (by omega)
    generalize (a.toNat * 256 + b.toNat) * M = X at *
    omega
theorem num_inj : ∀ (a b : List UInt8), a.length = b.length → num a = num b → a = b
  | [], [], _, _ => rfl
  | [], _ :: _, h, _ => by simp at h
  | _ :: _, [], h, _ => by simp at h
  | x :: a, y :: b, h, e => by
    have hl : a.length = b.length := by simpa using h
    have h1 := num_lt a
    have h2 := num_lt b
    rw [num_cons, num_cons, ← hl] at e
    rw [← hl] at h2
    have hpos : 0 < (256 : Nat) ^ a.length := Nat.pow_pos (by omega)
    have hx : x.toNat = y.toNat := by
      have e1 : (x.toNat * 256 ^ a.length + num a) / 256 ^ a.length = x.toNat := by
        rw [Nat.add_comm, Nat.add_mul_div_right _ _ hpos, Nat.div_eq_of_lt h1, Nat.zero_add]
      have e2 : (y.toNat * 256 ^ a.length + num b) / 256 ^ a.length = y.toNat := by
        rw [Nat.add_comm, Nat.add_mul_div_right _ _ hpos, Nat.div_eq_of_lt h2, Nat.zero_add]
      rw [← e1, e, e2]
    have hn : num a = num b := by rw [hx] at e; omega
    rw [num_inj a b hl hn, UInt8.toNat_inj.1 hx]
theorem nOk_cons {l : List UInt8} (h : B5.nOk l = true) : ∃ a r, l = a :: r ∧ r.length ≤ 7 ∧ (r = [] ∨ B5.same9 l = false) := by
  unfold B5.nOk at h
  simp only [Bool.and_eq_true, decide_eq_true_eq, Bool.not_eq_true', Bool.and_eq_false_iff, decide_eq_false_iff_not] at h
  obtain ⟨h1, h2, h3⟩ := h
  match l, h1 with
  | a :: r, _ =>
    refine ⟨a, r, rfl, by simpa using h2, ?_⟩
    rcases h3 with h3 | h3
    · left; exact List.length_eq_zero_iff.1 (by rw [List.length_cons] at h3; omega)
    · exact .inr h3
theorem nv_short {a : UInt8} {r : List UInt8} {b c : UInt8} {t : List UInt8} (hl : r.length ≤ t.length) (hs : B5.same9 (b :: c :: t) = false) (h : B5.nv (a :: r) = B5.nv (b :: c :: t)) : False := by
  have h1 := nv_fits a r
  have h2 := nv_least b c t hs
  have h3 : (256 : Nat) ^ r.length ≤ 256 ^ t.length := Nat.pow_le_pow_right (by omega) hl
  rw [h] at h1
  generalize 256 ^ r.length = M at *
  generalize 256 ^ t.length = N at *
  omega
theorem nv_inj {x y : List UInt8} (hx : B5.nOk x = true) (hy : B5.nOk y = true) (h : B5.nv x = B5.nv y) : x = y := by
  obtain ⟨a, r, rfl, h1, h2⟩ := nOk_cons hx
  obtain ⟨b, t, rfl, h3, h4⟩ := nOk_cons hy
  rcases Nat.lt_trichotomy r.length t.length with hl | hl | hl
  · rcases h4 with h4 | h4
    · subst h4; simp at hl
    · cases t with
      | nil => simp at hl
      | cons c t => exact (nv_short (Nat.lt_succ_iff.1 hl) h4 h).elim
  · have e1 := (nv_fits a r).2.2
    have e2 := (nv_fits b t).2.2
    have b1 : byt (a :: r) 0 = a.toNat := by simp [byt]
    have b2 : byt (b :: t) 0 = b.toNat := by simp [byt]
    have hs : a.toNat < 128 ↔ b.toNat < 128 := by rw [← e1, ← e2, h]
    refine num_inj _ _ (by simp [hl]) ?_
    unfold B5.nv at h
    rw [b1, b2, List.length_cons, List.length_cons, hl] at h
    by_cases hc : a.toNat < 128
    · rw [if_pos hc, if_pos (hs.1 hc)] at h; omega
    · rw [if_neg hc, if_neg (fun q => hc (hs.2 q))] at h; omega
  · rcases h2 with h2 | h2
    · subst h2; simp at hl
    · cases r with
      | nil => simp at hl
      | cons c r => exact (nv_short (Nat.lt_succ_iff.1 hl) h2 h.symm).elim
theorem nv_bounds {l : List UInt8} (h : B5.nOk l = true) : -9223372036854775808 ≤ B5.nv l ∧ B5.nv l ≤ 9223372036854775807 := by
  obtain ⟨a, r, rfl, h1, _⟩ := nOk_cons h
  have hf := nv_fits a r
  have h3 : (256 : Nat) ^ r.length ≤ 256 ^ 7 := Nat.pow_le_pow_right (by omega) h1
  generalize 256 ^ r.length = M at *
  omega
theorem pn_nv {l : List UInt8} (h : B5.nOk l = true) : B5.pn (B5.nv l) = l := by
  have hb := nv_bounds h
  obtain ⟨g1, g2, _, _⟩ := B5.pn_ok (B5.nv l) hb.1 hb.2
  exact nv_inj g1 h g2
theorem uv_bounds {l : List UInt8} (h : B5.uOk l = true) : 0 ≤ B5.uv l ∧ B5.uv l < 18446744073709551616 := by
  unfold B5.uOk at h
  unfold B5.uv
  by_cases h9 : l.length = 9
  · rw [if_pos h9]
    have h1 := num_lt (l.drop 1)
    rw [List.length_drop, h9] at h1
    omega
  · rw [if_neg h9]
    have e9 : (l.length == 9) = false := beq_eq_false_iff_ne.2 h9
    rw [e9, Bool.false_and, Bool.false_or, Bool.and_eq_true, decide_eq_true_eq] at h
    have := nv_bounds h.1
    omega
theorem un_uv {l : List UInt8} (h : B5.uOk l = true) : B5.un (B5.uv l).toNat = l := by
  have hb := uv_bounds h
  unfold B5.uOk at h
  unfold B5.uv at *
  by_cases h9 : l.length = 9
  · rw [if_pos h9] at *
    have hnk : B5.nOk l = false := by unfold B5.nOk; rw [h9]; simp
    rw [hnk, Bool.false_and, Bool.or_false, Bool.and_eq_true, Bool.and_eq_true, beq_iff_eq, decide_eq_true_eq] at h
    obtain ⟨_, h1, h2⟩ := h
    match l, h9, h1, h2 with
    | a :: b :: r, h9, h1, h2 =>
      have hr : r.length = 7 := by simpa using h9
      obtain ⟨e0, e1⟩ := byt_two a b r
      have e1' : b.toNat = byt (a :: b :: r) 1 := e1.symm
      have ha : a = 0 := by
        apply UInt8.toNat_inj.1; rw [← e0]; simpa using h1
      have hd : (a :: b :: r).drop 1 = b :: r := rfl
      have hn : 9223372036854775808 ≤ num (b :: r) := by
        rw [num_cons, hr]
        have h2' : 128 ≤ b.toNat := by rw [e1']; exact h2
        omega
      rw [hd, Int.toNat_natCast]
      unfold B5.un
      rw [if_pos hn, ha]
      congr 1
      refine num_inj _ _ (by rw [pad_length]; simp [hr]) ?_
      rw [num_pad]
      have := num_lt (b :: r)
      rw [List.length_cons, hr] at this
      exact Nat.mod_eq_of_lt this
  · rw [if_neg h9] at *
    have e9 : (l.length == 9) = false := beq_eq_false_iff_ne.2 h9
    rw [e9, Bool.false_and, Bool.false_or, Bool.and_eq_true, decide_eq_true_eq] at h
    have hb2 := nv_bounds h.1
    unfold B5.un
    rw [if_neg (by omega), show (((B5.nv l).toNat : Nat) : Int) = B5.nv l by omega]
    exact pn_nv h.1

/-! ### Values -/
def uu (n : Int) : Nat := (n % 18446744073709551616).toNat
theorem uu_lt (n : Int) : uu n < 18446744073709551616 := by unfold uu; omega
theorem uu_nat (m : Nat) (h : m < 18446744073709551616) : uu (m : Int) = m := by unfold uu; omega
theorem uu_wrap (n : Int) (h0 : 0 ≤ n) (h1 : n < 18446744073709551616) : uu (wrap64 n) = n.toNat := by unfold uu; rw [wrap64_eq]; omega
theorem wrap_uu (n : Int) (h0 : -9223372036854775808 ≤ n) (h1 : n ≤ 9223372036854775807) : wrap64 ((uu n : Nat) : Int) = n := by unfold uu; rw [wrap64_eq]; omega
/-- Whether a value may be. -/
def ckV (k n : Int) (s : List UInt8) : Bool :=
  if k = 2 then s.isEmpty && (decide (-2147483648 ≤ n) && decide (n ≤ 2147483647))
  else if k = 4 ∨ k = 68 then n == 0 && decide (s.length ≤ 65535)
  else if k = 5 then n == 0 && s.isEmpty
  else if k = 6 then n == 0 && (O6.arcs s).isSome
  else if k = 64 then n == 0 && s.length == 4
  else if k = 65 ∨ k = 66 ∨ k = 67 then s.isEmpty && (decide (0 ≤ n) && decide (n ≤ 4294967295))
  else if k = 70 then s.isEmpty
  else false
def ckE (k n : Int) (s : List UInt8) : Nat := if ckV k n s then 0 else 70
/-- The body of an identifier's text. -/
def ob (s : List UInt8) : List UInt8 := eb ((O6.arcs s).getD [])
/-- A value's body. -/
def bdV (k n : Int) (s : List UInt8) : List UInt8 :=
  if k = 2 then B5.pn n
  else if k = 65 ∨ k = 66 ∨ k = 67 ∨ k = 70 then B5.un (uu n)
  else if k = 6 then ob s
  else s
def enT (k n : Int) (s : List UInt8) : List UInt8 := if ckV k n s then B5.put k.toNat (bdV k n s) else []
/-- What a body tells: a number, a text, and whether it does. -/
def rdV (k : Int) (b : List UInt8) : Int × List UInt8 × Bool :=
  if k = 2 then (B5.nv b, [], B5.nOk b)
  else if k = 65 ∨ k = 66 ∨ k = 67 ∨ k = 70 then (wrap64 (B5.uv b), [], B5.uOk b)
  else if k = 6 then (0, deS b, (deA b).isSome)
  else (0, b, true)
def deOk (k : Int) (b : List UInt8) : Bool := (rdV k b).2.2 && ckV k (rdV k b).1 (rdV k b).2.1
def dvK (k : Int) (b : List UInt8) : Int := if deOk k b then k else 0
def dvN (k : Int) (b : List UInt8) : Int := if deOk k b then (rdV k b).1 else 0
def dvS (k : Int) (b : List UInt8) : List UInt8 := if deOk k b then (rdV k b).2.1 else []
def dvE (k : Int) (b : List UInt8) : Nat := if deOk k b then 0 else 70
theorem dv_yes {k : Int} {b : List UInt8} (h : deOk k b = true) : dvK k b = k ∧ dvN k b = (rdV k b).1 ∧ dvS k b = (rdV k b).2.1 ∧ dvE k b = 0 := by
  unfold dvK dvN dvS dvE; rw [h]; exact ⟨rfl, rfl, rfl, rfl⟩
theorem dv_no {k : Int} {b : List UInt8} (h : deOk k b = false) : dvK k b = 0 ∧ dvN k b = 0 ∧ dvS k b = [] ∧ dvE k b = 70 := by
  unfold dvK dvN dvS dvE; rw [h]; exact ⟨rfl, rfl, rfl, rfl⟩
/-- The ways a value may be. -/
inductive Ways (k n : Int) (s : List UInt8) : Prop
  | int (hk : k = 2) (hs : s = []) (h0 : -2147483648 ≤ n) (h1 : n ≤ 2147483647)
  | text (hk : k = 4 ∨ k = 68) (hn : n = 0) (hs : s.length ≤ 65535)
  | null (hk : k = 5) (hn : n = 0) (hs : s = [])
  | oid (hk : k = 6) (hn : n = 0) (l : List Nat) (hl : O6.isArcs l = true) (hs : O6.put l = s)
  | addr (hk : k = 64) (hn : n = 0) (hs : s.length = 4)
  | count (hk : k = 65 ∨ k = 66 ∨ k = 67) (hs : s = []) (h0 : 0 ≤ n) (h1 : n ≤ 4294967295)
  | big (hk : k = 70) (hs : s = [])
theorem ways {k n : Int} {s : List UInt8} (h : ckV k n s = true) : Ways k n s := by
  unfold ckV at h
  by_cases h2 : k = 2
  · rw [if_pos h2] at h
    simp only [Bool.and_eq_true, decide_eq_true_eq, List.isEmpty_iff] at h
    exact .int h2 h.1 h.2.1 h.2.2
  rw [if_neg h2] at h
  by_cases h4 : k = 4 ∨ k = 68
  · rw [if_pos h4] at h
    simp only [Bool.and_eq_true, decide_eq_true_eq, beq_iff_eq] at h
    exact .text h4 h.1 h.2
  rw [if_neg h4] at h
  by_cases h5 : k = 5
  · rw [if_pos h5] at h
    simp only [Bool.and_eq_true, beq_iff_eq, List.isEmpty_iff] at h
    exact .null h5 h.1 h.2
  rw [if_neg h5] at h
  by_cases h6 : k = 6
  · rw [if_pos h6] at h
    simp only [Bool.and_eq_true, beq_iff_eq] at h
    obtain ⟨hn, hs⟩ := h
    obtain ⟨l, hl⟩ := Option.isSome_iff_exists.1 hs
    obtain ⟨a, b⟩ := (O6.arcs_iff _ _).1 hl
    exact .oid h6 hn l a b
  rw [if_neg h6] at h
  by_cases h64 : k = 64
  · rw [if_pos h64] at h
    simp only [Bool.and_eq_true, beq_iff_eq] at h
    exact .addr h64 h.1 h.2
  rw [if_neg h64] at h
  by_cases h65 : k = 65 ∨ k = 66 ∨ k = 67
  · rw [if_pos h65] at h
    simp only [Bool.and_eq_true, decide_eq_true_eq, List.isEmpty_iff] at h
    exact .count h65 h.1 h.2.1 h.2.2
  rw [if_neg h65] at h
  by_cases h70 : k = 70
  · rw [if_pos h70] at h
    exact .big h70 (List.isEmpty_iff.1 h)
  · rw [if_neg h70] at h; cases h
theorem ck_of {k n : Int} {s : List UInt8} (h : Ways k n s) : ckV k n s = true := by
  cases h with
  | int hk hs h0 h1 => subst hk hs; simp [ckV, h0, h1]
  | text hk hn hs => subst hn; rcases hk with rfl | rfl <;> simp [ckV, hs]
  | null hk hn hs => subst hk hn hs; simp [ckV]
  | oid hk hn l hl hs => subst hk hn hs; simp [ckV, O6.arcs_put hl]
  | addr hk hn hs => subst hk hn; simp [ckV, hs]
  | count hk hs h0 h1 => subst hs; rcases hk with rfl | rfl | rfl <;> simp [ckV, h0, h1]
  | big hk hs => subst hk hs; simp [ckV]
/-- What a value's body tells: the value. -/
theorem rd_bd {k n : Int} {s : List UInt8} (n0 : -9223372036854775808 ≤ n) (n1 : n ≤ 9223372036854775807) (h : ckV k n s = true) : rdV k (bdV k n s) = (n, s, true) := by
  cases ways h with
  | int hk hs h0 h1 =>
    subst hk hs
    obtain ⟨g1, g2, _, _⟩ := B5.pn_ok n n0 n1
    simp [rdV, bdV, g1, g2]
  | text hk hn hs => subst hn; rcases hk with rfl | rfl <;> simp [rdV, bdV]
  | null hk hn hs => subst hk hn hs; simp [rdV, bdV]
  | oid hk hn l hl hs =>
    subst hk hn hs
    have e : ob (O6.put l) = eb l := by unfold ob; rw [O6.arcs_put hl]; rfl
    obtain ⟨d1, d2⟩ := de_some (deA_eb hl)
    simp [rdV, bdV, e, deA_eb hl, d2]
  | addr hk hn hs => subst hk hn; simp [rdV, bdV]
  | count hk hs h0 h1 =>
    obtain ⟨u1, u2⟩ := B5.un_ok (uu n) (uu_lt n)
    subst hs
    rcases hk with rfl | rfl | rfl <;> simp [rdV, bdV, u1, u2, wrap_uu n n0 n1]
  | big hk hs =>
    obtain ⟨u1, u2⟩ := B5.un_ok (uu n) (uu_lt n)
    subst hk hs
    simp [rdV, bdV, u1, u2, wrap_uu n n0 n1]
theorem de_bd {k n : Int} {s : List UInt8} (n0 : -9223372036854775808 ≤ n) (n1 : n ≤ 9223372036854775807) (h : ckV k n s = true) : deOk k (bdV k n s) = true := by
  unfold deOk; rw [rd_bd n0 n1 h]; exact h
/-- A value that a body tells has just that body. -/
theorem bd_rd {k : Int} {b : List UInt8} (h : deOk k b = true) : bdV k (rdV k b).1 (rdV k b).2.1 = b := by
  unfold deOk at h
  rw [Bool.and_eq_true] at h
  obtain ⟨h1, _⟩ := h
  unfold rdV bdV at *
  by_cases h2 : k = 2
  · simp only [if_pos h2] at *
    exact pn_nv h1
  simp only [if_neg h2] at *
  by_cases h65 : k = 65 ∨ k = 66 ∨ k = 67 ∨ k = 70
  · simp only [if_pos h65] at *
    have hb := uv_bounds h1
    rw [uu_wrap _ hb.1 hb.2]
    exact un_uv h1
  simp only [if_neg h65] at *
  by_cases h6 : k = 6
  · simp only [if_pos h6] at *
    obtain ⟨l, hl⟩ := Option.isSome_iff_exists.1 h1
    obtain ⟨i1, i2⟩ := deA_inv hl
    rw [(de_some hl).2]
    unfold ob
    rw [O6.arcs_put i1]
    exact i2
  · simp only [if_neg h6]
theorem ck_rd {k : Int} {b : List UInt8} (h : deOk k b = true) : ckV k (rdV k b).1 (rdV k b).2.1 = true := by
  unfold deOk at h; rw [Bool.and_eq_true] at h; exact h.2
theorem ck_tag {k n : Int} {s : List UInt8} (h : ckV k n s = true) : B5.isTag k.toNat = true ∧ k.toNat < 256 ∧ ((k.toNat : Nat) : Int) = k ∧ B5.isMade k.toNat = false := by
  cases ways h with
  | int hk hs h0 h1 => subst hk; decide
  | text hk hn hs => rcases hk with rfl | rfl <;> decide
  | null hk hn hs => subst hk; decide
  | oid hk hn l hl hs => subst hk; decide
  | addr hk hn hs => subst hk; decide
  | count hk hs h0 h1 => rcases hk with rfl | rfl | rfl <;> decide
  | big hk hs => subst hk; decide
theorem un_len (m : Nat) (h : m < 18446744073709551616) : (B5.un m).length ≤ 9 := by
  unfold B5.un
  by_cases hc : 9223372036854775808 ≤ m
  · rw [if_pos hc, List.length_cons, pad_length]; omega
  · rw [if_neg hc]
    have := (B5.pn_ok (m : Int) (by omega) (by omega)).2.2.2
    omega
theorem eb_len {l : List Nat} (h : O6.isArcs l = true) : (eb l).length ≤ 640 := by
  obtain ⟨x, y, r, rfl, hx, hr⟩ := isArcs_two h
  have hl := (O6.isArcs_len h).2
  rw [eb_two]
  have := flat_small ((40 * x + y) :: r) (by
    intro z hz
    rcases List.mem_cons.1 hz with rfl | hz
    · omega
    · exact hr z hz)
  simp only [List.length_cons] at *
  omega
theorem bd_len {k n : Int} {s : List UInt8} (h : ckV k n s = true) : (bdV k n s).length ≤ 65535 ∧ (bdV k n s).length ≤ max 640 s.length := by
  cases ways h with
  | int hk hs h0 h1 =>
    subst hk hs
    have := (B5.pn_ok n (by omega) (by omega)).2.2.2
    simp only [bdV, if_true]; omega
  | text hk hn hs => subst hn; rcases hk with rfl | rfl <;> simp [bdV] <;> omega
  | null hk hn hs => subst hk hn hs; simp [bdV]
  | oid hk hn l hl hs =>
    subst hk hn hs
    have e : ob (O6.put l) = eb l := by unfold ob; rw [O6.arcs_put hl]; rfl
    have := eb_len hl
    simp [bdV, e]; omega
  | addr hk hn hs => subst hk hn; simp [bdV]; omega
  | count hk hs h0 h1 =>
    have := un_len (uu n) (uu_lt n)
    subst hs
    rcases hk with rfl | rfl | rfl <;> simp [bdV] <;> omega
  | big hk hs =>
    have := un_len (uu n) (uu_lt n)
    subst hk hs
    simp [bdV]; omega
/-- A value's element is one element, and its own shortest form. -/
theorem en_next {k n : Int} {s : List UInt8} (h : ckV k n s = true) : enT k n s = B5.put k.toNat (bdV k n s) ∧ B5.nxOk (enT k n s) = true ∧ B5.nxT (enT k n s) = k.toNat ∧ B5.nxB (enT k n s) = bdV k n s ∧ B5.nxR (enT k n s) = [] ∧ B5.wh (enT k n s) = .ok (.leaf k.toNat (bdV k n s) .nil) ∧ B5.whC (enT k n s) = enT k n s ∧ B5.whE (enT k n s) = 0 := by
  obtain ⟨t1, t2, t3, t4⟩ := ck_tag h
  have hl := (bd_len h).1
  have e : enT k n s = B5.put k.toNat (bdV k n s) := by unfold enT; rw [if_pos h]
  obtain ⟨x1, x2, x3, x4⟩ := B5.nx_put k.toNat (bdV k n s) [] t1 t2 (by omega)
  rw [List.append_nil] at x1 x2 x3 x4
  have hw : (B5.Fo.leaf k.toNat (bdV k n s) .nil).WF := ⟨t1, t2, t4, by omega, trivial⟩
  have h1 := B5.wh_one hw (.inl ⟨_, _, rfl⟩)
  have he : (B5.Fo.leaf k.toNat (bdV k n s) .nil).enc = B5.put k.toNat (bdV k n s) := by
    show B5.put k.toNat (bdV k n s) ++ [] = _
    rw [List.append_nil]
  have hd : (B5.Fo.leaf k.toNat (bdV k n s) .nil).dep ≤ 32 := by rw [B5.Fo.dep_leaf]; decide
  rw [he, if_pos hd] at h1
  obtain ⟨w1, w2, w3⟩ := B5.wh_ok h1
  rw [e]
  exact ⟨rfl, x1, x2, x3, x4, h1, by rw [w3, he], w1⟩
end V7
end Go.Proofs.YtmdibafofdghgaaGreatDoor
