/- Texts on the program and on the document, joined: OctQ, BerT, Rd0. -/
import Derived.Test.YtmdibafofdghgaaGreatDoorMa01
import Derived.Test.YtmdibafofdghgaaGreatDoorMa03
/- Plain mathematics of layer 1: what a reader answers. Nothing of the program. -/
namespace Go.Proofs.YtmdibafofdghgaaGreatDoor
open K
namespace P1

/-- The groups at the beginning of l: so many places left (f), i bytes read, n so far: the number, its bytes, the code. -/
def rgo (l : List UInt8) (most : Int) : Nat → Nat → Nat → Nat × Nat × Int
  | 0, _, _ => (0, 0, 3)
  | f + 1, i, n =>
    if l.length ≤ i then (0, 0, 10)
    else if i = 0 ∧ byt l 0 = 128 then (0, 0, 3)
    else if most < ((n * 128 + byt l i % 128 : Nat) : Int) then (0, 0, 2)
    else if byt l i < 128 then (n * 128 + byt l i % 128, i + 1, 0)
    else rgo l most f (i + 1) (n * 128 + byt l i % 128)
theorem rgo_end (l : List UInt8) (most : Int) (f n : Nat) : rgo l most (f + 1) l.length n = (0, 0, 10) := by simp [rgo]
theorem rgo_form (l : List UInt8) (most : Int) (f n : Nat) (h : 0 < l.length) (hb : byt l 0 = 128) : rgo l most (f + 1) 0 n = (0, 0, 3) := by
  unfold rgo; rw [if_neg (by omega), if_pos ⟨rfl, hb⟩]
theorem rgo_long (l : List UInt8) (most : Int) (f i n : Nat) (h : i < l.length) (hb : ¬ (i = 0 ∧ byt l 0 = 128)) (hm : most < ((n * 128 + byt l i % 128 : Nat) : Int)) : rgo l most (f + 1) i n = (0, 0, 2) := by
  unfold rgo; rw [if_neg (by omega), if_neg hb, if_pos hm]
theorem rgo_done (l : List UInt8) (most : Int) (f i n : Nat) (h : i < l.length) (hb : ¬ (i = 0 ∧ byt l 0 = 128)) (hm : ¬ most < ((n * 128 + byt l i % 128 : Nat) : Int)) (hs : byt l i < 128) : rgo l most (f + 1) i n = (n * 128 + byt l i % 128, i + 1, 0) := by
  unfold rgo; rw [if_neg (by omega), if_neg hb, if_neg hm, if_pos hs]
theorem rgo_more (l : List UInt8) (most : Int) (f i n : Nat) (h : i < l.length) (hb : ¬ (i = 0 ∧ byt l 0 = 128)) (hm : ¬ most < ((n * 128 + byt l i % 128 : Nat) : Int)) (hs : ¬ byt l i < 128) : rgo l most (f + 1) i n = rgo l most f (i + 1) (n * 128 + byt l i % 128) := by
  conv => lhs; unfold rgo
  rw [if_neg (by omega), if_neg hb, if_neg hm, if_neg hs]

theorem rgo_bound (l : List UInt8) (most : Int) : ∀ (f i n : Nat), n < 128 ^ i → i + f ≤ 9 →
    (rgo l most f i n).1 < 128 ^ 9 ∧ (rgo l most f i n).2.1 ≤ l.length ∧ ((rgo l most f i n).2.2 = 0 ∨ ((rgo l most f i n).1 = 0 ∧ (rgo l most f i n).2.1 = 0)) ∧ 0 ≤ (rgo l most f i n).2.2 := by
  intro f
  induction f with
  | zero => intro i n _ _; simp [rgo]
  | succ f ih =>
    intro i n hn hi
    unfold rgo
    by_cases h1 : l.length ≤ i
    · rw [if_pos h1]; simp
    · rw [if_neg h1]
      by_cases h2 : i = 0 ∧ byt l 0 = 128
      · rw [if_pos h2]; simp
      · rw [if_neg h2]
        have hm : n * 128 + byt l i % 128 < 128 ^ (i + 1) := by rw [Nat.pow_succ]; omega
        have hle : (128 : Nat) ^ (i + 1) ≤ 128 ^ 9 := Nat.pow_le_pow_right (by omega) (by omega)
        by_cases h3 : most < ((n * 128 + byt l i % 128 : Nat) : Int)
        · rw [if_pos h3]; simp
        · rw [if_neg h3]
          by_cases h4 : byt l i < 128
          · rw [if_pos h4]
            exact ⟨by simp only []; omega, by simp only []; omega, by simp, by simp⟩
          · rw [if_neg h4]; exact ih (i + 1) _ hm (by omega)
/-- A reader's answers: what is read, its new place, its new code. -/
def rdG (s : List UInt8) (p : Nat) (c : Int) (most : Int) : Nat × Nat × Int :=
  if c ≠ 0 then (0, p, c)
  else if (rgo (s.drop p) most 9 0 0).2.2 ≠ 0 then (0, p, (rgo (s.drop p) most 9 0 0).2.2)
  else ((rgo (s.drop p) most 9 0 0).1, p + (rgo (s.drop p) most 9 0 0).2.1, 0)
def rdB (s : List UInt8) (p : Nat) (c : Int) (n : Int) : List UInt8 × Nat × Int :=
  if c ≠ 0 then ([], p, c)
  else if n < 0 then ([], p, 1)
  else if ((s.length - p : Nat) : Int) < n then ([], p, 10)
  else ((s.drop p).take n.toNat, p + n.toNat, 0)
def rdT (s : List UInt8) (p : Nat) (c : Int) (most : Int) : List UInt8 × Nat × Int :=
  if (rdG s p c most).2.2 ≠ 0 then ([], p, (rdG s p c most).2.2)
  else if s.length - (rdG s p c most).2.1 < (rdG s p c most).1 then ([], p, 10)
  else ((s.drop (rdG s p c most).2.1).take (rdG s p c most).1, (rdG s p c most).2.1 + (rdG s p c most).1, 0)
def rdW (s : List UInt8) (p : Nat) (c : Int) (w : Int) : Nat × Nat × Int :=
  if c ≠ 0 then (0, p, c)
  else if w < 1 ∨ 8 < w then (0, p, 1)
  else if ((s.length - p : Nat) : Int) < w then (0, p, 10)
  else if numOk ((s.drop p).take w.toNat) then (num ((s.drop p).take w.toNat), p + w.toNat, 0)
  else (0, p, 1)
def rdD (s : List UInt8) (p : Nat) (c : Int) : Int := if c ≠ 0 then c else if p < s.length then 3 else 0

/-- The code behind Refuse. -/
def newc (c d : Int) : Int := if c = 0 then d else c
theorem newc_zero (d : Int) : newc 0 d = d := rfl
theorem newc_not (c d : Int) (h : ¬ c = 0) : newc c d = c := by unfold newc; rw [if_neg h]
/-- What holds of a reader's state. -/
structure Ok (s : List UInt8) (p : Nat) (c : Int) : Prop where
  len : s.length ≤ 140737488351232
  at_ : p ≤ s.length
  lo : -9223372036854775808 ≤ c
  hi : c ≤ 9223372036854775807

theorem rgo_facts (s : List UInt8) (p : Nat) (most : Int) : (rgo (s.drop p) most 9 0 0).1 < 9223372036854775808 ∧ (rgo (s.drop p) most 9 0 0).2.1 ≤ s.length - p ∧ 0 ≤ (rgo (s.drop p) most 9 0 0).2.2 := by
  have h := rgo_bound (s.drop p) most 9 0 0 (by omega) (by omega)
  rw [List.length_drop] at h
  exact ⟨by have := h.1; omega, h.2.1, h.2.2.2⟩

theorem rdG_bad (s : List UInt8) (p : Nat) (c most : Int) (h : ¬ c = 0) : rdG s p c most = (0, p, c) := by unfold rdG; rw [if_pos h]
theorem rdG_no (s : List UInt8) (p : Nat) (most : Int) (h : ¬ (rgo (s.drop p) most 9 0 0).2.2 = 0) : rdG s p 0 most = (0, p, (rgo (s.drop p) most 9 0 0).2.2) := by unfold rdG; rw [if_neg (by simp), if_pos h]
theorem rdG_yes (s : List UInt8) (p : Nat) (most : Int) (h : (rgo (s.drop p) most 9 0 0).2.2 = 0) : rdG s p 0 most = ((rgo (s.drop p) most 9 0 0).1, p + (rgo (s.drop p) most 9 0 0).2.1, 0) := by unfold rdG; rw [if_neg (by simp), if_neg (by simp [h])]
theorem rdG_d (s : List UInt8) (p : Nat) (c most : Int) (h : ¬ newc c (rgo (s.drop p) most 9 0 0).2.2 = 0) : rdG s p c most = (0, p, newc c (rgo (s.drop p) most 9 0 0).2.2) := by
  by_cases hc : c = 0
  · subst hc; rw [newc_zero] at *; exact rdG_no s p most h
  · rw [newc_not _ _ hc] at *; exact rdG_bad s p c most hc
theorem rdG_0 (s : List UInt8) (p : Nat) (c most : Int) (h : newc c (rgo (s.drop p) most 9 0 0).2.2 = 0) : rdG s p c most = ((rgo (s.drop p) most 9 0 0).1, p + (rgo (s.drop p) most 9 0 0).2.1, 0) := by
  by_cases hc : c = 0
  · subst hc; rw [newc_zero] at *; exact rdG_yes s p most h
  · rw [newc_not _ _ hc] at *; exact absurd h hc
theorem rgo_code (l : List UInt8) (most : Int) : ∀ (f i n : Nat), (rgo l most f i n).2.2 ≤ 10 := by
  intro f
  induction f with
  | zero => intro i n; simp [rgo]
  | succ f ih =>
    intro i n
    unfold rgo
    split
    · simp
    · split
      · simp
      · split
        · simp
        · split
          · simp
          · exact ih _ _
theorem rdG_ok (s : List UInt8) (p : Nat) (c most : Int) (h : Ok s p c) : Ok s (rdG s p c most).2.1 (rdG s p c most).2.2 ∧ (rdG s p c most).1 < 9223372036854775808 ∧ p ≤ (rdG s p c most).2.1 := by
  have hf := rgo_facts s p most
  have hc := rgo_code (s.drop p) most 9 0 0
  by_cases h0 : c = 0
  · subst h0
    by_cases h1 : (rgo (s.drop p) most 9 0 0).2.2 = 0
    · rw [rdG_yes s p most h1]; exact ⟨⟨h.len, by have := h.at_; simp only []; omega, by simp, by simp⟩, hf.1, by simp only []; omega⟩
    · rw [rdG_no s p most h1]; exact ⟨⟨h.len, h.at_, by simp only []; omega, by simp only []; omega⟩, by simp, by simp⟩
  · rw [rdG_bad s p c most h0]; exact ⟨h, by simp, by simp⟩
/-- What told answers, and the code behind it. -/
def toldN (n : Int) : Nat := n.toNat
def toldC (c n : Int) : Int := if n < 0 then newc c 1 else c
/-- What sized answers behind a length k, the place then p1, the code c1. -/
def szR (s : List UInt8) (p k p1 : Nat) (c1 : Int) : List UInt8 × Nat × Int :=
  if c1 ≠ 0 then ([], p, c1) else if s.length - p1 < k then ([], p, 10) else ((s.drop p1).take k, p1 + k, 0)
theorem szR_bad (s : List UInt8) (p k p1 : Nat) (c1 : Int) (h : ¬ c1 = 0) : szR s p k p1 c1 = ([], p, c1) := by unfold szR; rw [if_pos h]
theorem szR_end (s : List UInt8) (p k p1 : Nat) (h : s.length - p1 < k) : szR s p k p1 0 = ([], p, 10) := by unfold szR; rw [if_neg (by simp), if_pos h]
theorem szR_yes (s : List UInt8) (p k p1 : Nat) (h : ¬ s.length - p1 < k) : szR s p k p1 0 = ((s.drop p1).take k, p1 + k, 0) := by unfold szR; rw [if_neg (by simp), if_neg h]
theorem rdT_sz (s : List UInt8) (p : Nat) (c most : Int) : rdT s p c most = szR s p (rdG s p c most).1 (rdG s p c most).2.1 (rdG s p c most).2.2 := rfl
theorem rdB_sz (s : List UInt8) (p : Nat) (c n : Int) : rdB s p c n = szR s p (toldN n) p (toldC c n) := by
  by_cases hc : c = 0
  · subst hc
    by_cases hn : n < 0
    · simp [rdB, szR, toldC, hn, newc]
    · have e : n.toNat = toldN n := rfl
      by_cases hl : s.length - p < toldN n
      · have hl' : ((s.length - p : Nat) : Int) < n := by unfold toldN at hl; omega
        simp only [rdB, szR, toldC, if_neg hn, if_pos hl, if_pos hl', ne_eq, not_true_eq_false, if_false]
      · have hl' : ¬ ((s.length - p : Nat) : Int) < n := by unfold toldN at hl; omega
        simp only [rdB, szR, toldC, if_neg hn, if_neg hl, if_neg hl', ne_eq, not_true_eq_false, if_false, e]
  · have : toldC c n = c := by unfold toldC; split; exact newc_not _ _ hc; rfl
    rw [this, szR_bad _ _ _ _ _ hc]; unfold rdB; rw [if_pos hc]
theorem rdB_ok (s : List UInt8) (p : Nat) (c n : Int) (h : Ok s p c) : Ok s (rdB s p c n).2.1 (rdB s p c n).2.2 := by
  have h1 := h.at_
  unfold rdB
  split
  · exact h
  · split
    · exact ⟨h.len, h1, by simp, by simp⟩
    · split
      · exact ⟨h.len, h1, by simp, by simp⟩
      · exact ⟨h.len, by simp only []; omega, by simp, by simp⟩
theorem num_bad_ge (l : List UInt8) (h : numOk l = false) : 9223372036854775808 ≤ num l ∧ num l < 18446744073709551616 := by
  simp only [numOk, Bool.not_eq_false', Bool.and_eq_true, beq_iff_eq, decide_eq_true_eq] at h
  obtain ⟨h8, hb⟩ := h
  rcases l with _ | ⟨b, l⟩
  · simp at h8
  · have hb' : byt (b :: l) 0 = b.toNat := by simp [byt]
    simp only [List.length_cons] at h8
    obtain h7 : l.length = 7 := by omega
    rw [hb'] at hb
    have h1 := num_lt (b :: l)
    rw [List.length_cons, h7] at h1
    have h3 := num_cons b l
    rw [h7] at h3
    have h2 : 128 * 256 ^ 7 ≤ b.toNat * 256 ^ 7 := Nat.mul_le_mul_right _ hb
    exact ⟨by omega, by omega⟩
theorem num_take_lt (l : List UInt8) (i : Nat) (h : l.length ≤ 8) (hi : i < l.length) : num (l.take i) < 72057594037927936 := by
  have h1 := num_lt (l.take i)
  rw [List.length_take] at h1
  have h2 : (256 : Nat) ^ (min i l.length) ≤ 256 ^ 7 := Nat.pow_le_pow_right (by omega) (by omega)
  omega
theorem rdB_len (s : List UInt8) (p : Nat) (c n : Int) (h : n ≤ 8) : (rdB s p c n).1.length ≤ 8 := by
  unfold rdB
  split
  · simp
  · split
    · simp
    · split
      · simp
      · simp only [List.length_take]; omega
theorem rdW_in (s : List UInt8) (p : Nat) (c w : Int) (h : w < 1 ∨ 8 < w) : rdW s p c w = (0, p, newc c 1) := by
  unfold rdW
  by_cases hc : c = 0
  · subst hc; rw [if_neg (by simp), if_pos h, newc_zero]
  · rw [if_pos hc, newc_not _ _ hc]
theorem rdW_yes (s : List UInt8) (p : Nat) (c w : Int) (h1 : 1 ≤ w) (h8 : w ≤ 8) (hk : numOk (rdB s p c w).1 = true) : rdW s p c w = (num (rdB s p c w).1, (rdB s p c w).2.1, (rdB s p c w).2.2) := by
  have e : ¬ (w < 1 ∨ 8 < w) := by omega
  have e2 : ¬ w < 0 := by omega
  unfold rdW rdB at *
  by_cases hc : c = 0
  · subst hc
    simp only [ne_eq, not_true_eq_false, if_false, if_neg e, if_neg e2] at *
    by_cases hl : ((s.length - p : Nat) : Int) < w
    · simp only [if_pos hl]; simp [num]
    · simp only [if_neg hl] at *; rw [if_pos hk]
  · rw [if_pos hc, if_pos hc]; simp [num]
theorem rdW_not (s : List UInt8) (p : Nat) (c w : Int) (h1 : 1 ≤ w) (h8 : w ≤ 8) (hk : numOk (rdB s p c w).1 = false) : rdW s p c w = (0, p, newc (rdB s p c w).2.2 1) := by
  have e : ¬ (w < 1 ∨ 8 < w) := by omega
  have e2 : ¬ w < 0 := by omega
  unfold rdW rdB at *
  by_cases hc : c = 0
  · subst hc
    simp only [ne_eq, not_true_eq_false, if_false, if_neg e, if_neg e2] at *
    by_cases hl : ((s.length - p : Nat) : Int) < w
    · simp only [if_pos hl] at hk; simp [numOk] at hk
    · simp only [if_neg hl] at *; rw [if_neg (by simp [hk]), newc_zero]
  · rw [if_pos hc] at hk; simp [numOk] at hk
theorem rdW_ok (s : List UInt8) (p : Nat) (c w : Int) (h : Ok s p c) : Ok s (rdW s p c w).2.1 (rdW s p c w).2.2 := by
  have h1 := h.at_
  unfold rdW
  split
  · exact h
  · split
    · exact ⟨h.len, h1, by simp, by simp⟩
    · split
      · exact ⟨h.len, h1, by simp, by simp⟩
      · split
        · exact ⟨h.len, by simp only []; omega, by simp, by simp⟩
        · exact ⟨h.len, h1, by simp, by simp⟩
theorem szR_ok (s : List UInt8) (p k p1 : Nat) (c c1 : Int) (h : Ok s p c) (h1 : Ok s p1 c1) : Ok s (szR s p k p1 c1).2.1 (szR s p k p1 c1).2.2 := by
  have h2 := h1.at_
  unfold szR
  split
  · exact ⟨h.len, h.at_, h1.lo, h1.hi⟩
  · split
    · exact ⟨h.len, h.at_, by simp, by simp⟩
    · exact ⟨h.len, by simp only []; omega, by simp, by simp⟩
theorem rdT_ok (s : List UInt8) (p : Nat) (c most : Int) (h : Ok s p c) : Ok s (rdT s p c most).2.1 (rdT s p c most).2.2 := by
  rw [rdT_sz]; exact szR_ok s p _ _ c _ h (rdG_ok s p c most h).1
theorem byt_drop (s : List UInt8) (p i : Nat) : byt (s.drop p) i = byt s (p + i) := by simp [byt]
theorem rdG_of_no {s : List UInt8} {p : Nat} {most d : Int} (h : rgo (s.drop p) most 9 0 0 = (0, 0, d)) (hd : ¬ d = 0) : rdG s p 0 most = (0, p, d) := by
  rw [rdG_no s p most (by rw [h]; exact hd), h]
theorem rdG_of_yes {s : List UInt8} {p n k : Nat} {most : Int} (h : rgo (s.drop p) most 9 0 0 = (n, k, 0)) : rdG s p 0 most = (n, p + k, 0) := by
  rw [rdG_yes s p most (by rw [h]), h]
theorem rdB_bad (s : List UInt8) (p : Nat) (c n : Int) (h : ¬ c = 0) : rdB s p c n = ([], p, c) := by unfold rdB; rw [if_pos h]
theorem rdB_neg (s : List UInt8) (p : Nat) (n : Int) (h : n < 0) : rdB s p 0 n = ([], p, 1) := by unfold rdB; rw [if_neg (by simp), if_pos h]
theorem rdB_end (s : List UInt8) (p k : Nat) (h : s.length - p < k) : rdB s p 0 k = ([], p, 10) := by unfold rdB; rw [if_neg (by simp), if_neg (by omega), if_pos (by omega)]
theorem rdB_yes (s : List UInt8) (p k : Nat) (h : ¬ s.length - p < k) : rdB s p 0 k = ((s.drop p).take k, p + k, 0) := by
  unfold rdB; rw [if_neg (by simp), if_neg (by omega), if_neg (by omega)]; simp
/-- Text as the document has it: Groups, then Bytes; where that is refused, the place is as it was. -/
theorem szR_rdB (s : List UInt8) (p k p1 : Nat) (c1 : Int) : (szR s p k p1 c1).1 = (rdB s p1 c1 k).1 ∧ (szR s p k p1 c1).2.2 = (rdB s p1 c1 k).2.2 ∧
    ((rdB s p1 c1 k).2.2 = 0 → (szR s p k p1 c1).2.1 = (rdB s p1 c1 k).2.1) ∧ (¬ (rdB s p1 c1 k).2.2 = 0 → (szR s p k p1 c1).2.1 = p) := by
  by_cases hc : c1 = 0
  · subst hc
    by_cases hl : s.length - p1 < k
    · rw [szR_end s p k p1 hl, rdB_end s p1 k hl]; simp
    · rw [szR_yes s p k p1 hl, rdB_yes s p1 k hl]; simp
  · rw [szR_bad s p k p1 c1 hc, rdB_bad s p1 c1 k hc]; simp [hc]
theorem rdW_bad (s : List UInt8) (p : Nat) (c w : Int) (h : ¬ c = 0) : rdW s p c w = (0, p, c) := by unfold rdW; rw [if_pos h]
theorem rdW_end (s : List UInt8) (p k : Nat) (h1 : 1 ≤ k) (h8 : k ≤ 8) (h : s.length - p < k) : rdW s p 0 k = (0, p, 10) := by
  unfold rdW; rw [if_neg (by simp), if_neg (by omega), if_pos (by omega)]
theorem rdW_num (s : List UInt8) (p k : Nat) (h1 : 1 ≤ k) (h8 : k ≤ 8) (h : ¬ s.length - p < k) : rdW s p 0 k = if numOk ((s.drop p).take k) then (num ((s.drop p).take k), p + k, 0) else (0, p, 1) := by
  unfold rdW; rw [if_neg (by simp), if_neg (by omega), if_neg (by omega)]; simp
end P1
end Go.Proofs.YtmdibafofdghgaaGreatDoor
/- ber's own ways, plain: an element by a reader; the stack of the elements that are open. Of no program. -/
namespace Go.Proofs.YtmdibafofdghgaaGreatDoor
open K P1
namespace B5

/-! ### An element, by a reader -/
/-- A length by a reader, that stands at p, with the code c. -/
def lenR (s : List UInt8) (p : Nat) (c : Int) : Nat × Nat × Int :=
  if (rdW s p c 1).1 < 128 then rdW s p c 1
  else rdW s (rdW s p c 1).2.1 (if 132 < (rdW s p c 1).1 then newc (rdW s p c 1).2.2 50 else (rdW s p c 1).2.2) (((rdW s p c 1).1 : Int) - 128)
def rA (s : List UInt8) : Nat × Nat × Int := rdW s 0 0 1
def rL (s : List UInt8) : Nat × Nat × Int := lenR s (rA s).2.1 (rA s).2.2
def rBd (s : List UInt8) : List UInt8 × Nat × Int := rdB s (rL s).2.1 (rL s).2.2 (rL s).1
theorem byt_dropN (l : List UInt8) (a i : Nat) : byt (l.drop a) i = byt l (a + i) := by simp [byt]
theorem rdW_one (s : List UInt8) (p : Nat) (h : p < s.length) : rdW s p 0 1 = (byt s p, p + 1, 0) := by
  have e : (s.drop p).take 1 = [s[p]] := by rw [List.drop_eq_getElem_cons h]; rfl
  have hb : byt s p = (s[p]).toNat := byt_get s p h
  unfold rdW
  rw [if_neg (by simp), if_neg (by omega), if_neg (by omega), show (1 : Int).toNat = 1 from rfl, e, if_pos (by simp [numOk]), hb]
  simp [num]
theorem rdW_late (s : List UInt8) (p : Nat) (h : s.length ≤ p) : rdW s p 0 1 = (0, p, 10) := by
  unfold rdW
  rw [if_neg (by simp), if_neg (by omega), if_pos (by omega)]
theorem rdW_off (s : List UInt8) (p : Nat) (c w : Int) (h : c ≠ 0) : rdW s p c w = (0, p, c) := by
  unfold rdW; rw [if_pos h]
theorem rdW_some (s : List UInt8) (p k : Nat) (h1 : 1 ≤ k) (h4 : k ≤ 4) (h : k ≤ s.length - p) : rdW s p 0 (k : Int) = (num ((s.drop p).take k), p + k, 0) := by
  unfold rdW
  rw [if_neg (by simp), if_neg (by omega), if_neg (by omega), Int.toNat_natCast, if_pos]
  have : ((s.drop p).take k).length ≤ 4 := by rw [List.length_take]; omega
  unfold numOk
  have h8 : (((s.drop p).take k).length == 8) = false := by rw [beq_eq_false_iff_ne]; omega
  rw [h8]; rfl
theorem rdW_few (s : List UInt8) (p k : Nat) (h1 : 1 ≤ k) (h4 : k ≤ 4) (h : s.length - p < k) : rdW s p 0 (k : Int) = (0, p, 10) := by
  unfold rdW
  rw [if_neg (by simp), if_neg (by omega), if_pos (by omega)]
theorem lOk_no {l : List UInt8} (h : ¬ (l ≠ [] ∧ (byt l 0 < 128 ∨ (129 ≤ byt l 0 ∧ byt l 0 ≤ 132 ∧ lK l ≤ l.length)))) : lOk l = false := by
  rw [← Bool.not_eq_true, lOk_iff]; exact h
theorem lenR_all (s : List UInt8) (hs : s ≠ []) : (lOk (s.drop 1) = true ∧ lenR s 1 0 = (lV (s.drop 1), 1 + lK (s.drop 1), 0)) ∨ (lOk (s.drop 1) = false ∧ (lenR s 1 0).2.2 ≠ 0) := by
  have hp := List.length_pos_iff.2 hs
  have hdl : (s.drop 1).length = s.length - 1 := List.length_drop
  by_cases h1 : s.length ≤ 1
  · right
    have hnil : s.drop 1 = [] := List.drop_eq_nil_of_le h1
    refine ⟨lOk_no (by rw [hnil]; simp), ?_⟩
    unfold lenR
    rw [rdW_late s 1 h1, if_pos (by simp)]; simp
  · have hb := byt_dropN s 1 0
    rw [Nat.add_zero] at hb
    have hne : s.drop 1 ≠ [] := by intro h; rw [h] at hdl; simp at hdl; omega
    have hW : rdW s 1 0 1 = (byt s 1, 2, 0) := rdW_one s 1 (by omega)
    have hlt := byt_lt s 1
    by_cases h2 : byt s 1 < 128
    · left
      refine ⟨(lOk_iff _).2 ⟨hne, .inl (by rw [hb]; exact h2)⟩, ?_⟩
      unfold lenR lV lK
      rw [hW, if_pos h2, hb, if_pos h2, if_pos h2]
    · have hK : lK (s.drop 1) = 1 + (byt s 1 - 128) := by unfold lK; rw [hb, if_neg h2]
      have hV : lV (s.drop 1) = num ((s.drop 2).take (byt s 1 - 128)) := by unfold lV; rw [hb, if_neg h2, List.drop_drop]
      have hL : lenR s 1 0 = rdW s 2 (if 132 < byt s 1 then 50 else 0) ((byt s 1 : Int) - 128) := by
        unfold lenR
        rw [hW, if_neg h2, newc_zero]
      rw [hL]
      by_cases h3 : 132 < byt s 1
      · right
        refine ⟨lOk_no ?_, ?_⟩
        · rw [hb]; omega
        · rw [if_pos h3, rdW_off _ _ _ _ (by omega)]; simp
      · rw [if_neg h3]
        by_cases h4 : byt s 1 = 128
        · right
          refine ⟨lOk_no (by rw [hb]; omega), ?_⟩
          rw [h4, rdW_in s 2 0 _ (.inl (by omega)), newc_zero]; simp
        · have hk : ((byt s 1 : Nat) : Int) - 128 = ((byt s 1 - 128 : Nat) : Int) := by omega
          rw [hk]
          by_cases h5 : byt s 1 - 128 ≤ s.length - 2
          · left
            refine ⟨(lOk_iff _).2 ⟨hne, .inr ⟨by rw [hb]; omega, by rw [hb]; omega, by rw [hK, hdl]; omega⟩⟩, ?_⟩
            rw [rdW_some s 2 _ (by omega) (by omega) h5, hV, hK, show 1 + (1 + (byt s 1 - 128)) = 2 + (byt s 1 - 128) by omega]
          · right
            refine ⟨lOk_no ?_, ?_⟩
            · rw [hK, hdl, hb]; omega
            · rw [rdW_few s 2 _ (by omega) (by omega) (by omega)]; simp
/-- What the reader comes to, is the element; or it is refused. -/
theorem nxr_all (s : List UInt8) : (nxOk s = true ∧ (rA s).1 = nxT s ∧ isTag (rA s).1 = true ∧ (rA s).1 < 256 ∧ (rBd s).1 = nxB s ∧ (rBd s).2.2 = 0 ∧ s.drop (rBd s).2.1 = nxR s ∧ (rBd s).2.1 ≤ s.length) ∨
    (nxOk s = false ∧ (rA s).1 < 256 ∧ ((rBd s).2.2 ≠ 0 ∨ ((rBd s).2.2 = 0 ∧ isTag (rA s).1 = false))) := by
  by_cases h0 : s = []
  · subst h0
    right; exact ⟨rfl, by decide, .inl (by decide)⟩
  · have hp := List.length_pos_iff.2 h0
    have hA : rA s = (byt s 0, 1, 0) := rdW_one s 0 hp
    have hlt := byt_lt s 0
    have hL : rL s = lenR s 1 0 := by unfold rL; rw [hA]
    rcases lenR_all s h0 with ⟨h1, h2⟩ | ⟨h1, h2⟩
    · obtain ⟨g1, g2, g3, g4, g5⟩ := len_of h1
      rw [List.length_drop] at g3
      have hB : rBd s = if ((s.length - (1 + lK (s.drop 1)) : Nat) : Int) < (lV (s.drop 1) : Nat) then ([], 1 + lK (s.drop 1), 10) else ((s.drop (1 + lK (s.drop 1))).take (lV (s.drop 1)), 1 + lK (s.drop 1) + lV (s.drop 1), 0) := by
        unfold rBd
        rw [hL, h2]
        show rdB s (1 + lK (s.drop 1)) 0 (lV (s.drop 1) : Nat) = _
        unfold rdB
        rw [if_neg (by simp), if_neg (by omega), Int.toNat_natCast]
      by_cases h3 : 1 + lK (s.drop 1) + lV (s.drop 1) ≤ s.length
      · rw [if_neg (by omega)] at hB
        by_cases h4 : isTag (byt s 0) = true
        · left
          refine ⟨(nxOk_iff s).2 ⟨h0, h4, h1, h3⟩, ?_⟩
          rw [hA, hB]
          exact ⟨rfl, h4, hlt, rfl, rfl, rfl, h3⟩
        · right
          refine ⟨by rw [← Bool.not_eq_true, nxOk_iff]; exact fun h => h4 h.2.1, ?_⟩
          rw [hA, hB]
          exact ⟨hlt, .inr ⟨rfl, by simpa using h4⟩⟩
      · rw [if_pos (by omega)] at hB
        right
        refine ⟨by rw [← Bool.not_eq_true, nxOk_iff]; exact fun h => h3 h.2.2.2, ?_⟩
        rw [hA, hB]
        exact ⟨hlt, .inl (by simp)⟩
    · right
      refine ⟨(by rw [← Bool.not_eq_true, nxOk_iff]; exact fun h => absurd h.2.2.1 (by rw [h1]; simp)), (by rw [hA]; exact hlt), .inl ?_⟩
      unfold rBd
      rw [hL]
      generalize lenR s 1 0 = q at h2 ⊢
      unfold rdB
      rw [if_pos h2]; exact h2
/-- What is answered of the element at the beginning. -/
def nxE (s : List UInt8) : Nat := if nxOk s then 0 else 50
def nxQ (s : List UInt8) : Nat × List UInt8 × List UInt8 := if nxOk s then (nxT s, nxB s, nxR s) else (0, [], [])

/-! ### The elements that are open -/
def pts (l : List UInt8) : List UInt8 := if isMade (nxT l) then nxB l else []
/-- What is left of those that are open, the innermost first; how deep it went: what it comes to. -/
def run : List (List UInt8) → Nat → Except Nat Nat
  | [], d => .ok d
  | x :: r, d => match prs (r.length + 2) x with
    | .error e => .error e
    | .ok f => run r (max d (r.length + 1 + f.dep))
theorem run_pop (r : List (List UInt8)) (d : Nat) (h : r.length + 1 ≤ d) : run ([] :: r) d = run r d := by
  show (match prs (r.length + 2) [] with | .error e => (.error e : Except Nat Nat) | .ok f => run r (max d (r.length + 1 + f.dep))) = _
  rw [prs_nil]
  show run r (max d (r.length + 1 + 0)) = _
  rw [Nat.max_eq_left (by omega)]
theorem run_bad (x : List UInt8) (r : List (List UInt8)) (d : Nat) (h : x ≠ []) (hx : nxOk x = false) : run (x :: r) d = .error 50 := by
  unfold run; rw [prs_step h, if_pos hx]
theorem run_deep (x : List UInt8) (r : List (List UInt8)) (d : Nat) (hx : nxOk x = true) (hr : 31 ≤ r.length) : run (x :: r) d = .error 51 := by
  unfold run; rw [prs_step (nxOk_ne hx), if_neg (by rw [hx]; simp), if_pos (by omega)]
theorem run_push (x : List UInt8) (r : List (List UInt8)) (d : Nat) (hx : nxOk x = true) (hr : r.length < 31) : run (x :: r) d = run (pts x :: nxR x :: r) (max d (r.length + 2)) := by
  conv => lhs; unfold run
  rw [prs_step (nxOk_ne hx), if_neg (by rw [hx]; simp), if_neg (by omega)]
  unfold pts
  by_cases hm : isMade (nxT x) = true
  · rw [if_pos hm, if_pos hm]
    conv => rhs; unfold run
    rw [List.length_cons, show r.length + 1 + 2 = r.length + 2 + 1 by omega]
    cases prs (r.length + 2 + 1) (nxB x) with
    | error e => rfl
    | ok cs =>
      show (match (match prs (r.length + 2) (nxR x) with | .error e => .error e | .ok r' => .ok (.node (nxT x) cs r') : Except Nat Fo) with | .error e => (.error e : Except Nat Nat) | .ok f => run r (max d (r.length + 1 + f.dep))) = run (nxR x :: r) (max (max d (r.length + 2)) (r.length + 1 + 1 + cs.dep))
      conv => rhs; unfold run
      cases prs (r.length + 2) (nxR x) with
      | error e => rfl
      | ok f =>
        show run r (max d (r.length + 1 + (Fo.node (nxT x) cs f).dep)) = run r (max (max (max d (r.length + 2)) (r.length + 1 + 1 + cs.dep)) (r.length + 1 + f.dep))
        rw [Fo.dep_node]
        congr 1; omega
  · rw [if_neg hm, if_neg hm]
    conv => rhs; unfold run
    rw [prs_nil]
    show (match (match prs (r.length + 2) (nxR x) with | .error e => .error e | .ok r' => .ok (.leaf (nxT x) (nxB x) r') : Except Nat Fo) with | .error e => (.error e : Except Nat Nat) | .ok f => run r (max d (r.length + 1 + f.dep))) = run (nxR x :: r) (max (max d (r.length + 2)) (r.length + 1 + 1 + 0))
    conv => rhs; unfold run
    cases prs (r.length + 2) (nxR x) with
    | error e => rfl
    | ok f =>
      show run r (max d (r.length + 1 + (Fo.leaf (nxT x) (nxB x) f).dep)) = run r (max (max (max d (r.length + 2)) (r.length + 1 + 1 + 0)) (r.length + 1 + f.dep))
      rw [Fo.dep_leaf]
      congr 1; omega
theorem run_wh {l : List UInt8} : (∃ e, hd1 l = .error e ∧ run [pts l] 1 = .error e) ∨ ∃ f, hd1 l = .ok f ∧ run [pts l] 1 = .ok f.dep := by
  unfold hd1 pts
  by_cases hm : isMade (nxT l) = true
  · rw [if_pos hm, if_pos hm]
    unfold run
    show (∃ e, _ ∧ (match prs 2 (nxB l) with | .error e => (.error e : Except Nat Nat) | .ok f => run [] (max 1 (1 + f.dep))) = _) ∨ ∃ f, _ ∧ (match prs 2 (nxB l) with | .error e => (.error e : Except Nat Nat) | .ok f => run [] (max 1 (1 + f.dep))) = _
    cases prs 2 (nxB l) with
    | error e => exact .inl ⟨e, rfl, rfl⟩
    | ok cs =>
      refine .inr ⟨_, rfl, ?_⟩
      show Except.ok (max 1 (1 + cs.dep)) = _
      rw [Fo.dep_node, show max 1 (1 + cs.dep) = max (cs.dep + 1) Fo.nil.dep by simp [Fo.dep]; omega]
  · rw [if_neg hm, if_neg hm]
    exact .inr ⟨_, rfl, rfl⟩
theorem deep_no {l : List UInt8} (h : nxOk l = false) : whE l = 50 ∧ whD l = 0 := by
  have : wh l = .error 50 := by unfold wh; rw [if_pos h]
  obtain ⟨a, b, _⟩ := wh_bad this
  exact ⟨a, b⟩
theorem deep_err {l : List UInt8} {e : Nat} (h : nxOk l = true) (hr : run [pts l] 1 = .error e) : whE l = e ∧ whD l = 0 := by
  have : wh l = .error e := by
    unfold wh; rw [if_neg (by rw [h]; simp)]
    rcases @run_wh l with ⟨e', h1, h2⟩ | ⟨f, h1, h2⟩
    · rw [h2] at hr; cases hr; rw [h1]
    · rw [h2] at hr; cases hr
  obtain ⟨a, b, _⟩ := wh_bad this
  exact ⟨a, b⟩
theorem deep_ok {l : List UInt8} {d : Nat} (h : nxOk l = true) (hr : run [pts l] 1 = .ok d) : (nxR l = [] → whE l = 0 ∧ whD l = d) ∧ (nxR l ≠ [] → whE l = 50 ∧ whD l = 0) := by
  rcases @run_wh l with ⟨e', h1, h2⟩ | ⟨f, h1, h2⟩
  · rw [h2] at hr; cases hr
  · rw [h2] at hr
    cases hr
    constructor
    · intro hn
      have : wh l = .ok f := by unfold wh; rw [if_neg (by rw [h]; simp), h1]; simp [hn]
      obtain ⟨a, b, _⟩ := wh_ok this
      exact ⟨a, b⟩
    · intro hn
      have : wh l = .error 50 := by unfold wh; rw [if_neg (by rw [h]; simp), h1]; simp [hn]
      obtain ⟨a, b, _⟩ := wh_bad this
      exact ⟨a, b⟩
/-- What is left, that each step makes less. -/
def left : List (List UInt8) → Nat
  | [] => 0
  | x :: r => x.length + 1 + left r
theorem left_push (x : List UInt8) (r : List (List UInt8)) (hx : nxOk x = true) : left (pts x :: nxR x :: r) < left (x :: r) := by
  obtain ⟨_, _, _, _, h5⟩ := nx_of hx
  have : (pts x).length ≤ (nxB x).length := by
    unfold pts; by_cases hm : isMade (nxT x) = true
    · rw [if_pos hm]; exact Nat.le_refl _
    · rw [if_neg hm]; exact Nat.zero_le _
  simp only [left]; omega
end B5
end Go.Proofs.YtmdibafofdghgaaGreatDoor
/- A reader in a block: its bytes, its place, its code. Of no program. -/
namespace Go.Proofs.YtmdibafofdghgaaGreatDoor
open Go.RowKit P1 K
/-- A reader in block b: its bytes, its place, its code. -/
def Rdr (w : World) (b T : Nat) (s : List UInt8) (p : Nat) (c : Int) : Prop := w.heap[b]? = some (.cells #[.string (bs s), .int .i64 p, .int .i64 c] T (0, 0))
theorem Rdr.cells {w : World} {b T : Nat} {s : List UInt8} {p : Nat} {c : Int} (h : Rdr w b T s p c) :
    w.cell? ⟨b, 0, none⟩ = some (.string (bs s)) ∧ w.cell? ⟨b, 1, none⟩ = some (.int .i64 p) ∧ w.cell? ⟨b, 2, none⟩ = some (.int .i64 c) ∧ w.frozen? ⟨b, 1, none⟩ = false ∧ w.frozen? ⟨b, 2, none⟩ = false :=
  ⟨cellRow h 0, cellRow h 1, cellRow h 2, freeRow h 1, freeRow h 2⟩
theorem Rdr.setP {w : World} {b T : Nat} {s : List UInt8} {p : Nat} {c : Int} (h : Rdr w b T s p c) (q : Nat) : Rdr (w.setCell ⟨b, 1, none⟩ (.int .i64 q)) b T s q c := by
  have := rowSet h 1 (.int .i64 q); simpa [Rdr] using this
theorem Rdr.setC {w : World} {b T : Nat} {s : List UInt8} {p : Nat} {c : Int} (h : Rdr w b T s p c) (d : Int) : Rdr (w.setCell ⟨b, 2, none⟩ (.int .i64 d)) b T s p d := by
  have := rowSet h 2 (.int .i64 d); simpa [Rdr] using this

theorem Rdr.setPN {w : World} {b T : Nat} {s : List UInt8} {p : Nat} {c : Int} (h : Rdr w b T s p c) (n q : Nat) (x : Int) (hx : x = (q : Nat)) : Rdr ((w.drewN n).setCell ⟨b, 1, none⟩ (.int .i64 x)) b T s q c := by
  subst hx; exact (show Rdr (w.drewN n) b T s p c from h).setP q

end Go.Proofs.YtmdibafofdghgaaGreatDoor
