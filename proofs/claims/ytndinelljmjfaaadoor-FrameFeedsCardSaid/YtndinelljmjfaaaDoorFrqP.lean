/- The program's framer, plainly: what it waits for, and the stream that it holds. Of no program. -/
import Derived.Test.YtndinelljmjfaaaDoorFrmR
namespace Go.Proofs.YtndinelljmjfaaaDoor
open K
set_option linter.unusedVariables false
namespace F12
/-- Digits read on from n. -/
def dg : List UInt8 → Nat → Nat
  | [], n => n
  | c :: r, n => dg r (n * 10 + (c.toNat - 48))
theorem hd_more (most : Nat) : ∀ (s : List UInt8) (n i : Nat), n ≤ most → hd most s n i = .more → dg s n ≤ most ∧ ∀ c, hd most (s ++ c) n i = hd most c (dg s n) (i + s.length)
  | [], n, i, hn, _ => ⟨hn, fun c => rfl⟩
  | b :: s, n, i, hn, h => by
    unfold hd at h
    split at h
    · cases h
    · split at h
      · cases h
      · split at h
        · cases h
        · rename_i h1 h2 h3
          obtain ⟨i1, i2⟩ := hd_more most s _ _ (by omega) h
          refine ⟨i1, fun c => ?_⟩
          show hd most (b :: (s ++ c)) n i = _
          rw [hd, if_neg h1, if_neg h2, if_neg h3, i2 c]
          simp only [dg, List.length_cons]
          congr 1
          omega
theorem dg_pos : ∀ (s : List UInt8) (n : Nat), 0 < n → 0 < dg s n
  | [], n, h => h
  | b :: s, n, h => dg_pos s _ (by omega)
/-- The first digit is from 1 to 9. -/
def fst1 (s : List UInt8) : Prop := ∃ c r, s = c :: r ∧ 49 ≤ c.toNat ∧ c.toNat ≤ 57
theorem dg_fst {s : List UInt8} (h : fst1 s) (n : Nat) : 0 < dg s n := by
  obtain ⟨c, r, rfl, h1, h2⟩ := h
  exact dg_pos r _ (by omega)
theorem hd_num_pos (most : Nat) : ∀ (s : List UInt8) (n i m k : Nat) (r : List UInt8), (0 < n ∨ fst1 s) → n ≤ most → hd most s n i = .num m k r → 0 < m ∧ m ≤ most ∧ ∃ p, s = p ++ r ∧ k = i + p.length ∧ ∀ d, hd most (p ++ d) n i = .num m k d
  | [], _, _, _, _, _, _, _, h => by cases h
  | c :: s, n, i, m, k, r, hp, hn, h => by
    unfold hd at h
    split at h
    · rename_i h1
      injection h with e1 e2 e3
      subst e1; subst e2; subst e3
      refine ⟨?_, hn, [c], rfl, rfl, fun d => ?_⟩
      · rcases hp with hp | ⟨c', r', e, h2, h3⟩
        · exact hp
        · injection e with e _
          subst e
          rw [h1.1] at h2
          have : (32 : UInt8).toNat = 32 := rfl
          omega
      · show hd most (c :: ([] ++ d)) n i = _
        rw [hd, if_pos h1]; rfl
    · split at h
      · cases h
      · split at h
        · cases h
        · rename_i h1 h2 h3
          have hp2 : 0 < n * 10 + (c.toNat - 48) := by
            rcases hp with hp | ⟨c', r', e, h4, h5⟩
            · omega
            · injection e with e _
              subst e
              omega
          obtain ⟨j1, j2, p, rfl, j3, j4⟩ := hd_num_pos most s _ _ m k r (.inl hp2) (by omega) h
          refine ⟨j1, j2, c :: p, rfl, by simp only [List.length_cons]; omega, fun d => ?_⟩
          show hd most (c :: (p ++ d)) n i = _
          rw [hd, if_neg h1, if_neg h2, if_neg h3, j4 d]
/-- What a framer holds of a stream h: what it waits for, the number, how many bytes stand ahead of the message, and the message's. -/
def Ps (most : Nat) (h : List UInt8) (wt lg ah : Nat) (bt : List UInt8) : Prop :=
  (wt = 0 ∧ h = [] ∧ lg = 0 ∧ ah = 0 ∧ bt = []) ∨
  (wt = 1 ∧ bt = [] ∧ 0 < ah ∧ 0 < lg ∧ lg ≤ most ∧ h.length = ah ∧ ∀ c, hd most (h ++ c) 0 0 = hd most c lg ah) ∨
  (wt = 2 ∧ bt.length < lg ∧ lg ≤ most ∧ h.length = ah + bt.length ∧ ∀ c, hd most (h ++ c) 0 0 = .num lg ah (bt ++ c))
theorem Ps.len {most : Nat} {h : List UInt8} {wt lg ah : Nat} {bt : List UInt8} (p : Ps most h wt lg ah bt) : h.length = ah + bt.length ∧ lg ≤ most ∧ bt.length ≤ most := by
  rcases p with ⟨_, rfl, rfl, rfl, rfl⟩ | ⟨_, rfl, _, _, h2, h3, _⟩ | ⟨_, h1, h2, h3, _⟩
  · simp
  · simp; omega
  · exact ⟨h3, h2, by omega⟩
/-- It tells nothing more by itself. -/
theorem Ps.still {most : Nat} {h : List UInt8} {wt lg ah : Nat} {bt : List UInt8} (p : Ps most h wt lg ah bt) : feed most h = ([], some h) := by
  rcases p with ⟨_, rfl, _⟩ | ⟨_, rfl, _, _, _, _, h4⟩ | ⟨_, h1, _, _, h4⟩
  · exact feed_more rfl
  · have := h4 []
    rw [List.append_nil] at this
    exact feed_more this
  · have := h4 []
    rw [List.append_nil, List.append_nil] at this
    exact feed_short this (by omega)
/-- A first byte that is no digit from 1 on. -/
theorem bad_first {most : Nat} {c : List UInt8} (hc : c ≠ []) (h : ¬ fst1 c) : feed most c = ([], none) := by
  cases c with
  | nil => exact absurd rfl hc
  | cons b r =>
    refine feed_bad ?_
    have hb := b.toNat_lt
    rw [hd, if_neg (by omega)]
    have : b.toNat < 49 ∨ 57 < b.toNat := by
      rcases Nat.lt_or_ge b.toNat 49 with h1 | h1
      · exact .inl h1
      · rcases Nat.lt_or_ge 57 b.toNat with h2 | h2
        · exact .inr h2
        · exact absurd ⟨b, r, rfl, h1, h2⟩ h
    rw [if_pos]
    rcases this with h1 | h1
    · by_cases h2 : b.toNat = 48
      · exact .inr (.inr ⟨rfl, UInt8.toNat_inj.1 h2⟩)
      · refine .inl (UInt8.lt_iff_toNat_lt.2 ?_)
        have : (48 : UInt8).toNat = 48 := rfl
        omega
    · refine .inr (.inl (UInt8.lt_iff_toNat_lt.2 ?_))
      have : (57 : UInt8).toNat = 57 := rfl
      omega
/-- Ahead of the digits' end. -/
def Pd (most : Nat) (h : List UInt8) (lg ah : Nat) (c : List UInt8) : Prop := lg ≤ most ∧ h.length = ah ∧ (∀ d, hd most (h ++ d) 0 0 = hd most d lg ah) ∧ (0 < lg ∧ 0 < ah ∨ fst1 c)
theorem pd_of0 {most : Nat} {c : List UInt8} (h : fst1 c) : Pd most [] 0 0 c := ⟨by omega, rfl, fun _ => rfl, .inr h⟩
theorem pd_bad {most : Nat} {h : List UInt8} {lg ah : Nat} {c : List UInt8} (p : Pd most h lg ah c) (e : hd most c lg ah = .bad) : feed most (h ++ c) = ([], none) := by
  refine feed_bad ?_
  rw [p.2.2.1 c, e]
theorem pd_more {most : Nat} {h : List UInt8} {lg ah : Nat} {c : List UInt8} (p : Pd most h lg ah c) (e : hd most c lg ah = .more) : feed most (h ++ c) = ([], some (h ++ c)) ∧ Ps most (h ++ c) 1 (dg c lg) (ah + c.length) [] := by
  obtain ⟨p1, p2, p3, p4⟩ := p
  obtain ⟨q1, q2⟩ := hd_more most c lg ah p1 e
  refine ⟨feed_more (by rw [p3 c, e]), .inr (.inl ⟨rfl, rfl, ?_, ?_, q1, by rw [List.length_append, p2], fun d => by rw [List.append_assoc, p3, q2 d]⟩)⟩
  · rcases p4 with p4 | ⟨b, r, rfl, _⟩
    · omega
    · simp only [List.length_cons]; omega
  · rcases p4 with p4 | p4
    · exact dg_pos c _ p4.1
    · exact dg_fst p4 _
theorem pd_num {most : Nat} {h : List UInt8} {lg ah : Nat} {c : List UInt8} (p : Pd most h lg ah c) {m k : Nat} {r : List UInt8} (e : hd most c lg ah = .num m k r) : ∃ q, c = q ++ r ∧ k = ah + q.length ∧ Ps most (h ++ q) 2 m k [] := by
  obtain ⟨p1, p2, p3, p4⟩ := p
  have hp : 0 < lg ∨ fst1 c := by
    rcases p4 with p4 | p4
    · exact .inl p4.1
    · exact .inr p4
  obtain ⟨j1, j2, q, rfl, j3, j4⟩ := hd_num_pos most c lg ah m k r hp p1 e
  exact ⟨q, rfl, j3, .inr (.inr ⟨rfl, j1, j2, by rw [List.length_append, p2]; simp; omega, fun d => by rw [List.append_assoc, p3, j4 d]; rfl⟩)⟩
/-- A message's bytes that come, some or all. -/
theorem take_all {most : Nat} {h : List UInt8} {lg ah : Nat} {bt r : List UInt8} (p : Ps most h 2 lg ah bt) (hl : lg ≤ bt.length + r.length) :
    feed most (h ++ r) = ((bt ++ r.take (lg - bt.length)) :: (feed most (r.drop (lg - bt.length))).1, (feed most (r.drop (lg - bt.length))).2) ∧ (bt ++ r.take (lg - bt.length)).length = lg := by
  rcases p with ⟨h0, _⟩ | ⟨h0, _⟩ | ⟨_, h1, h2, h3, h4⟩
  · omega
  · omega
  · have e1 : (bt ++ r).take lg = bt ++ r.take (lg - bt.length) := by
      rw [List.take_append, List.take_of_length_le (by omega)]
    have e2 : (bt ++ r).drop lg = r.drop (lg - bt.length) := by
      rw [List.drop_append, List.drop_eq_nil_of_le (by omega), List.nil_append]
    refine ⟨?_, by simp; omega⟩
    rw [feed_num (h4 r) (by rw [List.length_append]; omega), e1, e2]
theorem take_some {most : Nat} {h : List UInt8} {lg ah : Nat} {bt r : List UInt8} (p : Ps most h 2 lg ah bt) (hl : ¬ lg ≤ bt.length + r.length) : Ps most (h ++ r) 2 lg ah (bt ++ r) := by
  rcases p with ⟨h0, _⟩ | ⟨h0, _⟩ | ⟨_, h1, h2, h3, h4⟩
  · omega
  · omega
  · exact .inr (.inr ⟨rfl, by rw [List.length_append]; omega, h2, by rw [List.length_append, List.length_append]; omega, fun c => by rw [List.append_assoc, h4, List.append_assoc]⟩)
/-- One byte of digits, behind another or the first. -/
theorem hd_step (most : Nat) (x : UInt8) (r : List UInt8) (n i : Nat) (hp : 0 < i ∨ fst1 (x :: r)) :
    hd most (x :: r) n i = if x.toNat = 32 then .num n (i + 1) r else if ¬ (48 ≤ x.toNat ∧ x.toNat ≤ 57) then .bad else if most < n * 10 + (x.toNat - 48) then .bad else hd most r (n * 10 + (x.toNat - 48)) (i + 1) := by
  have e32 : (32 : UInt8).toNat = 32 := rfl
  have e48 : (48 : UInt8).toNat = 48 := rfl
  have e57 : (57 : UInt8).toNat = 57 := rfl
  have hf : 0 < i ∨ 49 ≤ x.toNat ∧ x.toNat ≤ 57 := by
    rcases hp with h | ⟨c, r', e, h1, h2⟩
    · exact .inl h
    · injection e with e _
      subst e
      exact .inr ⟨h1, h2⟩
  rw [hd]
  by_cases h1 : x.toNat = 32
  · have hx : x = 32 := UInt8.toNat_inj.1 h1
    rw [if_pos ⟨hx, by omega⟩, if_pos h1]
  · have hx : ¬ (x = 32 ∧ 0 < i) := fun h => h1 (by rw [h.1]; rfl)
    rw [if_neg hx, if_neg h1]
    by_cases h2 : 48 ≤ x.toNat ∧ x.toNat ≤ 57
    · have h3 : ¬ (x < 48 ∨ 57 < x ∨ (i = 0 ∧ x = 48)) := by
        rw [UInt8.lt_iff_toNat_lt, UInt8.lt_iff_toNat_lt, e48, e57]
        rintro (h | h | ⟨h, hx0⟩)
        · omega
        · omega
        · subst hx0
          rw [e48] at hf
          omega
      rw [if_neg h3]
      by_cases h4 : most < n * 10 + (x.toNat - 48)
      · rw [if_pos h4, if_neg (fun h => h h2)]
      · rw [if_neg h4, if_neg (fun h => h h2)]
    · have h3 : x < 48 ∨ 57 < x ∨ (i = 0 ∧ x = 48) := by
        rw [UInt8.lt_iff_toNat_lt, UInt8.lt_iff_toNat_lt, e48, e57]
        omega
      rw [if_pos h3, if_pos h2]
theorem dg_snoc : ∀ (s : List UInt8) (x : UInt8) (n : Nat), dg (s ++ [x]) n = dg s n * 10 + (x.toNat - 48)
  | [], x, n => rfl
  | c :: s, x, n => dg_snoc s x _
end F12
end Go.Proofs.YtndinelljmjfaaaDoor
