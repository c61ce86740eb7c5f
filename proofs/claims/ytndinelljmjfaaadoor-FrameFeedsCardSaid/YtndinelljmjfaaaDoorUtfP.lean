/- Characters and their bytes: plain mathematics, of no program. -/
import Derived.Test.YtndinelljmjfaaaDoorLib
namespace Go.Proofs.YtndinelljmjfaaaDoor
open K
namespace U4

/-! ### One character -/
def isC (c : Nat) : Bool := decide (c < 1114112) && (decide (c < 55296) || decide (57343 < c))
theorem isC_iff (c : Nat) : isC c = true ↔ c < 1114112 ∧ (c < 55296 ∨ 57343 < c) := by simp [isC]
theorem isC_not (c : Nat) : isC c = false ↔ 1114111 < c ∨ (55295 < c ∧ c < 57344) := by
  rw [← Bool.not_eq_true, isC_iff]; omega
def lg (c : Nat) : Nat := if c < 128 then 1 else if c < 2048 then 2 else if c < 65536 then 3 else 4
def made (c : Nat) : List UInt8 :=
  if c < 128 then [b8 c]
  else if c < 2048 then [b8 (192 + c / 64), b8 (128 + c % 64)]
  else if c < 65536 then [b8 (224 + c / 4096), b8 (128 + c / 64 % 64), b8 (128 + c % 64)]
  else [b8 (240 + c / 262144), b8 (128 + c / 4096 % 64), b8 (128 + c / 64 % 64), b8 (128 + c % 64)]
theorem four (c : Nat) :
    (c < 128 ∧ lg c = 1 ∧ made c = [b8 c]) ∨
    (128 ≤ c ∧ c < 2048 ∧ lg c = 2 ∧ made c = [b8 (192 + c / 64), b8 (128 + c % 64)]) ∨
    (2048 ≤ c ∧ c < 65536 ∧ lg c = 3 ∧ made c = [b8 (224 + c / 4096), b8 (128 + c / 64 % 64), b8 (128 + c % 64)]) ∨
    (65536 ≤ c ∧ lg c = 4 ∧ made c = [b8 (240 + c / 262144), b8 (128 + c / 4096 % 64), b8 (128 + c / 64 % 64), b8 (128 + c % 64)]) := by
  unfold lg made
  by_cases h1 : c < 128
  · left; simp [h1]
  · by_cases h2 : c < 2048
    · right; left; simp [h1, h2]; omega
    · by_cases h3 : c < 65536
      · right; right; left; simp [h1, h2, h3]; omega
      · right; right; right; simp [h1, h2, h3]; omega
theorem made_len (c : Nat) : (made c).length = lg c := by
  rcases four c with ⟨_, h, e⟩ | ⟨_, _, h, e⟩ | ⟨_, _, h, e⟩ | ⟨_, h, e⟩ <;> rw [h, e] <;> rfl
theorem lg_pos (c : Nat) : 1 ≤ lg c ∧ lg c ≤ 4 := by
  rcases four c with ⟨_, h, _⟩ | ⟨_, _, h, _⟩ | ⟨_, _, h, _⟩ | ⟨_, h, _⟩ <;> rw [h] <;> omega

/-! ### The first character, as the program finds it -/
def lead (b : Nat) : Nat := if b < 192 then 1 else if b < 224 then 2 else if b < 240 then 3 else 4
theorem lead4 (b : Nat) : (b < 192 ∧ lead b = 1) ∨ (192 ≤ b ∧ b < 224 ∧ lead b = 2) ∨ (224 ≤ b ∧ b < 240 ∧ lead b = 3) ∨ (240 ≤ b ∧ lead b = 4) := by
  unfold lead
  by_cases h1 : b < 192
  · left; simp [h1]
  · by_cases h2 : b < 224
    · right; left; simp [h1, h2]; omega
    · by_cases h3 : b < 240
      · right; right; left; simp [h1, h2, h3]; omega
      · right; right; right; simp [h1, h2, h3]; omega
def ld (n : Nat) : Nat := if n = 2 then 192 else if n = 3 then 224 else if n = 4 then 240 else 0
def acc (l : List UInt8) (n : Nat) : Nat → Nat
  | 0 => byt l 0 - ld n
  | i + 1 => acc l n i * 64 + byt l (i + 1) % 64
def foll (b : Nat) : Bool := b / 64 == 2
def folls (l : List UInt8) : Nat → Bool
  | 0 => true
  | i + 1 => folls l i && foll (byt l (i + 1))
def jok (l : List UInt8) (n : Nat) : Bool := decide (n ≤ l.length) && folls l (n - 1)
def jv (l : List UInt8) (n : Nat) : Nat := if jok l n then acc l n (n - 1) else 0
def fOk (l : List UInt8) : Bool := !l.isEmpty && (jok l (lead (byt l 0)) && (isC (jv l (lead (byt l 0))) && lg (jv l (lead (byt l 0))) == lead (byt l 0)))
def fC (l : List UInt8) : Nat := if fOk l then jv l (lead (byt l 0)) else 0
def fN (l : List UInt8) : Nat := if fOk l then lead (byt l 0) else 0
def fE (l : List UInt8) : Nat := if fOk l then 0 else 40

theorem byt_cons0 (a : UInt8) (r : List UInt8) : byt (a :: r) 0 = a.toNat := by simp [byt]
theorem byt_consS (a : UInt8) (r : List UInt8) (i : Nat) : byt (a :: r) (i + 1) = byt r i := by simp [byt]
theorem byt_cons1 (a b : UInt8) (r : List UInt8) : byt (a :: b :: r) 1 = b.toNat := by simp [byt]
theorem byt_cons2 (a b c : UInt8) (r : List UInt8) : byt (a :: b :: c :: r) 2 = c.toNat := by simp [byt]
theorem byt_cons3 (a b c d : UInt8) (r : List UInt8) : byt (a :: b :: c :: d :: r) 3 = d.toNat := by simp [byt]

theorem fOk_jv {l : List UInt8} {n c : Nat} (h0 : l.isEmpty = false) (h1 : lead (byt l 0) = n) (h2 : jok l n = true) (h3 : acc l n (n - 1) = c) (h4 : isC c = true) (h5 : lg c = n) : fOk l = true ∧ fC l = c ∧ fN l = n := by
  have hj : jv l n = c := by unfold jv; rw [if_pos h2, h3]
  have hf : fOk l = true := by unfold fOk; rw [h0, h1, h2, hj, h4, h5]; simp
  refine ⟨hf, ?_, ?_⟩
  · unfold fC; rw [if_pos hf, h1, hj]
  · unfold fN; rw [if_pos hf, h1]
theorem foll_iff (b : Nat) : foll b = true ↔ b / 64 = 2 := by simp [foll]

theorem first_of (c : Nat) (h : isC c = true) (r : List UInt8) : fOk (made c ++ r) = true ∧ fC (made c ++ r) = c ∧ fN (made c ++ r) = lg c := by
  have hc := (isC_iff c).1 h
  rcases four c with ⟨h1, e1, e2⟩ | ⟨h1, h2, e1, e2⟩ | ⟨h1, h2, e1, e2⟩ | ⟨h1, e1, e2⟩ <;> rw [e1, e2]
  · have b0 : byt ([b8 c] ++ r) 0 = c := by rw [List.cons_append, byt_cons0, b8_toNat _ (by omega)]
    refine fOk_jv (by simp) (by rw [b0]; rcases lead4 c with h | h | h | h <;> omega) ?_ ?_ h e1
    · simp [jok, folls]
    · show byt _ 0 - ld 1 = c
      rw [b0]; rfl
  · have b0 : byt ([b8 (192 + c / 64), b8 (128 + c % 64)] ++ r) 0 = 192 + c / 64 := by rw [List.cons_append, byt_cons0, b8_toNat _ (by omega)]
    have b1 : byt ([b8 (192 + c / 64), b8 (128 + c % 64)] ++ r) 1 = 128 + c % 64 := by rw [List.cons_append, List.cons_append, byt_cons1, b8_toNat _ (by omega)]
    refine fOk_jv (by simp) (by rw [b0]; rcases lead4 (192 + c / 64) with h | h | h | h <;> omega) ?_ ?_ h e1
    · have f1 : foll (128 + c % 64) = true := by rw [foll_iff]; omega
      unfold jok
      simp only [folls, b1, f1]
      simp
    · show (byt _ 0 - ld 2) * 64 + byt _ 1 % 64 = c
      rw [b0, b1]; simp only [ld]; simp; omega
  · have b0 : byt ([b8 (224 + c / 4096), b8 (128 + c / 64 % 64), b8 (128 + c % 64)] ++ r) 0 = 224 + c / 4096 := by rw [List.cons_append, byt_cons0, b8_toNat _ (by omega)]
    have b1 : byt ([b8 (224 + c / 4096), b8 (128 + c / 64 % 64), b8 (128 + c % 64)] ++ r) 1 = 128 + c / 64 % 64 := by rw [List.cons_append, List.cons_append, byt_cons1, b8_toNat _ (by omega)]
    have b2 : byt ([b8 (224 + c / 4096), b8 (128 + c / 64 % 64), b8 (128 + c % 64)] ++ r) 2 = 128 + c % 64 := by rw [List.cons_append, List.cons_append, List.cons_append, byt_cons2, b8_toNat _ (by omega)]
    refine fOk_jv (by simp) (by rw [b0]; rcases lead4 (224 + c / 4096) with h | h | h | h <;> omega) ?_ ?_ h e1
    · have f1 : foll (128 + c / 64 % 64) = true := by rw [foll_iff]; omega
      have f2 : foll (128 + c % 64) = true := by rw [foll_iff]; omega
      unfold jok
      simp only [folls, b1, b2, f1, f2]
      simp
    · show ((byt _ 0 - ld 3) * 64 + byt _ 1 % 64) * 64 + byt _ 2 % 64 = c
      rw [b0, b1, b2]; simp only [ld]; simp; omega
  · have b0 : byt ([b8 (240 + c / 262144), b8 (128 + c / 4096 % 64), b8 (128 + c / 64 % 64), b8 (128 + c % 64)] ++ r) 0 = 240 + c / 262144 := by rw [List.cons_append, byt_cons0, b8_toNat _ (by omega)]
    have b1 : byt ([b8 (240 + c / 262144), b8 (128 + c / 4096 % 64), b8 (128 + c / 64 % 64), b8 (128 + c % 64)] ++ r) 1 = 128 + c / 4096 % 64 := by rw [List.cons_append, List.cons_append, byt_cons1, b8_toNat _ (by omega)]
    have b2 : byt ([b8 (240 + c / 262144), b8 (128 + c / 4096 % 64), b8 (128 + c / 64 % 64), b8 (128 + c % 64)] ++ r) 2 = 128 + c / 64 % 64 := by rw [List.cons_append, List.cons_append, List.cons_append, byt_cons2, b8_toNat _ (by omega)]
    have b3 : byt ([b8 (240 + c / 262144), b8 (128 + c / 4096 % 64), b8 (128 + c / 64 % 64), b8 (128 + c % 64)] ++ r) 3 = 128 + c % 64 := by rw [List.cons_append, List.cons_append, List.cons_append, List.cons_append, byt_cons3, b8_toNat _ (by omega)]
    refine fOk_jv (by simp) (by rw [b0]; rcases lead4 (240 + c / 262144) with h | h | h | h <;> omega) ?_ ?_ h e1
    · have f1 : foll (128 + c / 4096 % 64) = true := by rw [foll_iff]; omega
      have f2 : foll (128 + c / 64 % 64) = true := by rw [foll_iff]; omega
      have f3 : foll (128 + c % 64) = true := by rw [foll_iff]; omega
      unfold jok
      simp only [folls, b1, b2, b3, f1, f2, f3]
      simp
    · show (((byt _ 0 - ld 4) * 64 + byt _ 1 % 64) * 64 + byt _ 2 % 64) * 64 + byt _ 3 % 64 = c
      rw [b0, b1, b2, b3]; simp only [ld]; simp; omega

theorem b8_eq {n : Nat} {x : UInt8} (h : n = x.toNat) : b8 n = x := by
  subst h; simp [b8]
theorem cut1 {l : List UInt8} (h : 1 ≤ l.length) : ∃ a r, l = a :: r := by
  cases l with
  | nil => simp at h
  | cons a r => exact ⟨a, r, rfl⟩
theorem cut2 {l : List UInt8} (h : 2 ≤ l.length) : ∃ a b r, l = a :: b :: r := by
  obtain ⟨a, r, rfl⟩ := cut1 (l := l) (by omega)
  rw [List.length_cons] at h
  obtain ⟨b, r, rfl⟩ := cut1 (l := r) (by omega)
  exact ⟨a, b, r, rfl⟩
theorem cut3 {l : List UInt8} (h : 3 ≤ l.length) : ∃ a b c r, l = a :: b :: c :: r := by
  obtain ⟨a, b, r, rfl⟩ := cut2 (l := l) (by omega)
  rw [List.length_cons, List.length_cons] at h
  obtain ⟨c, r, rfl⟩ := cut1 (l := r) (by omega)
  exact ⟨a, b, c, r, rfl⟩
theorem cut4 {l : List UInt8} (h : 4 ≤ l.length) : ∃ a b c d r, l = a :: b :: c :: d :: r := by
  obtain ⟨a, b, c, r, rfl⟩ := cut3 (l := l) (by omega)
  rw [List.length_cons, List.length_cons, List.length_cons] at h
  obtain ⟨d, r, rfl⟩ := cut1 (l := r) (by omega)
  exact ⟨a, b, c, d, r, rfl⟩
theorem mk1 (a : UInt8) (A : Nat) (hA : a.toNat - 0 = A) (h3 : lg A = 1) : made A = [a] := by
  rcases four A with ⟨_, e1, e2⟩ | ⟨_, _, e1, e2⟩ | ⟨_, _, e1, e2⟩ | ⟨_, e1, e2⟩ <;> rw [e1] at h3 <;> first | omega | skip
  rw [e2, b8_eq (x := a) (by omega)]
theorem mk2 (a b : UInt8) (A : Nat) (hA : (a.toNat - 192) * 64 + b.toNat % 64 = A) (g : 192 ≤ a.toNat) (f : b.toNat / 64 = 2) (h3 : lg A = 2) : made A = [a, b] := by
  have ha := UInt8.toNat_lt a; have hb := UInt8.toNat_lt b
  rcases four A with ⟨_, e1, e2⟩ | ⟨_, _, e1, e2⟩ | ⟨_, _, e1, e2⟩ | ⟨_, e1, e2⟩ <;> rw [e1] at h3 <;> first | omega | skip
  rw [e2, b8_eq (x := a) (by omega), b8_eq (x := b) (by omega)]
theorem mk3 (a b c : UInt8) (A : Nat) (hA : ((a.toNat - 224) * 64 + b.toNat % 64) * 64 + c.toNat % 64 = A) (g : 224 ≤ a.toNat) (f : b.toNat / 64 = 2) (f2 : c.toNat / 64 = 2) (h3 : lg A = 3) : made A = [a, b, c] := by
  have ha := UInt8.toNat_lt a; have hb := UInt8.toNat_lt b; have hc := UInt8.toNat_lt c
  rcases four A with ⟨_, e1, e2⟩ | ⟨_, _, e1, e2⟩ | ⟨_, _, e1, e2⟩ | ⟨_, e1, e2⟩ <;> rw [e1] at h3 <;> first | omega | skip
  rw [e2, b8_eq (x := a) (by omega), b8_eq (x := b) (by omega), b8_eq (x := c) (by omega)]
theorem mk4 (a b c d : UInt8) (A : Nat) (hA : (((a.toNat - 240) * 64 + b.toNat % 64) * 64 + c.toNat % 64) * 64 + d.toNat % 64 = A) (g : 240 ≤ a.toNat) (f : b.toNat / 64 = 2) (f2 : c.toNat / 64 = 2) (f3 : d.toNat / 64 = 2) (h3 : lg A = 4) : made A = [a, b, c, d] := by
  have ha := UInt8.toNat_lt a; have hb := UInt8.toNat_lt b; have hc := UInt8.toNat_lt c; have hd := UInt8.toNat_lt d
  rcases four A with ⟨_, e1, e2⟩ | ⟨_, _, e1, e2⟩ | ⟨_, _, e1, e2⟩ | ⟨_, e1, e2⟩ <;> rw [e1] at h3 <;> first | omega | skip
  rw [e2, b8_eq (x := a) (by omega), b8_eq (x := b) (by omega), b8_eq (x := c) (by omega), b8_eq (x := d) (by omega)]
theorem mk_all {l : List UInt8} {n : Nat} (e : lead (byt l 0) = n) (hl : n ≤ l.length) (hf : folls l (n - 1) = true) (h3 : lg (acc l n (n - 1)) = n) : l = made (acc l n (n - 1)) ++ l.drop n := by
  rcases lead4 (byt l 0) with ⟨g, e'⟩ | ⟨g, g', e'⟩ | ⟨g, g', e'⟩ | ⟨g, e'⟩ <;> rw [e'] at e <;> subst e
  · obtain ⟨a, r, rfl⟩ := cut1 hl
    rw [byt_cons0] at g
    have h4 : acc (a :: r) 1 (1 - 1) = a.toNat - 0 := by show byt (a :: r) 0 - ld 1 = _; rw [byt_cons0]; rfl
    rw [h4] at h3 ⊢
    rw [mk1 a _ rfl h3]; rfl
  · obtain ⟨a, b, r, rfl⟩ := cut2 hl
    rw [byt_cons0] at g
    have h4 : acc (a :: b :: r) 2 (2 - 1) = (a.toNat - 192) * 64 + b.toNat % 64 := by show (byt _ 0 - ld 2) * 64 + byt _ 1 % 64 = _; rw [byt_cons0, byt_cons1]; rfl
    have h5 : folls (a :: b :: r) (2 - 1) = foll b.toNat := by show (true && foll (byt _ 1)) = _; rw [byt_cons1, Bool.true_and]
    rw [h5, foll_iff] at hf
    rw [h4] at h3 ⊢
    rw [mk2 a b _ rfl g hf h3]; rfl
  · obtain ⟨a, b, c, r, rfl⟩ := cut3 hl
    rw [byt_cons0] at g
    have h4 : acc (a :: b :: c :: r) 3 (3 - 1) = ((a.toNat - 224) * 64 + b.toNat % 64) * 64 + c.toNat % 64 := by show ((byt _ 0 - ld 3) * 64 + byt _ 1 % 64) * 64 + byt _ 2 % 64 = _; rw [byt_cons0, byt_cons1, byt_cons2]; rfl
    have h5 : folls (a :: b :: c :: r) (3 - 1) = (foll b.toNat && foll c.toNat) := by show ((true && foll (byt _ 1)) && foll (byt _ 2)) = _; rw [byt_cons1, byt_cons2, Bool.true_and]
    rw [h5, Bool.and_eq_true, foll_iff, foll_iff] at hf
    rw [h4] at h3 ⊢
    rw [mk3 a b c _ rfl g hf.1 hf.2 h3]; rfl
  · obtain ⟨a, b, c, d, r, rfl⟩ := cut4 hl
    rw [byt_cons0] at g
    have h4 : acc (a :: b :: c :: d :: r) 4 (4 - 1) = (((a.toNat - 240) * 64 + b.toNat % 64) * 64 + c.toNat % 64) * 64 + d.toNat % 64 := by show (((byt _ 0 - ld 4) * 64 + byt _ 1 % 64) * 64 + byt _ 2 % 64) * 64 + byt _ 3 % 64 = _; rw [byt_cons0, byt_cons1, byt_cons2, byt_cons3]; rfl
    have h5 : folls (a :: b :: c :: d :: r) (4 - 1) = ((foll b.toNat && foll c.toNat) && foll d.toNat) := by show (((true && foll (byt _ 1)) && foll (byt _ 2)) && foll (byt _ 3)) = _; rw [byt_cons1, byt_cons2, byt_cons3, Bool.true_and]
    rw [h5, Bool.and_eq_true, Bool.and_eq_true, foll_iff, foll_iff, foll_iff] at hf
    rw [h4] at h3 ⊢
    rw [mk4 a b c d _ rfl g hf.1.1 hf.1.2 hf.2 h3]; rfl
theorem of_first {l : List UInt8} (h : fOk l = true) : isC (fC l) = true ∧ fN l = lg (fC l) ∧ l = made (fC l) ++ l.drop (fN l) := by
  have hC : fC l = jv l (lead (byt l 0)) := by unfold fC; rw [if_pos h]
  have hN : fN l = lead (byt l 0) := by unfold fN; rw [if_pos h]
  unfold fOk at h
  simp only [Bool.and_eq_true, Bool.not_eq_true', beq_iff_eq] at h
  obtain ⟨h0, h1, h2, h3⟩ := h
  have hv : jv l (lead (byt l 0)) = acc l (lead (byt l 0)) (lead (byt l 0) - 1) := by unfold jv; rw [if_pos h1]
  rw [hC, hN]
  refine ⟨h2, h3.symm, ?_⟩
  rw [hv] at h3 ⊢
  unfold jok at h1
  simp only [Bool.and_eq_true, decide_eq_true_eq] at h1
  exact mk_all rfl h1.1 h1.2 h3
theorem fN_le {l : List UInt8} (h : fOk l = true) : 1 ≤ fN l ∧ fN l ≤ 4 ∧ fN l ≤ l.length := by
  obtain ⟨_, h2, h3⟩ := of_first h
  have := lg_pos (fC l)
  have hl := congrArg List.length h3
  rw [List.length_append, made_len] at hl
  omega
theorem take_first {l : List UInt8} (h : fOk l = true) : l.take (fN l) = made (fC l) := by
  obtain ⟨_, h2, h3⟩ := of_first h
  have h5 : (made (fC l) ++ l.drop (fN l)).take (made (fC l)).length = made (fC l) := List.take_left
  rw [← h3, made_len, ← h2] at h5
  exact h5

/-! ### The first character, as the document's answer finds it -/
def gst (n b : Nat) : Nat := if n = 1 then b else if n = 2 then b % 32 else if n = 3 then b % 16 else b % 8
def gac (l : List UInt8) (n : Nat) : Nat → Nat
  | 0 => gst n (byt l 0)
  | i + 1 => gac l n i * 64 + byt l (i + 1) % 64
def gs (l : List UInt8) (n : Nat) : Nat := gac l n (n - 1)
theorem gs_made (c : Nat) (h : isC c = true) (r : List UInt8) : gs (made c ++ r) (lg c) = c := by
  have hc := (isC_iff c).1 h
  rcases four c with ⟨h1, e1, e2⟩ | ⟨h1, h2, e1, e2⟩ | ⟨h1, h2, e1, e2⟩ | ⟨h1, e1, e2⟩ <;> rw [e1, e2] <;> simp only [List.cons_append, List.nil_append, gs, gac, gst, byt_cons0, byt_cons1, byt_cons2, byt_cons3, Nat.reduceSub, Nat.reduceAdd]
  · rw [b8_toNat _ (by omega)]; simp
  · rw [b8_toNat _ (by omega), b8_toNat _ (by omega)]; simp; omega
  · rw [b8_toNat _ (by omega), b8_toNat _ (by omega), b8_toNat _ (by omega)]; simp; omega
  · rw [b8_toNat _ (by omega), b8_toNat _ (by omega), b8_toNat _ (by omega), b8_toNat _ (by omega)]; simp; omega
theorem hit_yes {l : List UInt8} (h : fOk l = true) : gs l (fN l) = fC l := by
  obtain ⟨h1, h2, h3⟩ := of_first h
  have := gs_made (fC l) h1 (l.drop (fN l))
  rw [← h3, ← h2] at this
  exact this
theorem of_hit {l : List UInt8} {n c : Nat} (hn : n ≤ l.length) (hc : isC c = true) (h : made c = l.take n) : fOk l = true ∧ fC l = c ∧ fN l = n := by
  have hlen : lg c = n := by rw [← made_len, h, List.length_take]; omega
  have := first_of c hc (l.drop n)
  rw [h, List.take_append_drop] at this
  rw [← hlen]; exact this
end U4
end Go.Proofs.YtndinelljmjfaaaDoor
