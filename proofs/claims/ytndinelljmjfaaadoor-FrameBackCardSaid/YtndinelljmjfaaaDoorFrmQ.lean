/- Frames in a stream: what is framed is told again. Plain mathematics, of no program. -/
import Derived.Test.YtndinelljmjfaaaDoorFrmP
import Derived.Lib.ItoaNum
namespace Go.Proofs.YtndinelljmjfaaaDoor
open K
namespace F12

theorem dec1 (q : Nat) (h : q < 10) : Lib.decDigits q = [b8 (48 + q)] := by
  rw [Lib.decDigits, dif_pos h]; rfl
theorem dec2 (q : Nat) (h : ¬ q < 10) : Lib.decDigits q = Lib.decDigits (q / 10) ++ [b8 (48 + q % 10)] := by
  rw [Lib.decDigits, dif_neg h]; rfl
theorem dec_pos (q : Nat) : 0 < (Lib.decDigits q).length := by rw [Lib.decDigits_length]; exact Lib.nDigits_pos q
/-- One digit more. -/
theorem hd_digit (most n i d : Nat) (t : List UInt8) (hd9 : d < 10) (h0 : i = 0 → d ≠ 0) (hm : n * 10 + d ≤ most) : hd most (b8 (48 + d) :: t) n i = hd most t (n * 10 + d) (i + 1) := by
  have hv : (b8 (48 + d)).toNat = 48 + d := b8_toNat _ (by omega)
  have h32 : b8 (48 + d) ≠ 32 := by intro e; have := congrArg UInt8.toNat e; rw [hv] at this; simp at this; omega
  have h48 : ¬ b8 (48 + d) < 48 := by rw [UInt8.lt_iff_toNat_lt, hv]; simp
  have h57 : ¬ 57 < b8 (48 + d) := by rw [UInt8.lt_iff_toNat_lt, hv]; simp; omega
  have hz : ¬ (i = 0 ∧ b8 (48 + d) = 48) := by
    rintro ⟨hi, e⟩
    have := congrArg UInt8.toNat e
    rw [hv] at this
    simp at this
    exact h0 hi this
  have e : 48 + d - 48 = d := by omega
  rw [hd, if_neg (fun h => h32 h.1), if_neg (fun h => h.elim h48 (fun h => h.elim h57 hz)), hv, e, if_neg (by omega)]
/-- A number's digits are read as it. -/
theorem hd_dec (most : Nat) (t : List UInt8) : ∀ (f n : Nat), n < f → 1 ≤ n → n ≤ most → hd most (Lib.decDigits n ++ t) 0 0 = hd most t n (Lib.decDigits n).length := by
  intro f
  induction f generalizing t with
  | zero => intro n h; omega
  | succ f ih =>
    intro n hf h1 hm
    by_cases h9 : n < 10
    · rw [dec1 n h9]
      show hd most (b8 (48 + n) :: t) 0 0 = _
      rw [hd_digit most 0 0 n t h9 (by omega) (by omega)]
      show hd most t (0 * 10 + n) 1 = hd most t n 1
      rw [show 0 * 10 + n = n by omega]
    · rw [dec2 n h9, List.append_assoc, ih ([b8 (48 + n % 10)] ++ t) (n / 10) (by omega) (by omega) (by omega)]
      show hd most (b8 (48 + n % 10) :: t) (n / 10) _ = _
      have hp := dec_pos (n / 10)
      rw [hd_digit most (n / 10) _ (n % 10) t (by omega) (fun h => by omega) (by omega), List.length_append]
      show hd most t (n / 10 * 10 + n % 10) _ = hd most t n ((Lib.decDigits (n / 10)).length + 1)
      rw [show n / 10 * 10 + n % 10 = n by omega]
theorem hd_blank (most n i : Nat) (t : List UInt8) (hi : 0 < i) : hd most (32 :: t) n i = .num n (i + 1) t := by
  rw [hd, if_pos ⟨rfl, hi⟩]
/-- A frame. -/
def frm (m : List UInt8) : List UInt8 := Lib.decDigits m.length ++ 32 :: m
theorem hd_frame (most n : Nat) (t : List UInt8) (h1 : 1 ≤ n) (hm : n ≤ most) : hd most (Lib.decDigits n ++ 32 :: t) 0 0 = .num n ((Lib.decDigits n).length + 1) t := by
  rw [hd_dec most (32 :: t) (n + 1) n (by omega) h1 hm, hd_blank most n _ t (dec_pos n)]
/-- A frame ahead of a stream is told ahead of what it tells. -/
theorem feed_frame (most : Nat) (m t : List UInt8) (h1 : 1 ≤ m.length) (hm : m.length ≤ most) : feed most (frm m ++ t) = (m :: (feed most t).1, (feed most t).2) := by
  have e : frm m ++ t = Lib.decDigits m.length ++ 32 :: (m ++ t) := by unfold frm; simp
  have h := hd_frame most m.length (m ++ t) h1 hm
  rw [← e] at h
  rw [feed_num h (by simp)]
  simp
theorem feed_frames (most : Nat) (t : List UInt8) : ∀ (ms : List (List UInt8)), (∀ m ∈ ms, 1 ≤ m.length ∧ m.length ≤ most) → feed most ((ms.map frm).flatten ++ t) = (ms ++ (feed most t).1, (feed most t).2)
  | [], _ => by simp
  | m :: ms, h => by
    have h0 := h m (by simp)
    have ih := feed_frames most t ms (fun x hx => h x (by simp [hx]))
    rw [List.map_cons, List.flatten_cons, List.append_assoc, feed_frame most m _ h0.1 h0.2, ih]
    rfl
theorem feed_nil (most : Nat) : feed most [] = ([], some []) := feed_more rfl
/-- A frame without its last byte is held. -/
theorem feed_cut (most : Nat) (m : List UInt8) (c : UInt8) (hm : m.length + 1 ≤ most) : feed most (frm (m ++ [c])).dropLast = ([], some (frm (m ++ [c])).dropLast) := by
  have e : (frm (m ++ [c])).dropLast = Lib.decDigits (m.length + 1) ++ 32 :: m := by
    have h2 : frm (m ++ [c]) = (Lib.decDigits (m.length + 1) ++ 32 :: m) ++ [c] := by unfold frm; simp
    rw [h2, List.dropLast_concat]
  have h := hd_frame most (m.length + 1) m (by omega) hm
  rw [← e] at h
  exact feed_short h (by omega)
/-- A byte that begins no frame. -/
theorem feed_byte (most : Nat) (c : UInt8) (h : c < 49 ∨ 57 < c) : feed most [c] = ([], none) := by
  refine feed_bad ?_
  have hc : ¬ (c = 32 ∧ 0 < 0) := fun h => absurd h.2 (by omega)
  rw [hd, if_neg hc]
  by_cases h48 : c < 48 ∨ 57 < c ∨ (0 = 0 ∧ c = 48)
  · rw [if_pos h48]
  · exfalso
    apply h48
    rcases h with h | h
    · by_cases e : c = 48
      · exact .inr (.inr ⟨rfl, e⟩)
      · left
        rw [UInt8.lt_iff_toNat_lt] at h ⊢
        have : c.toNat ≠ 48 := fun e2 => e (UInt8.toNat_inj.1 e2)
        simp at h ⊢
        omega
    · exact .inr (.inl h)
end F12
end Go.Proofs.YtndinelljmjfaaaDoor
