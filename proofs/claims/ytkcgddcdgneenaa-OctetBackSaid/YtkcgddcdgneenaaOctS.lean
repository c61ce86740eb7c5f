/- Plain mathematics of layer 1: numbers and texts one behind the other are read back. Nothing of the program. -/
import Derived.Test.YtkcgddcdgneenaaOctR
namespace Go.Proofs.Ytkcgddcdgneenaa
open K
namespace P1

theorem drop_app (A B : List UInt8) : (A ++ B).drop A.length = B := by simp
theorem rdG_at (A B : List UInt8) (n : Nat) (most : Int) (hn : n < 9223372036854775808) (hm : (n : Int) ≤ most) : rdG (A ++ (grp n ++ B)) A.length 0 most = (n, (A ++ grp n).length, 0) := by
  have h := rgo_back n B most hn hm
  rw [← drop_app A (grp n ++ B)] at h
  rw [rdG_of_yes h]; simp
theorem numOk_pad8 (n : Nat) (hn : n < 9223372036854775808) : numOk (pad 8 n) = true := by
  have h := numOk_pad 8 n (by omega) rfl
  simp [numOk, pad_length]; omega
theorem rdW_at (A B : List UInt8) (n : Nat) (hn : n < 9223372036854775808) : rdW (A ++ (pad 8 n ++ B)) A.length 0 8 = (n, (A ++ pad 8 n).length, 0) := by
  have hl := pad_length 8 n
  have ht : ((A ++ (pad 8 n ++ B)).drop A.length).take 8 = pad 8 n := by rw [drop_app]; exact List.take_left' hl
  have := rdW_num (A ++ (pad 8 n ++ B)) A.length 8 (by omega) (by omega) (by simp [hl])
  rw [show ((8 : Nat) : Int) = 8 from rfl] at this
  rw [this, ht, if_pos (numOk_pad8 n hn), num_pad]
  simp [hl]; omega
theorem rdT_at (A B t : List UInt8) (most : Int) (hm : (t.length : Int) ≤ most) (ht : t.length < 9223372036854775808) :
    rdT (A ++ ((grp t.length ++ t) ++ B)) A.length 0 most = (t, (A ++ (grp t.length ++ t)).length, 0) := by
  have hg := rdG_at A (t ++ B) t.length most ht hm
  rw [← List.append_assoc (grp t.length)] at hg
  rw [rdT_sz, hg]
  simp only []
  have e : A ++ (grp t.length ++ t ++ B) = (A ++ grp t.length) ++ (t ++ B) := by simp
  rw [szR_yes _ _ _ _ (by simp; omega)]
  rw [e, drop_app]
  simp; omega

/-- The items of the first i, one behind the other. -/
def cat (f : Nat → List UInt8) : Nat → List UInt8
  | 0 => []
  | i + 1 => cat f i ++ f i
theorem cat_split (f : Nat → List UInt8) : ∀ (n i : Nat), i < n → ∃ B, cat f n = cat f i ++ (f i ++ B) := by
  intro n
  induction n with
  | zero => intro i h; omega
  | succ n ih =>
    intro i h
    by_cases hi : i = n
    · subst hi; exact ⟨[], by simp [cat]⟩
    · obtain ⟨B, hB⟩ := ih i (by omega)
      exact ⟨B ++ f n, by simp [cat, hB]⟩
theorem cat_length (f : Nat → List UInt8) (k : Nat) (h : ∀ i, (f i).length ≤ k) : ∀ n, (cat f n).length ≤ n * k := by
  intro n
  induction n with
  | zero => simp [cat]
  | succ n ih => have := h n; simp only [cat, List.length_append]; rw [Nat.succ_mul]; omega
/-- A number as groups, and as eight bytes; a text with its length, cut to 200. -/
def itemN (ns : Nat → Int) (i : Nat) : List UInt8 := grp (low63 (ns i)) ++ pad 8 (low63 (ns i))
def itemT (ss : Nat → List UInt8) (i : Nat) : List UInt8 := grp ((ss i).take 200).length ++ (ss i).take 200
theorem itemN_len (ns : Nat → Int) (i : Nat) : (itemN ns i).length ≤ 17 := by
  have := grp_length (low63 (ns i)); have := pad_length 8 (low63 (ns i)); simp [itemN]; omega
theorem itemT_len (ss : Nat → List UInt8) (i : Nat) : (itemT ss i).length ≤ 209 := by
  have := grp_length ((ss i).take 200).length
  simp only [itemT, List.length_append, List.length_take] at *
  omega
theorem cat_atN (ns : Nat → Int) (R : List UInt8) (I i : Nat) (h : i < I) : ∃ B, cat (itemN ns) I ++ R = cat (itemN ns) i ++ (grp (low63 (ns i)) ++ (pad 8 (low63 (ns i)) ++ B)) := by
  obtain ⟨B, hB⟩ := cat_split (itemN ns) I i h
  exact ⟨B ++ R, by rw [hB]; simp [itemN]⟩
theorem cat_atT (N : List UInt8) (ss : Nat → List UInt8) (J j : Nat) (h : j < J) : ∃ B, N ++ cat (itemT ss) J = (N ++ cat (itemT ss) j) ++ ((grp ((ss j).take 200).length ++ (ss j).take 200) ++ B) := by
  obtain ⟨B, hB⟩ := cat_split (itemT ss) J j h
  exact ⟨B, by rw [hB]; simp [itemT]⟩
end P1
end Go.Proofs.Ytkcgddcdgneenaa
