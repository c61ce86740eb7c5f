/- utf.joined and utf.First, walked. -/
import Derived.Test.YtndinelljmjfaaaDoorUtfA
import Derived.Outline
namespace Go.Proofs.YtndinelljmjfaaaDoor
open Go.ChangeShapes Go.WideShapes Go.ChangeAt Go.RowKit K U4
set_option linter.unusedVariables false

theorem acc_le (l : List UInt8) (n : Nat) : acc l n 0 < 256 ∧ acc l n 1 < 16384 ∧ acc l n 2 < 1048576 ∧ acc l n 3 < 67108864 := by
  have h := byt_lt l 0
  simp only [acc]; omega
theorem acc_lt (l : List UInt8) (n i : Nat) (h : i ≤ 3) : acc l n i < 67108864 := by
  obtain ⟨a, b, c, d⟩ := acc_le l n
  obtain rfl | rfl | rfl | rfl : i = 0 ∨ i = 1 ∨ i = 2 ∨ i = 3 := by omega
  all_goals omega
theorem acc_lt2 (l : List UInt8) (n i : Nat) (h : i ≤ 2) : acc l n i < 1048576 := by
  obtain ⟨a, b, c, d⟩ := acc_le l n
  obtain rfl | rfl | rfl : i = 0 ∨ i = 1 ∨ i = 2 := by omega
  all_goals omega
theorem or64 (X b : Nat) (hX : X < 1048576) (hb : b < 64) : bits .or .i64 ((X : Int) * 64) ((b : Nat) : Int) = ((X * 64 + b : Nat) : Int) := by
  have h1 : (BitVec.ofInt 64 ((X : Int) * 64)).toNat = 2 ^ 6 * X := by
    rw [BitVec.toNat_ofInt]; omega
  have h2 : (BitVec.ofInt 64 ((b : Nat) : Int)).toNat = b := by
    rw [BitVec.toNat_ofInt]; omega
  have h4 : bits .or .i64 ((X : Int) * 64) ((b : Nat) : Int) = IntKind.i64.wrap (((BitVec.ofInt 64 ((X : Int) * 64)).toNat ||| (BitVec.ofInt 64 ((b : Nat) : Int)).toNat : Nat) : Int) := by
    show IntKind.i64.wrap (((BitVec.ofInt 64 ((X : Int) * 64) ||| BitVec.ofInt 64 ((b : Nat) : Int)).toNat : Nat) : Int) = _
    rw [BitVec.toNat_or]
  rw [h4, h1, h2, ← Nat.two_pow_add_eq_or_of_lt (by omega), IntKind.wrap_i64]
  omega
theorem ld_le {b n : Nat} (h : lead b = n) : ld n ≤ b := by
  rcases lead4 b with ⟨g, e⟩ | ⟨g, g', e⟩ | ⟨g, g', e⟩ | ⟨g, e⟩ <;> rw [e] at h <;> subst h <;> simp [ld] <;> omega
theorem folls_break {l : List UInt8} {k : Nat} : ∀ {n : Nat}, k < n → foll (byt l (k + 1)) = false → folls l n = false
  | 0, h, _ => by omega
  | n + 1, h, hf => by
    unfold folls
    by_cases e : k = n
    · subst e; rw [hf, Bool.and_false]
    · rw [folls_break (n := n) (by omega) hf, Bool.false_and]
def JRel (l : List UInt8) (n : Nat) (w : World) (g : Nat) (v4 v5 v6 : Value) (wr : World) : Prop :=
  ∃ j, j + 1 + g = n ∧ v6 = .int .i64 ((j + 1 : Nat) : Int) ∧ v4 = .int .i64 ((acc l n j : Nat) : Int) ∧ folls l j = true ∧ v5 = .bool false ∧ wr = w
/-- Only the order of reading was drawn. -/
def Dr (w w' : World) : Prop := ∃ n, w' = w.drewN n
theorem Dr.refl (w : World) : Dr w w := ⟨0, rfl⟩
theorem Dr.trans {a b c : World} (h : Dr a b) (k : Dr b c) : Dr a c := by
  obtain ⟨n, rfl⟩ := h; obtain ⟨m, rfl⟩ := k
  exact ⟨n + m, by unfold World.drewN; simp [Nat.add_assoc]⟩
theorem Dr.below {a b : World} (h : Dr a b) : Below a.heap.size a b := by
  obtain ⟨n, rfl⟩ := h; exact ⟨rfl, rfl, rfl, Nat.le_refl _, fun _ _ => rfl⟩
def FRel (b : Nat) (w : World) (g : Nat) (v3 : Value) (wr : World) : Prop :=
  ∃ k, lead b + g = k ∧ k ≤ 4 ∧ v3 = .int .i64 ((k : Nat) : Int) ∧ Dr w wr
theorem lead_pos (b : Nat) : 1 ≤ lead b ∧ lead b ≤ 4 := by
  rcases lead4 b with ⟨_, e⟩ | ⟨_, _, e⟩ | ⟨_, _, e⟩ | ⟨_, e⟩ <;> omega
theorem ld_gt {b k : Nat} (h : lead b < k) (h4 : k ≤ 4) : b < ld k := by
  rcases lead4 b with ⟨g, e⟩ | ⟨g, g', e⟩ | ⟨g, g', e⟩ | ⟨g, e⟩ <;> rw [e] at h
  all_goals
    obtain rfl | rfl | rfl : k = 2 ∨ k = 3 ∨ k = 4 := by omega
    all_goals simp [ld]; omega
theorem fOk_jok {l : List UInt8} (h : jok l (lead (byt l 0)) = false) : fOk l = false := by
  unfold fOk; rw [h, Bool.false_and, Bool.and_false]
theorem fOk_isC {l : List UInt8} (h : isC (jv l (lead (byt l 0))) = false) : fOk l = false := by
  unfold fOk; rw [h, Bool.false_and, Bool.and_false, Bool.and_false]
theorem fOk_lg {l : List UInt8} (h : lg (jv l (lead (byt l 0))) ≠ lead (byt l 0)) : fOk l = false := by
  unfold fOk; rw [beq_eq_false_iff_ne.2 h, Bool.and_false, Bool.and_false, Bool.and_false]
theorem f_not {l : List UInt8} (h : fOk l = false) : fC l = 0 ∧ fN l = 0 ∧ fE l = 40 := by
  unfold fC fN fE; rw [h]; exact ⟨rfl, rfl, rfl⟩
theorem fOk_nil : fOk [] = false := rfl
theorem jv_lt (l : List UInt8) {n : Nat} (h : n ≤ 4) : jv l n < 67108864 := by
  unfold jv
  by_cases hj : jok l n = true
  · rw [if_pos hj]; exact acc_lt l n _ (by omega)
  · rw [if_neg hj]; omega
end Go.Proofs.YtndinelljmjfaaaDoor
