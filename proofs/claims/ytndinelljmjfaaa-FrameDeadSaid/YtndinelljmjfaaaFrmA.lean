/- The document's head of a stream, walked. -/
import Derived.Test.YtndinelljmjfaaaFrmP
import Derived.Test.YtndinelljmjfaaaUtfB
namespace Go.Proofs.Ytndinelljmjfaaa
open Go.ChangeShapes Go.WideShapes Go.ChangeAt Go.RowKit K F12
set_option linter.unusedVariables false

/-- What head answers. -/
def hdA : Hd → Int
  | .bad => -2
  | .more => -1
  | .num n _ _ => n
def hdK : Hd → Nat
  | .num _ k _ => k
  | _ => 0
theorem hd_at (most : Nat) (l : List UInt8) (p n : Nat) (hp : p < l.length) : hd most (l.drop p) n p =
    if byt l p = 32 ∧ 0 < p then .num n (p + 1) (l.drop (p + 1))
    else if byt l p < 48 ∨ 57 < byt l p ∨ (p = 0 ∧ byt l p = 48) then .bad
    else if most < n * 10 + (byt l p - 48) then .bad
    else hd most (l.drop (p + 1)) (n * 10 + (byt l p - 48)) (p + 1) := by
  have e : l.drop p = l[p] :: l.drop (p + 1) := List.drop_eq_getElem_cons hp
  have hb : byt l p = (l[p]).toNat := by unfold byt; rw [List.getElem?_eq_getElem hp]; rfl
  have h32 : (l[p] = 32) = ((l[p]).toNat = 32) := by rw [eq_iff_iff]; exact ⟨fun e => by rw [e]; rfl, fun e => UInt8.toNat_inj.1 e⟩
  have h48 : (l[p] = 48) = ((l[p]).toNat = 48) := by rw [eq_iff_iff]; exact ⟨fun e => by rw [e]; rfl, fun e => UInt8.toNat_inj.1 e⟩
  have hlt : (l[p] < 48) = ((l[p]).toNat < 48) := by rw [UInt8.lt_iff_toNat_lt]; rfl
  have hgt : (57 < l[p]) = (57 < (l[p]).toNat) := by rw [UInt8.lt_iff_toNat_lt]; rfl
  rw [e, hd, hb]
  simp only [h32, h48, hlt, hgt]
theorem hd_end (most : Nat) (l : List UInt8) (p n : Nat) (hp : l.length ≤ p) : hd most (l.drop p) n p = .more := by
  rw [List.drop_eq_nil_of_le hp]; rfl
def HdRel (l : List UInt8) (most : Nat) (w : World) (g : Nat) (v4 v5 : Value) (wr : World) : Prop :=
  ∃ p n, p + g = l.length ∧ v4 = .int .i64 (n : Nat) ∧ v5 = .int .i64 (p : Nat) ∧ n ≤ most ∧ hd most l 0 0 = hd most (l.drop p) n p ∧ Dr w wr
end Go.Proofs.Ytndinelljmjfaaa
