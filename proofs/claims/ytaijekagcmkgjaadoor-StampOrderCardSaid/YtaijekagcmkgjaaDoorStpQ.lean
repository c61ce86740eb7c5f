/- Plain mathematics of spans. Nothing of the program. -/
import Derived.Test.YtaijekagcmkgjaaDoorStpP
import Derived.Lib.Strings
namespace Go.Proofs.YtaijekagcmkgjaaDoor
open K
namespace S3

def unitL : List (List UInt8 × Nat) := [([100], 86400000000000), ([104], 3600000000000), ([109], 60000000000), ([115], 1000000000), ([109, 115], 1000000), ([117, 115], 1000), ([110, 115], 1)]
def nmU (k : Nat) : List UInt8 := (unitL[k]?.getD ([], 1)).1
def byU (k : Nat) : Nat := (unitL[k]?.getD ([], 1)).2
theorem unit_drop (k : Nat) (h : k < 7) : unitL.drop k = (nmU k, byU k) :: unitL.drop (k + 1) := by
  obtain rfl | rfl | rfl | rfl | rfl | rfl | rfl : k = 0 ∨ k = 1 ∨ k = 2 ∨ k = 3 ∨ k = 4 ∨ k = 5 ∨ k = 6 := by omega
  all_goals rfl
theorem unit_in (k : Nat) (h : k < 7) : (nmU k).length ≤ 2 ∧ 1 ≤ byU k ∧ byU k ≤ 86400000000000 ∧ 0 < (nmU k).length := by
  obtain rfl | rfl | rfl | rfl | rfl | rfl | rfl : k = 0 ∨ k = 1 ∨ k = 2 ∨ k = 3 ∨ k = 4 ∨ k = 5 ∨ k = 6 := by omega
  all_goals decide

/-- Whether a text is as long as a number may be, without a 0 ahead. -/
def fitB (X : List UInt8) : Bool := X == [48] || (!X.isEmpty && (decide (X.length ≤ 9) && !(decide (byt X 0 = 48))))
def cutU (l u : List UInt8) : List UInt8 := l.take (l.length - u.length)
def hitU (l u : List UInt8) : Bool := Lib.hasSuffix l u && (fitB (cutU l u) && (cutU l u).all isD)
def spGo : List (List UInt8 × Nat) → List UInt8 → Int × Int
  | [], _ => (0, 30)
  | (u, by') :: r, l => if hitU l u then (if 2305843009213693952 / by' < vl (cutU l u) then (0, 30) else (((vl (cutU l u) * by' : Nat) : Int), 0)) else spGo r l
def spV (l : List UInt8) : Int := (spGo unitL l).1
def spC (l : List UInt8) : Int := (spGo unitL l).2
theorem spGo_no (u : List UInt8) (b : Nat) (r : List (List UInt8 × Nat)) (l : List UInt8) (h : hitU l u = false) : spGo ((u, b) :: r) l = spGo r l := by simp [spGo, h]
theorem spGo_big (u : List UInt8) (b : Nat) (r : List (List UInt8 × Nat)) (l : List UInt8) (h : hitU l u = true) (h2 : 2305843009213693952 / b < vl (cutU l u)) : spGo ((u, b) :: r) l = (0, 30) := by simp [spGo, h, h2]
theorem spGo_yes (u : List UInt8) (b : Nat) (r : List (List UInt8 × Nat)) (l : List UInt8) (h : hitU l u = true) (h2 : ¬ 2305843009213693952 / b < vl (cutU l u)) : spGo ((u, b) :: r) l = (((vl (cutU l u) * b : Nat) : Int), 0) := by simp [spGo, h, h2]
theorem fitB_len {X : List UInt8} (h : fitB X = true) : 1 ≤ X.length ∧ X.length ≤ 9 := by
  cases X with
  | nil => exact absurd h (by decide)
  | cons c t =>
    refine ⟨by simp, ?_⟩
    simp only [fitB, Bool.or_eq_true, Bool.and_eq_true, beq_iff_eq, decide_eq_true_eq] at h
    rcases h with h | h
    · rw [h]; decide
    · exact h.2.1
theorem cutU_trim {l u : List UInt8} (h : Lib.hasSuffix l u = true) : Lib.trimSuffix l u = cutU l u := by simp [Lib.trimSuffix, h, cutU]

/-- One digit more. -/
theorem vlG_snoc (l : List UInt8) : ∀ (n : Nat) (c : UInt8), vlG n (l ++ [c]) = 10 * vlG n l + (c.toNat - 48) := by
  induction l with
  | nil => intro n c; rfl
  | cons d t ih => intro n c; exact ih _ c
theorem vl_snoc (l : List UInt8) (c : UInt8) : vl (l ++ [c]) = 10 * vl l + (c.toNat - 48) := vlG_snoc l 0 c
theorem vl_take (l : List UInt8) (i : Nat) (h : i < l.length) : vl (l.take (i + 1)) = 10 * vl (l.take i) + (byt l i - 48) := by
  rw [List.take_succ_eq_append_getElem h, vl_snoc, byt_get l i h]
theorem vl_lt (l : List UInt8) (h : l.all isD = true) : vl l < 10 ^ l.length := by
  suffices H : ∀ (k : Nat), k ≤ l.length → vl (l.take k) < 10 ^ k by
    have := H l.length (Nat.le_refl _); rwa [List.take_length] at this
  intro k
  induction k with
  | zero => intro _; rw [List.take_zero]; exact Nat.zero_lt_one
  | succ k ih =>
    intro hk
    have h1 := ih (by omega)
    rw [vl_take l k (by omega), Nat.pow_succ]
    have hc : isD l[k] = true := List.all_eq_true.1 h _ (List.getElem_mem _)
    have := isD_le hc
    rw [byt_get l k (by omega)]
    omega
theorem all_take (l : List UInt8) (i : Nat) (h : i < l.length) : (l.take (i + 1)).all isD = ((l.take i).all isD && isDn (byt l i)) := by
  rw [List.take_succ_eq_append_getElem h, List.all_append, byt_get l i h]
  simp [isD]
theorem all_of_take {l : List UInt8} {i : Nat} (h : i < l.length) (hn : isDn (byt l i) = false) : l.all isD = false := by
  cases hl : l.all isD
  · rfl
  · have := List.all_eq_true.1 hl l[i] (List.getElem_mem _)
    rw [byt_get l i h] at hn
    rw [show isDn (l[i]).toNat = isD l[i] from rfl, this] at hn
    cases hn
end S3
end Go.Proofs.YtaijekagcmkgjaaDoor
