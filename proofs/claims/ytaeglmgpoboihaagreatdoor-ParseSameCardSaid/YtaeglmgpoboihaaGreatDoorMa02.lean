/- Texts on the program and on the document, joined: StpP, StpQ, StpR. -/
import Derived.Test.YtaeglmgpoboihaaGreatDoorMa01
import Derived.Lib.Strings
/- Plain mathematics of layer 3: what a reader of stamps takes from a text; the calendar; digits. Nothing of the program. -/
namespace Go.Proofs.YtaeglmgpoboihaaGreatDoor
open K
namespace S3

/-! ### Digits of a text -/
def isDn (n : Nat) : Bool := decide (48 ≤ n) && decide (n ≤ 57)
def isD (c : UInt8) : Bool := isDn c.toNat
/-- The number that digits spell. -/
def vlG (n : Nat) : List UInt8 → Nat
  | [] => n
  | c :: t => vlG (10 * n + (c.toNat - 48)) t
def vl (l : List UInt8) : Nat := vlG 0 l
def nGo : Nat → Nat → List UInt8 → Option Nat × List UInt8
  | 0, n, l => (some n, l)
  | _ + 1, _, [] => (none, [])
  | k + 1, n, c :: t => if isD c then nGo k (10 * n + (c.toNat - 48)) t else (none, c :: t)
theorem isD_le {c : UInt8} (h : isD c = true) : 48 ≤ c.toNat ∧ c.toNat ≤ 57 := by simpa [isD, isDn] using h

/-- A number of so many digits at the beginning: its value, whether it is right, what is left. -/
def inR (n least most : Int) : Bool := decide (least ≤ n) && decide (n ≤ most)
def nV (k : Nat) (least most : Int) (l : List UInt8) : Int :=
  match (nGo k 0 l).1 with
  | some n => if inR n least most then (n : Int) else least
  | none => least
def nOk (k : Nat) (least most : Int) (l : List UInt8) : Bool :=
  match (nGo k 0 l).1 with
  | some n => inR n least most
  | none => false
def nL (k : Nat) (l : List UInt8) : List UInt8 := (nGo k 0 l).2
theorem nV_in (k : Nat) (least most : Int) (l : List UInt8) (h : least ≤ most) : least ≤ nV k least most l ∧ nV k least most l ≤ most := by
  unfold nV
  split
  · split
    · rename_i h1; simp [inR] at h1; omega
    · omega
  · omega
theorem nGo_len (k : Nat) : ∀ (n : Nat) (l : List UInt8), (nGo k n l).2.length ≤ l.length := by
  induction k with
  | zero => intro n l; simp [nGo]
  | succ k ih =>
    intro n l
    cases l with
    | nil => simp [nGo]
    | cons c t =>
      unfold nGo
      split
      · have := ih (10 * n + (c.toNat - 48)) t; simp; omega
      · simp
theorem nL_len (k : Nat) (l : List UInt8) : (nL k l).length ≤ l.length := nGo_len k 0 l
theorem nGo_yes (k : Nat) : ∀ (n : Nat) (l : List UInt8), k ≤ l.length → (l.take k).all isD = true → nGo k n l = (some (vlG n (l.take k)), l.drop k) := by
  induction k with
  | zero => intro n l _ _; rfl
  | succ k ih =>
    intro n l hl ha
    cases l with
    | nil => simp at hl
    | cons c t =>
      rw [List.take_succ_cons] at ha ⊢
      rw [List.all_cons, Bool.and_eq_true] at ha
      have h1 := ih (10 * n + (c.toNat - 48)) t (by simpa using hl) ha.2
      unfold nGo vlG
      rw [if_pos ha.1, h1]
      rfl
theorem nGo_no (k : Nat) : ∀ (n : Nat) (l : List UInt8), ¬ (k ≤ l.length ∧ (l.take k).all isD = true) → (nGo k n l).1 = none := by
  induction k with
  | zero => intro n l h; simp at h
  | succ k ih =>
    intro n l h
    cases l with
    | nil => simp [nGo]
    | cons c t =>
      unfold nGo
      split
      · rename_i hc
        refine ih _ t fun ⟨h1, h2⟩ => h ⟨by simpa using h1, ?_⟩
        simp only [List.take_succ_cons, List.all_cons, Bool.and_eq_true]
        exact ⟨hc, h2⟩
      · rfl
theorem nOk_iff (k : Nat) (least most : Int) (l : List UInt8) : nOk k least most l = true ↔ k ≤ l.length ∧ (l.take k).all isD = true ∧ least ≤ (vl (l.take k) : Int) ∧ (vl (l.take k) : Int) ≤ most := by
  by_cases h : k ≤ l.length ∧ (l.take k).all isD = true
  · unfold nOk
    rw [nGo_yes k 0 l h.1 h.2]
    simp [inR, vl, h.1]
    intro _
    exact fun _ => by simpa using h.2
  · unfold nOk
    rw [nGo_no k 0 l h]
    constructor
    · intro h2; cases h2
    · intro h2; exact absurd ⟨h2.1, h2.2.1⟩ h
theorem nOk_get {k : Nat} {least most : Int} {l : List UInt8} (h : nOk k least most l = true) : nV k least most l = (vl (l.take k) : Int) ∧ nL k l = l.drop k := by
  have h1 := (nOk_iff k least most l).1 h
  unfold nV nL
  rw [nGo_yes k 0 l h1.1 h1.2.1]
  refine ⟨?_, rfl⟩
  simp only
  rw [if_pos (by simp [inR]; exact ⟨h1.2.2.1, h1.2.2.2⟩)]
  rfl

/-! ### Marks -/
def mkOk (c : Int) : List UInt8 → Bool
  | [] => false
  | x :: _ => decide ((x.toNat : Int) = c)
def mkL (c : Int) : List UInt8 → List UInt8
  | [] => []
  | x :: t => if (x.toNat : Int) = c then t else x :: t
theorem mkL_len (c : Int) (l : List UInt8) : (mkL c l).length ≤ l.length := by
  cases l with
  | nil => simp [mkL]
  | cons x t => by_cases h : (x.toNat : Int) = c <;> simp [mkL, h]
theorem mkOk_iff (c : Int) (l : List UInt8) : mkOk c l = true ↔ 0 < l.length ∧ (byt l 0 : Int) = c := by
  cases l with
  | nil => simp [mkOk]
  | cons x t => simp [mkOk, byt]
theorem mkL_of {c : Int} {l : List UInt8} (h : mkOk c l = true) : mkL c l = l.drop 1 := by
  cases l with
  | nil => simp [mkOk] at h
  | cons x t => simp [mkOk] at h; simp [mkL, h]
theorem mkL_not {c : Int} {l : List UInt8} (h : mkOk c l = false) : mkL c l = l := by
  cases l with
  | nil => rfl
  | cons x t => simp [mkOk] at h; simp [mkL, h]

/-! ### The calendar -/
def leap (y : Nat) : Bool := y % 4 == 0 && (!(y % 100 == 0) || y % 400 == 0)
def lf (y : Int) : Int := (y + 3) / 4 - (y + 99) / 100 + (y + 399) / 400
/-- Days from 1970 on, ahead of a year. -/
def ya (y : Int) : Int := 365 * (y - 1970) + lf y - 478
def cum : Nat → Int
  | 1 => 0 | 2 => 31 | 3 => 59 | 4 => 90 | 5 => 120 | 6 => 151 | 7 => 181 | 8 => 212 | 9 => 243 | 10 => 273 | 11 => 304 | 12 => 334 | 13 => 365 | _ => 0
def lp (y : Nat) : Int := if leap y then 1 else 0
/-- Days of a year ahead of a month. -/
def da (y m : Nat) : Int := cum m + if 2 < m then lp y else 0
def dim (y m : Nat) : Int := da y (m + 1) - da y m
theorem lp_01 (y : Nat) : 0 ≤ lp y ∧ lp y ≤ 1 := by unfold lp; split <;> omega
theorem ya_succ (y : Nat) : ya ((y : Int) + 1) = ya y + 365 + lp y := by
  unfold ya lf lp leap
  by_cases h4 : y % 4 = 0 <;> by_cases h1 : y % 100 = 0 <;> by_cases h2 : y % 400 = 0 <;> simp [h4, h1, h2] <;> omega
theorem ya_lt (y : Nat) : ya y < ya ((y : Int) + 1) := by have := ya_succ y; have := lp_01 y; omega
theorem cum_all (m : Nat) (h1 : 1 ≤ m) (h2 : m ≤ 13) : 0 ≤ cum m ∧ cum m ≤ 365 := by
  obtain rfl | rfl | rfl | rfl | rfl | rfl | rfl | rfl | rfl | rfl | rfl | rfl | rfl : m = 1 ∨ m = 2 ∨ m = 3 ∨ m = 4 ∨ m = 5 ∨ m = 6 ∨ m = 7 ∨ m = 8 ∨ m = 9 ∨ m = 10 ∨ m = 11 ∨ m = 12 ∨ m = 13 := by omega
  all_goals simp [cum]
theorem da_in (y m : Nat) (h1 : 1 ≤ m) (h2 : m ≤ 13) : 0 ≤ da y m ∧ da y m ≤ 366 := by
  have := cum_all m h1 h2; have := lp_01 y
  unfold da; split <;> omega
theorem dim_in (y m : Nat) (h1 : 1 ≤ m) (h2 : m ≤ 12) : 28 ≤ dim y m ∧ dim y m ≤ 31 := by
  have := lp_01 y
  obtain rfl | rfl | rfl | rfl | rfl | rfl | rfl | rfl | rfl | rfl | rfl | rfl : m = 1 ∨ m = 2 ∨ m = 3 ∨ m = 4 ∨ m = 5 ∨ m = 6 ∨ m = 7 ∨ m = 8 ∨ m = 9 ∨ m = 10 ∨ m = 11 ∨ m = 12 := by omega
  all_goals (simp [dim, da, cum]; try omega)
theorem da_first (y : Nat) : da y 1 = 0 := by simp [da, cum]
theorem da_last (y : Nat) : da y 13 = 365 + lp y := by simp [da, cum]

/-! ### What a stamp tells -/
def hmL (l : List UInt8) : List UInt8 := nL 2 (mkL 58 (nL 2 l))
def hmV (l : List UInt8) : Int := nV 2 0 23 l * 60 + nV 2 0 59 (mkL 58 (nL 2 l))
def hmOk (l : List UInt8) : Bool := nOk 2 0 23 l && mkOk 58 (nL 2 l) && nOk 2 0 59 (mkL 58 (nL 2 l))
theorem hmV_in (l : List UInt8) : 0 ≤ hmV l ∧ hmV l ≤ 1439 := by
  have h1 := nV_in 2 0 23 l (by omega); have h2 := nV_in 2 0 59 (mkL 58 (nL 2 l)) (by omega)
  unfold hmV; omega
theorem hmL_len (l : List UInt8) : (hmL l).length ≤ l.length := Nat.le_trans (nL_len _ _) (Nat.le_trans (mkL_len _ _) (nL_len _ _))

def dY (l : List UInt8) : Nat := (nV 4 0 9999 l).toNat
def dl1 (l : List UInt8) : List UInt8 := mkL 45 (nL 4 l)
def dM (l : List UInt8) : Nat := (nV 2 1 12 (dl1 l)).toNat
def dl2 (l : List UInt8) : List UInt8 := mkL 45 (nL 2 (dl1 l))
def dD (l : List UInt8) : Int := nV 2 1 (dim (dY l) (dM l)) (dl2 l)
def dL (l : List UInt8) : List UInt8 := nL 2 (dl2 l)
def dV (l : List UInt8) : Int := ya (dY l) + da (dY l) (dM l) + dD l - 1
def dOk (l : List UInt8) : Bool := nOk 4 0 9999 l && mkOk 45 (nL 4 l) && nOk 2 1 12 (dl1 l) && mkOk 45 (nL 2 (dl1 l)) && nOk 2 1 (dim (dY l) (dM l)) (dl2 l)
theorem dY_in (l : List UInt8) : dY l ≤ 9999 ∧ ((dY l : Nat) : Int) = nV 4 0 9999 l := by
  have := nV_in 4 0 9999 l (by omega); unfold dY; omega
theorem dM_in (l : List UInt8) : 1 ≤ dM l ∧ dM l ≤ 12 ∧ ((dM l : Nat) : Int) = nV 2 1 12 (dl1 l) := by
  have := nV_in 2 1 12 (dl1 l) (by omega); unfold dM; omega
theorem dD_in (l : List UInt8) : 1 ≤ dD l ∧ dD l ≤ 31 := by
  have hm := dM_in l
  have := dim_in (dY l) (dM l) hm.1 hm.2.1
  have := nV_in 2 1 (dim (dY l) (dM l)) (dl2 l) (by omega)
  unfold dD; omega
theorem ya_in (y : Nat) (h : y ≤ 9999) : -719528 ≤ ya y ∧ ya y ≤ 2932532 := by unfold ya lf; omega
theorem dV_in (l : List UInt8) : -719528 ≤ dV l ∧ dV l ≤ 2932930 := by
  have h1 := dY_in l; have h2 := dM_in l; have := dD_in l
  have := ya_in (dY l) h1.1; have := da_in (dY l) (dM l) h2.1 (by omega)
  unfold dV; omega
theorem dL_len (l : List UInt8) : (dL l).length ≤ l.length := Nat.le_trans (nL_len _ _) (Nat.le_trans (mkL_len _ _) (Nat.le_trans (nL_len _ _) (Nat.le_trans (mkL_len _ _) (nL_len _ _))))

/-- Digits behind a point: p places are left. -/
def fGo : Nat → Nat → List UInt8 → Nat × Nat × List UInt8
  | 0, n, l => (n, 0, l)
  | p + 1, n, [] => (n, p + 1, [])
  | p + 1, n, c :: t => if isD c then fGo p (n + (c.toNat - 48) * 10 ^ p) t else (n, p + 1, c :: t)
def fV (l : List UInt8) : Nat := if mkOk 46 l then (fGo 9 0 (mkL 46 l)).1 else 0
def fOk (l : List UInt8) : Bool := if mkOk 46 l then !((fGo 9 0 (mkL 46 l)).2.1 == 9) else true
def fL (l : List UInt8) : List UInt8 := if mkOk 46 l then (fGo 9 0 (mkL 46 l)).2.2 else l
theorem fGo_in (p : Nat) : ∀ (n : Nat) (l : List UInt8), (fGo p n l).1 < n + 10 ^ p ∧ (fGo p n l).2.1 ≤ p ∧ (fGo p n l).2.2.length ≤ l.length := by
  induction p with
  | zero => intro n l; simp [fGo]
  | succ p ih =>
    intro n l
    have hp : 0 < 10 ^ p := Nat.pow_pos (by omega)
    cases l with
    | nil => simp only [fGo]; rw [Nat.pow_succ]; exact ⟨by omega, Nat.le_refl _, Nat.le_refl _⟩
    | cons c t =>
      unfold fGo
      split
      · rename_i hc
        have hd := isD_le hc
        have h := ih (n + (c.toNat - 48) * 10 ^ p) t
        have h9 : (c.toNat - 48) * 10 ^ p ≤ 9 * 10 ^ p := Nat.mul_le_mul_right _ (by omega)
        rw [Nat.pow_succ]
        refine ⟨by omega, by omega, by simp; omega⟩
      · simp only []; rw [Nat.pow_succ]; exact ⟨by omega, Nat.le_refl _, Nat.le_refl _⟩
theorem fV_in (l : List UInt8) : fV l < 1000000000 := by
  unfold fV; split
  · have := (fGo_in 9 0 (mkL 46 l)).1; simpa using this
  · omega
theorem fL_len (l : List UInt8) : (fL l).length ≤ l.length := by
  unfold fL; split
  · exact Nat.le_trans (fGo_in 9 0 (mkL 46 l)).2.2 (mkL_len _ _)
  · exact Nat.le_refl _

def zV (l : List UInt8) : Int := if mkOk 90 l then 0 else if mkOk 43 l then hmV (mkL 43 l) else -hmV (mkL 45 l)
def zOk (l : List UInt8) : Bool := if mkOk 90 l then true else if mkOk 43 l then hmOk (mkL 43 l) else mkOk 45 l && hmOk (mkL 45 l)
def zL (l : List UInt8) : List UInt8 := if mkOk 90 l then mkL 90 l else if mkOk 43 l then hmL (mkL 43 l) else hmL (mkL 45 l)
theorem zV_in (l : List UInt8) : -1439 ≤ zV l ∧ zV l ≤ 1439 := by
  unfold zV
  have := hmV_in (mkL 43 l); have := hmV_in (mkL 45 l)
  split
  · omega
  · split <;> omega
theorem zL_len (l : List UInt8) : (zL l).length ≤ l.length := by
  unfold zL
  split
  · exact mkL_len _ _
  · split
    · exact Nat.le_trans (hmL_len _) (mkL_len _ _)
    · exact Nat.le_trans (hmL_len _) (mkL_len _ _)

def p1 (l : List UInt8) : List UInt8 := mkL 84 (dL l)
def p2 (l : List UInt8) : List UInt8 := mkL 58 (hmL (p1 l))
def p3 (l : List UInt8) : List UInt8 := nL 2 (p2 l)
def p4 (l : List UInt8) : List UInt8 := fL (p3 l)
def pOk (l : List UInt8) : Bool := dOk l && mkOk 84 (dL l) && hmOk (p1 l) && mkOk 58 (hmL (p1 l)) && nOk 2 0 59 (p2 l) && fOk (p3 l) && zOk (p4 l) && (zL (p4 l)).isEmpty
def pS (l : List UInt8) : Int := dV l * 86400 + hmV (p1 l) * 60 + nV 2 0 59 (p2 l) - zV (p4 l) * 60
def pF (l : List UInt8) : Nat := fV (p3 l)
def pGood (l : List UInt8) : Bool := pOk l && (decide (0 ≤ pS l) && (decide (pS l ≤ 2305843009) && decide (pS l * 1000000000 + pF l ≤ 2305843009213693952)))
def prsV (l : List UInt8) : Int := if pGood l then pS l * 1000000000 + pF l else 0
def prsC (l : List UInt8) : Int := if pGood l then 0 else 30
theorem pS_in (l : List UInt8) : -62167305541 ≤ pS l ∧ pS l ≤ 253405326539 := by
  have := dV_in l; have := hmV_in (p1 l); have := nV_in 2 0 59 (p2 l) (by omega); have := zV_in (p4 l)
  unfold pS; omega
end S3
end Go.Proofs.YtaeglmgpoboihaaGreatDoor
/- Plain mathematics of spans. Nothing of the program. -/
namespace Go.Proofs.YtaeglmgpoboihaaGreatDoor
open K
namespace S3

def unitL : List (List UInt8 × Nat) := [([100], 86400000000000), ([104], 3600000000000), ([109], 60000000000), ([115], 1000000000), ([109, 115], 1000000), ([117, 115], 1000), ([110, 115], 1)]
def nmU (k : Nat) : List UInt8 := (unitL[k]?.getD ([], 1)).1
def byU (k : Nat) : Nat := (unitL[k]?.getD ([], 1)).2
theorem unit_drop (k : Nat) (h : k < 7) : unitL.drop k = (nmU k, byU k) :: unitL.drop (k + 1) := by
  obtain rfl | rfl | rfl | rfl | rfl | rfl | rfl : k = 0 ∨ k = 1 ∨ k = 2 ∨ k = 3 ∨ k = 4 ∨ k = 5 ∨ k = 6 := by omega
  all_goals rfl
theorem unit_in (k : Nat) (h : k < 7) : (nmU k).length ≤ 2 ∧ 1 ≤ byU k ∧ byU k ≤ 86400000000000 ∧ 0 < (nmU k).length := by
  obtain rfl | rfl | rfl | rfl | rfl | rfl | rfl : k = 0 ∨ k = 1 ∨ k = 2 ∨ k = 3 ∨ k = 4 ∨ k = 5 ∨ k = 6 := by omega
  all_goals decide

/-- Whether a text is as long as a number may be, without a 0 ahead. -/
def fitB (X : List UInt8) : Bool := X == [48] || (!X.isEmpty && (decide (X.length ≤ 9) && !(decide (byt X 0 = 48))))
def cutU (l u : List UInt8) : List UInt8 := l.take (l.length - u.length)
def hitU (l u : List UInt8) : Bool := Lib.hasSuffix l u && (fitB (cutU l u) && (cutU l u).all isD)
def spGo : List (List UInt8 × Nat) → List UInt8 → Int × Int
  | [], _ => (0, 30)
  | (u, by') :: r, l => if hitU l u then (if 2305843009213693952 / by' < vl (cutU l u) then (0, 30) else (((vl (cutU l u) * by' : Nat) : Int), 0)) else spGo r l
def spV (l : List UInt8) : Int := (spGo unitL l).1
def spC (l : List UInt8) : Int := (spGo unitL l).2
theorem spGo_no (u : List UInt8) (b : Nat) (r : List (List UInt8 × Nat)) (l : List UInt8) (h : hitU l u = false) : spGo ((u, b) :: r) l = spGo r l := by simp [spGo, h]
theorem spGo_big (u : List UInt8) (b : Nat) (r : List (List UInt8 × Nat)) (l : List UInt8) (h : hitU l u = true) (h2 : 2305843009213693952 / b < vl (cutU l u)) : spGo ((u, b) :: r) l = (0, 30) := by simp [spGo, h, h2]
theorem spGo_yes (u : List UInt8) (b : Nat) (r : List (List UInt8 × Nat)) (l : List UInt8) (h : hitU l u = true) (h2 : ¬ 2305843009213693952 / b < vl (cutU l u)) : spGo ((u, b) :: r) l = (((vl (cutU l u) * b : Nat) : Int), 0) := by simp [spGo, h, h2]
theorem fitB_len {X : List UInt8} (h : fitB X = true) : 1 ≤ X.length ∧ X.length ≤ 9 := by
  cases X with
  | nil => exact absurd h (by decide)
  | cons c t =>
    refine ⟨by simp, ?_⟩
    simp only [fitB, Bool.or_eq_true, Bool.and_eq_true, beq_iff_eq, decide_eq_true_eq] at h
    rcases h with h | h
    · rw [h]; decide
    · exact h.2.1
theorem cutU_trim {l u : List UInt8} (h : Lib.hasSuffix l u = true) : Lib.trimSuffix l u = cutU l u := by simp [Lib.trimSuffix, h, cutU]

/-- One digit more. -/
theorem vlG_snoc (l : List UInt8) : ∀ (n : Nat) (c : UInt8), vlG n (l ++ [c]) = 10 * vlG n l + (c.toNat - 48) := by
  induction l with
  | nil => intro n c; rfl
  | cons d t ih => intro n c; exact ih _ c
theorem vl_snoc (l : List UInt8) (c : UInt8) : vl (l ++ [c]) = 10 * vl l + (c.toNat - 48) := vlG_snoc l 0 c
theorem vl_take (l : List UInt8) (i : Nat) (h : i < l.length) : vl (l.take (i + 1)) = 10 * vl (l.take i) + (byt l i - 48) := by
  rw [List.take_succ_eq_append_getElem h, vl_snoc, byt_get l i h]
theorem vl_lt (l : List UInt8) (h : l.all isD = true) : vl l < 10 ^ l.length := by
  suffices H : ∀ (k : Nat), k ≤ l.length → vl (l.take k) < 10 ^ k by
    have := H l.length (Nat.le_refl _); rwa [List.take_length] at this
  intro k
  induction k with
  | zero => intro _; rw [List.take_zero]; exact Nat.zero_lt_one
  | succ k ih =>
    intro hk
    have h1 := ih (by omega)
    rw [vl_take l k (by omega), Nat.pow_succ]
    have hc : isD l[k] = true := List.all_eq_true.1 h _ (List.getElem_mem _)
    have := isD_le hc
    rw [byt_get l k (by omega)]
    omega
theorem all_take (l : List UInt8) (i : Nat) (h : i < l.length) : (l.take (i + 1)).all isD = ((l.take i).all isD && isDn (byt l i)) := by
  rw [List.take_succ_eq_append_getElem h, List.all_append, byt_get l i h]
  simp [isD]
theorem all_of_take {l : List UInt8} {i : Nat} (h : i < l.length) (hn : isDn (byt l i) = false) : l.all isD = false := by
  cases hl : l.all isD
  · rfl
  · have := List.all_eq_true.1 hl l[i] (List.getElem_mem _)
    rw [byt_get l i h] at hn
    rw [show isDn (l[i]).toNat = isD l[i] from rfl, this] at hn
    cases hn
end S3
end Go.Proofs.YtaeglmgpoboihaaGreatDoor
/- Plain mathematics: what the document's own reading of a stamp comes to. Nothing of the program. -/
namespace Go.Proofs.YtaeglmgpoboihaaGreatDoor
open K
namespace S3

/-- Days from 1970 on, ahead of a year; 0 of an earlier one. -/
def pst (y : Nat) : Int := if 1970 ≤ y then ya y else 0
/-- The number that a text spells; below 0, of none. -/
def numI (X : List UInt8) : Int := if !X.isEmpty && X.all isD then (vl X : Int) else -1
theorem numI_no (X : List UInt8) (h : X.all isD = false) : numI X = -1 := by unfold numI; rw [h]; simp
theorem numI_nil : numI [] = -1 := rfl
theorem numI_yes (X : List UInt8) (h : X.all isD = true) (h0 : 0 < X.length) : numI X = vl X := by
  unfold numI
  have : X.isEmpty = false := by simpa using List.length_pos_iff.1 h0
  rw [h, this]; rfl

theorem numI_ge (X : List UInt8) : -1 ≤ numI X := by unfold numI; split <;> omega
theorem numI_pos (X : List UInt8) (h : 0 ≤ numI X) : X.all isD = true ∧ 0 < X.length ∧ numI X = vl X := by
  cases ha : X.all isD
  · rw [numI_no X ha] at h; omega
  · cases X with
    | nil => rw [numI_nil] at h; omega
    | cons c t => exact ⟨rfl, by simp, numI_yes _ ha (by simp)⟩
theorem numI_lt (X : List UInt8) (k : Nat) (h : X.length ≤ k) : numI X < ((10 ^ k : Nat) : Int) := by
  by_cases h0 : 0 ≤ numI X
  · have h1 := numI_pos X h0
    have h2 := vl_lt X h1.1
    have h3 : 10 ^ X.length ≤ 10 ^ k := Nat.pow_le_pow_right (by omega) h
    rw [h1.2.2]; omega
  · have : 0 < 10 ^ k := Nat.pow_pos (by omega)
    omega
/-- Digits at the beginning, as the document reads them. -/
theorem nOk_num (k : Nat) (lo hi : Int) (l : List UInt8) (hk : 1 ≤ k) (h0 : 0 ≤ lo) : nOk k lo hi l = true ↔ k ≤ l.length ∧ lo ≤ numI (l.take k) ∧ numI (l.take k) ≤ hi := by
  rw [nOk_iff]
  constructor
  · rintro ⟨a, b, c, d⟩
    rw [numI_yes _ b (by rw [List.length_take]; omega)]
    exact ⟨a, c, d⟩
  · rintro ⟨a, b, c⟩
    obtain ⟨e, _, f⟩ := numI_pos _ (Int.le_trans h0 b)
    rw [f] at b c
    exact ⟨a, e, b, c⟩
theorem nOk_val {k : Nat} {lo hi : Int} {l : List UInt8} (hk : 1 ≤ k) (h0 : 0 ≤ lo) (h : nOk k lo hi l = true) : nV k lo hi l = numI (l.take k) ∧ nL k l = l.drop k := by
  have h1 := (nOk_num k lo hi l hk h0).1 h
  obtain ⟨e, _, f⟩ := numI_pos _ (Int.le_trans h0 h1.2.1)
  rw [f]; exact nOk_get h
theorem byt_dropN (l : List UInt8) (i j : Nat) : byt (l.drop i) j = byt l (i + j) := by simp [byt]
theorem slice_drop (l : List UInt8) (i j k : Nat) : ((l.drop i).drop j).take k = (l.drop (i + j)).take k := by rw [List.drop_drop]

/-- Hours and minutes. -/
theorem hm_iff (t : List UInt8) : hmOk t = true ↔ 5 ≤ t.length ∧ 0 ≤ numI (t.take 2) ∧ numI (t.take 2) ≤ 23 ∧ (byt t 2 : Int) = 58 ∧ 0 ≤ numI ((t.drop 3).take 2) ∧ numI ((t.drop 3).take 2) ≤ 59 := by
  unfold hmOk
  rw [Bool.and_eq_true, Bool.and_eq_true]
  constructor
  · rintro ⟨⟨a, b⟩, c⟩
    have a2 := nOk_val (by omega) (by omega) a
    rw [a2.2] at b c
    rw [mkL_of b, List.drop_drop] at c
    have a3 := (nOk_num 2 0 23 t (by omega) (by omega)).1 a
    have b3 := (mkOk_iff 58 _).1 b
    rw [byt_dropN] at b3
    have c3 := (nOk_num 2 0 59 _ (by omega) (by omega)).1 c
    rw [List.length_drop] at c3
    exact ⟨by omega, a3.2.1, a3.2.2, b3.2, c3.2.1, c3.2.2⟩
  · rintro ⟨h, a1, a2, b, c1, c2⟩
    have a : nOk 2 0 23 t = true := (nOk_num 2 0 23 t (by omega) (by omega)).2 ⟨by omega, a1, a2⟩
    have a4 := nOk_val (by omega) (by omega) a
    have b4 : mkOk 58 (t.drop 2) = true := (mkOk_iff 58 _).2 ⟨by rw [List.length_drop]; omega, by rw [byt_dropN]; exact b⟩
    rw [a4.2, mkL_of b4, List.drop_drop]
    exact ⟨⟨a, b4⟩, (nOk_num 2 0 59 _ (by omega) (by omega)).2 ⟨by rw [List.length_drop]; omega, c1, c2⟩⟩
theorem hm_get {t : List UInt8} (h : hmOk t = true) : hmV t = numI (t.take 2) * 60 + numI ((t.drop 3).take 2) ∧ hmL t = t.drop 5 := by
  have h' := h
  unfold hmOk at h'
  rw [Bool.and_eq_true, Bool.and_eq_true] at h'
  obtain ⟨⟨a, b⟩, c⟩ := h'
  have a2 := nOk_val (by omega) (by omega) a
  unfold hmV hmL
  rw [a2.2] at b c ⊢
  rw [mkL_of b, List.drop_drop] at c ⊢
  have c2 := nOk_val (by omega) (by omega) c
  rw [a2.1, c2.1, c2.2, List.drop_drop]
  exact ⟨rfl, rfl⟩

/-- A zone, and nothing behind it. -/
def rzOk (l : List UInt8) : Bool := zOk l && (zL l).isEmpty
def rzV (l : List UInt8) : Int := if rzOk l then zV l else 0
theorem rz_z : rzOk [90] = true ∧ rzV [90] = 0 := by decide
theorem mk_not {c : Int} {l : List UInt8} (h : ¬ (0 < l.length ∧ (byt l 0 : Int) = c)) : mkOk c l = false := by
  cases hk : mkOk c l
  · rfl
  · exact absurd ((mkOk_iff c l).1 hk) h
/-- What the document asks of a zone other than Z. -/
def zGood (l : List UInt8) : Prop := l.length = 6 ∧ ((byt l 0 : Int) = 43 ∨ (byt l 0 : Int) = 45) ∧ (byt l 3 : Int) = 58 ∧ 0 ≤ numI ((l.drop 1).take 2) ∧ numI ((l.drop 1).take 2) ≤ 23 ∧ 0 ≤ numI ((l.drop 4).take 2) ∧ numI ((l.drop 4).take 2) ≤ 59
theorem rz_bad (l : List UInt8) (hz : l ≠ [90]) (h : ¬ zGood l) : rzOk l = false := by
  cases hr : rzOk l
  · rfl
  · exfalso
    unfold rzOk at hr
    rw [Bool.and_eq_true] at hr
    obtain ⟨h1, h2⟩ := hr
    have main : ∀ c : Int, (c = 43 ∨ c = 45) → mkOk c l = true → hmOk (mkL c l) = true → (hmL (mkL c l)).isEmpty = true → False := by
      intro c hc hk hm he
      rw [mkL_of hk] at hm he
      have k2 := (mkOk_iff c l).1 hk
      have m1 := (hm_iff _).1 hm
      have m2 := hm_get hm
      rw [m2.2, List.drop_drop] at he
      have he2 : l.drop (1 + 5) = [] := by simpa using he
      have hlen := congrArg List.length he2
      rw [List.length_drop] at m1 hlen
      rw [byt_dropN, List.drop_drop] at m1
      refine h ⟨by simp at hlen; omega, ?_, m1.2.2.2.1, m1.2.1, m1.2.2.1, m1.2.2.2.2.1, m1.2.2.2.2.2⟩
      rcases hc with rfl | rfl
      · exact Or.inl k2.2
      · exact Or.inr k2.2
    unfold zOk at h1
    unfold zL at h2
    cases k90 : mkOk 90 l
    · rw [k90] at h1 h2
      cases k43 : mkOk 43 l
      · rw [k43] at h1 h2
        simp only [Bool.false_eq_true, if_false, Bool.and_eq_true] at h1 h2
        exact main 45 (Or.inr rfl) h1.1 h1.2 h2
      · rw [k43] at h1 h2
        simp only [Bool.false_eq_true, if_false, if_true] at h1 h2
        exact main 43 (Or.inl rfl) k43 h1 h2
    · rw [k90] at h2
      simp only [if_true] at h2
      cases l with
      | nil => simp [mkOk] at k90
      | cons c t =>
        have hc : (c.toNat : Int) = 90 := by simpa [mkOk] using k90
        rw [mkL_of k90] at h2
        simp at h2
        subst h2
        apply hz
        congr 1
        exact UInt8.toNat_inj.1 (show c.toNat = 90 by omega)
theorem rz_good (l : List UInt8) (h : zGood l) : rzOk l = true ∧ rzV l = (if (byt l 0 : Int) = 45 then -60 * numI ((l.drop 1).take 2) - numI ((l.drop 4).take 2) else 60 * numI ((l.drop 1).take 2) + numI ((l.drop 4).take 2)) := by
  obtain ⟨h6, hs, h3, a1, a2, b1, b2⟩ := h
  have hm : hmOk (l.drop 1) = true := by
    rw [hm_iff, List.length_drop, byt_dropN, List.drop_drop]
    exact ⟨by omega, a1, a2, h3, b1, b2⟩
  have g := hm_get hm
  rw [List.drop_drop, List.drop_drop] at g
  have he : l.drop (1 + 5) = [] := List.drop_eq_nil_of_le (by omega)
  rw [he] at g
  have k90 : mkOk 90 l = false := mk_not (by rintro ⟨_, e⟩; rcases hs with e2 | e2 <;> omega)
  rcases hs with e | e
  · have k43 : mkOk 43 l = true := (mkOk_iff 43 l).2 ⟨by omega, e⟩
    have r : rzOk l = true := by unfold rzOk zOk zL; rw [k90, k43, mkL_of k43, hm, g.2]; rfl
    refine ⟨r, ?_⟩
    unfold rzV zV
    simp only [r, k90, k43, if_true, Bool.false_eq_true, if_false]
    rw [mkL_of k43, g.1, if_neg (by omega : ¬ (byt l 0 : Int) = 45)]
    simp only [Nat.reduceAdd]; omega
  · have k43 : mkOk 43 l = false := mk_not (by rintro ⟨_, e2⟩; omega)
    have k45 : mkOk 45 l = true := (mkOk_iff 45 l).2 ⟨by omega, e⟩
    have r : rzOk l = true := by unfold rzOk zOk zL; rw [k90, k43, k45, mkL_of k45, hm, g.2]; rfl
    refine ⟨r, ?_⟩
    unfold rzV zV
    simp only [r, k90, k43, if_true, Bool.false_eq_true, if_false]
    rw [mkL_of k45, g.1, if_pos e]
    simp only [Nat.reduceAdd]; omega

/-! ### The whole stamp -/
def gY (l : List UInt8) : Int := numI (l.take 4)
def gM (l : List UInt8) : Int := numI ((l.drop 5).take 2)
def gD (l : List UInt8) : Int := numI ((l.drop 8).take 2)
def gH (l : List UInt8) : Int := numI ((l.drop 11).take 2)
def gI (l : List UInt8) : Int := numI ((l.drop 14).take 2)
def gC (l : List UInt8) : Int := numI ((l.drop 17).take 2)
structure Seps (l : List UInt8) : Prop where
  len : 20 ≤ l.length
  s4 : (byt l 4 : Int) = 45
  s7 : (byt l 7 : Int) = 45
  s10 : (byt l 10 : Int) = 84
  s13 : (byt l 13 : Int) = 58
  s16 : (byt l 16 : Int) = 58
structure Nums5 (l : List UInt8) : Prop where
  y : 0 ≤ gY l
  m1 : 1 ≤ gM l
  m2 : gM l ≤ 12
  d1 : 1 ≤ gD l
  d2 : gD l ≤ dim (gY l).toNat (gM l).toNat
  h1 : 0 ≤ gH l
  h2 : gH l ≤ 23
  i1 : 0 ≤ gI l
  i2 : gI l ≤ 59
  c1 : 0 ≤ gC l
  c2 : gC l ≤ 59
theorem d_of {l : List UInt8} (h : dOk l = true) : 10 ≤ l.length ∧ 0 ≤ gY l ∧ (byt l 4 : Int) = 45 ∧ 1 ≤ gM l ∧ gM l ≤ 12 ∧ (byt l 7 : Int) = 45 ∧ 1 ≤ gD l ∧ gD l ≤ dim (gY l).toNat (gM l).toNat ∧
    dV l = ya (gY l).toNat + da (gY l).toNat (gM l).toNat + gD l - 1 ∧ dL l = l.drop 10 := by
  unfold dOk at h
  simp only [Bool.and_eq_true] at h
  obtain ⟨⟨⟨⟨a, b⟩, c⟩, d⟩, e⟩ := h
  have a2 := nOk_val (by omega) (by omega) a
  have a3 := (nOk_num _ _ _ _ (by omega) (by omega)).1 a
  rw [a2.2] at b
  have b3 := (mkOk_iff _ _).1 b
  rw [List.length_drop, byt_dropN] at b3
  have l1 : dl1 l = l.drop 5 := by unfold dl1; rw [a2.2, mkL_of b, List.drop_drop]
  rw [l1] at c d
  have c2 := nOk_val (by omega) (by omega) c
  have c3 := (nOk_num _ _ _ _ (by omega) (by omega)).1 c
  rw [c2.2] at d
  rw [List.length_drop] at c3
  have d3 := (mkOk_iff _ _).1 d
  rw [List.length_drop, List.length_drop, byt_dropN, byt_dropN] at d3
  have l2 : dl2 l = l.drop 8 := by unfold dl2; rw [l1, c2.2, mkL_of d, List.drop_drop, List.drop_drop]
  have hY : dY l = (gY l).toNat := by unfold dY gY; rw [a2.1]
  have hM : dM l = (gM l).toNat := by unfold dM gM; rw [l1, c2.1]
  rw [l2, hY, hM] at e
  have e2 := nOk_val (by omega) (by omega) e
  have e3 := (nOk_num _ _ _ _ (by omega) (by omega)).1 e
  rw [List.length_drop] at e3
  refine ⟨by omega, a3.2.1, b3.2, c3.2.1, c3.2.2, d3.2, e3.2.1, e3.2.2, ?_, ?_⟩
  · unfold dV dD; rw [hY, hM, l2, e2.1]; rfl
  · unfold dL; rw [l2, e2.2, List.drop_drop]
theorem d_mk {l : List UInt8} (h0 : 10 ≤ l.length) (hy : 0 ≤ gY l) (h4 : (byt l 4 : Int) = 45) (m1 : 1 ≤ gM l) (m2 : gM l ≤ 12) (h7 : (byt l 7 : Int) = 45) (d1 : 1 ≤ gD l) (d2 : gD l ≤ dim (gY l).toNat (gM l).toNat) : dOk l = true := by
  have hy9 : gY l ≤ 9999 := by
    have := numI_lt (l.take 4) 4 (by rw [List.length_take]; omega)
    unfold gY; simp at this; omega
  have a : nOk 4 0 9999 l = true := (nOk_num _ _ _ _ (by omega) (by omega)).2 ⟨by omega, hy, hy9⟩
  have a2 := nOk_val (by omega) (by omega) a
  have b : mkOk 45 (l.drop 4) = true := (mkOk_iff _ _).2 ⟨by rw [List.length_drop]; omega, by rw [byt_dropN]; exact h4⟩
  have l1 : dl1 l = l.drop 5 := by unfold dl1; rw [a2.2, mkL_of b, List.drop_drop]
  have c : nOk 2 1 12 (l.drop 5) = true := (nOk_num _ _ _ _ (by omega) (by omega)).2 ⟨by rw [List.length_drop]; omega, m1, m2⟩
  have c2 := nOk_val (by omega) (by omega) c
  have d : mkOk 45 ((l.drop 5).drop 2) = true := (mkOk_iff _ _).2 ⟨by rw [List.length_drop, List.length_drop]; omega, by rw [byt_dropN, byt_dropN]; exact h7⟩
  have l2 : dl2 l = l.drop 8 := by unfold dl2; rw [l1, c2.2, mkL_of d, List.drop_drop, List.drop_drop]
  have hY : dY l = (gY l).toNat := by unfold dY gY; rw [a2.1]
  have hM : dM l = (gM l).toNat := by unfold dM gM; rw [l1, c2.1]
  have e : nOk 2 1 (dim (gY l).toNat (gM l).toNat) (l.drop 8) = true := (nOk_num _ _ _ _ (by omega) (by omega)).2 ⟨by rw [List.length_drop]; omega, d1, d2⟩
  unfold dOk
  rw [a, a2.2, b, l1, c, c2.2, d, hY, hM, l2, e]
  rfl
theorem zOk_len {l : List UInt8} (h : zOk l = true) : 0 < l.length := by
  cases l with
  | nil => exact absurd h (by decide)
  | cons c t => simp
/-- When a stamp is right in form: as the document has it. -/
theorem p_of {l : List UInt8} (h : pOk l = true) : Seps l ∧ Nums5 l ∧ fOk (l.drop 19) = true ∧ rzOk (fL (l.drop 19)) = true := by
  unfold pOk at h
  simp only [Bool.and_eq_true] at h
  obtain ⟨⟨⟨⟨⟨⟨⟨a, b⟩, c⟩, d⟩, e⟩, f⟩, g⟩, k⟩ := h
  obtain ⟨a0, ay, a4, am1, am2, a7, ad1, ad2, aV, aL⟩ := d_of a
  rw [aL] at b
  have b3 := (mkOk_iff _ _).1 b
  rw [byt_dropN] at b3
  have q1 : p1 l = l.drop 11 := by unfold p1; rw [aL, mkL_of b, List.drop_drop]
  rw [q1] at c d
  have c3 := (hm_iff _).1 c
  have c2 := hm_get c
  rw [c2.2] at d
  have d3 := (mkOk_iff _ _).1 d
  rw [byt_dropN, byt_dropN] at d3
  rw [byt_dropN, List.drop_drop, List.length_drop] at c3
  have q2 : p2 l = l.drop 17 := by unfold p2; rw [q1, c2.2, mkL_of d, List.drop_drop, List.drop_drop]
  rw [q2] at e
  have e3 := (nOk_num _ _ _ _ (by omega) (by omega)).1 e
  have e2 := nOk_val (by omega) (by omega) e
  rw [List.length_drop] at e3
  have q3 : p3 l = l.drop 19 := by unfold p3; rw [q2, e2.2, List.drop_drop]
  have q4 : p4 l = fL (l.drop 19) := by unfold p4; rw [q3]
  rw [q3] at f
  rw [q4] at g k
  have hz := zOk_len g
  have hfl := fL_len (l.drop 19)
  rw [List.length_drop] at hfl
  refine ⟨⟨by omega, a4, a7, b3.2, c3.2.2.2.1, d3.2⟩, ⟨ay, am1, am2, ad1, ad2, c3.2.1, c3.2.2.1, c3.2.2.2.2.1, c3.2.2.2.2.2, e3.2.1, e3.2.2⟩, f, ?_⟩
  unfold rzOk
  rw [g, k]; rfl
theorem p_mk {l : List UInt8} (s : Seps l) (n : Nums5 l) (f : fOk (l.drop 19) = true) (z : rzOk (fL (l.drop 19)) = true) :
    pOk l = true ∧ pS l = (ya (gY l).toNat + da (gY l).toNat (gM l).toNat + gD l - 1) * 86400 + (gH l * 60 + gI l - rzV (fL (l.drop 19))) * 60 + gC l ∧ pF l = fV (l.drop 19) := by
  have hlen := s.len
  have a := d_mk (by omega) n.y s.s4 n.m1 n.m2 s.s7 n.d1 n.d2
  obtain ⟨_, _, _, _, _, _, _, _, aV, aL⟩ := d_of a
  have b : mkOk 84 (l.drop 10) = true := (mkOk_iff _ _).2 ⟨by rw [List.length_drop]; omega, by rw [byt_dropN]; exact s.s10⟩
  have q1 : p1 l = l.drop 11 := by unfold p1; rw [aL, mkL_of b, List.drop_drop]
  have c : hmOk (l.drop 11) = true := by
    rw [hm_iff, List.length_drop, byt_dropN, List.drop_drop]
    exact ⟨by omega, n.h1, n.h2, s.s13, n.i1, n.i2⟩
  have c2 := hm_get c
  rw [List.drop_drop, List.drop_drop] at c2
  have d : mkOk 58 (l.drop 16) = true := (mkOk_iff _ _).2 ⟨by rw [List.length_drop]; omega, by rw [byt_dropN]; exact s.s16⟩
  have q2 : p2 l = l.drop 17 := by unfold p2; rw [q1, c2.2, mkL_of d, List.drop_drop]
  have e : nOk 2 0 59 (l.drop 17) = true := (nOk_num _ _ _ _ (by omega) (by omega)).2 ⟨by rw [List.length_drop]; omega, n.c1, n.c2⟩
  have e2 := nOk_val (by omega) (by omega) e
  have q3 : p3 l = l.drop 19 := by unfold p3; rw [q2, e2.2, List.drop_drop]
  have q4 : p4 l = fL (l.drop 19) := by unfold p4; rw [q3]
  have z2 := z
  unfold rzOk at z2
  rw [Bool.and_eq_true] at z2
  have rv : rzV (fL (l.drop 19)) = zV (fL (l.drop 19)) := by unfold rzV; rw [z]; rfl
  refine ⟨?_, ?_, ?_⟩
  · unfold pOk
    rw [a, aL, b, q1, c, c2.2, d, q2, e, q3, f, q4, z2.1, z2.2]; rfl
  · unfold pS
    rw [aV, q1, c2.1, q2, e2.1, q4, rv]
    unfold gH gI gC
    simp only [Nat.reduceAdd]; omega
  · unfold pF; rw [q3]
/-- Years too early, and too late. -/
theorem p_early {l : List UInt8} (s : Seps l) (n : Nums5 l) (f : fOk (l.drop 19) = true) (z : rzOk (fL (l.drop 19)) = true) (h : gY l < 1969 ∨ 2100 < gY l) : prsV l = 0 ∧ prsC l = 30 := by
  have hp := p_mk s n f z
  have hz : -1439 ≤ rzV (fL (l.drop 19)) ∧ rzV (fL (l.drop 19)) ≤ 1439 := by
    have := zV_in (fL (l.drop 19)); unfold rzV; split <;> omega
  have hda := da_in (gY l).toNat (gM l).toNat (by have := n.m1; omega) (by have := n.m2; omega)
  have hdm := dim_in (gY l).toNat (gM l).toNat (by have := n.m1; omega) (by have := n.m2; omega)
  have h1 := n.h1; have h2 := n.h2; have i1 := n.i1; have i2 := n.i2; have c1 := n.c1; have c2 := n.c2; have d1 := n.d1; have d2 := n.d2; have hy := n.y
  have hcum := da_last (gY l).toNat
  have hlast : da (gY l).toNat (gM l).toNat + dim (gY l).toNat (gM l).toNat ≤ 366 := by
    unfold dim
    have := da_in (gY l).toNat ((gM l).toNat + 1) (by omega) (by have := n.m2; omega)
    omega
  have no : pS l < 0 ∨ 2305843009 < pS l := by
    rw [hp.2.1]
    rcases h with h | h
    · left
      have : ya ((gY l).toNat : Int) ≤ -731 := by unfold ya lf; omega
      omega
    · right
      have : 47846 ≤ ya ((gY l).toNat : Int) := by unfold ya lf; omega
      omega
  unfold prsV prsC
  have : pGood l = false := by
    unfold pGood
    rcases no with h | h
    · rw [decide_eq_false (by omega : ¬ 0 ≤ pS l)]; simp
    · rw [decide_eq_false (by omega : ¬ pS l ≤ 2305843009)]; simp
  rw [this]; exact ⟨rfl, rfl⟩
theorem p_none {l : List UInt8} (h : pOk l = false) : prsV l = 0 ∧ prsC l = 30 := by
  have : pGood l = false := by unfold pGood; rw [h]; rfl
  unfold prsV prsC; rw [this]; exact ⟨rfl, rfl⟩
theorem p_not {l : List UInt8} (h : ¬ (Seps l ∧ Nums5 l ∧ fOk (l.drop 19) = true ∧ rzOk (fL (l.drop 19)) = true)) : prsV l = 0 ∧ prsC l = 30 := by
  refine p_none ?_
  cases hk : pOk l
  · rfl
  · exact absurd (p_of hk) h
end S3
end Go.Proofs.YtaeglmgpoboihaaGreatDoor
