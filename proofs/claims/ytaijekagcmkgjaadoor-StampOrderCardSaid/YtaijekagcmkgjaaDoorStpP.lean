/- Plain mathematics of layer 3: what a reader of stamps takes from a text; the calendar; digits. Nothing of the program. -/
import Derived.Test.YtaijekagcmkgjaaDoorLib
namespace Go.Proofs.YtaijekagcmkgjaaDoor
open K
namespace S3

/-! ### Digits of a text -/
def isDn (n : Nat) : Bool := decide (48 ≤ n) && decide (n ≤ 57)
def isD (c : UInt8) : Bool := isDn c.toNat
/-- The number that digits spell. -/
def vlG (n : Nat) : List UInt8 → Nat
  | [] => n
  | c :: t => vlG (10 * n + (c.toNat - 48)) t
def vl (l : List UInt8) : Nat := vlG 0 l
def nGo : Nat → Nat → List UInt8 → Option Nat × List UInt8
  | 0, n, l => (some n, l)
  | _ + 1, _, [] => (none, [])
  | k + 1, n, c :: t => if isD c then nGo k (10 * n + (c.toNat - 48)) t else (none, c :: t)
theorem isD_le {c : UInt8} (h : isD c = true) : 48 ≤ c.toNat ∧ c.toNat ≤ 57 := by simpa [isD, isDn] using h

/-- A number of so many digits at the beginning: its value, whether it is right, what is left. -/
def inR (n least most : Int) : Bool := decide (least ≤ n) && decide (n ≤ most)
def nV (k : Nat) (least most : Int) (l : List UInt8) : Int :=
  match (nGo k 0 l).1 with
  | some n => if inR n least most then (n : Int) else least
  | none => least
def nOk (k : Nat) (least most : Int) (l : List UInt8) : Bool :=
  match (nGo k 0 l).1 with
  | some n => inR n least most
  | none => false
def nL (k : Nat) (l : List UInt8) : List UInt8 := (nGo k 0 l).2
theorem nV_in (k : Nat) (least most : Int) (l : List UInt8) (h : least ≤ most) : least ≤ nV k least most l ∧ nV k least most l ≤ most := by
  unfold nV
  split
  · split
    · rename_i h1; simp [inR] at h1; omega
    · omega
  · omega
theorem nGo_len (k : Nat) : ∀ (n : Nat) (l : List UInt8), (nGo k n l).2.length ≤ l.length := by
  induction k with
  | zero => intro n l; simp [nGo]
  | succ k ih =>
    intro n l
    cases l with
    | nil => simp [nGo]
    | cons c t =>
      unfold nGo
      split
      · have := ih (10 * n + (c.toNat - 48)) t; simp; omega
      · simp
theorem nL_len (k : Nat) (l : List UInt8) : (nL k l).length ≤ l.length := nGo_len k 0 l
theorem nGo_yes (k : Nat) : ∀ (n : Nat) (l : List UInt8), k ≤ l.length → (l.take k).all isD = true → nGo k n l = (some (vlG n (l.take k)), l.drop k) := by
  induction k with
  | zero => intro n l _ _; rfl
  | succ k ih =>
    intro n l hl ha
    cases l with
    | nil => simp at hl
    | cons c t =>
      rw [List.take_succ_cons] at ha ⊢
      rw [List.all_cons, Bool.and_eq_true] at ha
      have h1 := ih (10 * n + (c.toNat - 48)) t (by simpa using hl) ha.2
      unfold nGo vlG
      rw [if_pos ha.1, h1]
      rfl
theorem nGo_no (k : Nat) : ∀ (n : Nat) (l : List UInt8), ¬ (k ≤ l.length ∧ (l.take k).all isD = true) → (nGo k n l).1 = none := by
  induction k with
  | zero => intro n l h; simp at h
  | succ k ih =>
    intro n l h
    cases l with
    | nil => simp [nGo]
    | cons c t =>
      unfold nGo
      split
      · rename_i hc
        refine ih _ t fun ⟨h1, h2⟩ => h ⟨by simpa using h1, ?_⟩
        simp only [List.take_succ_cons, List.all_cons, Bool.and_eq_true]
        exact ⟨hc, h2⟩
      · rfl
theorem nOk_iff (k : Nat) (least most : Int) (l : List UInt8) : nOk k least most l = true ↔ k ≤ l.length ∧ (l.take k).all isD = true ∧ least ≤ (vl (l.take k) : Int) ∧ (vl (l.take k) : Int) ≤ most := by
  by_cases h : k ≤ l.length ∧ (l.take k).all isD = true
  · unfold nOk
    rw [nGo_yes k 0 l h.1 h.2]
    simp [inR, vl, h.1]
    intro _
    exact fun _ => by simpa using h.2
  · unfold nOk
    rw [nGo_no k 0 l h]
    constructor
    · intro h2; cases h2
    · intro h2; exact absurd ⟨h2.1, h2.2.1⟩ h
theorem nOk_get {k : Nat} {least most : Int} {l : List UInt8} (h : nOk k least most l = true) : nV k least most l = (vl (l.take k) : Int) ∧ nL k l = l.drop k := by
  have h1 := (nOk_iff k least most l).1 h
  unfold nV nL
  rw [nGo_yes k 0 l h1.1 h1.2.1]
  refine ⟨?_, rfl⟩
  simp only
  rw [if_pos (by simp [inR]; exact ⟨h1.2.2.1, h1.2.2.2⟩)]
  rfl

/-! ### Marks -/
def mkOk (c : Int) : List UInt8 → Bool
  | [] => false
  | x :: _ => decide ((x.toNat : Int) = c)
def mkL (c : Int) : List UInt8 → List UInt8
  | [] => []
  | x :: t => if (x.toNat : Int) = c then t else x :: t
theorem mkL_len (c : Int) (l : List UInt8) : (mkL c l).length ≤ l.length := by
  cases l with
  | nil => simp [mkL]
  | cons x t => by_cases h : (x.toNat : Int) = c <;> simp [mkL, h]
theorem mkOk_iff (c : Int) (l : List UInt8) : mkOk c l = true ↔ 0 < l.length ∧ (byt l 0 : Int) = c := by
  cases l with
  | nil => simp [mkOk]
  | cons x t => simp [mkOk, byt]
theorem mkL_of {c : Int} {l : List UInt8} (h : mkOk c l = true) : mkL c l = l.drop 1 := by
  cases l with
  | nil => simp [mkOk] at h
  | cons x t => simp [mkOk] at h; simp [mkL, h]
theorem mkL_not {c : Int} {l : List UInt8} (h : mkOk c l = false) : mkL c l = l := by
  cases l with
  | nil => rfl
  | cons x t => simp [mkOk] at h; simp [mkL, h]

/-! ### The calendar -/
def leap (y : Nat) : Bool := y % 4 == 0 && (!(y % 100 == 0) || y % 400 == 0)
def lf (y : Int) : Int := (y + 3) / 4 - (y + 99) / 100 + (y + 399) / 400
/-- Days from 1970 on, ahead of a year. -/
def ya (y : Int) : Int := 365 * (y - 1970) + lf y - 478
def cum : Nat → Int
  | 1 => 0 | 2 => 31 | 3 => 59 | 4 => 90 | 5 => 120 | 6 => 151 | 7 => 181 | 8 => 212 | 9 => 243 | 10 => 273 | 11 => 304 | 12 => 334 | 13 => 365 | _ => 0
def lp (y : Nat) : Int := if leap y then 1 else 0
/-- Days of a year ahead of a month. -/
def da (y m : Nat) : Int := cum m + if 2 < m then lp y else 0
def dim (y m : Nat) : Int := da y (m + 1) - da y m
theorem lp_01 (y : Nat) : 0 ≤ lp y ∧ lp y ≤ 1 := by unfold lp; split <;> omega
theorem ya_succ (y : Nat) : ya ((y : Int) + 1) = ya y + 365 + lp y := by
  unfold ya lf lp leap
  by_cases h4 : y % 4 = 0 <;> by_cases h1 : y % 100 = 0 <;> by_cases h2 : y % 400 = 0 <;> simp [h4, h1, h2] <;> omega
theorem ya_lt (y : Nat) : ya y < ya ((y : Int) + 1) := by have := ya_succ y; have := lp_01 y; omega
theorem cum_all (m : Nat) (h1 : 1 ≤ m) (h2 : m ≤ 13) : 0 ≤ cum m ∧ cum m ≤ 365 := by
  obtain rfl | rfl | rfl | rfl | rfl | rfl | rfl | rfl | rfl | rfl | rfl | rfl | rfl : m = 1 ∨ m = 2 ∨ m = 3 ∨ m = 4 ∨ m = 5 ∨ m = 6 ∨ m = 7 ∨ m = 8 ∨ m = 9 ∨ m = 10 ∨ m = 11 ∨ m = 12 ∨ m = 13 := by omega
  all_goals simp [cum]
theorem da_in (y m : Nat) (h1 : 1 ≤ m) (h2 : m ≤ 13) : 0 ≤ da y m ∧ da y m ≤ 366 := by
  have := cum_all m h1 h2; have := lp_01 y
  unfold da; split <;> omega
theorem dim_in (y m : Nat) (h1 : 1 ≤ m) (h2 : m ≤ 12) : 28 ≤ dim y m ∧ dim y m ≤ 31 := by
  have := lp_01 y
  obtain rfl | rfl | rfl | rfl | rfl | rfl | rfl | rfl | rfl | rfl | rfl | rfl : m = 1 ∨ m = 2 ∨ m = 3 ∨ m = 4 ∨ m = 5 ∨ m = 6 ∨ m = 7 ∨ m = 8 ∨ m = 9 ∨ m = 10 ∨ m = 11 ∨ m = 12 := by omega
  all_goals (simp [dim, da, cum]; try omega)
theorem da_first (y : Nat) : da y 1 = 0 := by simp [da, cum]
theorem da_last (y : Nat) : da y 13 = 365 + lp y := by simp [da, cum]

/-! ### What a stamp tells -/
def hmL (l : List UInt8) : List UInt8 := nL 2 (mkL 58 (nL 2 l))
def hmV (l : List UInt8) : Int := nV 2 0 23 l * 60 + nV 2 0 59 (mkL 58 (nL 2 l))
def hmOk (l : List UInt8) : Bool := nOk 2 0 23 l && mkOk 58 (nL 2 l) && nOk 2 0 59 (mkL 58 (nL 2 l))
theorem hmV_in (l : List UInt8) : 0 ≤ hmV l ∧ hmV l ≤ 1439 := by
  have h1 := nV_in 2 0 23 l (by omega); have h2 := nV_in 2 0 59 (mkL 58 (nL 2 l)) (by omega)
  unfold hmV; omega
theorem hmL_len (l : List UInt8) : (hmL l).length ≤ l.length := Nat.le_trans (nL_len _ _) (Nat.le_trans (mkL_len _ _) (nL_len _ _))

def dY (l : List UInt8) : Nat := (nV 4 0 9999 l).toNat
def dl1 (l : List UInt8) : List UInt8 := mkL 45 (nL 4 l)
def dM (l : List UInt8) : Nat := (nV 2 1 12 (dl1 l)).toNat
def dl2 (l : List UInt8) : List UInt8 := mkL 45 (nL 2 (dl1 l))
def dD (l : List UInt8) : Int := nV 2 1 (dim (dY l) (dM l)) (dl2 l)
def dL (l : List UInt8) : List UInt8 := nL 2 (dl2 l)
def dV (l : List UInt8) : Int := ya (dY l) + da (dY l) (dM l) + dD l - 1
def dOk (l : List UInt8) : Bool := nOk 4 0 9999 l && mkOk 45 (nL 4 l) && nOk 2 1 12 (dl1 l) && mkOk 45 (nL 2 (dl1 l)) && nOk 2 1 (dim (dY l) (dM l)) (dl2 l)
theorem dY_in (l : List UInt8) : dY l ≤ 9999 ∧ ((dY l : Nat) : Int) = nV 4 0 9999 l := by
  have := nV_in 4 0 9999 l (by omega); unfold dY; omega
theorem dM_in (l : List UInt8) : 1 ≤ dM l ∧ dM l ≤ 12 ∧ ((dM l : Nat) : Int) = nV 2 1 12 (dl1 l) := by
  have := nV_in 2 1 12 (dl1 l) (by omega); unfold dM; omega
theorem dD_in (l : List UInt8) : 1 ≤ dD l ∧ dD l ≤ 31 := by
  have hm := dM_in l
  have := dim_in (dY l) (dM l) hm.1 hm.2.1
  have := nV_in 2 1 (dim (dY l) (dM l)) (dl2 l) (by omega)
  unfold dD; omega
theorem ya_in (y : Nat) (h : y ≤ 9999) : -719528 ≤ ya y ∧ ya y ≤ 2932532 := by unfold ya lf; omega
theorem dV_in (l : List UInt8) : -719528 ≤ dV l ∧ dV l ≤ 2932930 := by
  have h1 := dY_in l; have h2 := dM_in l; have := dD_in l
  have := ya_in (dY l) h1.1; have := da_in (dY l) (dM l) h2.1 (by omega)
  unfold dV; omega
theorem dL_len (l : List UInt8) : (dL l).length ≤ l.length := Nat.le_trans (nL_len _ _) (Nat.le_trans (mkL_len _ _) (Nat.le_trans (nL_len _ _) (Nat.le_trans (mkL_len _ _) (nL_len _ _))))

/-- Digits behind a point: p places are left. -/
def fGo : Nat → Nat → List UInt8 → Nat × Nat × List UInt8
  | 0, n, l => (n, 0, l)
  | p + 1, n, [] => (n, p + 1, [])
  | p + 1, n, c :: t => if isD c then fGo p (n + (c.toNat - 48) * 10 ^ p) t else (n, p + 1, c :: t)
def fV (l : List UInt8) : Nat := if mkOk 46 l then (fGo 9 0 (mkL 46 l)).1 else 0
def fOk (l : List UInt8) : Bool := if mkOk 46 l then !((fGo 9 0 (mkL 46 l)).2.1 == 9) else true
def fL (l : List UInt8) : List UInt8 := if mkOk 46 l then (fGo 9 0 (mkL 46 l)).2.2 else l
theorem fGo_in (p : Nat) : ∀ (n : Nat) (l : List UInt8), (fGo p n l).1 < n + 10 ^ p ∧ (fGo p n l).2.1 ≤ p ∧ (fGo p n l).2.2.length ≤ l.length := by
  induction p with
  | zero => intro n l; simp [fGo]
  | succ p ih =>
    intro n l
    have hp : 0 < 10 ^ p := Nat.pow_pos (by omega)
    cases l with
    | nil => simp only [fGo]; rw [Nat.pow_succ]; exact ⟨by omega, Nat.le_refl _, Nat.le_refl _⟩
    | cons c t =>
      unfold fGo
      split
      · rename_i hc
        have hd := isD_le hc
        have h := ih (n + (c.toNat - 48) * 10 ^ p) t
        have h9 : (c.toNat - 48) * 10 ^ p ≤ 9 * 10 ^ p := Nat.mul_le_mul_right _ (by omega)
        rw [Nat.pow_succ]
        refine ⟨by omega, by omega, by simp; omega⟩
      · simp only []; rw [Nat.pow_succ]; exact ⟨by omega, Nat.le_refl _, Nat.le_refl _⟩
theorem fV_in (l : List UInt8) : fV l < 1000000000 := by
  unfold fV; split
  · have := (fGo_in 9 0 (mkL 46 l)).1; simpa using this
  · omega
theorem fL_len (l : List UInt8) : (fL l).length ≤ l.length := by
  unfold fL; split
  · exact Nat.le_trans (fGo_in 9 0 (mkL 46 l)).2.2 (mkL_len _ _)
  · exact Nat.le_refl _

def zV (l : List UInt8) : Int := if mkOk 90 l then 0 else if mkOk 43 l then hmV (mkL 43 l) else -hmV (mkL 45 l)
def zOk (l : List UInt8) : Bool := if mkOk 90 l then true else if mkOk 43 l then hmOk (mkL 43 l) else mkOk 45 l && hmOk (mkL 45 l)
def zL (l : List UInt8) : List UInt8 := if mkOk 90 l then mkL 90 l else if mkOk 43 l then hmL (mkL 43 l) else hmL (mkL 45 l)
theorem zV_in (l : List UInt8) : -1439 ≤ zV l ∧ zV l ≤ 1439 := by
  unfold zV
  have := hmV_in (mkL 43 l); have := hmV_in (mkL 45 l)
  split
  · omega
  · split <;> omega
theorem zL_len (l : List UInt8) : (zL l).length ≤ l.length := by
  unfold zL
  split
  · exact mkL_len _ _
  · split
    · exact Nat.le_trans (hmL_len _) (mkL_len _ _)
    · exact Nat.le_trans (hmL_len _) (mkL_len _ _)

def p1 (l : List UInt8) : List UInt8 := mkL 84 (dL l)
def p2 (l : List UInt8) : List UInt8 := mkL 58 (hmL (p1 l))
def p3 (l : List UInt8) : List UInt8 := nL 2 (p2 l)
def p4 (l : List UInt8) : List UInt8 := fL (p3 l)
def pOk (l : List UInt8) : Bool := dOk l && mkOk 84 (dL l) && hmOk (p1 l) && mkOk 58 (hmL (p1 l)) && nOk 2 0 59 (p2 l) && fOk (p3 l) && zOk (p4 l) && (zL (p4 l)).isEmpty
def pS (l : List UInt8) : Int := dV l * 86400 + hmV (p1 l) * 60 + nV 2 0 59 (p2 l) - zV (p4 l) * 60
def pF (l : List UInt8) : Nat := fV (p3 l)
def pGood (l : List UInt8) : Bool := pOk l && (decide (0 ≤ pS l) && (decide (pS l ≤ 2305843009) && decide (pS l * 1000000000 + pF l ≤ 2305843009213693952)))
def prsV (l : List UInt8) : Int := if pGood l then pS l * 1000000000 + pF l else 0
def prsC (l : List UInt8) : Int := if pGood l then 0 else 30
theorem pS_in (l : List UInt8) : -62167305541 ≤ pS l ∧ pS l ≤ 253405326539 := by
  have := dV_in l; have := hmV_in (p1 l); have := nV_in 2 0 59 (p2 l) (by omega); have := zV_in (p4 l)
  unfold pS; omega
end S3
end Go.Proofs.YtaijekagcmkgjaaDoor
