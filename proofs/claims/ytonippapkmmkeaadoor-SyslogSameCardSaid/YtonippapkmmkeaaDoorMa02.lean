/- Texts on the program and on the document, joined: StpP, StpA. -/
import Derived.Test.YtonippapkmmkeaaDoorMa01
import Derived.Test.YtonippapkmmkeaaDoorRows
import Derived.ProofKit
import Derived.OpenShut
import Derived.ShutString
import Derived.Deep.RegionHeld3
/- Plain mathematics of layer 3: what a reader of stamps takes from a text; the calendar; digits. Nothing of the program. -/
namespace Go.Proofs.YtonippapkmmkeaaDoor
open K
namespace S3

/-! ### Digits of a text -/
def isDn (n : Nat) : Bool := decide (48 ≤ n) && decide (n ≤ 57)
def isD (c : UInt8) : Bool := isDn c.toNat
/-- The number that digits spell. -/
def vlG (n : Nat) : List UInt8 → Nat
  | [] => n
  | c :: t => vlG (10 * n + (c.toNat - 48)) t
def vl (l : List UInt8) : Nat := vlG 0 l
def nGo : Nat → Nat → List UInt8 → Option Nat × List UInt8
  | 0, n, l => (some n, l)
  | _ + 1, _, [] => (none, [])
  | k + 1, n, c :: t => if isD c then nGo k (10 * n + (c.toNat - 48)) t else (none, c :: t)
theorem isD_le {c : UInt8} (h : isD c = true) : 48 ≤ c.toNat ∧ c.toNat ≤ 57 := by simpa [isD, isDn] using h

/-- A number of so many digits at the beginning: its value, whether it is right, what is left. -/
def inR (n least most : Int) : Bool := decide (least ≤ n) && decide (n ≤ most)
def nV (k : Nat) (least most : Int) (l : List UInt8) : Int :=
  match (nGo k 0 l).1 with
  | some n => if inR n least most then (n : Int) else least
  | none => least
def nOk (k : Nat) (least most : Int) (l : List UInt8) : Bool :=
  match (nGo k 0 l).1 with
  | some n => inR n least most
  | none => false
def nL (k : Nat) (l : List UInt8) : List UInt8 := (nGo k 0 l).2
theorem nV_in (k : Nat) (least most : Int) (l : List UInt8) (h : least ≤ most) : least ≤ nV k least most l ∧ nV k least most l ≤ most := by
  unfold nV
  split
  · split
    · rename_i h1; simp [inR] at h1; omega
    · omega
  · omega
theorem nGo_len (k : Nat) : ∀ (n : Nat) (l : List UInt8), (nGo k n l).2.length ≤ l.length := by
  induction k with
  | zero => intro n l; simp [nGo]
  | succ k ih =>
    intro n l
    cases l with
    | nil => simp [nGo]
    | cons c t =>
      unfold nGo
      split
      · have := ih (10 * n + (c.toNat - 48)) t; simp; omega
      · simp
theorem nL_len (k : Nat) (l : List UInt8) : (nL k l).length ≤ l.length := nGo_len k 0 l
theorem nGo_yes (k : Nat) : ∀ (n : Nat) (l : List UInt8), k ≤ l.length → (l.take k).all isD = true → nGo k n l = (some (vlG n (l.take k)), l.drop k) := by
  induction k with
  | zero => intro n l _ _; rfl
  | succ k ih =>
    intro n l hl ha
    cases l with
    | nil => simp at hl
    | cons c t =>
      rw [List.take_succ_cons] at ha ⊢
      rw [List.all_cons, Bool.and_eq_true] at ha
      have h1 := ih (10 * n + (c.toNat - 48)) t (by simpa using hl) ha.2
      unfold nGo vlG
      rw [if_pos ha.1, h1]
      rfl
theorem nGo_no (k : Nat) : ∀ (n : Nat) (l : List UInt8), ¬ (k ≤ l.length ∧ (l.take k).all isD = true) → (nGo k n l).1 = none := by
  induction k with
  | zero => intro n l h; simp at h
  | succ k ih =>
    intro n l h
    cases l with
    | nil => simp [nGo]
    | cons c t =>
      unfold nGo
      split
      · rename_i hc
        refine ih _ t fun ⟨h1, h2⟩ => h ⟨by simpa using h1, ?_⟩
        simp only [List.take_succ_cons, List.all_cons, Bool.and_eq_true]
        exact ⟨hc, h2⟩
      · rfl
theorem nOk_iff (k : Nat) (least most : Int) (l : List UInt8) : nOk k least most l = true ↔ k ≤ l.length ∧ (l.take k).all isD = true ∧ least ≤ (vl (l.take k) : Int) ∧ (vl (l.take k) : Int) ≤ most := by
  by_cases h : k ≤ l.length ∧ (l.take k).all isD = true
  · unfold nOk
    rw [nGo_yes k 0 l h.1 h.2]
    simp [inR, vl, h.1]
    intro _
    exact fun _ => by simpa using h.2
  · unfold nOk
    rw [nGo_no k 0 l h]
    constructor
    · intro h2; cases h2
    · intro h2; exact absurd ⟨h2.1, h2.2.1⟩ h
theorem nOk_get {k : Nat} {least most : Int} {l : List UInt8} (h : nOk k least most l = true) : nV k least most l = (vl (l.take k) : Int) ∧ nL k l = l.drop k := by
  have h1 := (nOk_iff k least most l).1 h
  unfold nV nL
  rw [nGo_yes k 0 l h1.1 h1.2.1]
  refine ⟨?_, rfl⟩
  simp only
  rw [if_pos (by simp [inR]; exact ⟨h1.2.2.1, h1.2.2.2⟩)]
  rfl

/-! ### Marks -/
def mkOk (c : Int) : List UInt8 → Bool
  | [] => false
  | x :: _ => decide ((x.toNat : Int) = c)
def mkL (c : Int) : List UInt8 → List UInt8
  | [] => []
  | x :: t => if (x.toNat : Int) = c then t else x :: t
theorem mkL_len (c : Int) (l : List UInt8) : (mkL c l).length ≤ l.length := by
  cases l with
  | nil => simp [mkL]
  | cons x t => by_cases h : (x.toNat : Int) = c <;> simp [mkL, h]
theorem mkOk_iff (c : Int) (l : List UInt8) : mkOk c l = true ↔ 0 < l.length ∧ (byt l 0 : Int) = c := by
  cases l with
  | nil => simp [mkOk]
  | cons x t => simp [mkOk, byt]
theorem mkL_of {c : Int} {l : List UInt8} (h : mkOk c l = true) : mkL c l = l.drop 1 := by
  cases l with
  | nil => simp [mkOk] at h
  | cons x t => simp [mkOk] at h; simp [mkL, h]
theorem mkL_not {c : Int} {l : List UInt8} (h : mkOk c l = false) : mkL c l = l := by
  cases l with
  | nil => rfl
  | cons x t => simp [mkOk] at h; simp [mkL, h]

/-! ### The calendar -/
def leap (y : Nat) : Bool := y % 4 == 0 && (!(y % 100 == 0) || y % 400 == 0)
def lf (y : Int) : Int := (y + 3) / 4 - (y + 99) / 100 + (y + 399) / 400
/-- Days from 1970 on, ahead of a year. -/
def ya (y : Int) : Int := 365 * (y - 1970) + lf y - 478
def cum : Nat → Int
  | 1 => 0 | 2 => 31 | 3 => 59 | 4 => 90 | 5 => 120 | 6 => 151 | 7 => 181 | 8 => 212 | 9 => 243 | 10 => 273 | 11 => 304 | 12 => 334 | 13 => 365 | _ => 0
def lp (y : Nat) : Int := if leap y then 1 else 0
/-- Days of a year ahead of a month. -/
def da (y m : Nat) : Int := cum m + if 2 < m then lp y else 0
def dim (y m : Nat) : Int := da y (m + 1) - da y m
theorem lp_01 (y : Nat) : 0 ≤ lp y ∧ lp y ≤ 1 := by unfold lp; split <;> omega
theorem ya_succ (y : Nat) : ya ((y : Int) + 1) = ya y + 365 + lp y := by
  unfold ya lf lp leap
  by_cases h4 : y % 4 = 0 <;> by_cases h1 : y % 100 = 0 <;> by_cases h2 : y % 400 = 0 <;> simp [h4, h1, h2] <;> omega
theorem ya_lt (y : Nat) : ya y < ya ((y : Int) + 1) := by have := ya_succ y; have := lp_01 y; omega
theorem cum_all (m : Nat) (h1 : 1 ≤ m) (h2 : m ≤ 13) : 0 ≤ cum m ∧ cum m ≤ 365 := by
  obtain rfl | rfl | rfl | rfl | rfl | rfl | rfl | rfl | rfl | rfl | rfl | rfl | rfl : m = 1 ∨ m = 2 ∨ m = 3 ∨ m = 4 ∨ m = 5 ∨ m = 6 ∨ m = 7 ∨ m = 8 ∨ m = 9 ∨ m = 10 ∨ m = 11 ∨ m = 12 ∨ m = 13 := by omega
  all_goals simp [cum]
theorem da_in (y m : Nat) (h1 : 1 ≤ m) (h2 : m ≤ 13) : 0 ≤ da y m ∧ da y m ≤ 366 := by
  have := cum_all m h1 h2; have := lp_01 y
  unfold da; split <;> omega
theorem dim_in (y m : Nat) (h1 : 1 ≤ m) (h2 : m ≤ 12) : 28 ≤ dim y m ∧ dim y m ≤ 31 := by
  have := lp_01 y
  obtain rfl | rfl | rfl | rfl | rfl | rfl | rfl | rfl | rfl | rfl | rfl | rfl : m = 1 ∨ m = 2 ∨ m = 3 ∨ m = 4 ∨ m = 5 ∨ m = 6 ∨ m = 7 ∨ m = 8 ∨ m = 9 ∨ m = 10 ∨ m = 11 ∨ m = 12 := by omega
  all_goals (simp [dim, da, cum]; try omega)
theorem da_first (y : Nat) : da y 1 = 0 := by simp [da, cum]
theorem da_last (y : Nat) : da y 13 = 365 + lp y := by simp [da, cum]

/-! ### What a stamp tells -/
def hmL (l : List UInt8) : List UInt8 := nL 2 (mkL 58 (nL 2 l))
def hmV (l : List UInt8) : Int := nV 2 0 23 l * 60 + nV 2 0 59 (mkL 58 (nL 2 l))
def hmOk (l : List UInt8) : Bool := nOk 2 0 23 l && mkOk 58 (nL 2 l) && nOk 2 0 59 (mkL 58 (nL 2 l))
theorem hmV_in (l : List UInt8) : 0 ≤ hmV l ∧ hmV l ≤ 1439 := by
  have h1 := nV_in 2 0 23 l (by omega); have h2 := nV_in 2 0 59 (mkL 58 (nL 2 l)) (by omega)
  unfold hmV; omega
theorem hmL_len (l : List UInt8) : (hmL l).length ≤ l.length := Nat.le_trans (nL_len _ _) (Nat.le_trans (mkL_len _ _) (nL_len _ _))

def dY (l : List UInt8) : Nat := (nV 4 0 9999 l).toNat
def dl1 (l : List UInt8) : List UInt8 := mkL 45 (nL 4 l)
def dM (l : List UInt8) : Nat := (nV 2 1 12 (dl1 l)).toNat
def dl2 (l : List UInt8) : List UInt8 := mkL 45 (nL 2 (dl1 l))
def dD (l : List UInt8) : Int := nV 2 1 (dim (dY l) (dM l)) (dl2 l)
def dL (l : List UInt8) : List UInt8 := nL 2 (dl2 l)
def dV (l : List UInt8) : Int := ya (dY l) + da (dY l) (dM l) + dD l - 1
def dOk (l : List UInt8) : Bool := nOk 4 0 9999 l && mkOk 45 (nL 4 l) && nOk 2 1 12 (dl1 l) && mkOk 45 (nL 2 (dl1 l)) && nOk 2 1 (dim (dY l) (dM l)) (dl2 l)
theorem dY_in (l : List UInt8) : dY l ≤ 9999 ∧ ((dY l : Nat) : Int) = nV 4 0 9999 l := by
  have := nV_in 4 0 9999 l (by omega); unfold dY; omega
theorem dM_in (l : List UInt8) : 1 ≤ dM l ∧ dM l ≤ 12 ∧ ((dM l : Nat) : Int) = nV 2 1 12 (dl1 l) := by
  have := nV_in 2 1 12 (dl1 l) (by omega); unfold dM; omega
theorem dD_in (l : List UInt8) : 1 ≤ dD l ∧ dD l ≤ 31 := by
  have hm := dM_in l
  have := dim_in (dY l) (dM l) hm.1 hm.2.1
  have := nV_in 2 1 (dim (dY l) (dM l)) (dl2 l) (by omega)
  unfold dD; omega
theorem ya_in (y : Nat) (h : y ≤ 9999) : -719528 ≤ ya y ∧ ya y ≤ 2932532 := by unfold ya lf; omega
theorem dV_in (l : List UInt8) : -719528 ≤ dV l ∧ dV l ≤ 2932930 := by
  have h1 := dY_in l; have h2 := dM_in l; have := dD_in l
  have := ya_in (dY l) h1.1; have := da_in (dY l) (dM l) h2.1 (by omega)
  unfold dV; omega
theorem dL_len (l : List UInt8) : (dL l).length ≤ l.length := Nat.le_trans (nL_len _ _) (Nat.le_trans (mkL_len _ _) (Nat.le_trans (nL_len _ _) (Nat.le_trans (mkL_len _ _) (nL_len _ _))))

/-- Digits behind a point: p places are left. -/
def fGo : Nat → Nat → List UInt8 → Nat × Nat × List UInt8
  | 0, n, l => (n, 0, l)
  | p + 1, n, [] => (n, p + 1, [])
  | p + 1, n, c :: t => if isD c then fGo p (n + (c.toNat - 48) * 10 ^ p) t else (n, p + 1, c :: t)
def fV (l : List UInt8) : Nat := if mkOk 46 l then (fGo 9 0 (mkL 46 l)).1 else 0
def fOk (l : List UInt8) : Bool := if mkOk 46 l then !((fGo 9 0 (mkL 46 l)).2.1 == 9) else true
def fL (l : List UInt8) : List UInt8 := if mkOk 46 l then (fGo 9 0 (mkL 46 l)).2.2 else l
theorem fGo_in (p : Nat) : ∀ (n : Nat) (l : List UInt8), (fGo p n l).1 < n + 10 ^ p ∧ (fGo p n l).2.1 ≤ p ∧ (fGo p n l).2.2.length ≤ l.length := by
  induction p with
  | zero => intro n l; simp [fGo]
  | succ p ih =>
    intro n l
    have hp : 0 < 10 ^ p := Nat.pow_pos (by omega)
    cases l with
    | nil => simp only [fGo]; rw [Nat.pow_succ]; exact ⟨by omega, Nat.le_refl _, Nat.le_refl _⟩
    | cons c t =>
      unfold fGo
      split
      · rename_i hc
        have hd := isD_le hc
        have h := ih (n + (c.toNat - 48) * 10 ^ p) t
        have h9 : (c.toNat - 48) * 10 ^ p ≤ 9 * 10 ^ p := Nat.mul_le_mul_right _ (by omega)
        rw [Nat.pow_succ]
        refine ⟨by omega, by omega, by simp; omega⟩
      · simp only []; rw [Nat.pow_succ]; exact ⟨by omega, Nat.le_refl _, Nat.le_refl _⟩
theorem fV_in (l : List UInt8) : fV l < 1000000000 := by
  unfold fV; split
  · have := (fGo_in 9 0 (mkL 46 l)).1; simpa using this
  · omega
theorem fL_len (l : List UInt8) : (fL l).length ≤ l.length := by
  unfold fL; split
  · exact Nat.le_trans (fGo_in 9 0 (mkL 46 l)).2.2 (mkL_len _ _)
  · exact Nat.le_refl _

def zV (l : List UInt8) : Int := if mkOk 90 l then 0 else if mkOk 43 l then hmV (mkL 43 l) else -hmV (mkL 45 l)
def zOk (l : List UInt8) : Bool := if mkOk 90 l then true else if mkOk 43 l then hmOk (mkL 43 l) else mkOk 45 l && hmOk (mkL 45 l)
def zL (l : List UInt8) : List UInt8 := if mkOk 90 l then mkL 90 l else if mkOk 43 l then hmL (mkL 43 l) else hmL (mkL 45 l)
theorem zV_in (l : List UInt8) : -1439 ≤ zV l ∧ zV l ≤ 1439 := by
  unfold zV
  have := hmV_in (mkL 43 l); have := hmV_in (mkL 45 l)
  split
  · omega
  · split <;> omega
theorem zL_len (l : List UInt8) : (zL l).length ≤ l.length := by
  unfold zL
  split
  · exact mkL_len _ _
  · split
    · exact Nat.le_trans (hmL_len _) (mkL_len _ _)
    · exact Nat.le_trans (hmL_len _) (mkL_len _ _)

def p1 (l : List UInt8) : List UInt8 := mkL 84 (dL l)
def p2 (l : List UInt8) : List UInt8 := mkL 58 (hmL (p1 l))
def p3 (l : List UInt8) : List UInt8 := nL 2 (p2 l)
def p4 (l : List UInt8) : List UInt8 := fL (p3 l)
def pOk (l : List UInt8) : Bool := dOk l && mkOk 84 (dL l) && hmOk (p1 l) && mkOk 58 (hmL (p1 l)) && nOk 2 0 59 (p2 l) && fOk (p3 l) && zOk (p4 l) && (zL (p4 l)).isEmpty
def pS (l : List UInt8) : Int := dV l * 86400 + hmV (p1 l) * 60 + nV 2 0 59 (p2 l) - zV (p4 l) * 60
def pF (l : List UInt8) : Nat := fV (p3 l)
def pGood (l : List UInt8) : Bool := pOk l && (decide (0 ≤ pS l) && (decide (pS l ≤ 2305843009) && decide (pS l * 1000000000 + pF l ≤ 2305843009213693952)))
def prsV (l : List UInt8) : Int := if pGood l then pS l * 1000000000 + pF l else 0
def prsC (l : List UInt8) : Int := if pGood l then 0 else 30
theorem pS_in (l : List UInt8) : -62167305541 ≤ pS l ∧ pS l ≤ 253405326539 := by
  have := dV_in l; have := hmV_in (p1 l); have := nV_in 2 0 59 (p2 l) (by omega); have := zV_in (p4 l)
  unfold pS; omega
end S3
end Go.Proofs.YtonippapkmmkeaaDoor
/- stamp's own reader, walked. -/
namespace Go.Proofs.YtonippapkmmkeaaDoor
open Go.ChangeShapes Go.WideShapes Go.ChangeAt Go.RowKit K S3
set_option linter.unusedVariables false

/-- A reader in block b: what is left of its text, whether something was wrong. -/
def RD (w : World) (b T : Nat) (l : List UInt8) (g : Bool) : Prop := w.heap[b]? = some (.cells #[.string (bs l), .bool g] T (0, 0))
theorem RD.cells {w : World} {b T : Nat} {l : List UInt8} {g : Bool} (h : RD w b T l g) :
    w.cell? ⟨b, 0, none⟩ = some (.string (bs l)) ∧ w.cell? ⟨b, 1, none⟩ = some (.bool g) ∧ w.frozen? ⟨b, 0, none⟩ = false ∧ w.frozen? ⟨b, 1, none⟩ = false :=
  ⟨cellRow h 0, cellRow h 1, freeRow h 0, freeRow h 1⟩
theorem RD.setL {w : World} {b T : Nat} {l : List UInt8} {g : Bool} (h : RD w b T l g) (l' : List UInt8) : RD (w.setCell ⟨b, 0, none⟩ (.string (bs l'))) b T l' g := by
  have := rowSet h 0 (.string (bs l')); simpa [RD] using this
theorem RD.setG {w : World} {b T : Nat} {l : List UInt8} {g : Bool} (h : RD w b T l g) (g' : Bool) : RD (w.setCell ⟨b, 1, none⟩ (.bool g')) b T l g' := by
  have := rowSet h 1 (.bool g'); simpa [RD] using this

theorem isDigit_walk (n : Nat) (w : World) :
    Calls Tryd.prog 78 #[.int .u8 n] w fun e w' => e = .returned (.bool (isDn n)) ∧ w = w' := by
  unfold isDn
  by_cases h0 : 48 ≤ n
  · by_cases h1 : n ≤ 57
    · rw [decide_eq_true h0, decide_eq_true h1]
      go_enter Tryd.func78, Tryd.ntmps78
      go_wp2
      go_ret
      refine ⟨?_, rfl⟩
      show Ending.returned (.bool (decide ((n : Int) ≤ 57))) = _
      rw [decide_eq_true (by omega)]; rfl
    · rw [decide_eq_true h0, decide_eq_false h1]
      go_enter Tryd.func78, Tryd.ntmps78
      go_wp2
      go_ret
      refine ⟨?_, rfl⟩
      show Ending.returned (.bool (decide ((n : Int) ≤ 57))) = _
      rw [decide_eq_false (by omega)]; rfl
  · rw [decide_eq_false h0]
    go_enter Tryd.func78, Tryd.ntmps78
    go_wp2
    go_ret
    exact ⟨rfl, rfl⟩

/-- Whether a text begins with a digit. -/
def swd : List UInt8 → Bool
  | [] => false
  | c :: _ => isD c
theorem swd_walk (l : List UInt8) (hl : l.length ≤ 140737488351232) (w : World) :
    Calls Tryd.prog 62 #[.string (bs l)] w fun e w' => e = .returned (.bool (swd l)) ∧ w = w' := by
  cases l with
  | nil =>
    go_enter Tryd.func62, Tryd.ntmps62
    go_wp2
    go_ret
    exact ⟨rfl, rfl⟩
  | cons c t =>
    have e : swd (c :: t) = isDn (byt (c :: t) 0) := rfl
    rw [e]
    have h := isDigit_walk (byt (c :: t) 0) w
    generalize isDn (byt (c :: t) 0) = g at h ⊢
    clear e
    have hp : 0 < (c :: t).length := by simp
    go_enter Tryd.func62, Tryd.ntmps62
    go_wp2_with fail
    refine h.mono ?_
    rintro e w1 ⟨rfl, rfl⟩
    go_wp2
    go_ret
    exact ⟨rfl, rfl⟩

theorem took_walk (b T : Nat) (l : List UInt8) (g : Bool) (c : Int) (hl : l.length ≤ 140737488351232) (w : World) (hr : RD w b T l g) :
    Calls Tryd.prog 61 #[.pointer (some ⟨b, 0, none⟩), .int .u8 c] w fun e w' => e = .returned (.bool (mkOk c l)) ∧ Kp [b] w w' ∧ RD w' b T (mkL c l) g := by
  obtain ⟨c0, c1, f0, f1⟩ := hr.cells
  have HR := Lib.hid hr; clear hr
  cases l with
  | nil =>
    go_enter Tryd.func61, Tryd.ntmps61
    go_wp2
    go_ret
    exact ⟨rfl, Kp.refl _ _, HR.out⟩
  | cons x t =>
    have hp : 0 < (x :: t).length := by simp
    by_cases h : (x.toNat : Int) = c
    · have e1 : mkOk c (x :: t) = true := by simp [mkOk, h]
      have e2 : mkL c (x :: t) = t := by simp [mkL, h]
      rw [e1, e2]
      have hb : (((byt (x :: t) 0 : Nat) : Int) != c) = false := by simp [byt, h]
      clear e1 e2 h
      go_enter Tryd.func61, Tryd.ntmps61
      go_wp2
      go_ret
      exact ⟨rfl, (Kp.refl _ _).set _ (by simp) _, HR.out.setL _⟩
    · have e1 : mkOk c (x :: t) = false := by simp [mkOk, h]
      have e2 : mkL c (x :: t) = x :: t := by simp [mkL, h]
      rw [e1, e2]
      have hb : (((byt (x :: t) 0 : Nat) : Int) != c) = true := by simp [byt, h]
      clear e1 e2 h
      go_enter Tryd.func61, Tryd.ntmps61
      go_wp2
      go_ret
      exact ⟨rfl, Kp.refl _ _, HR.out⟩

theorem smark_walk (b T : Nat) (l : List UInt8) (g : Bool) (c : Int) (hl : l.length ≤ 140737488351232) (w : World) (hr : RD w b T l g) :
    Calls Tryd.prog 43 #[.pointer (some ⟨b, 0, none⟩), .int .u8 c] w fun e w' => e = .returned (.tuple #[]) ∧ Kp [b] w w' ∧ RD w' b T (mkL c l) (g || !mkOk c l) := by
  have ht := took_walk b T l g c hl w hr
  clear hr
  generalize mkL c l = l' at ht ⊢
  cases hk : mkOk c l
  · rw [hk] at ht
    clear hk
    go_enter Tryd.func43, Tryd.ntmps43
    go_wp2_with fail
    refine ht.mono ?_
    rintro e w1 ⟨rfl, k1, r1⟩
    obtain ⟨c0, c1, f0, f1⟩ := r1.cells
    have R1 := Lib.hid r1; clear r1
    go_wp2
    go_end0
    refine ⟨rfl, k1.set _ (by simp) _, ?_⟩
    have := R1.out.setG true
    simpa using this
  · rw [hk] at ht
    clear hk
    go_enter Tryd.func43, Tryd.ntmps43
    go_wp2_with fail
    refine ht.mono ?_
    rintro e w1 ⟨rfl, k1, r1⟩
    have R1 := Lib.hid r1; clear r1
    go_wp2
    go_end0
    refine ⟨rfl, k1, ?_⟩
    have := R1.out
    simpa using this

theorem done_walk (b T : Nat) (l : List UInt8) (g : Bool) (hl : l.length ≤ 140737488351232) (w : World) (hr : RD w b T l g) :
    Calls Tryd.prog 48 #[.pointer (some ⟨b, 0, none⟩)] w fun e w' => e = .returned (.bool (!g && l.isEmpty)) ∧ w = w' := by
  obtain ⟨c0, c1, f0, f1⟩ := hr.cells
  clear hr
  cases g
  · cases l with
    | nil =>
      go_enter Tryd.func48, Tryd.ntmps48
      go_wp2
      go_ret
      exact ⟨rfl, rfl⟩
    | cons x t =>
      go_enter Tryd.func48, Tryd.ntmps48
      go_wp2
      go_ret
      exact ⟨rfl, rfl⟩
  · go_enter Tryd.func48, Tryd.ntmps48
    go_wp2
    go_ret
    exact ⟨rfl, rfl⟩

/-! ### A number of so many digits -/
/-- What holds in the loop: i digits were read, that spell n; the rest is l'. -/
def NRel (w : World) (b T k : Nat) (l : List UInt8) (g : Bool) (vn vi : Value) (wr : World) : Prop :=
  ∃ (i n : Nat) (l' : List UInt8), i ≤ k ∧ n < 10 ^ i ∧ vn = .int .i64 n ∧ vi = .int .i64 i ∧ Kp [b] w wr ∧ RD wr b T l' g ∧ l'.length ≤ l.length ∧ nGo k 0 l = nGo (k - i) n l'
theorem nGo_step (k n : Nat) (l : List UInt8) (h : swd l = true) : nGo (k + 1) n l = nGo k (10 * n + (byt l 0 - 48)) l.tail ∧ 0 < l.length ∧ 48 ≤ byt l 0 ∧ byt l 0 ≤ 57 := by
  cases l with
  | nil => cases h
  | cons c t =>
    have h' : isD c = true := h
    refine ⟨?_, by simp, (isD_le h').1, (isD_le h').2⟩
    conv => lhs; unfold nGo
    rw [if_pos h']; rfl
theorem nGo_stop (k n : Nat) (l : List UInt8) (h : swd l = false) : nGo (k + 1) n l = (none, l) := by
  cases l with
  | nil => rfl
  | cons c t => have h' : isD c = false := h; conv => lhs; unfold nGo
                simp [h']

set_option maxRecDepth 100000 in
set_option maxHeartbeats 1000000 in
theorem number_walk (b T k : Nat) (kk : Int) (hkk : kk = (k : Nat)) (hk : k ≤ 9) (least most : Int) (h0 : -1000000 ≤ least) (h1 : most ≤ 1000000) (l : List UInt8) (g : Bool) (hl : l.length ≤ 140737488351232) (w : World) (hr : RD w b T l g) :
    Calls Tryd.prog 45 #[.pointer (some ⟨b, 0, none⟩), .int .i64 kk, .int .i64 least, .int .i64 most] w fun e w' => e = .returned (.int .i64 (nV k least most l)) ∧ Kp [b] w w' ∧ RD w' b T (nL k l) (g || !nOk k least most l) := by
  subst hkk
  have HRR := Lib.hid hr; clear hr
  go_enter Tryd.func45, Tryd.ntmps45
  go_wp2
  go_loopw [9, 11] (fun vn vi wr => NRel w b T k l g vn vi wr) (fun vn vi wr => k - (intOf vi).toNat)
  case atStart => exact ⟨0, 0, l, by omega, by simp, rfl, rfl, Kp.refl _ _, HRR.out, Nat.le_refl _, rfl⟩
  case round =>
    clear HRR
    obtain ⟨i, n, l', hi, hn, rfl, rfl, hkp, hr, hle, hg⟩ := hrel
    obtain ⟨c0, c1, f0, f1⟩ := hr.cells
    have HR := Lib.hid hr; have HG := Lib.hid hg; clear hr hg
    have hw := swd_walk l' (by omega) wr
    have hn9 : n < 1000000000 ∨ i = k := by
      by_cases e : i = k
      · exact Or.inr e
      · have : 10 ^ i ≤ 10 ^ 8 := Nat.pow_le_pow_right (by omega) (by omega)
        left; omega
    by_cases hik : i < k
    · have hn9' : n < 1000000000 := by omega
      clear hn9
      cases hs : swd l'
      · rw [hs] at hw
        have e1 : nGo k 0 l = (none, l') := by rw [HG.out, show k - i = (k - i - 1) + 1 by omega]; exact nGo_stop _ _ _ hs
        have e2 : nV k least most l = least := by unfold nV; rw [e1]
        have e3 : nOk k least most l = false := by unfold nOk; rw [e1]
        have e4 : nL k l = l' := by unfold nL; rw [e1]
        have E2 := Lib.hid e2; have E3 := Lib.hid e3; have E4 := Lib.hid e4
        clear e1 e2 e3 e4 hs HG
        go_wp2_with fail
        refine hw.mono ?_
        rintro e w1 ⟨rfl, rfl⟩
        go_wp2
        go_ret
        rw [E2.out, E3.out, E4.out]
        refine ⟨rfl, hkp.set _ (by simp) _, ?_⟩
        have := HR.out.setG true
        simpa using this
      · rw [hs] at hw
        obtain ⟨hst, hpos, hb1, hb2⟩ := nGo_step (k - i - 1) n l' hs
        have HS := Lib.hid hst; clear hst hs
        go_wp2_with fail
        refine hw.mono ?_
        rintro e w1 ⟨rfl, rfl⟩
        go_wp2
        go_roundw
        case measure => simp [intOf]; omega
        case rel =>
          refine ⟨i + 1, 10 * n + (byt l' 0 - 48), l'.tail, by omega, by rw [Nat.pow_succ]; omega, ?_, by simp, hkp.set _ (by simp) _, HR.out.setL _, by simp; omega, ?_⟩
          · congr 1; omega
          · rw [HG.out, show k - i = (k - i - 1) + 1 by omega, HS.out]; congr 1
    · obtain rfl : i = k := by omega
      have e1 : nGo i 0 l = (some n, l') := by rw [HG.out, Nat.sub_self]; rfl
      have e4 : nL i l = l' := by unfold nL; rw [e1]
      have hnk : n ≤ 1000000000 := by
        have : 10 ^ i ≤ 10 ^ 9 := Nat.pow_le_pow_right (by omega) (by omega)
        omega
      have E4 := Lib.hid e4; clear e4
      clear hn9 hn
      by_cases hlo : (n : Int) < least
      · have e2 : nV i least most l = least := by unfold nV; rw [e1]; simp [inR]; intro h; omega
        have e3 : nOk i least most l = false := by unfold nOk; rw [e1]; simp [inR]; intro h; omega
        have E2 := Lib.hid e2; have E3 := Lib.hid e3
        clear e1 e2 e3 HG
        go_wp2
        go_ret
        rw [E2.out, E3.out, E4.out]
        refine ⟨rfl, hkp.set _ (by simp) _, ?_⟩
        have := HR.out.setG true
        simpa using this
      · by_cases hhi : most < (n : Int)
        · have e2 : nV i least most l = least := by unfold nV; rw [e1]; simp [inR]; intro h; omega
          have e3 : nOk i least most l = false := by unfold nOk; rw [e1]; simp [inR]; intro h; omega
          have E2 := Lib.hid e2; have E3 := Lib.hid e3
          clear e1 e2 e3 HG
          go_wp2
          go_ret
          rw [E2.out, E3.out, E4.out]
          refine ⟨rfl, hkp.set _ (by simp) _, ?_⟩
          have := HR.out.setG true
          simpa using this
        · have e2 : nV i least most l = n := by unfold nV; rw [e1]; simp [inR]; intro h; omega
          have e3 : nOk i least most l = true := by unfold nOk; rw [e1]; simp [inR]; omega
          have E2 := Lib.hid e2; have E3 := Lib.hid e3
          clear e1 e2 e3 HG
          have hlo' : least ≤ (n : Int) := by omega
          have hhi' : (n : Int) ≤ most := by omega
          clear hlo hhi
          go_wp2
          go_ret
          rw [E2.out, E3.out, E4.out]
          refine ⟨rfl, hkp, ?_⟩
          have := HR.out
          simpa using this
end Go.Proofs.YtonippapkmmkeaaDoor
