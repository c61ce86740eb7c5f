/- Lists of any integers: SameInts at two that read alike; what a call puts together itself. -/
import Derived.Test.YtanainpapcblfaaDoorOidX
import Derived.Laws.AppendOwnNone
namespace Go.Proofs.YtanainpapcblfaaDoor
open Go.ChangeShapes Go.WideShapes Go.ChangeAt Go.RowKit K O6
set_option linter.unusedVariables false

theorem RdZ.drewN {w : World} {ao : Option Addr} {n : Nat} {f : Nat → Int} (h : RdZ w ao n f) (m : Nat) : RdZ (w.drewN m) ao n f := h
def SzRel (w : World) (n g : Nat) (v5 v6 : Value) (wr : World) : Prop :=
  ∃ i, i + g = n ∧ v5 = .bool true ∧ v6 = .int .i64 (i : Nat) ∧ ∃ m, wr = w.drewN m
set_option maxRecDepth 100000 in
theorem sameZ_walk (n : Nat) (f : Nat → Int) (hn : n ≤ 1000000) (ao bo : Option Addr) (ca cb : Nat) (w : World) (ha : RdZ w ao n f) (hb : RdZ w bo n f) :
    Calls Tryd.prog 15 #[.slice ao n ca, .slice bo n cb] w fun e w' => e = .returned (.bool true) ∧ ∃ m, w' = w.drewN m := by
  have HA := Lib.hid ha
  have HB := Lib.hid hb
  clear ha hb
  go_enter Tryd.func15, Tryd.ntmps15
  go_wp2
  go_loopg [5, 6] n (fun g v5 v6 wr => SzRel w n g v5 v6 wr)
  case atStart => exact ⟨0, by omega, by simp, rfl, 0, rfl⟩
  case round =>
    obtain ⟨i, hi, rfl, rfl, m, rfl⟩ := hrel
    cases gk with
    | zero =>
      obtain rfl : i = n := by omega
      clear hi
      go_wp2
      go_ret
      exact ⟨rfl, m, rfl⟩
    | succ g =>
      have hil : i < n := by omega
      rcases HA.out with h0 | ⟨ga, offa, rfl, _, hca⟩
      · omega
      · rcases HB.out with h0 | ⟨gb, offb, rfl, _, hcb⟩
        · omega
        · have c1 : (w.drewN m).cell? ⟨ga, offa + i, none⟩ = some (.int .i64 (f i)) := hca i hil
          have c2 : (w.drewN m).cell? ⟨gb, offb + i, none⟩ = some (.int .i64 (f i)) := hcb i hil
          have HD := Lib.hid (show ∀ k, (w.drewN m).drewN k = w.drewN (m + k) from fun k => by unfold World.drewN; simp [Nat.add_assoc])
          generalize w.drewN m = w5 at c1 c2 HD ⊢
          generalize f i = x at *
          clear hca hcb HA HB
          go_wp2_with fail
          go_quiet (fail)
          go_wp2
          go_roundg g
          case measure => omega
          case rel => exact ⟨i + 1, by omega, by simp, by simp, m + nq, HD.out nq⟩
/-- Integers as cells. -/
def zsL (f : Nat → Int) (n : Nat) : List Value := (List.range n).map fun i => Value.int .i64 (f i)
theorem zsL_len (f : Nat → Int) (n : Nat) : (zsL f n).length = n := by simp [zsL]
theorem zsL_get (f : Nat → Int) (n j : Nat) (h : j < n) : (zsL f n)[j]? = some (.int .i64 (f j)) := by simp [zsL, h]
theorem zsL_snoc (f : Nat → Int) (n : Nat) : zsL f (n + 1) = zsL f n ++ [.int .i64 (f n)] := by unfold zsL; rw [List.range_succ, List.map_append]; rfl
theorem zsL_same {f g : Nat → Int} {n : Nat} (h : ∀ i, i < n → f i = g i) : zsL f n = zsL g n := by
  unfold zsL
  refine List.map_congr_left fun i hi => ?_
  rw [h i (List.mem_range.1 hi)]
/-- A list that the call made itself, of these integers and perhaps more behind. -/
theorem own_rdz {w : World} {B : Nat} {T : TypeId} {v : Value} {n m : Nat} {f : Nat → Int} (h : w.ownsRow B T 1 v m (zsL f m)) (hnm : n ≤ m) (h0 : 0 < m) :
    ∃ g cap, v = .slice (some ⟨g, 0, none⟩) m cap ∧ m ≤ cap ∧ B ≤ g ∧ g < w.heap.size ∧ RdZ w (some ⟨g, 0, none⟩) n f ∧ ∀ i, i < m → w.cell? ⟨g, i, none⟩ = some (.int .i64 (f i)) := by
  rcases h.2 with ⟨_, hz⟩ | ⟨g, cap, cur, hv, hB, hh, hle, hm, hs, ht⟩
  · omega
  · have hc : ∀ i, i < m → w.cell? ⟨g, i, none⟩ = some (.int .i64 (f i)) := by
      intro i hi
      rw [cellRow hh, ← Array.getElem?_toList]
      have h1 := congrArg (fun x : List Value => x[i]?) ht
      simp only [Nat.mul_one] at h1
      rw [List.getElem?_take_of_lt hi, zsL_get f m i hi] at h1
      exact h1
    exact ⟨g, cap, hv, hle, hB, lt_of_block hh, .inr ⟨g, 0, rfl, lt_of_block hh, fun i hi => by rw [Nat.zero_add]; exact hc i (by omega)⟩, hc⟩
/-- The numbers of a list of integers, where they are arcs. -/
def csZ (n : Nat) (f : Nat → Int) : List Nat := (List.range n).map fun i => (f i).toNat
theorem isZ_cs {n : Nat} {f : Nat → Int} (h : isZ n f = true) : n = (csZ n f).length ∧ isArcs (csZ n f) = true ∧ ∀ i, i < n → f i = fz (csZ n f) i := by
  have hl : (csZ n f).length = n := by simp [csZ]
  have hall : ∀ i, i < n → f i = fz (csZ n f) i := by
    intro i hi
    have hr : inR (f i) = true := by
      cases hq : inR (f i)
      · rw [isZ_no hi hq] at h; cases h
      · rfl
    unfold inR at hr
    rw [Bool.and_eq_true, decide_eq_true_eq] at hr
    unfold fz csZ
    simp [List.getD, hi]
    omega
  refine ⟨hl.symm, ?_, hall⟩
  rw [← isZ_fz, hl]
  have h2 : 2 ≤ n := by
    unfold isZ at h
    rw [Bool.and_eq_true, decide_eq_true_eq] at h
    exact h.1
  rw [← h]
  unfold isZ
  rw [hall 0 (by omega), hall 1 (by omega)]
  have : (List.range n).all (fun i => inR (fz (csZ n f) i)) = (List.range n).all (fun i => inR (f i)) := by
    rw [Bool.eq_iff_iff, List.all_eq_true, List.all_eq_true]
    constructor
    · intro h i hi; rw [hall i (List.mem_range.1 hi)]; exact h i hi
    · intro h i hi; rw [← hall i (List.mem_range.1 hi)]; exact h i hi
  first | rw [this] | (simp only [this])
end Go.Proofs.YtanainpapcblfaaDoor
