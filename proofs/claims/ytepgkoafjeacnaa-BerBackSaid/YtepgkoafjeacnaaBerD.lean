/- ber's numbers, walked. -/
import Derived.Test.YtepgkoafjeacnaaBerA
import Derived.Test.YtepgkoafjeacnaaBerS
import Derived.Test.YtepgkoafjeacnaaWid
import Derived.Laws.BitsAllLaws
namespace Go.Proofs.Ytepgkoafjeacnaa
open Go.ChangeShapes Go.WideShapes Go.ChangeAt Go.RowKit K P1 B5
set_option linter.unusedVariables false

theorem and128 (b : Nat) (h : b < 256) : (bits .and .u8 (b : Int) 128 != 0) = decide (128 ≤ b) := by
  have : ∀ i : Fin 256, (bits .and .u8 (i.val : Int) 128 != 0) = decide (128 ≤ i.val) := by decide +kernel
  exact this ⟨b, h⟩
def spr (a b : Nat) : Bool := (a == 0 && decide (b < 128)) || (a == 255 && decide (128 ≤ b))
theorem isSpare_walk (a b : Nat) (ha : a < 256) (hb : b < 256) (w : World) :
    Calls Try.prog 44 #[.int .u8 a, .int .u8 b] w fun e w' => e = .returned (.bool (spr a b)) ∧ w = w' := by
  have hh := and128 b hb
  by_cases h : 128 ≤ b
  · have e : spr a b = (((a : Nat) : Int) == 255) := by
      unfold spr
      rw [decide_eq_false (by omega : ¬ b < 128), decide_eq_true h, Bool.and_false, Bool.false_or, Bool.and_true, Bool.eq_iff_iff, beq_iff_eq, beq_iff_eq]; omega
    rw [e]
    rw [decide_eq_true h] at hh
    clear e h
    go_enter Try.func44, Try.ntmps44
    go_wp2
    go_ret
    exact ⟨rfl, rfl⟩
  · have e : spr a b = (((a : Nat) : Int) == 0) := by
      unfold spr
      rw [decide_eq_true (by omega : b < 128), decide_eq_false h, Bool.and_false, Bool.or_false, Bool.and_true, Bool.eq_iff_iff, beq_iff_eq, beq_iff_eq]; omega
    rw [e]
    rw [decide_eq_false h] at hh
    clear e h
    go_enter Try.func44, Try.ntmps44
    go_wp2
    go_ret
    exact ⟨rfl, rfl⟩
def isSh (l : List UInt8) : Bool := l.length == 1 || (decide (1 < l.length) && !same9 l)
theorem isShort_walk (l : List UInt8) (hl : l.length ≤ 140737488351232) (w : World) :
    Calls Try.prog 35 #[.string (bs l)] w fun e w' => e = .returned (.bool (isSh l)) ∧ ∃ n, w' = w.drewN n := by
  by_cases h1 : l.length = 1
  · have e : isSh l = true := by unfold isSh; rw [h1]; rfl
    rw [e]
    have h1' : (((l.length : Nat) : Int) == 1) = true := by rw [beq_iff_eq]; omega
    clear e h1
    go_enter Try.func35, Try.ntmps35
    go_wp2
    go_quiet (fail)
    go_wp2
    go_ret
    exact ⟨rfl, nq, rfl⟩
  · have h1' : (((l.length : Nat) : Int) == 1) = false := by rw [beq_eq_false_iff_ne]; omega
    have h1n : (l.length == 1) = false := by rw [beq_eq_false_iff_ne]; exact h1
    by_cases h2 : 1 < l.length
    · have e : isSh l = !spr (byt l 0) (byt l 1) := by
        unfold isSh; rw [h1n, Bool.false_or, decide_eq_true h2, Bool.true_and]; rfl
      rw [e]
      have HS := Lib.hid (fun w1 => isSpare_walk (byt l 0) (byt l 1) (byt_lt l 0) (byt_lt l 1) w1)
      have h2' : (1 : Int) < ((l.length : Nat) : Int) := by omega
      have h20 : (0 : Int) < ((l.length : Nat) : Int) := by omega
      generalize spr (byt l 0) (byt l 1) = B at *
      clear e h1 h1n
      go_enter Try.func35, Try.ntmps35
      go_wp2_with fail
      go_quiet ((go_at_call 44; refine Calls.quiet_mk (HS.out _)))
      go_wp2
      go_ret
      exact ⟨rfl, nq, rfl⟩
    · have e : isSh l = false := by unfold isSh; rw [h1n, decide_eq_false h2]; rfl
      rw [e]
      obtain rfl : l = [] := List.length_eq_zero_iff.1 (by omega)
      clear e h1 h1n h2 h1' hl
      go_enter Try.func35, Try.ntmps35
      go_wp2
      go_quiet (fail)
      go_wp2
      go_ret
      exact ⟨rfl, nq, rfl⟩
theorem isSh_step {l : List UInt8} (h : 2 ≤ l.length) : isSh l = !same9 l := by
  unfold isSh
  rw [show (l.length == 1) = false by rw [beq_eq_false_iff_ne]; omega, decide_eq_true (by omega : 1 < l.length)]; simp
theorem isSh_one {l : List UInt8} (h : l.length = 1) : isSh l = true := by unfold isSh; rw [h]; rfl
def CuRel (l : List UInt8) (w : World) (g : Nat) (v0 : Value) (wr : World) : Prop :=
  ∃ s, s.length = g + 1 ∧ g + 1 ≤ l.length ∧ strip g s = strip (l.length - 1) l ∧ v0 = .string (bs s) ∧ ∃ m, wr = w.drewN m
theorem drew_add (w : World) (m n : Nat) : (w.drewN m).drewN n = w.drewN (m + n) := by unfold World.drewN; simp [Nat.add_assoc]
set_option maxRecDepth 100000 in
theorem cut_walkB (l : List UInt8) (h1 : 1 ≤ l.length) (hl : l.length ≤ 100) (w : World) :
    Calls Try.prog 26 #[.string (bs l)] w fun e w' => e = .returned (.string (bs (strip (l.length - 1) l))) ∧ ∃ n, w' = w.drewN n := by
  go_enter Try.func26, Try.ntmps26
  go_wp2
  go_loopg [0] (l.length - 1) (fun g v0 wr => CuRel l w g v0 wr)
  case atStart => exact ⟨l, by omega, by omega, rfl, rfl, 0, rfl⟩
  case round =>
    obtain ⟨s, hg, hgl, hst, rfl, m, rfl⟩ := hrel
    have hS := isShort_walk s (by omega) (w.drewN m)
    cases gk with
    | zero =>
      rw [isSh_one hg] at hS
      have HS := Lib.hid hS
      have hst2 : s = strip (l.length - 1) l := hst
      have HE := Lib.hid hst2
      clear hS hst hst2 hg h1 hl
      go_wp2_with fail
      refine HS.out.mono ?_
      rintro e w1 ⟨rfl, k, rfl⟩
      go_wp2
      go_ret
      rw [HE.out]
      exact ⟨rfl, m + k, rfl⟩
    | succ g =>
      rw [isSh_step (by omega)] at hS
      have hst2 : strip (l.length - 1) l = if same9 s then strip g (s.drop 1) else s := hst.symm
      have hsl : ((s.length : Nat) : Int) = ((g + 2 : Nat) : Int) := by omega
      have hs1 : 1 ≤ s.length := by omega
      have hdl : (s.drop 1).length = g + 1 := by rw [List.length_drop]; omega
      have HDL := Lib.hid hdl
      have HW := Lib.hid (drew_add w m)
      clear hst hg hdl
      cases h9 : same9 s
      · rw [h9] at hS hst2
        have HS := Lib.hid hS
        have HE := Lib.hid hst2
        clear hS hst2 h9
        go_wp2_with fail
        refine HS.out.mono ?_
        rintro e w1 ⟨rfl, k, rfl⟩
        go_wp2
        go_ret
        rw [HE.out]
        exact ⟨by simp, m + k, rfl⟩
      · rw [h9, if_pos rfl] at hst2
        rw [h9] at hS
        have HS := Lib.hid hS
        have HE := Lib.hid hst2
        clear hS hst2 h9
        go_wp2_with fail
        refine HS.out.mono ?_
        rintro e w1 ⟨rfl, k, rfl⟩
        go_wp2
        go_roundg g
        case measure => omega
        case rel => exact ⟨s.drop 1, HDL.out, by omega, HE.out.symm, by simp, m + k, rfl⟩
end Go.Proofs.Ytepgkoafjeacnaa
