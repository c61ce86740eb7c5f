/- oid's isArc, mostSecond, areArcs, walked. -/
import Derived.Test.YtanainpapcblfaaDoorOidB
import Derived.Test.YtanainpapcblfaaDoorOidG
import Derived.BigQuiet
import Derived.Deep.QuietTactic
namespace Go.Proofs.YtanainpapcblfaaDoor
open Go.ChangeShapes Go.WideShapes Go.ChangeAt Go.RowKit K O6
set_option linter.unusedVariables false

theorem isArc_walk (x : Int) (w : World) : Calls Tryd.prog 45 #[.int .i64 x] w fun e w' => e = .returned (.bool (inR x)) ∧ w = w' := by
  have hcs : (0 ≤ x ∧ x ≤ 4294967295) ∨ x < 0 ∨ (0 ≤ x ∧ 4294967295 < x) := by omega
  rcases hcs with ⟨c0, c1⟩ | c0 | ⟨c0, c1⟩
  · have HF := Lib.hid (show inR x = true by unfold inR; rw [decide_eq_true c0, decide_eq_true c1]; rfl)
    go_enter Tryd.func45, Tryd.ntmps45
    go_wp2
    go_ret
    rw [HF.out]
    exact ⟨rfl, rfl⟩
  · have HF := Lib.hid (show inR x = false by unfold inR; rw [decide_eq_false (by omega : ¬ 0 ≤ x), Bool.false_and])
    go_enter Tryd.func45, Tryd.ntmps45
    go_wp2
    go_ret
    rw [HF.out]
    exact ⟨rfl, rfl⟩
  · have HF := Lib.hid (show inR x = false by unfold inR; rw [decide_eq_false (by omega : ¬ x ≤ 4294967295), Bool.and_false])
    have c2 : ¬ x ≤ 4294967295 := by omega
    go_enter Tryd.func45, Tryd.ntmps45
    go_wp2
    go_ret
    rw [HF.out]
    exact ⟨by simp, rfl⟩
def mSec (x : Int) : Int := if x = 2 then 4294967215 else 39
theorem mostSecond_walk (x : Int) (w : World) : Calls Tryd.prog 52 #[.int .i64 x] w fun e w' => e = .returned (.int .i64 (mSec x)) ∧ w = w' := by
  by_cases h : x = 2
  · subst h
    have HF := Lib.hid (show mSec 2 = 4294967215 from rfl)
    go_enter Tryd.func52, Tryd.ntmps52
    go_wp2
    go_ret
    rw [HF.out]
    exact ⟨rfl, rfl⟩
  · have HF := Lib.hid (show mSec x = 39 from if_neg h)
    have hb : (x == 2) = false := by rw [beq_eq_false_iff_ne]; exact h
    go_enter Tryd.func52, Tryd.ntmps52
    go_wp2
    go_ret
    rw [HF.out]
    exact ⟨rfl, rfl⟩
def IsRelW (n : Nat) (f : Nat → Int) (w : World) (g : Nat) (v : Value) (wr : World) : Prop :=
  ∃ i, i + g = n ∧ v = .int .i64 (i : Nat) ∧ (∀ j, j < i → inR (f j) = true) ∧ wr = w
set_option maxRecDepth 100000 in
set_option maxHeartbeats 1000000 in
theorem areArcs_walk (ao : Option Addr) (n cap : Nat) (f : Nat → Int) (hn : n ≤ 140737488351232) (w : World) (h : RdZ w ao n f) :
    Calls Tryd.prog 31 #[.slice ao n cap] w fun e w' => e = .returned (.bool (isZ n f)) ∧ ∃ m, w' = w.drewN m := by
  by_cases hl : n < 2 ∨ (2 ≤ n ∧ 128 < n)
  · have e : isZ n f = false := by
      unfold isZ
      rcases hl with h1 | ⟨_, h1⟩
      · rw [decide_eq_false (by omega), Bool.false_and]
      · rw [decide_eq_false (by omega : ¬ n ≤ 128), Bool.false_and, Bool.and_false]
    rw [e]
    clear e
    rcases hl with h1 | ⟨h0, h1⟩
    · have h1' : (n : Int) < 2 := by omega
      clear h h1
      go_enter Tryd.func31, Tryd.ntmps31
      go_wp2
      go_ret
      exact ⟨rfl, 0, rfl⟩
    · have h1' : (128 : Int) < n := by omega
      have h0' : (2 : Int) ≤ n := by omega
      clear h h1 h0
      go_enter Tryd.func31, Tryd.ntmps31
      go_wp2
      go_ret
      exact ⟨rfl, 0, rfl⟩
  · have hn2 : 2 ≤ n := by omega
    have hn3 : n ≤ 128 := by omega
    have hn2' : (2 : Int) ≤ n := by omega
    have hn3' : (n : Int) ≤ 128 := by omega
    rcases h with h | ⟨b, off, rfl, hbk, hc⟩
    · omega
    · have HC := Lib.hid hc
      clear hl hc
      go_enter Tryd.func31, Tryd.ntmps31
      go_wp2
      go_loopg [15] n (fun g v15 wr => IsRelW n f w g v15 wr)
      case atStart => exact ⟨0, by omega, rfl, fun j hj => by omega, rfl⟩
      case round =>
        obtain ⟨i, hig, rfl, hall, rfl⟩ := hrel
        cases gk with
        | succ g =>
          have hin : i < n := by omega
          have hcell := HC.out i hin
          have HAL := Lib.hid hall
          have HNO := Lib.hid (fun h => @isZ_no n f i hin h)
          clear hall
          have HI := Lib.hid (fun x w1 => isArc_walk x w1)
          cases hx : inR (f i)
          · have HF := Lib.hid (HNO.out hx)
            have HX := Lib.hid hx
            clear hx
            generalize f i = x at *
            go_wp2_with (go_at_call 45; refine (HI.out x _).mono ?_; rw [HX.out]; rintro e wz ⟨rfl, rfl⟩)
            go_ret
            rw [HF.out]
            exact ⟨rfl, 0, rfl⟩
          · have HX := Lib.hid hx
            clear hx
            generalize hfx : f i = x at *
            have HFX := Lib.hid hfx
            clear hfx
            go_wp2_with (go_at_call 45; refine (HI.out x _).mono ?_; rw [HX.out]; rintro e wz ⟨rfl, rfl⟩)
            go_roundg g
            case measure => omega
            case rel =>
              refine ⟨i + 1, by omega, by simp, fun j hj => ?_, rfl⟩
              rcases Nat.lt_or_ge j i with h1 | h1
              · exact HAL.out j h1
              · obtain rfl : j = i := by omega
                rw [HFX.out]; exact HX.out
        | zero =>
          obtain rfl : i = n := by omega
          have c0 := HC.out 0 (by omega)
          have c1 := HC.out 1 (by omega)
          rw [Nat.add_zero] at c0
          have hb0 := hall 0 (by omega)
          have hb1 := hall 1 (by omega)
          have e : isZ i f = ((decide (f 0 < 2) && decide (f 1 ≤ 39)) || (f 0 == 2 && decide (f 1 ≤ 4294967215))) := by
            have : (List.range i).all (fun i => inR (f i)) = true := by
              rw [List.all_eq_true]
              intro j hj
              exact hall j (List.mem_range.1 hj)
            unfold isZ; rw [this, decide_eq_true hn2, decide_eq_true hn3]; simp
          have HE := Lib.hid e
          unfold inR at hb0 hb1
          simp only [Bool.and_eq_true, decide_eq_true_eq] at hb0 hb1
          clear e hall hig HC
          generalize f 0 = x at *
          generalize f 1 = y at *
          obtain ⟨x0, x1⟩ := hb0
          obtain ⟨y0, y1⟩ := hb1
          by_cases h2 : x ≤ 2
          · have HZ := Lib.hid (show isZ i f = decide (y ≤ mSec x) by
              rw [HE.out]
              unfold mSec
              by_cases hx2 : x = 2
              · rw [if_pos hx2, decide_eq_false (by omega : ¬ x < 2), beq_iff_eq.2 hx2]; simp
              · rw [if_neg hx2, decide_eq_true (by omega : x < 2), beq_eq_false_iff_ne.2 hx2]; simp)
            have HM := Lib.hid (fun w1 => mostSecond_walk x w1)
            generalize mSec x = z at *
            clear HE
            go_wp2_with fail
            go_quiet (first | (go_at_call 52; refine Calls.quiet_mk (HM.out _)))
            go_wp2
            go_ret
            rw [HZ.out]
            exact ⟨rfl, nq, rfl⟩
          · have HF := Lib.hid (show isZ i f = false by rw [HE.out, decide_eq_false (by omega : ¬ x < 2), beq_eq_false_iff_ne.2 (by omega : x ≠ 2)]; rfl)
            have HM := Lib.hid (fun w1 => mostSecond_walk x w1)
            generalize mSec x = z at *
            have h3 : 2 < x := by omega
            have h4 : (x ≤ 2) = False := eq_false h2
            clear HE h2
            go_wp2_with fail
            go_quiet (first | (go_at_call 52; refine Calls.quiet_mk (HM.out _)))
            go_wp2
            go_ret
            rw [HF.out]
            exact ⟨rfl, nq, rfl⟩
end Go.Proofs.YtanainpapcblfaaDoor
