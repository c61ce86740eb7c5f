/- The program's framer in memory; isDigit, die, length, walked. -/
import Derived.Test.YtndinelljmjfaaaDoorFrqP
import Derived.Test.YtndinelljmjfaaaDoorFrmW
import Derived.Test.YtndinelljmjfaaaDoorByl
import Derived.Deep.QuietTactic
import Derived.Deep.RegionHeld3
import Derived.Deep.LoopGhost
import Derived.BigQuiet
import Derived.IntWalk
namespace Go.Proofs.YtndinelljmjfaaaDoor
open Go.ChangeShapes Go.WideShapes Go.ChangeAt Go.RowKit K F12
set_option linter.unusedVariables false

/-- A framer in block b: its seven cells. -/
def FrB (w : World) (b : Nat) (most : Nat) (dead : Bool) (dr wt lg ah : Nat) (v : Value) : Prop :=
  w.heap[b]? = some (.cells #[.int .i64 (most : Nat), .bool dead, .int .i64 (dr : Nat), .int .i64 (wt : Nat), .int .i64 (lg : Nat), .int .i64 (ah : Nat), v] 51 (0, 0))
theorem FrB.cells {w : World} {b most : Nat} {dead : Bool} {dr wt lg ah : Nat} {v : Value} (h : FrB w b most dead dr wt lg ah v) :
    w.cell? ⟨b, 0, none⟩ = some (.int .i64 (most : Nat)) ∧ w.cell? ⟨b, 1, none⟩ = some (.bool dead) ∧ w.cell? ⟨b, 2, none⟩ = some (.int .i64 (dr : Nat)) ∧ w.cell? ⟨b, 3, none⟩ = some (.int .i64 (wt : Nat)) ∧ w.cell? ⟨b, 4, none⟩ = some (.int .i64 (lg : Nat)) ∧ w.cell? ⟨b, 5, none⟩ = some (.int .i64 (ah : Nat)) ∧ w.cell? ⟨b, 6, none⟩ = some v :=
  ⟨cellRow h 0, cellRow h 1, cellRow h 2, cellRow h 3, cellRow h 4, cellRow h 5, cellRow h 6⟩
theorem FrB.free {w : World} {b most : Nat} {dead : Bool} {dr wt lg ah : Nat} {v : Value} (h : FrB w b most dead dr wt lg ah v) :
    w.frozen? ⟨b, 1, none⟩ = false ∧ w.frozen? ⟨b, 2, none⟩ = false ∧ w.frozen? ⟨b, 3, none⟩ = false ∧ w.frozen? ⟨b, 4, none⟩ = false ∧ w.frozen? ⟨b, 5, none⟩ = false ∧ w.frozen? ⟨b, 6, none⟩ = false :=
  ⟨freeRow h 1, freeRow h 2, freeRow h 3, freeRow h 4, freeRow h 5, freeRow h 6⟩
theorem FrB.setDead {w : World} {b most : Nat} {dead : Bool} {dr wt lg ah : Nat} {v : Value} (h : FrB w b most dead dr wt lg ah v) (t : Bool) : FrB (w.setCell ⟨b, 1, none⟩ (.bool t)) b most t dr wt lg ah v := by
  have := rowSet h 1 (.bool t); simpa [FrB] using this
theorem FrB.setDr {w : World} {b most : Nat} {dead : Bool} {dr wt lg ah : Nat} {v : Value} (h : FrB w b most dead dr wt lg ah v) (t : Nat) (x : Int) (hx : x = (t : Nat)) : FrB (w.setCell ⟨b, 2, none⟩ (.int .i64 x)) b most dead t wt lg ah v := by
  subst hx
  have := rowSet h 2 (.int .i64 (t : Nat)); simpa [FrB] using this
theorem FrB.setWt {w : World} {b most : Nat} {dead : Bool} {dr wt lg ah : Nat} {v : Value} (h : FrB w b most dead dr wt lg ah v) (t : Nat) (x : Int) (hx : x = (t : Nat)) : FrB (w.setCell ⟨b, 3, none⟩ (.int .i64 x)) b most dead dr t lg ah v := by
  subst hx
  have := rowSet h 3 (.int .i64 (t : Nat)); simpa [FrB] using this
theorem FrB.setLg {w : World} {b most : Nat} {dead : Bool} {dr wt lg ah : Nat} {v : Value} (h : FrB w b most dead dr wt lg ah v) (t : Nat) (x : Int) (hx : x = (t : Nat)) : FrB (w.setCell ⟨b, 4, none⟩ (.int .i64 x)) b most dead dr wt t ah v := by
  subst hx
  have := rowSet h 4 (.int .i64 (t : Nat)); simpa [FrB] using this
theorem FrB.setAh {w : World} {b most : Nat} {dead : Bool} {dr wt lg ah : Nat} {v : Value} (h : FrB w b most dead dr wt lg ah v) (t : Nat) (x : Int) (hx : x = (t : Nat)) : FrB (w.setCell ⟨b, 5, none⟩ (.int .i64 x)) b most dead dr wt lg t v := by
  subst hx
  have := rowSet h 5 (.int .i64 (t : Nat)); simpa [FrB] using this
theorem FrB.setBt {w : World} {b most : Nat} {dead : Bool} {dr wt lg ah : Nat} {v : Value} (h : FrB w b most dead dr wt lg ah v) (v' : Value) : FrB (w.setCell ⟨b, 6, none⟩ v') b most dead dr wt lg ah v' := by
  have := rowSet h 6 v'; simpa [FrB] using this
theorem FrB.kp {w w' : World} {b most : Nat} {dead : Bool} {dr wt lg ah : Nat} {v : Value} (h : FrB w b most dead dr wt lg ah v) {S : List Nat} (k : Kp S w w') (hn : b ∉ S) : FrB w' b most dead dr wt lg ah v := Kp.heap k h hn
def dgt (n : Nat) : Bool := decide (48 ≤ n ∧ n ≤ 57)
theorem isdigit_walk (n : Nat) (w : World) : Calls Tryd.prog 24 #[.int .u8 (n : Nat)] w fun e w' => e = .returned (.bool (dgt n)) ∧ w = w' := by
  by_cases h1 : 48 ≤ n
  · have e1 : (48 : Int) ≤ (n : Nat) := by omega
    by_cases h2 : n ≤ 57
    · have e2 : ((n : Nat) : Int) ≤ 57 := by omega
      have HD := Lib.hid (show dgt n = true by unfold dgt; simp; omega)
      clear h1 h2
      go_enter Tryd.func24, Tryd.ntmps24
      go_wp2
      go_ret
      rw [HD.out]; exact ⟨rfl, rfl⟩
    · have e2 : ¬ ((n : Nat) : Int) ≤ 57 := by omega
      have HD := Lib.hid (show dgt n = false by unfold dgt; simp; omega)
      clear h1 h2
      go_enter Tryd.func24, Tryd.ntmps24
      go_wp2
      go_ret
      rw [HD.out]; exact ⟨rfl, rfl⟩
  · have e1 : ¬ (48 : Int) ≤ (n : Nat) := by omega
    have HD := Lib.hid (show dgt n = false by unfold dgt; simp; omega)
    clear h1
    go_enter Tryd.func24, Tryd.ntmps24
    go_wp2
    go_ret
    rw [HD.out]; exact ⟨rfl, rfl⟩
theorem die_walk (b most : Nat) (dead : Bool) (dr wt lg ah : Nat) (v : Value) (w : World) (h : FrB w b most dead dr wt lg ah v) :
    Calls Tryd.prog 25 #[.pointer (some ⟨b, 0, none⟩)] w fun e w' => e = .returned (.tuple #[]) ∧ FrB w' b most true dr 0 0 0 (.slice none 0 0) ∧ Kp [b] w w' := by
  obtain ⟨c0, c1, c2, c3, c4, c5, c6⟩ := h.cells
  obtain ⟨f1, f2, f3, f4, f5, f6⟩ := h.free
  have H2 := Lib.hid (((((h.setDead true).setWt 0 0 rfl).setLg 0 0 rfl).setAh 0 0 rfl).setBt (.slice none 0 0))
  have K2 := Lib.hid ((((((Kp.refl [b] w).set ⟨b, 1, none⟩ (by simp) (.bool true)).set ⟨b, 3, none⟩ (by simp) (.int .i64 0)).set ⟨b, 4, none⟩ (by simp) (.int .i64 0)).set ⟨b, 5, none⟩ (by simp) (.int .i64 0)).set ⟨b, 6, none⟩ (by simp) (.slice none 0 0))
  clear h
  go_enter Tryd.func25, Tryd.ntmps25
  go_wp2
  go_end0
  exact ⟨rfl, H2.out, K2.out⟩
end Go.Proofs.YtndinelljmjfaaaDoor
