/- The program's Frame, walked; what its calls are known to answer where the library's tables stand. -/
import Derived.Test.YtndinelljmjfaaaDoorFrqH
import Derived.Test.YtndinelljmjfaaaDoorFrmF
import Derived.Test.YtndinelljmjfaaaDoorShelf
import Derived.Lib.AppendIntMem
import Derived.Test.YtndinelljmjfaaaDoorTab
namespace Go.Proofs.YtndinelljmjfaaaDoor
open Go.ChangeShapes Go.WideShapes Go.ChangeAt Go.RowKit K F12
set_option linter.unusedVariables false

/-- The table that printing reads. -/
def FrI (w : World) : Prop := Lib.TabIs Tryd.prog w "internal/strconv.uint64pow10" .u64 Lib.pow10Tab
theorem itoa12 (n : Nat) (hn : n ≤ 9223372036854775807) (w : World) (h : FrI w) :
    Calls Tryd.prog 18 #[.int .i64 n] w fun e w' => e = .returned (.string (bs (Lib.decDigits n))) ∧ Below w.heap.size w w' := by
  refine (Tryd.strconv_Itoa n (by omega) (by omega) w h).mono ?_
  rintro e w' ⟨rfl, k, os, rfl⟩
  have : Lib.itoa (n : Int) = Lib.decDigits n := by unfold Lib.itoa; rw [if_neg (by omega), Int.toNat_natCast]
  rw [this]
  exact ⟨rfl, Lib.below_grow _ _ (Nat.le_refl _) _ _⟩
set_option maxRecDepth 100000 in
set_option maxHeartbeats 1000000 in
theorem frame_walk (m : List UInt8) (w : World) (hm : m.length ≤ 100000) (hw : FrI w) :
    Calls Tryd.prog 7 #[.string (bs m)] w fun e w' => e = .returned (.tuple #[.string (bs (frS m)), .int .i64 (frE m : Nat)]) ∧ Below w.heap.size w w' := by
  by_cases h0 : m = []
  · subst h0
    have e : frS [] = [] ∧ frE [] = 1 := ⟨rfl, rfl⟩
    rw [e.1, e.2]
    go_enter Tryd.func7, Tryd.ntmps7
    go_wp2
    go_ret2
    exact ⟨rfl, Below.refl _ _⟩
  have hpos : 1 ≤ m.length := List.length_pos_iff.2 h0
  have hne : m.isEmpty = false := by cases m with | nil => exact absurd rfl h0 | cons _ _ => rfl
  by_cases hb : 65535 < m.length
  · have e : frS m = [] ∧ frE m = 2 := by unfold frS frE; rw [if_neg (by omega), if_pos hb, if_neg (by omega), if_pos hb]; exact ⟨rfl, rfl⟩
    rw [e.1, e.2]
    have hb2 : (65535 : Int) < ((m.length : Nat) : Int) := by omega
    clear e hb h0 hpos
    go_enter Tryd.func7, Tryd.ntmps7
    go_wp2
    go_ret2
    exact ⟨rfl, Below.refl _ _⟩
  · have e : frS m = frm m ∧ frE m = 0 := by unfold frS frE; rw [if_neg (by omega), if_neg hb, if_neg (by omega), if_neg hb]; exact ⟨rfl, rfl⟩
    have hb2 : ¬ (65535 : Int) < ((m.length : Nat) : Int) := by omega
    have HN := Lib.hid (itoa12 m.length (by omega) w hw)
    have hdl : (Lib.decDigits m.length).length ≤ 1000 := by
      have := dec_len5 m.length (by omega); omega
    rw [e.1, e.2]
    have HF := Lib.hid (show frm m = Lib.decDigits m.length ++ [32] ++ m by unfold frm; simp)
    clear e hb hpos h0
    generalize Lib.decDigits m.length = D at *
    go_enter Tryd.func7, Tryd.ntmps7
    go_wp2_with fail
    refine HN.out.mono ?_
    rintro e w1 ⟨rfl, b1⟩
    have hlit : bs D ++ ({ data := #[32] } : ByteArray) = bs (D ++ [32]) := bs_append D [32]
    go_wp2
    go_ret2
    rw [HF.out]
    exact ⟨by simp, b1⟩
theorem frm_okf : FOkF FrI FrR where
  toFOk := frm_okI FrI fun _ _ h k => tab_below h k
  fork := fun w b S st _ h => fork_walk w b S st h
  frame := fun m w hm hw => frame_walk m w hm hw
end Go.Proofs.YtndinelljmjfaaaDoor
