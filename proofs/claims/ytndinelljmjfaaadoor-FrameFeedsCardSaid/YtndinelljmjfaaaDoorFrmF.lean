/- The document's New, Frame and Feed of frames, walked; texts spoilt. -/
import Derived.Test.YtndinelljmjfaaaDoorFrmC
import Derived.Test.YtndinelljmjfaaaDoorFrmA
import Derived.Test.YtndinelljmjfaaaDoorOidA
namespace Go.Proofs.YtndinelljmjfaaaDoor
open Go.ChangeShapes Go.WideShapes Go.ChangeAt Go.RowKit K F12
set_option linter.unusedVariables false

theorem dg_dec : ∀ (k n : Nat), n < 10 ^ (k + 1) → O6.dg (k + 1) n = Lib.decDigits n
  | 0, n, h => by rw [O6.dg_small _ n (by simpa using h), dec1 n (by simpa using h)]
  | k + 1, n, h => by
    by_cases h1 : n < 10
    · rw [O6.dg_small _ n h1, dec1 n h1]
    · rw [O6.dg_big _ n (by omega), dec2 n h1, dg_dec k (n / 10) (by rw [Nat.pow_succ] at h; omega)]
theorem dec_len5 (n : Nat) (h : n < 100000) : (Lib.decDigits n).length ≤ 5 := by
  by_cases h1 : n < 10
  · rw [dec1 n h1]; simp
  rw [dec2 n h1, List.length_append]
  by_cases h2 : n / 10 < 10
  · rw [dec1 _ h2]; simp
  rw [dec2 _ h2, List.length_append]
  by_cases h3 : n / 10 / 10 < 10
  · rw [dec1 _ h3]; simp
  rw [dec2 _ h3, List.length_append]
  by_cases h4 : n / 10 / 10 / 10 < 10
  · rw [dec1 _ h4]; simp
  rw [dec2 _ h4, List.length_append]
  by_cases h5 : n / 10 / 10 / 10 / 10 < 10
  · rw [dec1 _ h5]; simp
  · omega
theorem nm_dec (n : Nat) (h : n ≤ 9223372036854775807) : O6.nm n = Lib.decDigits n := dg_dec 19 n (by omega)
set_option maxRecDepth 100000 in
theorem qframe_walk (m : List UInt8) (hm : m.length ≤ 100000) (w : World) :
    Calls Tryd.prog 8 #[.string (bs m)] w fun e w' => e = .returned (.tuple #[.string (bs (frS m)), .int .i64 (frE m : Nat)]) ∧ Below w.heap.size w w' := by
  by_cases h0 : m = []
  · subst h0
    have e : frS [] = [] ∧ frE [] = 1 := ⟨rfl, rfl⟩
    rw [e.1, e.2]
    go_enter Tryd.func8, Tryd.ntmps8
    go_wp2
    go_ret2
    exact ⟨rfl, Below.refl _ _⟩
  have hpos : 1 ≤ m.length := List.length_pos_iff.2 h0
  have hne : m.isEmpty = false := List.isEmpty_eq_false_iff.2 h0
  by_cases hb : 65535 < m.length
  · have e : frS m = [] ∧ frE m = 2 := by unfold frS frE; rw [if_neg (by omega), if_pos hb, if_neg (by omega), if_pos hb]; exact ⟨rfl, rfl⟩
    have e1 : (65535 : Int) < ((m.length : Nat) : Int) := by omega
    rw [e.1, e.2]
    clear e hb hpos h0
    go_enter Tryd.func8, Tryd.ntmps8
    go_wp2
    go_ret2
    exact ⟨rfl, Below.refl _ _⟩
  · have e : frS m = frm m ∧ frE m = 0 := by unfold frS frE; rw [if_neg (by omega), if_neg hb, if_neg (by omega), if_neg hb]; exact ⟨rfl, rfl⟩
    have e1 : ¬ (65535 : Int) < ((m.length : Nat) : Int) := by omega
    have hN := fun wx => qnumber_walk m.length (by omega) wx
    rw [nm_dec m.length (by omega)] at hN
    have HN := Lib.hid hN
    have hdl : (Lib.decDigits m.length).length ≤ 1000 := by
      have := dec_len5 m.length (by omega); omega
    rw [e.1, e.2]
    have HF := Lib.hid (show frm m = Lib.decDigits m.length ++ [32] ++ m by unfold frm; simp)
    clear e hb hpos h0 hN
    generalize Lib.decDigits m.length = D at *
    go_enter Tryd.func8, Tryd.ntmps8
    go_wp2_with fail
    refine (HN.out _).mono ?_
    rintro e w1 ⟨rfl, b1⟩
    have hlit : bs D ++ ({ data := #[32] } : ByteArray) = bs (D ++ [32]) := bs_append D [32]
    go_wp2
    go_ret2
    rw [HF.out]
    exact ⟨by simp, b1⟩
end Go.Proofs.YtndinelljmjfaaaDoor
