import Derived.Test.YtanainpapcblfaaDoorOctA
namespace Go.Proofs.YtanainpapcblfaaDoor
open Go.ChangeShapes Go.WideShapes Go.ChangeAt Go.RowKit P1 K
set_option linter.unusedVariables false

def RRel (w : World) (t : List UInt8) (vn vs : Value) (wr : World) : Prop :=
  ∃ (m f : Nat) (l : List UInt8), m < 128 ^ (f + 1) ∧ f ≤ 8 ∧ vn = .int .i64 m ∧ vs = .string (bs l) ∧ l.length + f ≤ 9 ∧ low f (m / 128) ++ l = t ∧ Below w.heap.size w wr

set_option maxRecDepth 100000 in
theorem grouped_walk (n : Nat) (h1 : n ≤ 9223372036854775807) (w : World) :
    Calls Tryd.prog 37 #[.int .i64 n] w fun e w' => e = .returned (.string (bs (grp n))) ∧ Below w.heap.size w w' := by
  have hc1 := run_conv_one (P := Tryd.prog) 49 5 9 Tryd.underlying49 Tryd.underlying5 Tryd.underlying9
  go_enter Tryd.func37, Tryd.ntmps37
  go_wp2
  go_loopw [0, 3] (fun vn vs wr => RRel w (grp n) vn vs wr) (fun vn vs wr => (intOf vn).toNat)
  case atStart =>
    exact ⟨n, 8, _, by omega, by omega, rfl, rfl, by simp, rfl, (Below.refl _ _).alloc (Nat.le_refl _) _⟩
  case round =>
    obtain ⟨m, f, l, hm, hf, rfl, rfl, hl, hg, hb⟩ := hrel
    have Hg := Lib.hid hg; have Hm := Lib.hid hm; clear hg
    have hmx : m ≤ 9223372036854775807 := by
      have : (128 : Nat) ^ (f + 1) ≤ 128 ^ 9 := Nat.pow_le_pow_right (by omega) (by omega)
      omega
    clear hm
    by_cases h0 : 128 ≤ m
    · go_wp2
      go_roundw
      case measure => simp [intOf]; omega
      case rel =>
        obtain ⟨g, rfl⟩ : ∃ g, f = g + 1 := ⟨f - 1, by have := Hm.out; rcases f with _ | f <;> simp at this ⊢; omega⟩
        have hm2 : m / 128 < 128 ^ (g + 1) := by have := Hm.out; rw [Nat.pow_succ] at this; omega
        refine ⟨m / 128, g, b8 (m / 128 % 128 + 128) :: l, hm2, by omega, by simp, ?_, by simp; omega, ?_, hb.alloc (by have := hb.size; omega) _⟩
        · simp
        · rw [← Hg.out, low_step g (m / 128) (by omega), List.append_assoc]; rfl
    · go_wp2
      go_ret
      refine ⟨?_, hb⟩
      rw [← Hg.out, show m / 128 = 0 by omega, low_zero]; rfl

theorem octGroups_walk (n : Int) (h0 : -9223372036854775808 ≤ n) (h1 : n ≤ 9223372036854775807) (w : World) :
    Calls Tryd.prog 34 #[.int .i64 n] w fun e w' => e = .returned (.tuple #[.string (bs (grpS n)), .int .i64 (grpC n)]) ∧ Below w.heap.size w w' := by
  by_cases h : n < 0
  · go_enter Tryd.func34, Tryd.ntmps34
    go_wp2
    go_ret2
    exact ⟨by simp [grpS, grpC, h]; rfl, Below.refl _ _⟩
  · obtain ⟨m, rfl⟩ := Int.eq_ofNat_of_zero_le (show 0 ≤ n by omega)
    go_enter Tryd.func34, Tryd.ntmps34
    go_wp2_with (go_at_call 54; refine (groups_walk m (by omega) _).mono ?_; rintro e w' ⟨rfl, hb⟩)
    go_ret2
    exact ⟨by rw [grpS_nat, grpC_nat]; rfl, hb⟩

theorem octGroups_nat (m : Nat) (h : m < 9223372036854775808) (w : World) :
    Calls Tryd.prog 34 #[.int .i64 m] w fun e w' => e = .returned (.tuple #[.string (bs (grp m)), .int .i64 0]) ∧ Below w.heap.size w w' := by
  have := octGroups_walk m (by omega) (by omega) w
  rwa [grpS_nat, grpC_nat] at this

end Go.Proofs.YtanainpapcblfaaDoor
