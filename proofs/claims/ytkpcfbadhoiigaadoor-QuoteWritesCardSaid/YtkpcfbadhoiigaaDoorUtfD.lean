/- The document's own small functions of utf, walked. -/
import Derived.Test.YtkpcfbadhoiigaaDoorUtfC
import Derived.Deep.RegionHeld3
import Derived.BigQuiet
import Derived.Deep.QuietTactic
namespace Go.Proofs.YtkpcfbadhoiigaaDoor
open Go.ChangeShapes Go.WideShapes Go.ChangeAt Go.RowKit K U4
set_option linter.unusedVariables false

def byT (c : Int) : List UInt8 := if isCi c then made c.toNat else []
def byE (c : Int) : Nat := if isCi c then 0 else 1
theorem by_yes (c : Nat) (h : isC c = true) : byT (c : Int) = made c ∧ byE (c : Int) = 0 := by
  unfold byT byE; rw [isCi_nat, h]; exact ⟨by simp, rfl⟩
theorem by_no (c : Int) (h : isCi c = false) : byT c = [] ∧ byE c = 1 := by
  unfold byT byE; rw [h]; exact ⟨rfl, rfl⟩
theorem isCi_nat' {c : Int} (h : isCi c = true) : ∃ k : Nat, c = (k : Int) ∧ isC k = true := by
  obtain ⟨h0, _, _⟩ := (isCi_iff c).1 h
  refine ⟨c.toNat, by omega, ?_⟩
  rw [← isCi_nat, show ((c.toNat : Nat) : Int) = c by omega]; exact h
theorem uqis_walk (c : Int) (w : World) :
    Calls Tryd.prog 80 #[.int .i64 c] w fun e w' => e = .returned (.bool (isCi c)) ∧ w = w' := by
  by_cases h0 : 0 ≤ c
  · by_cases h1 : c ≤ 1114111
    · have e : isCi c = (decide (c < 55296) || decide (57343 < c)) := by
        rw [Bool.eq_iff_iff, isCi_iff, Bool.or_eq_true, decide_eq_true_eq, decide_eq_true_eq]; omega
      rw [e]; clear e
      go_enter Tryd.func80, Tryd.ntmps80
      go_wp2
      all_goals (go_ret; exact ⟨rfl, rfl⟩)
    · rw [isCi_f (c := c) (by omega)]
      have h1' : 1114112 ≤ c := by omega
      clear h1
      go_enter Tryd.func80, Tryd.ntmps80
      go_wp2
      go_ret
      exact ⟨rfl, rfl⟩
  · rw [isCi_f (c := c) (by omega)]
    have h0' : c ≤ -1 := by omega
    clear h0
    go_enter Tryd.func80, Tryd.ntmps80
    go_wp2
    go_ret
    exact ⟨rfl, rfl⟩

theorem urun_conv_two {P : Program} (src e dst : TypeId) (hs : P.underlying src = some (.slice e)) (he : P.underlying e = some (.int .u8)) (hd : P.underlying dst = some .string) :
    ∀ (w : World) (x y : Int), (convert src dst (.slice (some ⟨w.heap.size, 0, none⟩) 2 2)).run P (w.alloc (.cells #[.int .u8 x, .int .u8 y] e)) = .ok (.string (bs [b8 x.toNat, b8 y.toNat])) (w.alloc (.cells #[.int .u8 x, .int .u8 y] e)) := by
  intro w x y
  rw [run_convert_bytes_arg (P := P) (w.alloc (.cells #[.int .u8 x, .int .u8 y] e)) src e hs he w.heap.size 0 2 2 [x, y] rfl _ dst hd]
  · rfl
  · intro i hi
    rw [cellRow (rowNew w _)]
    obtain rfl | rfl : i = 0 ∨ i = 1 := by omega
    all_goals rfl
theorem run_conv_three {P : Program} (src e dst : TypeId) (hs : P.underlying src = some (.slice e)) (he : P.underlying e = some (.int .u8)) (hd : P.underlying dst = some .string) :
    ∀ (w : World) (x y z : Int), (convert src dst (.slice (some ⟨w.heap.size, 0, none⟩) 3 3)).run P (w.alloc (.cells #[.int .u8 x, .int .u8 y, .int .u8 z] e)) = .ok (.string (bs [b8 x.toNat, b8 y.toNat, b8 z.toNat])) (w.alloc (.cells #[.int .u8 x, .int .u8 y, .int .u8 z] e)) := by
  intro w x y z
  rw [run_convert_bytes_arg (P := P) (w.alloc (.cells #[.int .u8 x, .int .u8 y, .int .u8 z] e)) src e hs he w.heap.size 0 3 3 [x, y, z] rfl _ dst hd]
  · rfl
  · intro i hi
    rw [cellRow (rowNew w _)]
    obtain rfl | rfl | rfl : i = 0 ∨ i = 1 ∨ i = 2 := by omega
    all_goals rfl
theorem run_conv_four {P : Program} (src e dst : TypeId) (hs : P.underlying src = some (.slice e)) (he : P.underlying e = some (.int .u8)) (hd : P.underlying dst = some .string) :
    ∀ (w : World) (x y z u : Int), (convert src dst (.slice (some ⟨w.heap.size, 0, none⟩) 4 4)).run P (w.alloc (.cells #[.int .u8 x, .int .u8 y, .int .u8 z, .int .u8 u] e)) = .ok (.string (bs [b8 x.toNat, b8 y.toNat, b8 z.toNat, b8 u.toNat])) (w.alloc (.cells #[.int .u8 x, .int .u8 y, .int .u8 z, .int .u8 u] e)) := by
  intro w x y z u
  rw [run_convert_bytes_arg (P := P) (w.alloc (.cells #[.int .u8 x, .int .u8 y, .int .u8 z, .int .u8 u] e)) src e hs he w.heap.size 0 4 4 [x, y, z, u] rfl _ dst hd]
  · rfl
  · intro i hi
    rw [cellRow (rowNew w _)]
    obtain rfl | rfl | rfl | rfl : i = 0 ∨ i = 1 ∨ i = 2 ∨ i = 3 := by omega
    all_goals rfl
theorem ret_str {a b : List UInt8} (h : a = b) : Ending.returned (.string (bs a)) = .returned (.string (bs b)) := by rw [h]
set_option maxRecDepth 100000 in
theorem qmade1 (c : Nat) (h : (c : Int) < 128) (w : World) :
    Calls Tryd.prog 81 #[.int .i64 c] w fun e w' => e = .returned (.string (bs [b8 c])) ∧ Below w.heap.size w w' := by
  have hcv := run_conv_one (P := Tryd.prog) 57 5 9 Tryd.underlying57 Tryd.underlying5 Tryd.underlying9
  go_enter Tryd.func81, Tryd.ntmps81
  go_wp2
  go_ret
  refine ⟨ret_str (by simp), (Below.refl _ _).alloc (Nat.le_refl _) _⟩
set_option maxRecDepth 100000 in
theorem qmade2 (c : Nat) (h0 : (128 : Int) ≤ c) (h : (c : Int) < 2048) (w : World) :
    Calls Tryd.prog 81 #[.int .i64 c] w fun e w' => e = .returned (.string (bs [b8 (192 + c / 64), b8 (128 + c % 64)])) ∧ Below w.heap.size w w' := by
  have hcv := urun_conv_two (P := Tryd.prog) 57 5 9 Tryd.underlying57 Tryd.underlying5 Tryd.underlying9
  go_enter Tryd.func81, Tryd.ntmps81
  go_wp2
  go_ret
  exact ⟨rfl, (Below.refl _ _).alloc (Nat.le_refl _) _⟩
set_option maxRecDepth 100000 in
theorem qmade3 (z : Int) (h0 : 2048 ≤ z) (h : z < 65536) (w : World) :
    Calls Tryd.prog 81 #[.int .i64 z] w fun e w' => e = .returned (.string (bs [b8 (224 + z / 4096).toNat, b8 (128 + z / 64 % 64).toNat, b8 (128 + z % 64).toNat])) ∧ Below w.heap.size w w' := by
  have hcv := run_conv_three (P := Tryd.prog) 57 5 9 Tryd.underlying57 Tryd.underlying5 Tryd.underlying9
  go_enter Tryd.func81, Tryd.ntmps81
  go_wp2
  go_ret
  exact ⟨rfl, (Below.refl _ _).alloc (Nat.le_refl _) _⟩
set_option maxRecDepth 100000 in
theorem qmade4 (z : Int) (h0 : 65536 ≤ z) (h : z < 1114112) (w : World) :
    Calls Tryd.prog 81 #[.int .i64 z] w fun e w' => e = .returned (.string (bs [b8 (240 + z / 262144).toNat, b8 (128 + z / 4096 % 64).toNat, b8 (128 + z / 64 % 64).toNat, b8 (128 + z % 64).toNat])) ∧ Below w.heap.size w w' := by
  have hcv := run_conv_four (P := Tryd.prog) 57 5 9 Tryd.underlying57 Tryd.underlying5 Tryd.underlying9
  go_enter Tryd.func81, Tryd.ntmps81
  go_wp2
  go_ret
  exact ⟨rfl, (Below.refl _ _).alloc (Nat.le_refl _) _⟩
theorem qmade_walk (c : Nat) (hc : isC c = true) (w : World) :
    Calls Tryd.prog 81 #[.int .i64 c] w fun e w' => e = .returned (.string (bs (made c))) ∧ Below w.heap.size w w' := by
  have hb := (isC_iff c).1 hc
  rcases four c with ⟨h1, _, e⟩ | ⟨h1, h2, _, e⟩ | ⟨h1, h2, _, e⟩ | ⟨h1, _, e⟩ <;> rw [e]
  · exact qmade1 c (by omega) w
  · exact qmade2 c (by omega) (by omega) w
  · have := qmade3 c (by omega) (by omega) w
    rwa [show (224 + (c : Int) / 4096).toNat = 224 + c / 4096 by omega, show (128 + (c : Int) / 64 % 64).toNat = 128 + c / 64 % 64 by omega, show (128 + (c : Int) % 64).toNat = 128 + c % 64 by omega] at this
  · have := qmade4 c (by omega) (by omega) w
    rwa [show (240 + (c : Int) / 262144).toNat = 240 + c / 262144 by omega, show (128 + (c : Int) / 4096 % 64).toNat = 128 + c / 4096 % 64 by omega, show (128 + (c : Int) / 64 % 64).toNat = 128 + c / 64 % 64 by omega, show (128 + (c : Int) % 64).toNat = 128 + c % 64 by omega] at this
end Go.Proofs.YtkpcfbadhoiigaaDoor
