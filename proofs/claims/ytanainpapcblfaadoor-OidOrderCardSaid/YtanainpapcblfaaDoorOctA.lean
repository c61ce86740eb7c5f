import Derived.Test.YtanainpapcblfaaDoorRows
import Derived.Test.YtanainpapcblfaaDoorOctP
import Derived.Test.YtanainpapcblfaaDoorLib
import Derived.ProofKit
import Derived.OpenShut
import Derived.ShutString
namespace Go.Proofs.YtanainpapcblfaaDoor
open Go.ChangeShapes Go.WideShapes Go.ChangeAt Go.RowKit P1 K
set_option linter.unusedVariables false

/-- The relation of octet.groups' loop. -/
def GRel (w : World) (t : List UInt8) (vn va : Value) (wr : World) : Prop :=
  ∃ (m p : Nat) (C : Array Value) (l : List UInt8), p ≤ 8 ∧ m < 128 ^ p ∧ vn = .int .i64 m ∧ va = .int .i64 p ∧ wr.heap[w.heap.size]? = some (.cells C 88 (0, 0)) ∧ C.size = 9 ∧ l.length = 9 - p ∧ tailIs C p l ∧ low p m ++ l = t ∧ Below w.heap.size w wr

theorem groups_walk (n : Nat) (h1 : n ≤ 9223372036854775807) (w : World) :
    Calls Tryd.prog 54 #[.int .i64 n] w fun e w' => e = .returned (.string (bs (grp n))) ∧ Below w.heap.size w w' := by
  go_enter Tryd.func54, Tryd.ntmps54
  go_wp2
  go_loopw [0, 4] (fun vn va wr => GRel w (grp n) vn va wr) (fun vn va wr => (intOf va).toNat)
  case atStart =>
    refine ⟨n / 128, 8, _, [b8 (n % 128)], by omega, by omega, by simp, rfl, rowNew _ _, rfl, rfl, ?_, rfl, (Below.refl _ _).alloc (Nat.le_refl _) _⟩
    show [Value.int .u8 ((n : Int) % 128)] = [Value.int .u8 ((b8 (n % 128)).toNat : Int)]
    rw [b8_toNat (n % 128) (by omega)]; simp
  case round =>
    obtain ⟨m, p, C, l, hp, hm, rfl, rfl, hC, hs, hl, ht, hg, hb⟩ := hrel
    by_cases h0 : 0 < m
    · obtain ⟨q, rfl⟩ : ∃ q, p = q + 1 := ⟨p - 1, by rcases p with _ | p <;> simp at hm ⊢; omega⟩
      obtain ⟨x, hcell⟩ : ∃ x, wr.cell? ⟨w.heap.size, q, none⟩ = some x := ⟨C[q]'(by omega), by simp [World.cell?, hC]⟩
      have hfr : wr.frozen? ⟨w.heap.size, q, none⟩ = false := freeRow hC q
      have e1 : bits .or .u8 ((m : Int) % 128) 128 = ((b8 (m % 128 + 128)).toNat : Int) := by
        rw [bits_or128 _ (by omega) (by omega), b8_toNat _ (by omega)]; omega
      have hm2 : m / 128 < 128 ^ q := by rw [Nat.pow_succ] at hm; omega
      have hmx : m ≤ 72057594037927936 := by
        have : (128 : Nat) ^ (q + 1) ≤ 128 ^ 8 := Nat.pow_le_pow_right (by omega) (by omega)
        omega
      have HC := Lib.hid hC; have Hs := Lib.hid hs; have Hl := Lib.hid hl; have Hg := Lib.hid hg; have Hm := Lib.hid hm; have E1 := Lib.hid e1; clear hC hs hl hg hm e1
      go_wp2
      go_roundw
      case measure => simp [intOf]
      case rel =>
        refine ⟨m / 128, q, _, b8 (m % 128 + 128) :: l, by omega, hm2, by simp, rfl, rowSet HC.out q _, by simp [Hs.out], by simp [Hl.out]; omega, ?_, ?_, hb.setCell (Nat.le_refl _) _⟩
        · rw [E1.out]; exact tailIs_set ht (by rw [Hs.out]; omega) _
        · rw [← Hg.out, low_step q m h0, List.append_assoc]; rfl
    · obtain rfl : m = 0 := by omega
      obtain rfl : grp n = l := by rw [low_zero] at hg; simpa using hg.symm
      have hcv := run_conv_tail (P := Tryd.prog) wr 49 5 9 Tryd.underlying49 Tryd.underlying5 Tryd.underlying9 hC ht (9 - p) (9 - p) hl
      have hsl := run_sliceAt_arr (P := Tryd.prog) wr 88 5 9 Tryd.underlying88 (by kernel_rfl) w.heap.size p (by omega)
      clear hC hs hl hg ht hm
      go_wp2
      go_ret
      exact ⟨rfl, hb⟩
end Go.Proofs.YtanainpapcblfaaDoor
