/- The document's own bodies of numbers, walked. -/
import Derived.Test.YtepgkoafjeacnaaBerR
import Derived.Deep.DeepCutAuto
import Derived.Deep.CutBlock
namespace Go.Proofs.Ytepgkoafjeacnaa
open Go.ChangeShapes Go.WideShapes Go.ChangeAt Go.RowKit K P1 B5
set_option linter.unusedVariables false

/-- A number as 64 bits. -/
def u64 (n : Int) : Nat := (n % 18446744073709551616).toNat
theorem u64_lt (n : Int) : u64 n < 18446744073709551616 := by unfold u64; omega
theorem byte_at (n : Int) (i : Nat) (hi : i ≤ 7) : (n / 2 ^ (8 * i)) % 256 = ((u64 n / 256 ^ i % 256 : Nat) : Int) := by
  have h : ((u64 n : Nat) : Int) = n % 18446744073709551616 := by unfold u64; omega
  obtain rfl | rfl | rfl | rfl | rfl | rfl | rfl | rfl : i = 0 ∨ i = 1 ∨ i = 2 ∨ i = 3 ∨ i = 4 ∨ i = 5 ∨ i = 6 ∨ i = 7 := by omega
  all_goals
    simp only [Nat.reduceMul, Nat.reducePow, Int.reducePow]
    omega
theorem pad8_take (m g : Nat) (h1 : 1 ≤ g) (h8 : g ≤ 8) : (pad 8 m).take (8 - (g - 1)) = (pad 8 m).take (8 - g) ++ [b8 (m / 256 ^ (g - 1) % 256)] := by
  obtain rfl | rfl | rfl | rfl | rfl | rfl | rfl | rfl : g = 1 ∨ g = 2 ∨ g = 3 ∨ g = 4 ∨ g = 5 ∨ g = 6 ∨ g = 7 ∨ g = 8 := by omega
  all_goals simp [pad]
def PnRel (n : Int) (w : World) (g : Nat) (v3 v4 : Value) (wr : World) : Prop :=
  g ≤ 8 ∧ v4 = .int .i64 ((g : Int) - 1) ∧ v3 = .string (bs ((pad 8 (u64 n)).take (8 - g))) ∧ Below w.heap.size w wr
def PsRel (n : Int) (w : World) (g : Nat) (v3 v5 : Value) (wr : World) : Prop :=
  ∃ i s, i + g = 7 ∧ v5 = .int .i64 (i : Nat) ∧ v3 = .string (bs s) ∧ s.length = 8 - i ∧ strip (7 - i) s = pn n ∧ wr = w
set_option maxRecDepth 100000 in
set_option maxHeartbeats 2000000 in
theorem qputnumber_walk (n : Int) (h0 : -9223372036854775808 ≤ n) (h1 : n ≤ 9223372036854775807) (w : World) :
    Calls Try.prog 11 #[.int .i64 n] w fun e w' => e = .returned (.string (bs (pn n))) ∧ Below w.heap.size w w' := by
  have hcv := run_conv_one (P := Try.prog) 52 5 9 Try.underlying52 Try.underlying5 Try.underlying9
  go_enter Try.func11, Try.ntmps11
  go_upto_block 0 with (fail)
  go_cut [3] (fun v3 wx => v3 = .string (bs (pad 8 (u64 n))) ∧ Below w.heap.size w wx)
  case first =>
    go_wp2
    go_loopg [3, 4] 8 (fun g v3 v4 wr => PnRel n w g v3 v4 wr)
    case atStart => exact ⟨by omega, rfl, rfl, Below.refl _ _⟩
    case round =>
      obtain ⟨hg8, rfl, rfl, hb⟩ := hrel
      cases gk with
      | zero =>
        have hf : (pad 8 (u64 n)).take (8 - 0) = pad 8 (u64 n) := List.take_of_length_le (by rw [pad_length]; omega)
        have HF := Lib.hid hf
        clear hf
        go_wp2_with fail
        go_meet
        exact ⟨by rw [HF.out], hb⟩
      | succ g =>
        have hby := byte_at n g (by omega)
        have HPT := Lib.hid (pad8_take (u64 n) (g + 1) (by omega) hg8)
        have hlen : ((pad 8 (u64 n)).take (8 - (g + 1))).length ≤ 8 := by rw [List.length_take, pad_length]; omega
        generalize (pad 8 (u64 n)).take (8 - (g + 1)) = S at *
        have hg0 : (0 : Int) ≤ ((g + 1 : Nat) : Int) - 1 := by omega
        rw [Nat.add_sub_cancel] at HPT
        generalize u64 n / 256 ^ g % 256 = q at *
        go_wp2
        go_roundg g
        case measure => omega
        case rel => exact ⟨by omega, rfl, by rw [HPT.out], hb.alloc (by have := hb.size; omega) _⟩
  case rest =>
    obtain ⟨rfl, hbx⟩ := hcut
    have HS0 := Lib.hid (show (pad 8 (u64 n)).length = 8 - 0 ∧ strip (7 - 0) (pad 8 (u64 n)) = pn n from ⟨pad_length 8 _, rfl⟩)
    generalize pad 8 (u64 n) = P8 at *
    go_wp2
    go_loopg [3, 5] 7 (fun g v3 v5 wr => PsRel n wc g v3 v5 wr)
    case atStart => exact ⟨0, P8, by omega, rfl, rfl, HS0.out.1, HS0.out.2, rfl⟩
    case round =>
      obtain ⟨i, s, hig, rfl, rfl, hsl, hst, rfl⟩ := hrel
      have hb0 := byt_lt s 0
      have hb1 := byt_lt s 1
      cases gk with
      | zero =>
        obtain rfl : i = 7 := by omega
        have hfin : s = pn n := hst
        have HFIN := Lib.hid hfin
        clear hst hfin hsl hig
        go_wp2
        go_ret
        rw [HFIN.out]
        exact ⟨rfl, hbx⟩
      | succ g =>
        have hi6 : i ≤ 6 := by omega
        have hsl2 : 2 ≤ s.length := by omega
        have hsl9 : s.length ≤ 8 := by omega
        have hstep : strip (7 - i) s = if same9 s then strip (7 - (i + 1)) (s.drop 1) else s := by
          rw [show 7 - i = (7 - (i + 1)) + 1 by omega]; rfl
        rw [hstep] at hst
        have hdl : (s.drop 1).length = 8 - (i + 1) := by rw [List.length_drop]; omega
        have HDL := Lib.hid hdl
        have h1l : 1 ≤ s.length := by omega
        have hcases : (same9 s = true ∧ ((((byt s 0 : Nat) : Int) == 0) = true ∧ byt s 1 < 128 ∨ (((byt s 0 : Nat) : Int) == 0) = false ∧ (((byt s 0 : Nat) : Int) == 255) = true ∧ 128 ≤ byt s 1)) ∨
            (same9 s = false ∧ ((((byt s 0 : Nat) : Int) == 0) = true ∧ (((byt s 0 : Nat) : Int) == 255) = false ∧ 128 ≤ byt s 1 ∨ (((byt s 0 : Nat) : Int) == 0) = false ∧ (((byt s 0 : Nat) : Int) == 255) = true ∧ byt s 1 < 128 ∨ (((byt s 0 : Nat) : Int) == 0) = false ∧ (((byt s 0 : Nat) : Int) == 255) = false)) := by
          have f0 : (((byt s 0 : Nat) : Int) == 0) = (byt s 0 == 0) := by rw [Bool.eq_iff_iff, beq_iff_eq, beq_iff_eq]; omega
          have f1 : (((byt s 0 : Nat) : Int) == 255) = (byt s 0 == 255) := by rw [Bool.eq_iff_iff, beq_iff_eq, beq_iff_eq]; omega
          rw [f0, f1]
          unfold same9
          by_cases c0 : byt s 0 = 0
          · rw [c0]
            by_cases c1 : byt s 1 < 128
            · left; simp [c1]
            · right; simp [c1]; omega
          · by_cases c2 : byt s 0 = 255
            · rw [c2]
              by_cases c1 : byt s 1 < 128
              · right; simp [c1]
              · left; simp; omega
            · right; simp [c0, c2]
        clear hstep hdl hsl
        rcases hcases with ⟨hs9, hc⟩ | ⟨hs9, hc⟩
        · rw [hs9, if_pos rfl] at hst
          have HST := Lib.hid hst
          clear hst hs9
          rcases hc with ⟨c0, c1⟩ | ⟨c0, c1, c2⟩
          all_goals
            go_wp2
            go_roundg g
            case measure => omega
            case rel => exact ⟨i + 1, s.drop 1, by omega, by simp, by simp, HDL.out, HST.out, rfl⟩
        · rw [hs9] at hst
          have hfin : s = pn n := by simpa using hst
          have HFIN := Lib.hid hfin
          clear hst hs9 hfin
          rcases hc with ⟨c0, c1, c2⟩ | ⟨c0, c1, c2⟩ | ⟨c0, c1⟩
          all_goals
            go_wp2
            go_ret
            rw [HFIN.out]
            exact ⟨rfl, hbx⟩
theorem byte_atN (m : Nat) (i : Nat) (hi : i ≤ 7) : ((m : Int) / 2 ^ (8 * i)) % 256 = ((m / 256 ^ i % 256 : Nat) : Int) := by
  obtain rfl | rfl | rfl | rfl | rfl | rfl | rfl | rfl : i = 0 ∨ i = 1 ∨ i = 2 ∨ i = 3 ∨ i = 4 ∨ i = 5 ∨ i = 6 ∨ i = 7 := by omega
  all_goals
    simp only [Nat.reduceMul, Nat.reducePow, Int.reducePow]
    omega
def P9Rel (m : Nat) (w : World) (g : Nat) (v3 v4 : Value) (wr : World) : Prop :=
  g ≤ 8 ∧ v4 = .int .i64 ((g : Int) - 1) ∧ v3 = .string (bs ((pad 8 m).take (8 - g))) ∧ Below w.heap.size w wr
set_option maxRecDepth 100000 in
set_option maxHeartbeats 2000000 in
theorem qput9_walk (m : Nat) (hm : m < 18446744073709551616) (w : World) :
    Calls Try.prog 28 #[.int .u64 m] w fun e w' => e = .returned (.string (bs (pad 8 m))) ∧ Below w.heap.size w w' := by
  have hcv := run_conv_one (P := Try.prog) 52 5 9 Try.underlying52 Try.underlying5 Try.underlying9
  obtain ⟨z, hz⟩ : ∃ z : Int, ((m : Nat) : Int) = z := ⟨_, rfl⟩
  have HZ := Lib.hid hz
  have hz0 : 0 ≤ z := by omega
  have hz1 : z < 18446744073709551616 := by omega
  rw [hz]
  clear hz hm
  go_enter Try.func28, Try.ntmps28
  go_wp2
  go_loopg [3, 4] 8 (fun g v3 v4 wr => P9Rel m w g v3 v4 wr)
  case atStart => exact ⟨by omega, rfl, rfl, Below.refl _ _⟩
  case round =>
    obtain ⟨hg8, rfl, rfl, hb⟩ := hrel
    cases gk with
    | zero =>
      have hf : (pad 8 m).take (8 - 0) = pad 8 m := List.take_of_length_le (by rw [pad_length]; omega)
      have HF := Lib.hid hf
      clear hf
      go_wp2
      go_ret
      rw [HF.out]
      exact ⟨rfl, hb⟩
    | succ g =>
      have hby := byte_atN m g (by omega)
      rw [HZ.out] at hby
      have HPT := Lib.hid (pad8_take m (g + 1) (by omega) hg8)
      have hlen : ((pad 8 m).take (8 - (g + 1))).length ≤ 8 := by rw [List.length_take, pad_length]; omega
      generalize (pad 8 m).take (8 - (g + 1)) = S at *
      have hg0 : (0 : Int) ≤ ((g + 1 : Nat) : Int) - 1 := by omega
      rw [Nat.add_sub_cancel] at HPT
      generalize m / 256 ^ g % 256 = q at *
      go_wp2
      go_roundg g
      case measure => omega
      case rel => exact ⟨by omega, rfl, by rw [HPT.out], hb.alloc (by have := hb.size; omega) _⟩
theorem qputunsigned_walk (m : Nat) (hm : m < 18446744073709551616) (w : World) :
    Calls Try.prog 13 #[.int .u64 m] w fun e w' => e = .returned (.string (bs (un m))) ∧ Below w.heap.size w w' := by
  obtain ⟨z, hz⟩ : ∃ z : Int, ((m : Nat) : Int) = z := ⟨_, rfl⟩
  by_cases h : 9223372036854775808 ≤ m
  · have e : un m = [0] ++ pad 8 m := by unfold un; rw [if_pos h]; rfl
    have HE := Lib.hid e
    have HQ := Lib.hid (qput9_walk m hm w)
    have hpl := pad_length 8 m
    have hpl8 : (pad 8 m).length ≤ 8 := by omega
    generalize pad 8 m = P8 at *
    have hz0 : 9223372036854775808 ≤ z := by omega
    have hz1 : z < 18446744073709551616 := by omega
    have hcat : ({ data := #[0] } : ByteArray) ++ bs P8 = bs ([0] ++ P8) := bs_append [0] P8
    rw [hz]
    rw [hz] at HQ
    clear e h hm hpl hz
    go_enter Try.func13, Try.ntmps13
    go_wp2_with fail
    refine HQ.out.mono ?_
    rintro e w1 ⟨rfl, hb⟩
    go_wp2
    go_ret
    rw [HE.out]
    exact ⟨rfl, hb⟩
  · have e : un m = pn (m : Int) := by unfold un; rw [if_neg h]
    rw [e]
    have HQ := Lib.hid (qputnumber_walk (m : Int) (by omega) (by omega) w)
    generalize pn (m : Int) = X at *
    have hz0 : 0 ≤ z := by omega
    have hz1 : z ≤ 9223372036854775807 := by omega
    rw [hz]
    rw [hz] at HQ
    clear e h hm hz
    go_enter Try.func13, Try.ntmps13
    go_wp2_with fail
    refine HQ.out.mono ?_
    rintro e w1 ⟨rfl, hb⟩
    go_wp2
    go_ret
    exact ⟨rfl, hb⟩
end Go.Proofs.Ytepgkoafjeacnaa
