/- Texts on the program and on the document, joined: BerS, Wid, BerD, BerE. -/
import Derived.Test.YtmdibafofdghgaaGreatDoorMa03
import Derived.Deep.DeepCutAuto
import Derived.Deep.CutBlock
import Derived.Test.YtmdibafofdghgaaGreatDoorRows
import Derived.Test.YtmdibafofdghgaaGreatDoorMa01
import Derived.ProofKit
import Derived.OpenShut
import Derived.ShutString
import Derived.Test.YtmdibafofdghgaaGreatDoorMa05
import Derived.Laws.BitsAllLaws
/- The document's own bodies of numbers, walked. -/
namespace Go.Proofs.YtmdibafofdghgaaGreatDoor
open Go.ChangeShapes Go.WideShapes Go.ChangeAt Go.RowKit K P1 B5
set_option linter.unusedVariables false

/-- A number as 64 bits. -/
def u64 (n : Int) : Nat := (n % 18446744073709551616).toNat
theorem u64_lt (n : Int) : u64 n < 18446744073709551616 := by unfold u64; omega
theorem byte_at (n : Int) (i : Nat) (hi : i ≤ 7) : (n / 2 ^ (8 * i)) % 256 = ((u64 n / 256 ^ i % 256 : Nat) : Int) := by
  have h : ((u64 n : Nat) : Int) = n % 18446744073709551616 := by unfold u64; omega
  obtain rfl | rfl | rfl | rfl | rfl | rfl | rfl | rfl : i = 0 ∨ i = 1 ∨ i = 2 ∨ i = 3 ∨ i = 4 ∨ i = 5 ∨ i = 6 ∨ i = 7 := by omega
  all_goals
    simp only [Nat.reduceMul, Nat.reducePow, Int.reducePow]
    omega
theorem pad8_take (m g : Nat) (h1 : 1 ≤ g) (h8 : g ≤ 8) : (pad 8 m).take (8 - (g - 1)) = (pad 8 m).take (8 - g) ++ [b8 (m / 256 ^ (g - 1) % 256)] := by
  obtain rfl | rfl | rfl | rfl | rfl | rfl | rfl | rfl : g = 1 ∨ g = 2 ∨ g = 3 ∨ g = 4 ∨ g = 5 ∨ g = 6 ∨ g = 7 ∨ g = 8 := by omega
  all_goals simp [pad]
def PnRel (n : Int) (w : World) (g : Nat) (v3 v4 : Value) (wr : World) : Prop :=
  g ≤ 8 ∧ v4 = .int .i64 ((g : Int) - 1) ∧ v3 = .string (bs ((pad 8 (u64 n)).take (8 - g))) ∧ Below w.heap.size w wr
def PsRel (n : Int) (w : World) (g : Nat) (v3 v5 : Value) (wr : World) : Prop :=
  ∃ i s, i + g = 7 ∧ v5 = .int .i64 (i : Nat) ∧ v3 = .string (bs s) ∧ s.length = 8 - i ∧ strip (7 - i) s = pn n ∧ wr = w
set_option maxRecDepth 100000 in
set_option maxHeartbeats 2000000 in
theorem qputnumber_walk (n : Int) (h0 : -9223372036854775808 ≤ n) (h1 : n ≤ 9223372036854775807) (w : World) :
    Calls Tryz.prog 108 #[.int .i64 n] w fun e w' => e = .returned (.string (bs (pn n))) ∧ Below w.heap.size w w' := by
  have hcv := run_conv_one (P := Tryz.prog) 124 5 9 Tryz.underlying124 Tryz.underlying5 Tryz.underlying9
  go_enter Tryz.func108, Tryz.ntmps108
  go_upto_block 0 with (fail)
  go_cut [3] (fun v3 wx => v3 = .string (bs (pad 8 (u64 n))) ∧ Below w.heap.size w wx)
  case first =>
    go_wp2
    go_loopg [3, 4] 8 (fun g v3 v4 wr => PnRel n w g v3 v4 wr)
    case atStart => exact ⟨by omega, rfl, rfl, Below.refl _ _⟩
    case round =>
      obtain ⟨hg8, rfl, rfl, hb⟩ := hrel
      cases gk with
      | zero =>
        have hf : (pad 8 (u64 n)).take (8 - 0) = pad 8 (u64 n) := List.take_of_length_le (by rw [pad_length]; omega)
        have HF := Lib.hid hf
        clear hf
        go_wp2_with fail
        go_meet
        exact ⟨by rw [HF.out], hb⟩
      | succ g =>
        have hby := byte_at n g (by omega)
        have HPT := Lib.hid (pad8_take (u64 n) (g + 1) (by omega) hg8)
        have hlen : ((pad 8 (u64 n)).take (8 - (g + 1))).length ≤ 8 := by rw [List.length_take, pad_length]; omega
        generalize (pad 8 (u64 n)).take (8 - (g + 1)) = S at *
        have hg0 : (0 : Int) ≤ ((g + 1 : Nat) : Int) - 1 := by omega
        rw [Nat.add_sub_cancel] at HPT
        generalize u64 n / 256 ^ g % 256 = q at *
        go_wp2
        go_roundg g
        case measure => omega
        case rel => exact ⟨by omega, rfl, by rw [HPT.out], hb.alloc (by have := hb.size; omega) _⟩
  case rest =>
    obtain ⟨rfl, hbx⟩ := hcut
    have HS0 := Lib.hid (show (pad 8 (u64 n)).length = 8 - 0 ∧ strip (7 - 0) (pad 8 (u64 n)) = pn n from ⟨pad_length 8 _, rfl⟩)
    generalize pad 8 (u64 n) = P8 at *
    go_wp2
    go_loopg [3, 5] 7 (fun g v3 v5 wr => PsRel n wc g v3 v5 wr)
    case atStart => exact ⟨0, P8, by omega, rfl, rfl, HS0.out.1, HS0.out.2, rfl⟩
    case round =>
      obtain ⟨i, s, hig, rfl, rfl, hsl, hst, rfl⟩ := hrel
      have hb0 := byt_lt s 0
      have hb1 := byt_lt s 1
      cases gk with
      | zero =>
        obtain rfl : i = 7 := by omega
        have hfin : s = pn n := hst
        have HFIN := Lib.hid hfin
        clear hst hfin hsl hig
        go_wp2
        go_ret
        rw [HFIN.out]
        exact ⟨rfl, hbx⟩
      | succ g =>
        have hi6 : i ≤ 6 := by omega
        have hsl2 : 2 ≤ s.length := by omega
        have hsl9 : s.length ≤ 8 := by omega
        have hstep : strip (7 - i) s = if same9 s then strip (7 - (i + 1)) (s.drop 1) else s := by
          rw [show 7 - i = (7 - (i + 1)) + 1 by omega]; rfl
        rw [hstep] at hst
        have hdl : (s.drop 1).length = 8 - (i + 1) := by rw [List.length_drop]; omega
        have HDL := Lib.hid hdl
        have h1l : 1 ≤ s.length := by omega
        have hcases : (same9 s = true ∧ ((((byt s 0 : Nat) : Int) == 0) = true ∧ byt s 1 < 128 ∨ (((byt s 0 : Nat) : Int) == 0) = false ∧ (((byt s 0 : Nat) : Int) == 255) = true ∧ 128 ≤ byt s 1)) ∨
            (same9 s = false ∧ ((((byt s 0 : Nat) : Int) == 0) = true ∧ (((byt s 0 : Nat) : Int) == 255) = false ∧ 128 ≤ byt s 1 ∨ (((byt s 0 : Nat) : Int) == 0) = false ∧ (((byt s 0 : Nat) : Int) == 255) = true ∧ byt s 1 < 128 ∨ (((byt s 0 : Nat) : Int) == 0) = false ∧ (((byt s 0 : Nat) : Int) == 255) = false)) := by
          have f0 : (((byt s 0 : Nat) : Int) == 0) = (byt s 0 == 0) := by rw [Bool.eq_iff_iff, beq_iff_eq, beq_iff_eq]; omega
          have f1 : (((byt s 0 : Nat) : Int) == 255) = (byt s 0 == 255) := by rw [Bool.eq_iff_iff, beq_iff_eq, beq_iff_eq]; omega
          rw [f0, f1]
          unfold same9
          by_cases c0 : byt s 0 = 0
          · rw [c0]
            by_cases c1 : byt s 1 < 128
            · left; simp [c1]
            · right; simp [c1]; omega
          · by_cases c2 : byt s 0 = 255
            · rw [c2]
              by_cases c1 : byt s 1 < 128
              · right; simp [c1]
              · left; simp; omega
            · right; simp [c0, c2]
        clear hstep hdl hsl
        rcases hcases with ⟨hs9, hc⟩ | ⟨hs9, hc⟩
        · rw [hs9, if_pos rfl] at hst
          have HST := Lib.hid hst
          clear hst hs9
          rcases hc with ⟨c0, c1⟩ | ⟨c0, c1, c2⟩
          all_goals
            go_wp2
            go_roundg g
            case measure => omega
            case rel => exact ⟨i + 1, s.drop 1, by omega, by simp, by simp, HDL.out, HST.out, rfl⟩
        · rw [hs9] at hst
          have hfin : s = pn n := by simpa using hst
          have HFIN := Lib.hid hfin
          clear hst hs9 hfin
          rcases hc with ⟨c0, c1, c2⟩ | ⟨c0, c1, c2⟩ | ⟨c0, c1⟩
          all_goals
            go_wp2
            go_ret
            rw [HFIN.out]
            exact ⟨rfl, hbx⟩
theorem byte_atN (m : Nat) (i : Nat) (hi : i ≤ 7) : ((m : Int) / 2 ^ (8 * i)) % 256 = ((m / 256 ^ i % 256 : Nat) : Int) := by
  obtain rfl | rfl | rfl | rfl | rfl | rfl | rfl | rfl : i = 0 ∨ i = 1 ∨ i = 2 ∨ i = 3 ∨ i = 4 ∨ i = 5 ∨ i = 6 ∨ i = 7 := by omega
  all_goals
    simp only [Nat.reduceMul, Nat.reducePow, Int.reducePow]
    omega
def P9Rel (m : Nat) (w : World) (g : Nat) (v3 v4 : Value) (wr : World) : Prop :=
  g ≤ 8 ∧ v4 = .int .i64 ((g : Int) - 1) ∧ v3 = .string (bs ((pad 8 m).take (8 - g))) ∧ Below w.heap.size w wr
set_option maxRecDepth 100000 in
set_option maxHeartbeats 2000000 in
theorem qput9_walk (m : Nat) (hm : m < 18446744073709551616) (w : World) :
    Calls Tryz.prog 123 #[.int .u64 m] w fun e w' => e = .returned (.string (bs (pad 8 m))) ∧ Below w.heap.size w w' := by
  have hcv := run_conv_one (P := Tryz.prog) 124 5 9 Tryz.underlying124 Tryz.underlying5 Tryz.underlying9
  obtain ⟨z, hz⟩ : ∃ z : Int, ((m : Nat) : Int) = z := ⟨_, rfl⟩
  have HZ := Lib.hid hz
  have hz0 : 0 ≤ z := by omega
  have hz1 : z < 18446744073709551616 := by omega
  rw [hz]
  clear hz hm
  go_enter Tryz.func123, Tryz.ntmps123
  go_wp2
  go_loopg [3, 4] 8 (fun g v3 v4 wr => P9Rel m w g v3 v4 wr)
  case atStart => exact ⟨by omega, rfl, rfl, Below.refl _ _⟩
  case round =>
    obtain ⟨hg8, rfl, rfl, hb⟩ := hrel
    cases gk with
    | zero =>
      have hf : (pad 8 m).take (8 - 0) = pad 8 m := List.take_of_length_le (by rw [pad_length]; omega)
      have HF := Lib.hid hf
      clear hf
      go_wp2
      go_ret
      rw [HF.out]
      exact ⟨rfl, hb⟩
    | succ g =>
      have hby := byte_atN m g (by omega)
      rw [HZ.out] at hby
      have HPT := Lib.hid (pad8_take m (g + 1) (by omega) hg8)
      have hlen : ((pad 8 m).take (8 - (g + 1))).length ≤ 8 := by rw [List.length_take, pad_length]; omega
      generalize (pad 8 m).take (8 - (g + 1)) = S at *
      have hg0 : (0 : Int) ≤ ((g + 1 : Nat) : Int) - 1 := by omega
      rw [Nat.add_sub_cancel] at HPT
      generalize m / 256 ^ g % 256 = q at *
      go_wp2
      go_roundg g
      case measure => omega
      case rel => exact ⟨by omega, rfl, by rw [HPT.out], hb.alloc (by have := hb.size; omega) _⟩
theorem qputunsigned_walk (m : Nat) (hm : m < 18446744073709551616) (w : World) :
    Calls Tryz.prog 109 #[.int .u64 m] w fun e w' => e = .returned (.string (bs (un m))) ∧ Below w.heap.size w w' := by
  obtain ⟨z, hz⟩ : ∃ z : Int, ((m : Nat) : Int) = z := ⟨_, rfl⟩
  by_cases h : 9223372036854775808 ≤ m
  · have e : un m = [0] ++ pad 8 m := by unfold un; rw [if_pos h]; rfl
    have HE := Lib.hid e
    have HQ := Lib.hid (qput9_walk m hm w)
    have hpl := pad_length 8 m
    have hpl8 : (pad 8 m).length ≤ 8 := by omega
    generalize pad 8 m = P8 at *
    have hz0 : 9223372036854775808 ≤ z := by omega
    have hz1 : z < 18446744073709551616 := by omega
    have hcat : ({ data := #[0] } : ByteArray) ++ bs P8 = bs ([0] ++ P8) := bs_append [0] P8
    rw [hz]
    rw [hz] at HQ
    clear e h hm hpl hz
    go_enter Tryz.func109, Tryz.ntmps109
    go_wp2_with fail
    refine HQ.out.mono ?_
    rintro e w1 ⟨rfl, hb⟩
    go_wp2
    go_ret
    rw [HE.out]
    exact ⟨rfl, hb⟩
  · have e : un m = pn (m : Int) := by unfold un; rw [if_neg h]
    rw [e]
    have HQ := Lib.hid (qputnumber_walk (m : Int) (by omega) (by omega) w)
    generalize pn (m : Int) = X at *
    have hz0 : 0 ≤ z := by omega
    have hz1 : z ≤ 9223372036854775807 := by omega
    rw [hz]
    rw [hz] at HQ
    clear e h hm hz
    go_enter Tryz.func109, Tryz.ntmps109
    go_wp2_with fail
    refine HQ.out.mono ?_
    rintro e w1 ⟨rfl, hb⟩
    go_wp2
    go_ret
    exact ⟨rfl, hb⟩
end Go.Proofs.YtmdibafofdghgaaGreatDoor
/- octet.Wide by itself. -/
namespace Go.Proofs.YtmdibafofdghgaaGreatDoor
open Go.ChangeShapes Go.WideShapes Go.ChangeAt Go.RowKit P1 K
set_option linter.unusedVariables false

def WRel (w : World) (n : Nat) (vn vi : Value) (wr : World) : Prop :=
  ∃ (p : Nat) (C : Array Value) (x : Int), p ≤ 8 ∧ vn = .int .i64 ((n / 256 ^ (8 - p) : Nat) : Int) ∧ vi = .int .i64 x ∧ x = p - 1 ∧ wr.heap[w.heap.size]? = some (.cells C 171 (0, 0)) ∧ C.size = 8 ∧ tailIs C p (pad (8 - p) n) ∧ Below w.heap.size w wr

def ZRel (n k : Nat) (vi : Value) : Prop := ∃ (i : Nat), i ≤ 8 - k ∧ (∀ j, j < i → byt (pad 8 n) j = 0) ∧ vi = .int .i64 i

set_option maxRecDepth 100000 in
theorem octWide_in (n k : Nat) (h1 : n ≤ 9223372036854775807) (hk : 1 ≤ k) (hk8 : k ≤ 8) (w : World) :
    Calls Tryz.prog 122 #[.int .i64 n, .int .i64 k] w fun e w' => e = .returned (.tuple #[.string (bs (wideS n k)), .int .i64 (wideC n k)]) ∧ Below w.heap.size w w' := by
  go_enter Tryz.func122, Tryz.ntmps122
  go_wp2
  go_loopw [0, 7] (fun vn vi wr => WRel w n vn vi wr) (fun vn vi wr => (intOf vi + 1).toNat)
  case atStart =>
    exact ⟨8, _, _, by omega, by simp, rfl, rfl, rowNew _ _, rfl, rfl, (Below.refl _ _).alloc (Nat.le_refl _) _⟩
  case round =>
    obtain ⟨p, C, x, hp, rfl, rfl, hx, hC, hs, ht, hb⟩ := hrel
    rcases p with _ | q
    · obtain rfl : x = -1 := by omega
      clear hx
      have hpl := pad_length 8 n
      have hsl := run_sliceAt_arr_h (P := Tryz.prog) wr 171 5 8 Tryz.underlying171 (by kernel_rfl) w.heap.size (8 - k) (by omega) (by omega)
      have e8 : ((8 - k : Nat) : Int) = 8 - (k : Int) := by omega
      rw [e8] at hsl
      clear e8
      have HC := Lib.hid hC; have Hs := Lib.hid hs; have Hpl := Lib.hid hpl; clear hC hs hpl
      go_wp2
      go_loop [36] (fun vi => ZRel n k vi) (fun vi => 8 - (intOf vi).toNat)
      case atStart => exact ⟨0, Nat.zero_le _, by omega, rfl⟩
      case round =>
        obtain ⟨i, hi, hz, rfl⟩ := hrel
        have Hz := Lib.hid hz; clear hz
        have hbl := byt_lt (pad 8 n) i
        by_cases hlt : i < 8 - k
        · have hcell := tailCell HC.out ht i (by rw [Hpl.out]; omega)
          rw [Nat.zero_add] at hcell
          have hlt' : (i : Int) < 8 - (k : Int) := by omega
          by_cases hb0 : byt (pad 8 n) i = 0
          · rw [hb0] at hcell
            clear hbl
            have Hb0 := Lib.hid hb0; clear hb0
            go_wp2
            go_round
            case measure => simp [intOf]; omega
            case rel =>
              refine ⟨i + 1, by omega, fun j hj => ?_, by simp⟩
              rcases Nat.lt_or_ge j i with h | h
              · exact Hz.out j h
              · obtain rfl : j = i := by omega
                exact Hb0.out
          · have hbne : (((byt (pad 8 n) i : Nat) : Int) != 0) = true := by rw [bne_iff_ne]; omega
            have Hb0 := Lib.hid hb0; clear hb0
            go_wp2
            go_ret2
            have hbig : ¬ n < 256 ^ k := fun h => Hb0.out ((pad8_low n k hk8 h1).1 h i hlt)
            rw [(wide_big n k hbig).1, (wide_big n k hbig).2]
            exact ⟨rfl, hb⟩
        · have hyes : n < 256 ^ k := (pad8_low n k hk8 h1).2 fun j hj => Hz.out j (by omega)
          have hs2 := run_sliceAt_arr (P := Tryz.prog) wr 171 5 8 Tryz.underlying171 (by kernel_rfl) w.heap.size (8 - k) (by omega)
          have e8 : ((8 - k : Nat) : Int) = 8 - (k : Int) := by omega
          have hd := tailIs_drop ht (8 - k)
          rw [Nat.zero_add, show pad (8 - 0) n = pad ((8 - k) + k) n by rw [show 8 - k + k = 8 by omega], pad_drop] at hd
          have hcv := run_conv_tail (P := Tryz.prog) wr 124 5 9 Tryz.underlying124 Tryz.underlying5 Tryz.underlying9 HC.out hd (8 - (8 - k)) (8 - (8 - k)) (by rw [pad_length]; omega)
          rw [e8] at hs2
          have Hyes := Lib.hid hyes
          clear e8 hd hyes
          go_wp2
          go_ret2
          rw [(wide_yes n k hk hk8 Hyes.out).1, (wide_yes n k hk hk8 Hyes.out).2]
          exact ⟨rfl, hb⟩
    · obtain rfl : x = q := by omega
      clear hx
      have hle : n / 256 ^ (8 - (q + 1)) ≤ 9223372036854775807 := Nat.le_trans (Nat.div_le_self _ _) h1
      obtain ⟨y, hcell⟩ : ∃ x, wr.cell? ⟨w.heap.size, q, none⟩ = some x := ⟨C[q]'(by omega), by simp [World.cell?, hC]⟩
      have hfr : wr.frozen? ⟨w.heap.size, q, none⟩ = false := freeRow hC q
      have hst : n / 256 ^ (8 - (q + 1)) / 256 = n / 256 ^ (8 - q) := by rw [Nat.div_div_eq_div_mul, ← Nat.pow_succ, show (8 - (q + 1)).succ = 8 - q by omega]
      have hpd : pad (8 - q) n = b8 (n / 256 ^ (8 - (q + 1)) % 256) :: pad (8 - (q + 1)) n := by rw [show 8 - q = (8 - (q + 1)) + 1 by omega]; rfl
      generalize hq : n / 256 ^ (8 - (q + 1)) = m at *
      have HC := Lib.hid hC; have Hs := Lib.hid hs; have Hst := Lib.hid hst; have Hpd := Lib.hid hpd; have Hq := Lib.hid hq; clear hC hs hst hpd hq
      go_wp2
      go_roundw
      case measure => simp [intOf]
      case rel =>
        refine ⟨q, _, (q : Int) - 1, by omega, ?_, rfl, rfl, rowSet HC.out q _, by simp [Hs.out], ?_, hb.setCell (Nat.le_refl _) _⟩
        · rw [← Hst.out]; simp
        · rw [Hpd.out]
          have := tailIs_set ht (by rw [Hs.out]; omega) (b8 (m % 256))
          rw [b8_toNat _ (by omega)] at this
          simpa using this

theorem octWide_walk (n k : Int) (h0 : -9223372036854775808 ≤ n) (h1 : n ≤ 9223372036854775807) (w : World) :
    Calls Tryz.prog 122 #[.int .i64 n, .int .i64 k] w fun e w' => e = .returned (.tuple #[.string (bs (wideS n k)), .int .i64 (wideC n k)]) ∧ Below w.heap.size w w' := by
  by_cases hk : k < 1
  · rw [(wide_no n k (by simp [wideOk]; omega)).1, (wide_no n k (by simp [wideOk]; omega)).2]
    go_enter Tryz.func122, Tryz.ntmps122
    go_wp2
    go_ret2
    exact ⟨rfl, Below.refl _ _⟩
  · by_cases hk8 : 8 < k
    · rw [(wide_no n k (by simp [wideOk]; omega)).1, (wide_no n k (by simp [wideOk]; omega)).2]
      go_enter Tryz.func122, Tryz.ntmps122
      go_wp2
      go_ret2
      exact ⟨rfl, Below.refl _ _⟩
    · by_cases hn : n < 0
      · rw [(wide_no n k (by simp [wideOk]; omega)).1, (wide_no n k (by simp [wideOk]; omega)).2]
        go_enter Tryz.func122, Tryz.ntmps122
        go_wp2
        go_ret2
        exact ⟨rfl, Below.refl _ _⟩
      · obtain ⟨m, rfl⟩ := Int.eq_ofNat_of_zero_le (show 0 ≤ n by omega)
        obtain ⟨j, rfl⟩ := Int.eq_ofNat_of_zero_le (show 0 ≤ k by omega)
        exact octWide_in m j (by omega) (by omega) (by omega) w
theorem octWide8 (n : Nat) (h : n < 9223372036854775808) (w : World) :
    Calls Tryz.prog 122 #[.int .i64 n, .int .i64 8] w fun e w' => e = .returned (.tuple #[.string (bs (pad 8 n)), .int .i64 0]) ∧ Below w.heap.size w w' := by
  have := octWide_walk n 8 (by omega) (by omega) w
  have e := wide_yes n 8 (by omega) (by omega) (by omega)
  rw [show ((8 : Nat) : Int) = 8 from rfl] at e
  rwa [e.1, e.2] at this
end Go.Proofs.YtmdibafofdghgaaGreatDoor
/- ber's numbers, walked. -/
namespace Go.Proofs.YtmdibafofdghgaaGreatDoor
open Go.ChangeShapes Go.WideShapes Go.ChangeAt Go.RowKit K P1 B5
set_option linter.unusedVariables false

theorem and128 (b : Nat) (h : b < 256) : (bits .and .u8 (b : Int) 128 != 0) = decide (128 ≤ b) := by
  have : ∀ i : Fin 256, (bits .and .u8 (i.val : Int) 128 != 0) = decide (128 ≤ i.val) := by decide +kernel
  exact this ⟨b, h⟩
def spr (a b : Nat) : Bool := (a == 0 && decide (b < 128)) || (a == 255 && decide (128 ≤ b))
theorem isSpare_walk (a b : Nat) (ha : a < 256) (hb : b < 256) (w : World) :
    Calls Tryz.prog 128 #[.int .u8 a, .int .u8 b] w fun e w' => e = .returned (.bool (spr a b)) ∧ w = w' := by
  have hh := and128 b hb
  by_cases h : 128 ≤ b
  · have e : spr a b = (((a : Nat) : Int) == 255) := by
      unfold spr
      rw [decide_eq_false (by omega : ¬ b < 128), decide_eq_true h, Bool.and_false, Bool.false_or, Bool.and_true, Bool.eq_iff_iff, beq_iff_eq, beq_iff_eq]; omega
    rw [e]
    rw [decide_eq_true h] at hh
    clear e h
    go_enter Tryz.func128, Tryz.ntmps128
    go_wp2
    go_ret
    exact ⟨rfl, rfl⟩
  · have e : spr a b = (((a : Nat) : Int) == 0) := by
      unfold spr
      rw [decide_eq_true (by omega : b < 128), decide_eq_false h, Bool.and_false, Bool.or_false, Bool.and_true, Bool.eq_iff_iff, beq_iff_eq, beq_iff_eq]; omega
    rw [e]
    rw [decide_eq_false h] at hh
    clear e h
    go_enter Tryz.func128, Tryz.ntmps128
    go_wp2
    go_ret
    exact ⟨rfl, rfl⟩
def isSh (l : List UInt8) : Bool := l.length == 1 || (decide (1 < l.length) && !same9 l)
theorem isShort_walk (l : List UInt8) (hl : l.length ≤ 140737488351232) (w : World) :
    Calls Tryz.prog 114 #[.string (bs l)] w fun e w' => e = .returned (.bool (isSh l)) ∧ ∃ n, w' = w.drewN n := by
  by_cases h1 : l.length = 1
  · have e : isSh l = true := by unfold isSh; rw [h1]; rfl
    rw [e]
    have h1' : (((l.length : Nat) : Int) == 1) = true := by rw [beq_iff_eq]; omega
    clear e h1
    go_enter Tryz.func114, Tryz.ntmps114
    go_wp2
    go_quiet (fail)
    go_wp2
    go_ret
    exact ⟨rfl, nq, rfl⟩
  · have h1' : (((l.length : Nat) : Int) == 1) = false := by rw [beq_eq_false_iff_ne]; omega
    have h1n : (l.length == 1) = false := by rw [beq_eq_false_iff_ne]; exact h1
    by_cases h2 : 1 < l.length
    · have e : isSh l = !spr (byt l 0) (byt l 1) := by
        unfold isSh; rw [h1n, Bool.false_or, decide_eq_true h2, Bool.true_and]; rfl
      rw [e]
      have HS := Lib.hid (fun w1 => isSpare_walk (byt l 0) (byt l 1) (byt_lt l 0) (byt_lt l 1) w1)
      have h2' : (1 : Int) < ((l.length : Nat) : Int) := by omega
      have h20 : (0 : Int) < ((l.length : Nat) : Int) := by omega
      generalize spr (byt l 0) (byt l 1) = B at *
      clear e h1 h1n
      go_enter Tryz.func114, Tryz.ntmps114
      go_wp2_with fail
      go_quiet ((go_at_call 128; refine Calls.quiet_mk (HS.out _)))
      go_wp2
      go_ret
      exact ⟨rfl, nq, rfl⟩
    · have e : isSh l = false := by unfold isSh; rw [h1n, decide_eq_false h2]; rfl
      rw [e]
      obtain rfl : l = [] := List.length_eq_zero_iff.1 (by omega)
      clear e h1 h1n h2 h1' hl
      go_enter Tryz.func114, Tryz.ntmps114
      go_wp2
      go_quiet (fail)
      go_wp2
      go_ret
      exact ⟨rfl, nq, rfl⟩
theorem isSh_step {l : List UInt8} (h : 2 ≤ l.length) : isSh l = !same9 l := by
  unfold isSh
  rw [show (l.length == 1) = false by rw [beq_eq_false_iff_ne]; omega, decide_eq_true (by omega : 1 < l.length)]; simp
theorem isSh_one {l : List UInt8} (h : l.length = 1) : isSh l = true := by unfold isSh; rw [h]; rfl
def CuRel (l : List UInt8) (w : World) (g : Nat) (v0 : Value) (wr : World) : Prop :=
  ∃ s, s.length = g + 1 ∧ g + 1 ≤ l.length ∧ strip g s = strip (l.length - 1) l ∧ v0 = .string (bs s) ∧ ∃ m, wr = w.drewN m
theorem drew_add (w : World) (m n : Nat) : (w.drewN m).drewN n = w.drewN (m + n) := by unfold World.drewN; simp [Nat.add_assoc]
set_option maxRecDepth 100000 in
theorem cut_walkB (l : List UInt8) (h1 : 1 ≤ l.length) (hl : l.length ≤ 100) (w : World) :
    Calls Tryz.prog 102 #[.string (bs l)] w fun e w' => e = .returned (.string (bs (strip (l.length - 1) l))) ∧ ∃ n, w' = w.drewN n := by
  go_enter Tryz.func102, Tryz.ntmps102
  go_wp2
  go_loopg [0] (l.length - 1) (fun g v0 wr => CuRel l w g v0 wr)
  case atStart => exact ⟨l, by omega, by omega, rfl, rfl, 0, rfl⟩
  case round =>
    obtain ⟨s, hg, hgl, hst, rfl, m, rfl⟩ := hrel
    have hS := isShort_walk s (by omega) (w.drewN m)
    cases gk with
    | zero =>
      rw [isSh_one hg] at hS
      have HS := Lib.hid hS
      have hst2 : s = strip (l.length - 1) l := hst
      have HE := Lib.hid hst2
      clear hS hst hst2 hg h1 hl
      go_wp2_with fail
      refine HS.out.mono ?_
      rintro e w1 ⟨rfl, k, rfl⟩
      go_wp2
      go_ret
      rw [HE.out]
      exact ⟨rfl, m + k, rfl⟩
    | succ g =>
      rw [isSh_step (by omega)] at hS
      have hst2 : strip (l.length - 1) l = if same9 s then strip g (s.drop 1) else s := hst.symm
      have hsl : ((s.length : Nat) : Int) = ((g + 2 : Nat) : Int) := by omega
      have hs1 : 1 ≤ s.length := by omega
      have hdl : (s.drop 1).length = g + 1 := by rw [List.length_drop]; omega
      have HDL := Lib.hid hdl
      have HW := Lib.hid (drew_add w m)
      clear hst hg hdl
      cases h9 : same9 s
      · rw [h9] at hS hst2
        have HS := Lib.hid hS
        have HE := Lib.hid hst2
        clear hS hst2 h9
        go_wp2_with fail
        refine HS.out.mono ?_
        rintro e w1 ⟨rfl, k, rfl⟩
        go_wp2
        go_ret
        rw [HE.out]
        exact ⟨by simp, m + k, rfl⟩
      · rw [h9, if_pos rfl] at hst2
        rw [h9] at hS
        have HS := Lib.hid hS
        have HE := Lib.hid hst2
        clear hS hst2 h9
        go_wp2_with fail
        refine HS.out.mono ?_
        rintro e w1 ⟨rfl, k, rfl⟩
        go_wp2
        go_roundg g
        case measure => omega
        case rel => exact ⟨s.drop 1, HDL.out, by omega, HE.out.symm, by simp, m + k, rfl⟩
end Go.Proofs.YtmdibafofdghgaaGreatDoor
/- ber's numbers: what is put, what is read, walked. -/
namespace Go.Proofs.YtmdibafofdghgaaGreatDoor
open Go.ChangeShapes Go.WideShapes Go.ChangeAt Go.RowKit K P1 B5
set_option linter.unusedVariables false

theorem pad8_halves (m : Nat) : pad 8 m = pad 4 (m / 4294967296) ++ pad 4 (m % 4294967296) := by
  simp only [pad, Nat.reducePow, List.cons_append, List.nil_append]
  congr 1
  · congr 1; omega
  congr 1
  · congr 1; omega
  congr 1
  · congr 1; omega
  congr 1
  · congr 1; omega
  congr 1
  · congr 1; omega
  congr 1
  · congr 1; omega
  congr 1
  · congr 1; omega
  congr 1
  congr 1; omega
theorem and_low32 (z : Int) (h0 : 0 ≤ z) (h1 : z < 18446744073709551616) : bits .and .u64 z 4294967295 = z % 4294967296 := by
  obtain ⟨k, rfl⟩ := Int.eq_ofNat_of_zero_le h0
  have h := u64_and_nat k 4294967295 (by omega) (by omega)
  rw [show ((4294967295 : Nat) : Int) = 4294967295 from rfl] at h
  rw [h, show (4294967295 : Nat) = 2 ^ 32 - 1 from rfl, Nat.and_two_pow_sub_one_eq_mod]
  omega
theorem wide4 (q : Nat) (hq : q < 4294967296) (w : World) :
    Calls Tryz.prog 122 #[.int .i64 q, .int .i64 4] w fun e w' => e = .returned (.tuple #[.string (bs (pad 4 q)), .int .i64 0]) ∧ Below w.heap.size w w' := by
  have := octWide_walk (q : Int) ((4 : Nat) : Int) (by omega) (by omega) w
  rw [(wide_yes q 4 (by omega) (by omega) (by omega)).1, (wide_yes q 4 (by omega) (by omega) (by omega)).2] at this
  exact this
set_option maxRecDepth 100000 in
theorem eight_walk (m : Nat) (hm : m < 18446744073709551616) (w : World) :
    Calls Tryz.prog 103 #[.int .u64 m] w fun e w' => e = .returned (.string (bs (pad 8 m))) ∧ Below w.heap.size w w' := by
  have hA := fun w1 => wide4 (m / 4294967296) (by omega) w1
  have hB := fun w1 => wide4 (m % 4294967296) (by omega) w1
  have hE := pad8_halves m
  have hl1 := pad_length 4 (m / 4294967296)
  have hl2 := pad_length 4 (m % 4294967296)
  have hq1' : m / 4294967296 < 4294967296 := by omega
  have hr1' : m % 4294967296 < 4294967296 := by omega
  have hqz : ((m : Nat) : Int) / 4294967296 = ((m / 4294967296 : Nat) : Int) := by omega
  have hrz : ((m : Nat) : Int) % 4294967296 = ((m % 4294967296 : Nat) : Int) := by omega
  have hand := and_low32 (m : Nat) (by omega) (by omega)
  rw [hrz] at hand
  generalize pad 8 m = P8 at *
  generalize m / 4294967296 = Q at *
  generalize m % 4294967296 = R at *
  generalize pad 4 Q = PA at *
  generalize pad 4 R = PB at *
  have hz0 : (0 : Int) ≤ (m : Nat) := by omega
  have hz1 : ((m : Nat) : Int) < 18446744073709551616 := by omega
  have wq0 : (0 : Int) ≤ (Q : Nat) := by omega
  have wq1 : ((Q : Nat) : Int) < 4294967296 := by omega
  have wr0 : (0 : Int) ≤ (R : Nat) := by omega
  have wr1 : ((R : Nat) : Int) < 4294967296 := by omega
  have w1 : IntKind.i64.wrap ((Q : Nat) : Int) = (Q : Nat) := IntWalk.i64_in _ (by omega)
  have w2 : IntKind.i64.wrap ((R : Nat) : Int) = (R : Nat) := IntWalk.i64_in _ (by omega)
  generalize ((m : Nat) : Int) = z at *
  generalize ((Q : Nat) : Int) = q at *
  generalize ((R : Nat) : Int) = r at *
  have HA := Lib.hid hA; have HB := Lib.hid hB; have HE := Lib.hid hE
  clear hA hB hE hq1' hr1' hm hrz
  go_enter Tryz.func103, Tryz.ntmps103
  go_wp2_with fail
  refine (HA.out _).mono ?_
  rintro e x1 ⟨rfl, b1⟩
  go_wp2_with fail
  refine (HB.out _).mono ?_
  rintro e x2 ⟨rfl, b2⟩
  go_wp2
  go_ret
  rw [HE.out]
  exact ⟨rfl, b1.trans (b2.mono b1.size)⟩
theorem putnumber_walk (n : Int) (h0 : -9223372036854775808 ≤ n) (h1 : n ≤ 9223372036854775807) (w : World) :
    Calls Tryz.prog 78 #[.int .i64 n] w fun e w' => e = .returned (.string (bs (pn n))) ∧ Below w.heap.size w w' := by
  have HA := Lib.hid (eight_walk (u64 n) (u64_lt n) w)
  have hl := pad_length 8 (u64 n)
  have hC := fun w1 => cut_walkB (pad 8 (u64 n)) (by omega) (by omega) w1
  rw [hl] at hC
  have HC := Lib.hid hC
  have HE := Lib.hid (show strip 7 (pad 8 (u64 n)) = pn n from rfl)
  have hu : IntKind.u64.wrap n = ((u64 n : Nat) : Int) := by
    unfold u64; simp [IntKind.wrap, IntKind.signed, IntKind.bits]; omega
  generalize pad 8 (u64 n) = P8 at *
  generalize Go.Proofs.YtmdibafofdghgaaGreatDoor.u64 n = U at *
  clear hl hC
  go_enter Tryz.func78, Tryz.ntmps78
  go_wp2_with fail
  refine HA.out.mono ?_
  rintro e x1 ⟨rfl, b1⟩
  go_wp2_with fail
  refine (HC.out _).mono ?_
  rintro e x2 ⟨rfl, k, rfl⟩
  go_wp2
  go_ret
  exact ⟨by rw [← HE.out]; rfl, Below_drewNa b1 k⟩
theorem un_strip (m : Nat) (h : m < 18446744073709551616) : strip 8 (0 :: pad 8 m) = un m := by
  have b0 : byt (0 :: pad 8 m) 0 = 0 := rfl
  have b1 : byt (0 :: pad 8 m) 1 = m / 72057594037927936 % 256 := by rw [← byt_pad8]; simp [byt]
  unfold un
  show (if same9 (0 :: pad 8 m) then strip 7 ((0 :: pad 8 m).drop 1) else 0 :: pad 8 m) = _
  by_cases hc : 9223372036854775808 ≤ m
  · rw [if_pos hc]
    have : same9 (0 :: pad 8 m) = false := by
      unfold same9; rw [b0, b1, decide_eq_false (by omega)]; rfl
    rw [this]; rfl
  · rw [if_neg hc]
    have : same9 (0 :: pad 8 m) = true := by
      unfold same9; rw [b0, b1, decide_eq_true (by omega)]; rfl
    rw [if_pos this]
    unfold pn
    rw [show ((m : Int) % 18446744073709551616).toNat = m by omega]
    rfl
theorem putunsigned_walk (m : Nat) (hm : m < 18446744073709551616) (w : World) :
    Calls Tryz.prog 144 #[.int .u64 m] w fun e w' => e = .returned (.string (bs (un m))) ∧ Below w.heap.size w w' := by
  have HA := Lib.hid (fun w1 => eight_walk m hm w1)
  have hl := pad_length 8 m
  have hx1 : ((0 : UInt8) :: pad 8 m).length = 9 := by rw [List.length_cons, hl]
  have hs : strip (((0 : UInt8) :: pad 8 m).length - 1) (0 :: pad 8 m) = un m := by rw [hx1]; exact un_strip m hm
  have hC := fun w1 => cut_walkB (0 :: pad 8 m) (by omega) (by omega) w1
  rw [hs] at hC
  have HC := Lib.hid hC
  have hpl8 : (pad 8 m).length ≤ 8 := by omega
  generalize pad 8 m = P8 at *
  have hcat : ({ data := #[0] } : ByteArray) ++ bs P8 = bs (0 :: P8) := bs_append [0] P8
  have hm0 : ((m : Nat) : Int) < 18446744073709551616 := by omega
  generalize un m = UN at *
  generalize ((m : Nat) : Int) = z at *
  clear hl hC hm hx1 hs
  go_enter Tryz.func144, Tryz.ntmps144
  go_wp2_with fail
  refine (HA.out _).mono ?_
  rintro e x1 ⟨rfl, b1⟩
  go_wp2_with fail
  refine (HC.out _).mono ?_
  rintro e x2 ⟨rfl, k, rfl⟩
  go_wp2
  go_ret
  exact ⟨rfl, Below_drewNa b1 k⟩
end Go.Proofs.YtmdibafofdghgaaGreatDoor
