/- octet.Wide by itself. -/
import Derived.Test.YtepgkoafjeacnaaRows
import Derived.Test.YtepgkoafjeacnaaOctP
import Derived.Test.YtepgkoafjeacnaaLib
import Derived.ProofKit
import Derived.OpenShut
import Derived.ShutString
namespace Go.Proofs.Ytepgkoafjeacnaa
open Go.ChangeShapes Go.WideShapes Go.ChangeAt Go.RowKit P1 K
set_option linter.unusedVariables false

def WRel (w : World) (n : Nat) (vn vi : Value) (wr : World) : Prop :=
  ∃ (p : Nat) (C : Array Value) (x : Int), p ≤ 8 ∧ vn = .int .i64 ((n / 256 ^ (8 - p) : Nat) : Int) ∧ vi = .int .i64 x ∧ x = p - 1 ∧ wr.heap[w.heap.size]? = some (.cells C 82 (0, 0)) ∧ C.size = 8 ∧ tailIs C p (pad (8 - p) n) ∧ Below w.heap.size w wr

def ZRel (n k : Nat) (vi : Value) : Prop := ∃ (i : Nat), i ≤ 8 - k ∧ (∀ j, j < i → byt (pad 8 n) j = 0) ∧ vi = .int .i64 i

set_option maxRecDepth 100000 in
theorem octWide_in (n k : Nat) (h1 : n ≤ 9223372036854775807) (hk : 1 ≤ k) (hk8 : k ≤ 8) (w : World) :
    Calls Try.prog 39 #[.int .i64 n, .int .i64 k] w fun e w' => e = .returned (.tuple #[.string (bs (wideS n k)), .int .i64 (wideC n k)]) ∧ Below w.heap.size w w' := by
  go_enter Try.func39, Try.ntmps39
  go_wp2
  go_loopw [0, 7] (fun vn vi wr => WRel w n vn vi wr) (fun vn vi wr => (intOf vi + 1).toNat)
  case atStart =>
    exact ⟨8, _, _, by omega, by simp, rfl, rfl, rowNew _ _, rfl, rfl, (Below.refl _ _).alloc (Nat.le_refl _) _⟩
  case round =>
    obtain ⟨p, C, x, hp, rfl, rfl, hx, hC, hs, ht, hb⟩ := hrel
    rcases p with _ | q
    · obtain rfl : x = -1 := by omega
      clear hx
      have hpl := pad_length 8 n
      have hsl := run_sliceAt_arr_h (P := Try.prog) wr 82 5 8 Try.underlying82 (by kernel_rfl) w.heap.size (8 - k) (by omega) (by omega)
      have e8 : ((8 - k : Nat) : Int) = 8 - (k : Int) := by omega
      rw [e8] at hsl
      clear e8
      have HC := Lib.hid hC; have Hs := Lib.hid hs; have Hpl := Lib.hid hpl; clear hC hs hpl
      go_wp2
      go_loop [36] (fun vi => ZRel n k vi) (fun vi => 8 - (intOf vi).toNat)
      case atStart => exact ⟨0, Nat.zero_le _, by omega, rfl⟩
      case round =>
        obtain ⟨i, hi, hz, rfl⟩ := hrel
        have Hz := Lib.hid hz; clear hz
        have hbl := byt_lt (pad 8 n) i
        by_cases hlt : i < 8 - k
        · have hcell := tailCell HC.out ht i (by rw [Hpl.out]; omega)
          rw [Nat.zero_add] at hcell
          have hlt' : (i : Int) < 8 - (k : Int) := by omega
          by_cases hb0 : byt (pad 8 n) i = 0
          · rw [hb0] at hcell
            clear hbl
            have Hb0 := Lib.hid hb0; clear hb0
            go_wp2
            go_round
            case measure => simp [intOf]; omega
            case rel =>
              refine ⟨i + 1, by omega, fun j hj => ?_, by simp⟩
              rcases Nat.lt_or_ge j i with h | h
              · exact Hz.out j h
              · obtain rfl : j = i := by omega
                exact Hb0.out
          · have hbne : (((byt (pad 8 n) i : Nat) : Int) != 0) = true := by rw [bne_iff_ne]; omega
            have Hb0 := Lib.hid hb0; clear hb0
            go_wp2
            go_ret2
            have hbig : ¬ n < 256 ^ k := fun h => Hb0.out ((pad8_low n k hk8 h1).1 h i hlt)
            rw [(wide_big n k hbig).1, (wide_big n k hbig).2]
            exact ⟨rfl, hb⟩
        · have hyes : n < 256 ^ k := (pad8_low n k hk8 h1).2 fun j hj => Hz.out j (by omega)
          have hs2 := run_sliceAt_arr (P := Try.prog) wr 82 5 8 Try.underlying82 (by kernel_rfl) w.heap.size (8 - k) (by omega)
          have e8 : ((8 - k : Nat) : Int) = 8 - (k : Int) := by omega
          have hd := tailIs_drop ht (8 - k)
          rw [Nat.zero_add, show pad (8 - 0) n = pad ((8 - k) + k) n by rw [show 8 - k + k = 8 by omega], pad_drop] at hd
          have hcv := run_conv_tail (P := Try.prog) wr 52 5 9 Try.underlying52 Try.underlying5 Try.underlying9 HC.out hd (8 - (8 - k)) (8 - (8 - k)) (by rw [pad_length]; omega)
          rw [e8] at hs2
          have Hyes := Lib.hid hyes
          clear e8 hd hyes
          go_wp2
          go_ret2
          rw [(wide_yes n k hk hk8 Hyes.out).1, (wide_yes n k hk hk8 Hyes.out).2]
          exact ⟨rfl, hb⟩
    · obtain rfl : x = q := by omega
      clear hx
      have hle : n / 256 ^ (8 - (q + 1)) ≤ 9223372036854775807 := Nat.le_trans (Nat.div_le_self _ _) h1
      obtain ⟨y, hcell⟩ : ∃ x, wr.cell? ⟨w.heap.size, q, none⟩ = some x := ⟨C[q]'(by omega), by simp [World.cell?, hC]⟩
      have hfr : wr.frozen? ⟨w.heap.size, q, none⟩ = false := freeRow hC q
      have hst : n / 256 ^ (8 - (q + 1)) / 256 = n / 256 ^ (8 - q) := by rw [Nat.div_div_eq_div_mul, ← Nat.pow_succ, show (8 - (q + 1)).succ = 8 - q by omega]
      have hpd : pad (8 - q) n = b8 (n / 256 ^ (8 - (q + 1)) % 256) :: pad (8 - (q + 1)) n := by rw [show 8 - q = (8 - (q + 1)) + 1 by omega]; rfl
      generalize hq : n / 256 ^ (8 - (q + 1)) = m at *
      have HC := Lib.hid hC; have Hs := Lib.hid hs; have Hst := Lib.hid hst; have Hpd := Lib.hid hpd; have Hq := Lib.hid hq; clear hC hs hst hpd hq
      go_wp2
      go_roundw
      case measure => simp [intOf]
      case rel =>
        refine ⟨q, _, (q : Int) - 1, by omega, ?_, rfl, rfl, rowSet HC.out q _, by simp [Hs.out], ?_, hb.setCell (Nat.le_refl _) _⟩
        · rw [← Hst.out]; simp
        · rw [Hpd.out]
          have := tailIs_set ht (by rw [Hs.out]; omega) (b8 (m % 256))
          rw [b8_toNat _ (by omega)] at this
          simpa using this

theorem octWide_walk (n k : Int) (h0 : -9223372036854775808 ≤ n) (h1 : n ≤ 9223372036854775807) (w : World) :
    Calls Try.prog 39 #[.int .i64 n, .int .i64 k] w fun e w' => e = .returned (.tuple #[.string (bs (wideS n k)), .int .i64 (wideC n k)]) ∧ Below w.heap.size w w' := by
  by_cases hk : k < 1
  · rw [(wide_no n k (by simp [wideOk]; omega)).1, (wide_no n k (by simp [wideOk]; omega)).2]
    go_enter Try.func39, Try.ntmps39
    go_wp2
    go_ret2
    exact ⟨rfl, Below.refl _ _⟩
  · by_cases hk8 : 8 < k
    · rw [(wide_no n k (by simp [wideOk]; omega)).1, (wide_no n k (by simp [wideOk]; omega)).2]
      go_enter Try.func39, Try.ntmps39
      go_wp2
      go_ret2
      exact ⟨rfl, Below.refl _ _⟩
    · by_cases hn : n < 0
      · rw [(wide_no n k (by simp [wideOk]; omega)).1, (wide_no n k (by simp [wideOk]; omega)).2]
        go_enter Try.func39, Try.ntmps39
        go_wp2
        go_ret2
        exact ⟨rfl, Below.refl _ _⟩
      · obtain ⟨m, rfl⟩ := Int.eq_ofNat_of_zero_le (show 0 ≤ n by omega)
        obtain ⟨j, rfl⟩ := Int.eq_ofNat_of_zero_le (show 0 ≤ k by omega)
        exact octWide_in m j (by omega) (by omega) (by omega) w
theorem octWide8 (n : Nat) (h : n < 9223372036854775808) (w : World) :
    Calls Try.prog 39 #[.int .i64 n, .int .i64 8] w fun e w' => e = .returned (.tuple #[.string (bs (pad 8 n)), .int .i64 0]) ∧ Below w.heap.size w w' := by
  have := octWide_walk n 8 (by omega) (by omega) w
  have e := wide_yes n 8 (by omega) (by omega) (by omega)
  rw [show ((8 : Nat) : Int) = 8 from rfl] at e
  rwa [e.1, e.2] at this
end Go.Proofs.Ytepgkoafjeacnaa
