import Derived.Test.YtkcgddcdgneenaaOctB
namespace Go.Proofs.Ytkcgddcdgneenaa
open Go.ChangeShapes Go.WideShapes Go.ChangeAt Go.RowKit P1 K
set_option linter.unusedVariables false

def PRel (w : World) (n k : Nat) (vn vs vi : Value) (wr : World) : Prop :=
  ∃ (i : Nat), i ≤ k ∧ vn = .int .i64 ((n / 256 ^ i : Nat) : Int) ∧ vs = .string (bs (pad i n)) ∧ vi = .int .i64 i ∧ Below w.heap.size w wr

set_option maxRecDepth 100000 in
theorem padded_walk (n k : Nat) (h1 : n ≤ 9223372036854775807) (hk : k ≤ 8) (w : World) :
    Calls Try.prog 31 #[.int .i64 n, .int .i64 k] w fun e w' => e = .returned (.string (bs (pad k n))) ∧ Below w.heap.size w w' := by
  have hc1 := run_conv_one (P := Try.prog) 53 5 9 Try.underlying53 Try.underlying5 Try.underlying9
  go_enter Try.func31, Try.ntmps31
  go_wp2
  go_loopw [0, 5, 6] (fun vn vs vi wr => PRel w n k vn vs vi wr) (fun vn vs vi wr => k - (intOf vi).toNat)
  case atStart => exact ⟨0, Nat.zero_le _, by simp, rfl, rfl, Below.refl _ _⟩
  case round =>
    obtain ⟨i, hi, rfl, rfl, rfl, hb⟩ := hrel
    have hle : n / 256 ^ i ≤ 9223372036854775807 := Nat.le_trans (Nat.div_le_self _ _) h1
    have hl := pad_length i n
    have hpl : (pad i n).length ≤ 8 := by omega
    have hst : n / 256 ^ i / 256 = n / 256 ^ (i + 1) := by rw [Nat.div_div_eq_div_mul, Nat.pow_succ]
    have hpd : pad (i + 1) n = b8 (n / 256 ^ i % 256) :: pad i n := rfl
    generalize hq : n / 256 ^ i = q at *
    have Hst := Lib.hid hst; have Hpd := Lib.hid hpd; have Hq := Lib.hid hq; clear hst hpd hl hq
    by_cases h0 : i < k
    · go_wp2
      go_roundw
      case measure => simp [intOf]; omega
      case rel =>
        refine ⟨i + 1, by omega, ?_, ?_, by simp, hb.alloc (by have := hb.size; omega) _⟩
        · rw [← Hst.out]; simp
        · rw [Hpd.out]
    · obtain rfl : i = k := by omega
      go_wp2
      go_ret
      exact ⟨rfl, hb⟩

def NRel (l : List UInt8) (vn vi : Value) : Prop := ∃ (i : Nat), i ≤ l.length ∧ vn = .int .i64 (num (l.take i) : Nat) ∧ vi = .int .i64 i

set_option maxRecDepth 100000 in
theorem number_loop (l : List UInt8) (h8 : l.length ≤ 8) (hn : num l ≤ 9223372036854775807) (hok : l.length = 8 → byt l 0 < 128) (w : World) :
    Calls Try.prog 32 #[.string (bs l)] w fun e w' => e = .returned (.tuple #[.int .i64 (num l), .bool true]) ∧ w = w' := by
  by_cases hl : l.length = 8
  all_goals
    have hb0 := hok
    try have hb := hok hl
    try have hpos : 0 < l.length := by omega
    clear hok hb0
    have HL := Lib.hid hl; clear hl
    have hq := HL.out
    first | (have hl8 : (((l.length : Nat) : Int) == 8) = true := (by rw [beq_iff_eq]; omega)) | (have hl8 : (((l.length : Nat) : Int) == 8) = false := (by rw [beq_eq_false_iff_ne]; omega))
    clear hq
    go_enter Try.func32, Try.ntmps32
    go_wp2
    go_loop [4, 5] (fun vn vi => NRel l vn vi) (fun vn vi => l.length - (intOf vi).toNat)
    case atStart => exact ⟨0, Nat.zero_le _, by simp [num], rfl⟩
    case round =>
      obtain ⟨i, hi, rfl, rfl⟩ := hrel
      have hbt := byt_lt l i
      have hle := num_take_le l i
      by_cases h0 : i < l.length
      · have hts := num_take l i h0
        have hle2 := num_take_le l (i + 1)
        rw [hts] at hle2
        have Hts := Lib.hid hts; clear hts
        go_wp2
        go_round
        case measure => simp [intOf]; omega
        case rel => exact ⟨i + 1, by omega, by rw [Hts.out]; simp, by simp⟩
      · obtain rfl : i = l.length := by omega
        have ht : l.take l.length = l := List.take_length
        rw [ht]
        clear hle ht
        go_wp2
        go_ret2
        exact ⟨rfl, rfl⟩
set_option maxRecDepth 100000 in
theorem number_bad (l : List UInt8) (hl : l.length = 8) (hb : 128 ≤ byt l 0) (w : World) :
    Calls Try.prog 32 #[.string (bs l)] w fun e w' => e = .returned (.tuple #[.int .i64 0, .bool false]) ∧ w = w' := by
  have hpos : 0 < l.length := by omega
  have hl8 : (((l.length : Nat) : Int) == 8) = true := by rw [beq_iff_eq]; omega
  have HL := Lib.hid hl; clear hl
  go_enter Try.func32, Try.ntmps32
  go_wp2
  go_ret2
  exact ⟨rfl, rfl⟩

theorem number_walk (l : List UInt8) (h8 : l.length ≤ 8) (w : World) :
    Calls Try.prog 32 #[.string (bs l)] w fun e w' => e = .returned (.tuple #[.int .i64 (numN l), .bool (numOk l)]) ∧ w = w' := by
  by_cases h : l.length = 8 ∧ 128 ≤ byt l 0
  · have hk : numOk l = false := by simp [numOk, h.1, h.2]
    simpa [numN, hk] using number_bad l h.1 h.2 w
  · have hk : numOk l = true := by
      simp only [numOk, Bool.not_eq_true', Bool.and_eq_false_iff, beq_eq_false_iff_ne, decide_eq_false_iff_not]
      omega
    have hn := num_ok_lt l h8 hk
    simpa [numN, hk] using number_loop l h8 (by omega) (by omega) w

theorem number_pad (j m r : Nat) (hj : j ≤ 8) (hm : m ≤ 9223372036854775807) (hr : r = m % 256 ^ j) (w : World) :
    Calls Try.prog 32 #[.string (bs (pad j m))] w fun e w' => e = .returned (.tuple #[.int .i64 r, .bool true]) ∧ w = w' := by
  subst hr
  rw [← num_pad]
  refine number_loop _ (by rw [pad_length]; exact hj) ?_ (by rw [pad_length]; exact numOk_pad j m hm) w
  rw [num_pad]
  exact Nat.le_trans (Nat.mod_le _ _) hm

theorem refWide_walk (n k : Int) (h0 : -9223372036854775808 ≤ n) (h1 : n ≤ 9223372036854775807) (w : World) :
    Calls Try.prog 12 #[.int .i64 n, .int .i64 k] w fun e w' => e = .returned (.tuple #[.string (bs (wideS n k)), .int .i64 (wideC n k)]) ∧ Below w.heap.size w w' := by
  by_cases hk : k < 1
  · rw [(wide_no n k (by simp [wideOk]; omega)).1, (wide_no n k (by simp [wideOk]; omega)).2]
    go_enter Try.func12, Try.ntmps12
    go_wp2
    go_ret2
    exact ⟨rfl, Below.refl _ _⟩
  · by_cases hk8 : 8 < k
    · rw [(wide_no n k (by simp [wideOk]; omega)).1, (wide_no n k (by simp [wideOk]; omega)).2]
      go_enter Try.func12, Try.ntmps12
      go_wp2
      go_ret2
      exact ⟨rfl, Below.refl _ _⟩
    · by_cases hn : n < 0
      · rw [(wide_no n k (by simp [wideOk]; omega)).1, (wide_no n k (by simp [wideOk]; omega)).2]
        go_enter Try.func12, Try.ntmps12
        go_wp2
        go_ret2
        exact ⟨rfl, Below.refl _ _⟩
      · obtain ⟨m, rfl⟩ := Int.eq_ofNat_of_zero_le (show 0 ≤ n by omega)
        obtain ⟨j, rfl⟩ := Int.eq_ofNat_of_zero_le (show 0 ≤ k by omega)
        by_cases hf : m < 256 ^ j
        · rw [(wide_yes m j (by omega) (by omega) hf).1, (wide_yes m j (by omega) (by omega) hf).2]
          have hr : m = m % 256 ^ j := (Nat.mod_eq_of_lt hf).symm
          have Hr := Lib.hid hr; clear hr hf
          go_enter Try.func12, Try.ntmps12
          go_wp2_with (first | (go_at_call 31; refine (padded_walk m j (by omega) (by omega) _).mono ?_; rintro e w' ⟨rfl, hb⟩) | (go_at_call 32; refine (number_pad j m m (by omega) (by omega) Hr.out _).mono ?_; rintro e w' ⟨rfl, rfl⟩))
          go_ret2
          exact ⟨rfl, hb⟩
        · have hno : wideOk m j = false := by simp [wideOk]; omega
          rw [(wide_no m j hno).1, (wide_no m j hno).2]
          have hr : m % 256 ^ j < 256 ^ j := Nat.mod_lt _ (Nat.pow_pos (by omega))
          obtain ⟨r, hq⟩ : ∃ r, r = m % 256 ^ j := ⟨_, rfl⟩
          rw [← hq] at hr
          have hne : r ≠ m := by omega
          have Hr := Lib.hid hq; clear hr hf hq hno
          have hneq : (((r : Nat) : Int) != (m : Int)) = true := by rw [bne_iff_ne]; omega
          clear hne
          go_enter Try.func12, Try.ntmps12
          go_wp2_with (first | (go_at_call 31; refine (padded_walk m j (by omega) (by omega) _).mono ?_; rintro e w' ⟨rfl, hb⟩) | (go_at_call 32; refine (number_pad j m r (by omega) (by omega) Hr.out _).mono ?_; rintro e w' ⟨rfl, rfl⟩))
          go_ret2
          exact ⟨rfl, hb⟩
end Go.Proofs.Ytkcgddcdgneenaa
