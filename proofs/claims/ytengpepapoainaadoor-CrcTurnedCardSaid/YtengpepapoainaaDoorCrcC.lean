/- crc.Join, walked. -/
import Derived.Test.YtengpepapoainaaDoorCrcA
namespace Go.Proofs.YtengpepapoainaaDoor
open Go.ChangeShapes Go.WideShapes Go.ChangeAt Go.RowKit K C2
set_option linter.unusedVariables false

def bit0 (a : BitVec 32) : Nat := a.toNat % 2
@[go_sem] theorem uu_mod2 (a : BitVec 32) : (uu a).tmod 2 = (bit0 a : Nat) := by
  unfold uu bit0; rw [Int.tmod_eq_emod_of_nonneg (by omega)]; omega
theorem bit0_bit (a : BitVec 32) : a.getLsbD 0 = decide (bit0 a = 1) := by
  rw [← BitVec.testBit_toNat, Nat.testBit_zero]; rfl

theorem uu_msb (a : BitVec 32) : a.msb = decide ((2147483648 : Int) ≤ uu a) := by
  rw [BitVec.msb_eq_decide]
  unfold uu
  apply decide_eq_decide.2
  omega

theorem t1_even (y : BitVec 32) (hb : y.getLsbD 0 = decide (bit0 y = 1)) (h : bit0 y = 0) : uu (T1 y) = bits .xor .u32 (uu y / 2) 0 := by
  have e0 : (0 : Int) = uu 0#32 := rfl
  have e2 : uu y / (2 : Int) = uu (y >>> 1) := by rw [← uu_shr 1]; rfl
  rw [e2, e0, uu_xor]
  unfold T1
  rw [hb, h]
  simp
theorem t1_odd (y : BitVec 32) (hb : y.getLsbD 0 = decide (bit0 y = 1)) (h : bit0 y = 1) : uu (T1 y) = bits .xor .u32 (uu y / 2) 3988292384 := by
  have e0 : (3988292384 : Int) = uu Px := by decide
  have e2 : uu y / (2 : Int) = uu (y >>> 1) := by rw [← uu_shr 1]; rfl
  rw [e2, e0, uu_xor]
  unfold T1
  rw [hb, h]
  simp
theorem times_walk (a b : BitVec 32) (w : World) :
    Calls Tryd.prog 22 #[.int .u32 (uu a), .int .u32 (uu b)] w fun e w' => e = .returned (.int .u32 (uu (tms a b))) ∧ w = w' := by
  go_enter Tryd.func22, Tryd.ntmps22
  go_wp2
  go_loop [0, 1, 5] (fun v0 v1 v5 => ∃ (x y p : BitVec 32), v0 = .int .u32 (uu x) ∧ v1 = .int .u32 (uu y) ∧ v5 = .int .u32 (uu p) ∧ p ^^^ tms x y = tms a b) (fun v0 v1 v5 => hgt 32 (BitVec.ofInt 32 (intOf v0)))
  case atStart => exact ⟨a, b, 0#32, rfl, rfl, rfl, BitVec.zero_xor⟩
  case round =>
    obtain ⟨x, y, p, rfl, rfl, rfl, hp⟩ := hrel
    by_cases h : x = 0#32
    · subst h
      have hz : uu 0#32 = 0 := rfl
      rw [tms_zero, BitVec.xor_zero] at hp
      subst hp
      go_wp2
      go_ret
      exact ⟨rfl, rfl⟩
    · have hx := uu_bounds x
      have hnz : (uu x != 0) = true := by
        rw [bne_iff_ne]; intro e; exact h (uu_inj (e.trans rfl))
      have hms := uu_msb x
      have hst := tms_step x y
      have hlt := hgt_lt x h
      have hb := bit0_bit y
      have hb01 : bit0 y = 0 ∨ bit0 y = 1 := by unfold bit0; omega
      have HP := Lib.hid hp; have HM := Lib.hid hms; have HS := Lib.hid hst; have HL := Lib.hid hlt; have HB := Lib.hid hb
      clear hp hms hst hlt hb h
      have hsh : uu x * (2 : Int) % (4294967296 : Int) = uu (x <<< 1) := by
        unfold uu; rw [BitVec.toNat_shiftLeft, Nat.shiftLeft_eq]; omega
      have hsl : uu x < 2147483648 → uu x * (2 : Int) = uu (x <<< 1) := fun h => by rw [← hsh]; omega
      have HSH := Lib.hid hsh; have HSL := Lib.hid hsl
      clear hsh hsl
      by_cases hm : (2147483648 : Int) ≤ uu x
      all_goals
        rcases hb01 with hy | hy
        all_goals
          go_wp2
          go_round
          case rel =>
            first
              | (have ht : uu (T1 y) = bits .xor .u32 (uu y / 2) 0 := t1_even y HB.out hy)
              | (have ht : uu (T1 y) = bits .xor .u32 (uu y / 2) 3988292384 := t1_odd y HB.out hy)
            first
              | (refine ⟨x <<< 1, T1 y, p ^^^ y, by rw [HSH.out], by rw [ht], rfl, ?_⟩
                 rw [← HP.out, HS.out, HM.out, decide_eq_true hm, BitVec.xor_assoc]; rfl)
              | (refine ⟨x <<< 1, T1 y, p, by rw [HSL.out (by omega)], by rw [ht], rfl, ?_⟩
                 rw [← HP.out, HS.out, HM.out, decide_eq_false hm]; simp)
          case measure =>
            first
              | (rw [HSH.out]; simp only [intOf, ofInt_uu]; exact HL.out)
              | (rw [HSL.out (by omega)]; simp only [intOf, ofInt_uu]; exact HL.out)

theorem power_walk (q n : Nat) (hn : n ≤ 1099511627776) (w : World) :
    Calls Tryd.prog 23 #[.int .u32 (uu (Tn q one)), .int .i64 n] w fun e w' => e = .returned (.int .u32 (uu (Tn (q * n) one))) ∧ w = w' := by
  go_enter Tryd.func23, Tryd.ntmps23
  go_wp2
  go_loop [0, 1, 5] (fun v0 v1 v5 => ∃ (x m p : Nat), m ≤ n ∧ v0 = .int .u32 (uu (Tn x one)) ∧ v1 = .int .i64 m ∧ v5 = .int .u32 (uu (Tn p one)) ∧ p + x * m = q * n) (fun v0 v1 v5 => (intOf v1).toNat)
  case atStart => exact ⟨q, n, 0, by omega, rfl, rfl, rfl, by omega⟩
  case round =>
    obtain ⟨x, m, p, hm, rfl, rfl, rfl, hp⟩ := hrel
    have tt : ∀ a b, tms (Tn a one) (Tn b one) = Tn (a + b) one := fun a b => by rw [tms_Tn, Tn_add]
    have HT := Lib.hid tt; clear tt
    have HP := Lib.hid hp; clear hp
    by_cases h : 0 < m
    · obtain h2 | h2 : m % 2 = 1 ∨ m % 2 = 0 := by omega
      · have hd : (((m : Nat) : Int) % 2 == 1) = true := by rw [beq_iff_eq]; omega
        go_wp2_with fail
        refine (times_walk (Tn p one) (Tn x one) w).mono ?_
        rintro e w1 ⟨rfl, rfl⟩
        go_wp2_with fail
        refine (times_walk (Tn x one) (Tn x one) w).mono ?_
        rintro e w1 ⟨rfl, rfl⟩
        go_wp2
        go_round
        case measure => simp [intOf]; omega
        case rel =>
          refine ⟨x + x, m / 2, p + x, by omega, by rw [HT.out], by simp, by rw [HT.out], ?_⟩
          rw [← HP.out]
          have e : m = 2 * (m / 2) + 1 := by omega
          generalize m / 2 = k at e ⊢
          subst e
          rw [Nat.mul_add, Nat.add_mul, ← Nat.mul_assoc, Nat.mul_two, Nat.add_mul]; omega
      · have hd : (((m : Nat) : Int) % 2 == 1) = false := by rw [beq_eq_false_iff_ne]; omega
        go_wp2_with fail
        refine (times_walk (Tn x one) (Tn x one) w).mono ?_
        rintro e w1 ⟨rfl, rfl⟩
        go_wp2
        go_round
        case measure => simp [intOf]; omega
        case rel =>
          refine ⟨x + x, m / 2, p, by omega, by rw [HT.out], by simp, rfl, ?_⟩
          rw [← HP.out]
          have e : m = 2 * (m / 2) := by omega
          generalize m / 2 = k at e ⊢
          subst e
          rw [← Nat.mul_assoc, Nat.mul_two]
    · obtain rfl : m = 0 := by omega
      have hp := HP.out
      rw [Nat.mul_zero, Nat.add_zero] at hp
      subst hp
      go_wp2
      go_ret
      exact ⟨rfl, rfl⟩

theorem join_walk (a b : BitVec 32) (n : Nat) (hn : n ≤ 1099511627776) (w : World) :
    Calls Tryd.prog 16 #[.int .i64 (uu a), .int .i64 (uu b), .int .i64 n] w fun e w' => e = .returned (.tuple #[.int .i64 (uu (Tn (8 * n) a ^^^ b)), .int .i64 0]) ∧ w = w' := by
  have ha := uu_bounds a
  have hb := uu_bounds b
  have hP := power_walk 8 n hn w
  have e8 : (uu (Tn 8 one)) = 8388608 := by rw [← eight_eq]; rfl
  rw [e8] at hP
  have ht := tms_Tn a (8 * n)
  have HP := Lib.hid hP; have HT := Lib.hid ht; clear hP ht e8
  go_enter Tryd.func16, Tryd.ntmps16
  go_wp2_with fail
  refine (isSum_walk (uu a) w).mono ?_
  rintro e w1 ⟨rfl, rfl⟩
  rw [isS_uu]
  go_wp2_with fail
  refine (isSum_walk (uu b) w).mono ?_
  rintro e w1 ⟨rfl, rfl⟩
  rw [isS_uu]
  go_wp2_with fail
  refine HP.out.mono ?_
  rintro e w1 ⟨rfl, rfl⟩
  go_wp2_with fail
  refine (times_walk a (Tn (8 * n) one) w).mono ?_
  rintro e w1 ⟨rfl, rfl⟩
  rw [HT.out]
  go_wp2
  go_ret2
  exact ⟨congrArg (fun z => Ending.returned (Value.tuple #[Value.int IntKind.i64 z, Value.int IntKind.i64 0])) (uu_wrap64 _), rfl⟩
end Go.Proofs.YtengpepapoainaaDoor
