/- ber's numbers: what is put, what is read, walked. -/
import Derived.Test.YtepgkoafjeacnaaBerD
namespace Go.Proofs.Ytepgkoafjeacnaa
open Go.ChangeShapes Go.WideShapes Go.ChangeAt Go.RowKit K P1 B5
set_option linter.unusedVariables false

theorem pad8_halves (m : Nat) : pad 8 m = pad 4 (m / 4294967296) ++ pad 4 (m % 4294967296) := by
  simp only [pad, Nat.reducePow, List.cons_append, List.nil_append]
  congr 1
  · congr 1; omega
  congr 1
  · congr 1; omega
  congr 1
  · congr 1; omega
  congr 1
  · congr 1; omega
  congr 1
  · congr 1; omega
  congr 1
  · congr 1; omega
  congr 1
  · congr 1; omega
  congr 1
  congr 1; omega
theorem and_low32 (z : Int) (h0 : 0 ≤ z) (h1 : z < 18446744073709551616) : bits .and .u64 z 4294967295 = z % 4294967296 := by
  obtain ⟨k, rfl⟩ := Int.eq_ofNat_of_zero_le h0
  have h := u64_and_nat k 4294967295 (by omega) (by omega)
  rw [show ((4294967295 : Nat) : Int) = 4294967295 from rfl] at h
  rw [h, show (4294967295 : Nat) = 2 ^ 32 - 1 from rfl, Nat.and_two_pow_sub_one_eq_mod]
  omega
theorem wide4 (q : Nat) (hq : q < 4294967296) (w : World) :
    Calls Try.prog 39 #[.int .i64 q, .int .i64 4] w fun e w' => e = .returned (.tuple #[.string (bs (pad 4 q)), .int .i64 0]) ∧ Below w.heap.size w w' := by
  have := octWide_walk (q : Int) ((4 : Nat) : Int) (by omega) (by omega) w
  rw [(wide_yes q 4 (by omega) (by omega) (by omega)).1, (wide_yes q 4 (by omega) (by omega) (by omega)).2] at this
  exact this
set_option maxRecDepth 100000 in
theorem eight_walk (m : Nat) (hm : m < 18446744073709551616) (w : World) :
    Calls Try.prog 27 #[.int .u64 m] w fun e w' => e = .returned (.string (bs (pad 8 m))) ∧ Below w.heap.size w w' := by
  have hA := fun w1 => wide4 (m / 4294967296) (by omega) w1
  have hB := fun w1 => wide4 (m % 4294967296) (by omega) w1
  have hE := pad8_halves m
  have hl1 := pad_length 4 (m / 4294967296)
  have hl2 := pad_length 4 (m % 4294967296)
  have hq1' : m / 4294967296 < 4294967296 := by omega
  have hr1' : m % 4294967296 < 4294967296 := by omega
  have hqz : ((m : Nat) : Int) / 4294967296 = ((m / 4294967296 : Nat) : Int) := by omega
  have hrz : ((m : Nat) : Int) % 4294967296 = ((m % 4294967296 : Nat) : Int) := by omega
  have hand := and_low32 (m : Nat) (by omega) (by omega)
  rw [hrz] at hand
  generalize pad 8 m = P8 at *
  generalize m / 4294967296 = Q at *
  generalize m % 4294967296 = R at *
  generalize pad 4 Q = PA at *
  generalize pad 4 R = PB at *
  have hz0 : (0 : Int) ≤ (m : Nat) := by omega
  have hz1 : ((m : Nat) : Int) < 18446744073709551616 := by omega
  have wq0 : (0 : Int) ≤ (Q : Nat) := by omega
  have wq1 : ((Q : Nat) : Int) < 4294967296 := by omega
  have wr0 : (0 : Int) ≤ (R : Nat) := by omega
  have wr1 : ((R : Nat) : Int) < 4294967296 := by omega
  have w1 : IntKind.i64.wrap ((Q : Nat) : Int) = (Q : Nat) := IntWalk.i64_in _ (by omega)
  have w2 : IntKind.i64.wrap ((R : Nat) : Int) = (R : Nat) := IntWalk.i64_in _ (by omega)
  generalize ((m : Nat) : Int) = z at *
  generalize ((Q : Nat) : Int) = q at *
  generalize ((R : Nat) : Int) = r at *
  have HA := Lib.hid hA; have HB := Lib.hid hB; have HE := Lib.hid hE
  clear hA hB hE hq1' hr1' hm hrz
  go_enter Try.func27, Try.ntmps27
  go_wp2_with fail
  refine (HA.out _).mono ?_
  rintro e x1 ⟨rfl, b1⟩
  go_wp2_with fail
  refine (HB.out _).mono ?_
  rintro e x2 ⟨rfl, b2⟩
  go_wp2
  go_ret
  rw [HE.out]
  exact ⟨rfl, b1.trans (b2.mono b1.size)⟩
theorem putnumber_walk (n : Int) (h0 : -9223372036854775808 ≤ n) (h1 : n ≤ 9223372036854775807) (w : World) :
    Calls Try.prog 10 #[.int .i64 n] w fun e w' => e = .returned (.string (bs (pn n))) ∧ Below w.heap.size w w' := by
  have HA := Lib.hid (eight_walk (u64 n) (u64_lt n) w)
  have hl := pad_length 8 (u64 n)
  have hC := fun w1 => cut_walkB (pad 8 (u64 n)) (by omega) (by omega) w1
  rw [hl] at hC
  have HC := Lib.hid hC
  have HE := Lib.hid (show strip 7 (pad 8 (u64 n)) = pn n from rfl)
  have hu : IntKind.u64.wrap n = ((u64 n : Nat) : Int) := by
    unfold u64; simp [IntKind.wrap, IntKind.signed, IntKind.bits]; omega
  generalize pad 8 (u64 n) = P8 at *
  generalize Go.Proofs.Ytepgkoafjeacnaa.u64 n = U at *
  clear hl hC
  go_enter Try.func10, Try.ntmps10
  go_wp2_with fail
  refine HA.out.mono ?_
  rintro e x1 ⟨rfl, b1⟩
  go_wp2_with fail
  refine (HC.out _).mono ?_
  rintro e x2 ⟨rfl, k, rfl⟩
  go_wp2
  go_ret
  exact ⟨by rw [← HE.out]; rfl, Below_drewNa b1 k⟩
theorem un_strip (m : Nat) (h : m < 18446744073709551616) : strip 8 (0 :: pad 8 m) = un m := by
  have b0 : byt (0 :: pad 8 m) 0 = 0 := rfl
  have b1 : byt (0 :: pad 8 m) 1 = m / 72057594037927936 % 256 := by rw [← byt_pad8]; simp [byt]
  unfold un
  show (if same9 (0 :: pad 8 m) then strip 7 ((0 :: pad 8 m).drop 1) else 0 :: pad 8 m) = _
  by_cases hc : 9223372036854775808 ≤ m
  · rw [if_pos hc]
    have : same9 (0 :: pad 8 m) = false := by
      unfold same9; rw [b0, b1, decide_eq_false (by omega)]; rfl
    rw [this]; rfl
  · rw [if_neg hc]
    have : same9 (0 :: pad 8 m) = true := by
      unfold same9; rw [b0, b1, decide_eq_true (by omega)]; rfl
    rw [if_pos this]
    unfold pn
    rw [show ((m : Int) % 18446744073709551616).toNat = m by omega]
    rfl
theorem putunsigned_walk (m : Nat) (hm : m < 18446744073709551616) (w : World) :
    Calls Try.prog 12 #[.int .u64 m] w fun e w' => e = .returned (.string (bs (un m))) ∧ Below w.heap.size w w' := by
  have HA := Lib.hid (fun w1 => eight_walk m hm w1)
  have hl := pad_length 8 m
  have hx1 : ((0 : UInt8) :: pad 8 m).length = 9 := by rw [List.length_cons, hl]
  have hs : strip (((0 : UInt8) :: pad 8 m).length - 1) (0 :: pad 8 m) = un m := by rw [hx1]; exact un_strip m hm
  have hC := fun w1 => cut_walkB (0 :: pad 8 m) (by omega) (by omega) w1
  rw [hs] at hC
  have HC := Lib.hid hC
  have hpl8 : (pad 8 m).length ≤ 8 := by omega
  generalize pad 8 m = P8 at *
  have hcat : ({ data := #[0] } : ByteArray) ++ bs P8 = bs (0 :: P8) := bs_append [0] P8
  have hm0 : ((m : Nat) : Int) < 18446744073709551616 := by omega
  generalize un m = UN at *
  generalize ((m : Nat) : Int) = z at *
  clear hl hC hm hx1 hs
  go_enter Try.func12, Try.ntmps12
  go_wp2_with fail
  refine (HA.out _).mono ?_
  rintro e x1 ⟨rfl, b1⟩
  go_wp2_with fail
  refine (HC.out _).mono ?_
  rintro e x2 ⟨rfl, k, rfl⟩
  go_wp2
  go_ret
  exact ⟨rfl, Below_drewNa b1 k⟩
end Go.Proofs.Ytepgkoafjeacnaa
