/- Texts on the program and on the document, joined: BerD, BerE. -/
import Derived.Test.YtkmfcnilbmckmaaGreatDoorMa07
import Derived.Test.YtkmfcnilbmckmaaGreatDoorMa08
import Derived.Laws.BitsAllLaws
/- ber's numbers, walked. -/
namespace Go.Proofs.YtkmfcnilbmckmaaGreatDoor
open Go.ChangeShapes Go.WideShapes Go.ChangeAt Go.RowKit K P1 B5
set_option linter.unusedVariables false

theorem and128 (b : Nat) (h : b < 256) : (bits .and .u8 (b : Int) 128 != 0) = decide (128 ≤ b) := by
  have : ∀ i : Fin 256, (bits .and .u8 (i.val : Int) 128 != 0) = decide (128 ≤ i.val) := by decide +kernel
  exact this ⟨b, h⟩
def spr (a b : Nat) : Bool := (a == 0 && decide (b < 128)) || (a == 255 && decide (128 ≤ b))
theorem isSpare_walk (a b : Nat) (ha : a < 256) (hb : b < 256) (w : World) :
    Calls Tryz.prog 76 #[.int .u8 a, .int .u8 b] w fun e w' => e = .returned (.bool (spr a b)) ∧ w = w' := by
  have hh := and128 b hb
  by_cases h : 128 ≤ b
  · have e : spr a b = (((a : Nat) : Int) == 255) := by
      unfold spr
      rw [decide_eq_false (by omega : ¬ b < 128), decide_eq_true h, Bool.and_false, Bool.false_or, Bool.and_true, Bool.eq_iff_iff, beq_iff_eq, beq_iff_eq]; omega
    rw [e]
    rw [decide_eq_true h] at hh
    clear e h
    go_enter Tryz.func76, Tryz.ntmps76
    go_wp2
    go_ret
    exact ⟨rfl, rfl⟩
  · have e : spr a b = (((a : Nat) : Int) == 0) := by
      unfold spr
      rw [decide_eq_true (by omega : b < 128), decide_eq_false h, Bool.and_false, Bool.or_false, Bool.and_true, Bool.eq_iff_iff, beq_iff_eq, beq_iff_eq]; omega
    rw [e]
    rw [decide_eq_false h] at hh
    clear e h
    go_enter Tryz.func76, Tryz.ntmps76
    go_wp2
    go_ret
    exact ⟨rfl, rfl⟩
def isSh (l : List UInt8) : Bool := l.length == 1 || (decide (1 < l.length) && !same9 l)
theorem isShort_walk (l : List UInt8) (hl : l.length ≤ 140737488351232) (w : World) :
    Calls Tryz.prog 45 #[.string (bs l)] w fun e w' => e = .returned (.bool (isSh l)) ∧ ∃ n, w' = w.drewN n := by
  by_cases h1 : l.length = 1
  · have e : isSh l = true := by unfold isSh; rw [h1]; rfl
    rw [e]
    have h1' : (((l.length : Nat) : Int) == 1) = true := by rw [beq_iff_eq]; omega
    clear e h1
    go_enter Tryz.func45, Tryz.ntmps45
    go_wp2
    go_quiet (fail)
    go_wp2
    go_ret
    exact ⟨rfl, nq, rfl⟩
  · have h1' : (((l.length : Nat) : Int) == 1) = false := by rw [beq_eq_false_iff_ne]; omega
    have h1n : (l.length == 1) = false := by rw [beq_eq_false_iff_ne]; exact h1
    by_cases h2 : 1 < l.length
    · have e : isSh l = !spr (byt l 0) (byt l 1) := by
        unfold isSh; rw [h1n, Bool.false_or, decide_eq_true h2, Bool.true_and]; rfl
      rw [e]
      have HS := Lib.hid (fun w1 => isSpare_walk (byt l 0) (byt l 1) (byt_lt l 0) (byt_lt l 1) w1)
      have h2' : (1 : Int) < ((l.length : Nat) : Int) := by omega
      have h20 : (0 : Int) < ((l.length : Nat) : Int) := by omega
      generalize spr (byt l 0) (byt l 1) = B at *
      clear e h1 h1n
      go_enter Tryz.func45, Tryz.ntmps45
      go_wp2_with fail
      go_quiet ((go_at_call 76; refine Calls.quiet_mk (HS.out _)))
      go_wp2
      go_ret
      exact ⟨rfl, nq, rfl⟩
    · have e : isSh l = false := by unfold isSh; rw [h1n, decide_eq_false h2]; rfl
      rw [e]
      obtain rfl : l = [] := List.length_eq_zero_iff.1 (by omega)
      clear e h1 h1n h2 h1' hl
      go_enter Tryz.func45, Tryz.ntmps45
      go_wp2
      go_quiet (fail)
      go_wp2
      go_ret
      exact ⟨rfl, nq, rfl⟩
theorem isSh_step {l : List UInt8} (h : 2 ≤ l.length) : isSh l = !same9 l := by
  unfold isSh
  rw [show (l.length == 1) = false by rw [beq_eq_false_iff_ne]; omega, decide_eq_true (by omega : 1 < l.length)]; simp
theorem isSh_one {l : List UInt8} (h : l.length = 1) : isSh l = true := by unfold isSh; rw [h]; rfl
def CuRel (l : List UInt8) (w : World) (g : Nat) (v0 : Value) (wr : World) : Prop :=
  ∃ s, s.length = g + 1 ∧ g + 1 ≤ l.length ∧ strip g s = strip (l.length - 1) l ∧ v0 = .string (bs s) ∧ ∃ m, wr = w.drewN m
theorem drew_add (w : World) (m n : Nat) : (w.drewN m).drewN n = w.drewN (m + n) := by unfold World.drewN; simp [Nat.add_assoc]
set_option maxRecDepth 100000 in
theorem cut_walkB (l : List UInt8) (h1 : 1 ≤ l.length) (hl : l.length ≤ 100) (w : World) :
    Calls Tryz.prog 85 #[.string (bs l)] w fun e w' => e = .returned (.string (bs (strip (l.length - 1) l))) ∧ ∃ n, w' = w.drewN n := by
  go_enter Tryz.func85, Tryz.ntmps85
  go_wp2
  go_loopg [0] (l.length - 1) (fun g v0 wr => CuRel l w g v0 wr)
  case atStart => exact ⟨l, by omega, by omega, rfl, rfl, 0, rfl⟩
  case round =>
    obtain ⟨s, hg, hgl, hst, rfl, m, rfl⟩ := hrel
    have hS := isShort_walk s (by omega) (w.drewN m)
    cases gk with
    | zero =>
      rw [isSh_one hg] at hS
      have HS := Lib.hid hS
      have hst2 : s = strip (l.length - 1) l := hst
      have HE := Lib.hid hst2
      clear hS hst hst2 hg h1 hl
      go_wp2_with fail
      refine HS.out.mono ?_
      rintro e w1 ⟨rfl, k, rfl⟩
      go_wp2
      go_ret
      rw [HE.out]
      exact ⟨rfl, m + k, rfl⟩
    | succ g =>
      rw [isSh_step (by omega)] at hS
      have hst2 : strip (l.length - 1) l = if same9 s then strip g (s.drop 1) else s := hst.symm
      have hsl : ((s.length : Nat) : Int) = ((g + 2 : Nat) : Int) := by omega
      have hs1 : 1 ≤ s.length := by omega
      have hdl : (s.drop 1).length = g + 1 := by rw [List.length_drop]; omega
      have HDL := Lib.hid hdl
      have HW := Lib.hid (drew_add w m)
      clear hst hg hdl
      cases h9 : same9 s
      · rw [h9] at hS hst2
        have HS := Lib.hid hS
        have HE := Lib.hid hst2
        clear hS hst2 h9
        go_wp2_with fail
        refine HS.out.mono ?_
        rintro e w1 ⟨rfl, k, rfl⟩
        go_wp2
        go_ret
        rw [HE.out]
        exact ⟨by simp, m + k, rfl⟩
      · rw [h9, if_pos rfl] at hst2
        rw [h9] at hS
        have HS := Lib.hid hS
        have HE := Lib.hid hst2
        clear hS hst2 h9
        go_wp2_with fail
        refine HS.out.mono ?_
        rintro e w1 ⟨rfl, k, rfl⟩
        go_wp2
        go_roundg g
        case measure => omega
        case rel => exact ⟨s.drop 1, HDL.out, by omega, HE.out.symm, by simp, m + k, rfl⟩
end Go.Proofs.YtkmfcnilbmckmaaGreatDoor
/- ber's numbers: what is put, what is read, walked. -/
namespace Go.Proofs.YtkmfcnilbmckmaaGreatDoor
open Go.ChangeShapes Go.WideShapes Go.ChangeAt Go.RowKit K P1 B5
set_option linter.unusedVariables false

theorem pad8_halves (m : Nat) : pad 8 m = pad 4 (m / 4294967296) ++ pad 4 (m % 4294967296) := by
  simp only [pad, Nat.reducePow, List.cons_append, List.nil_append]
  congr 1
  · congr 1; omega
  congr 1
  · congr 1; omega
  congr 1
  · congr 1; omega
  congr 1
  · congr 1; omega
  congr 1
  · congr 1; omega
  congr 1
  · congr 1; omega
  congr 1
  · congr 1; omega
  congr 1
  congr 1; omega
theorem and_low32 (z : Int) (h0 : 0 ≤ z) (h1 : z < 18446744073709551616) : bits .and .u64 z 4294967295 = z % 4294967296 := by
  obtain ⟨k, rfl⟩ := Int.eq_ofNat_of_zero_le h0
  have h := u64_and_nat k 4294967295 (by omega) (by omega)
  rw [show ((4294967295 : Nat) : Int) = 4294967295 from rfl] at h
  rw [h, show (4294967295 : Nat) = 2 ^ 32 - 1 from rfl, Nat.and_two_pow_sub_one_eq_mod]
  omega
theorem wide4 (q : Nat) (hq : q < 4294967296) (w : World) :
    Calls Tryz.prog 84 #[.int .i64 q, .int .i64 4] w fun e w' => e = .returned (.tuple #[.string (bs (pad 4 q)), .int .i64 0]) ∧ Below w.heap.size w w' := by
  have := octWide_walk (q : Int) ((4 : Nat) : Int) (by omega) (by omega) w
  rw [(wide_yes q 4 (by omega) (by omega) (by omega)).1, (wide_yes q 4 (by omega) (by omega) (by omega)).2] at this
  exact this
set_option maxRecDepth 100000 in
theorem eight_walk (m : Nat) (hm : m < 18446744073709551616) (w : World) :
    Calls Tryz.prog 86 #[.int .u64 m] w fun e w' => e = .returned (.string (bs (pad 8 m))) ∧ Below w.heap.size w w' := by
  have hA := fun w1 => wide4 (m / 4294967296) (by omega) w1
  have hB := fun w1 => wide4 (m % 4294967296) (by omega) w1
  have hE := pad8_halves m
  have hl1 := pad_length 4 (m / 4294967296)
  have hl2 := pad_length 4 (m % 4294967296)
  have hq1' : m / 4294967296 < 4294967296 := by omega
  have hr1' : m % 4294967296 < 4294967296 := by omega
  have hqz : ((m : Nat) : Int) / 4294967296 = ((m / 4294967296 : Nat) : Int) := by omega
  have hrz : ((m : Nat) : Int) % 4294967296 = ((m % 4294967296 : Nat) : Int) := by omega
  have hand := and_low32 (m : Nat) (by omega) (by omega)
  rw [hrz] at hand
  generalize pad 8 m = P8 at *
  generalize m / 4294967296 = Q at *
  generalize m % 4294967296 = R at *
  generalize pad 4 Q = PA at *
  generalize pad 4 R = PB at *
  have hz0 : (0 : Int) ≤ (m : Nat) := by omega
  have hz1 : ((m : Nat) : Int) < 18446744073709551616 := by omega
  have wq0 : (0 : Int) ≤ (Q : Nat) := by omega
  have wq1 : ((Q : Nat) : Int) < 4294967296 := by omega
  have wr0 : (0 : Int) ≤ (R : Nat) := by omega
  have wr1 : ((R : Nat) : Int) < 4294967296 := by omega
  have w1 : IntKind.i64.wrap ((Q : Nat) : Int) = (Q : Nat) := IntWalk.i64_in _ (by omega)
  have w2 : IntKind.i64.wrap ((R : Nat) : Int) = (R : Nat) := IntWalk.i64_in _ (by omega)
  generalize ((m : Nat) : Int) = z at *
  generalize ((Q : Nat) : Int) = q at *
  generalize ((R : Nat) : Int) = r at *
  have HA := Lib.hid hA; have HB := Lib.hid hB; have HE := Lib.hid hE
  clear hA hB hE hq1' hr1' hm hrz
  go_enter Tryz.func86, Tryz.ntmps86
  go_wp2_with fail
  refine (HA.out _).mono ?_
  rintro e x1 ⟨rfl, b1⟩
  go_wp2_with fail
  refine (HB.out _).mono ?_
  rintro e x2 ⟨rfl, b2⟩
  go_wp2
  go_ret
  rw [HE.out]
  exact ⟨rfl, b1.trans (b2.mono b1.size)⟩
theorem putnumber_walk (n : Int) (h0 : -9223372036854775808 ≤ n) (h1 : n ≤ 9223372036854775807) (w : World) :
    Calls Tryz.prog 54 #[.int .i64 n] w fun e w' => e = .returned (.string (bs (pn n))) ∧ Below w.heap.size w w' := by
  have HA := Lib.hid (eight_walk (u64 n) (u64_lt n) w)
  have hl := pad_length 8 (u64 n)
  have hC := fun w1 => cut_walkB (pad 8 (u64 n)) (by omega) (by omega) w1
  rw [hl] at hC
  have HC := Lib.hid hC
  have HE := Lib.hid (show strip 7 (pad 8 (u64 n)) = pn n from rfl)
  have hu : IntKind.u64.wrap n = ((u64 n : Nat) : Int) := by
    unfold u64; simp [IntKind.wrap, IntKind.signed, IntKind.bits]; omega
  generalize pad 8 (u64 n) = P8 at *
  generalize Go.Proofs.YtkmfcnilbmckmaaGreatDoor.u64 n = U at *
  clear hl hC
  go_enter Tryz.func54, Tryz.ntmps54
  go_wp2_with fail
  refine HA.out.mono ?_
  rintro e x1 ⟨rfl, b1⟩
  go_wp2_with fail
  refine (HC.out _).mono ?_
  rintro e x2 ⟨rfl, k, rfl⟩
  go_wp2
  go_ret
  exact ⟨by rw [← HE.out]; rfl, Below_drewNa b1 k⟩
theorem un_strip (m : Nat) (h : m < 18446744073709551616) : strip 8 (0 :: pad 8 m) = un m := by
  have b0 : byt (0 :: pad 8 m) 0 = 0 := rfl
  have b1 : byt (0 :: pad 8 m) 1 = m / 72057594037927936 % 256 := by rw [← byt_pad8]; simp [byt]
  unfold un
  show (if same9 (0 :: pad 8 m) then strip 7 ((0 :: pad 8 m).drop 1) else 0 :: pad 8 m) = _
  by_cases hc : 9223372036854775808 ≤ m
  · rw [if_pos hc]
    have : same9 (0 :: pad 8 m) = false := by
      unfold same9; rw [b0, b1, decide_eq_false (by omega)]; rfl
    rw [this]; rfl
  · rw [if_neg hc]
    have : same9 (0 :: pad 8 m) = true := by
      unfold same9; rw [b0, b1, decide_eq_true (by omega)]; rfl
    rw [if_pos this]
    unfold pn
    rw [show ((m : Int) % 18446744073709551616).toNat = m by omega]
    rfl
theorem putunsigned_walk (m : Nat) (hm : m < 18446744073709551616) (w : World) :
    Calls Tryz.prog 55 #[.int .u64 m] w fun e w' => e = .returned (.string (bs (un m))) ∧ Below w.heap.size w w' := by
  have HA := Lib.hid (fun w1 => eight_walk m hm w1)
  have hl := pad_length 8 m
  have hx1 : ((0 : UInt8) :: pad 8 m).length = 9 := by rw [List.length_cons, hl]
  have hs : strip (((0 : UInt8) :: pad 8 m).length - 1) (0 :: pad 8 m) = un m := by rw [hx1]; exact un_strip m hm
  have hC := fun w1 => cut_walkB (0 :: pad 8 m) (by omega) (by omega) w1
  rw [hs] at hC
  have HC := Lib.hid hC
  have hpl8 : (pad 8 m).length ≤ 8 := by omega
  generalize pad 8 m = P8 at *
  have hcat : ({ data := #[0] } : ByteArray) ++ bs P8 = bs (0 :: P8) := bs_append [0] P8
  have hm0 : ((m : Nat) : Int) < 18446744073709551616 := by omega
  generalize un m = UN at *
  generalize ((m : Nat) : Int) = z at *
  clear hl hC hm hx1 hs
  go_enter Tryz.func55, Tryz.ntmps55
  go_wp2_with fail
  refine (HA.out _).mono ?_
  rintro e x1 ⟨rfl, b1⟩
  go_wp2_with fail
  refine (HC.out _).mono ?_
  rintro e x2 ⟨rfl, k, rfl⟩
  go_wp2
  go_ret
  exact ⟨rfl, Below_drewNa b1 k⟩
end Go.Proofs.YtkmfcnilbmckmaaGreatDoor
