/- Texts on the program and on the document, joined: BerE, BerF. -/
import Derived.Test.YtlpknkfidcojeaaGreatDoorMa07
/- ber's numbers: what is put, what is read, walked. -/
namespace Go.Proofs.YtlpknkfidcojeaaGreatDoor
open Go.ChangeShapes Go.WideShapes Go.ChangeAt Go.RowKit K P1 B5
set_option linter.unusedVariables false

theorem pad8_halves (m : Nat) : pad 8 m = pad 4 (m / 4294967296) ++ pad 4 (m % 4294967296) := by
  simp only [pad, Nat.reducePow, List.cons_append, List.nil_append]
  congr 1
  · congr 1; omega
  congr 1
  · congr 1; omega
  congr 1
  · congr 1; omega
  congr 1
  · congr 1; omega
  congr 1
  · congr 1; omega
  congr 1
  · congr 1; omega
  congr 1
  · congr 1; omega
  congr 1
  congr 1; omega
theorem and_low32 (z : Int) (h0 : 0 ≤ z) (h1 : z < 18446744073709551616) : bits .and .u64 z 4294967295 = z % 4294967296 := by
  obtain ⟨k, rfl⟩ := Int.eq_ofNat_of_zero_le h0
  have h := u64_and_nat k 4294967295 (by omega) (by omega)
  rw [show ((4294967295 : Nat) : Int) = 4294967295 from rfl] at h
  rw [h, show (4294967295 : Nat) = 2 ^ 32 - 1 from rfl, Nat.and_two_pow_sub_one_eq_mod]
  omega
theorem wide4 (q : Nat) (hq : q < 4294967296) (w : World) :
    Calls Tryz.prog 78 #[.int .i64 q, .int .i64 4] w fun e w' => e = .returned (.tuple #[.string (bs (pad 4 q)), .int .i64 0]) ∧ Below w.heap.size w w' := by
  have := octWide_walk (q : Int) ((4 : Nat) : Int) (by omega) (by omega) w
  rw [(wide_yes q 4 (by omega) (by omega) (by omega)).1, (wide_yes q 4 (by omega) (by omega) (by omega)).2] at this
  exact this
set_option maxRecDepth 100000 in
theorem eight_walk (m : Nat) (hm : m < 18446744073709551616) (w : World) :
    Calls Tryz.prog 63 #[.int .u64 m] w fun e w' => e = .returned (.string (bs (pad 8 m))) ∧ Below w.heap.size w w' := by
  have hA := fun w1 => wide4 (m / 4294967296) (by omega) w1
  have hB := fun w1 => wide4 (m % 4294967296) (by omega) w1
  have hE := pad8_halves m
  have hl1 := pad_length 4 (m / 4294967296)
  have hl2 := pad_length 4 (m % 4294967296)
  have hq1' : m / 4294967296 < 4294967296 := by omega
  have hr1' : m % 4294967296 < 4294967296 := by omega
  have hqz : ((m : Nat) : Int) / 4294967296 = ((m / 4294967296 : Nat) : Int) := by omega
  have hrz : ((m : Nat) : Int) % 4294967296 = ((m % 4294967296 : Nat) : Int) := by omega
  have hand := and_low32 (m : Nat) (by omega) (by omega)
  rw [hrz] at hand
  generalize pad 8 m = P8 at *
  generalize m / 4294967296 = Q at *
  generalize m % 4294967296 = R at *
  generalize pad 4 Q = PA at *
  generalize pad 4 R = PB at *
  have hz0 : (0 : Int) ≤ (m : Nat) := by omega
  have hz1 : ((m : Nat) : Int) < 18446744073709551616 := by omega
  have wq0 : (0 : Int) ≤ (Q : Nat) := by omega
  have wq1 : ((Q : Nat) : Int) < 4294967296 := by omega
  have wr0 : (0 : Int) ≤ (R : Nat) := by omega
  have wr1 : ((R : Nat) : Int) < 4294967296 := by omega
  have w1 : IntKind.i64.wrap ((Q : Nat) : Int) = (Q : Nat) := IntWalk.i64_in _ (by omega)
  have w2 : IntKind.i64.wrap ((R : Nat) : Int) = (R : Nat) := IntWalk.i64_in _ (by omega)
  generalize ((m : Nat) : Int) = z at *
  generalize ((Q : Nat) : Int) = q at *
  generalize ((R : Nat) : Int) = r at *
  have HA := Lib.hid hA; have HB := Lib.hid hB; have HE := Lib.hid hE
  clear hA hB hE hq1' hr1' hm hrz
  go_enter Tryz.func63, Tryz.ntmps63
  go_wp2_with fail
  refine (HA.out _).mono ?_
  rintro e x1 ⟨rfl, b1⟩
  go_wp2_with fail
  refine (HB.out _).mono ?_
  rintro e x2 ⟨rfl, b2⟩
  go_wp2
  go_ret
  rw [HE.out]
  exact ⟨rfl, b1.trans (b2.mono b1.size)⟩
theorem putnumber_walk (n : Int) (h0 : -9223372036854775808 ≤ n) (h1 : n ≤ 9223372036854775807) (w : World) :
    Calls Tryz.prog 35 #[.int .i64 n] w fun e w' => e = .returned (.string (bs (pn n))) ∧ Below w.heap.size w w' := by
  have HA := Lib.hid (eight_walk (u64 n) (u64_lt n) w)
  have hl := pad_length 8 (u64 n)
  have hC := fun w1 => cut_walkB (pad 8 (u64 n)) (by omega) (by omega) w1
  rw [hl] at hC
  have HC := Lib.hid hC
  have HE := Lib.hid (show strip 7 (pad 8 (u64 n)) = pn n from rfl)
  have hu : IntKind.u64.wrap n = ((u64 n : Nat) : Int) := by
    unfold u64; simp [IntKind.wrap, IntKind.signed, IntKind.bits]; omega
  generalize pad 8 (u64 n) = P8 at *
  generalize Go.Proofs.YtlpknkfidcojeaaGreatDoor.u64 n = U at *
  clear hl hC
  go_enter Tryz.func35, Tryz.ntmps35
  go_wp2_with fail
  refine HA.out.mono ?_
  rintro e x1 ⟨rfl, b1⟩
  go_wp2_with fail
  refine (HC.out _).mono ?_
  rintro e x2 ⟨rfl, k, rfl⟩
  go_wp2
  go_ret
  exact ⟨by rw [← HE.out]; rfl, Below_drewNa b1 k⟩
theorem un_strip (m : Nat) (h : m < 18446744073709551616) : strip 8 (0 :: pad 8 m) = un m := by
  have b0 : byt (0 :: pad 8 m) 0 = 0 := rfl
  have b1 : byt (0 :: pad 8 m) 1 = m / 72057594037927936 % 256 := by rw [← byt_pad8]; simp [byt]
  unfold un
  show (if same9 (0 :: pad 8 m) then strip 7 ((0 :: pad 8 m).drop 1) else 0 :: pad 8 m) = _
  by_cases hc : 9223372036854775808 ≤ m
  · rw [if_pos hc]
    have : same9 (0 :: pad 8 m) = false := by
      unfold same9; rw [b0, b1, decide_eq_false (by omega)]; rfl
    rw [this]; rfl
  · rw [if_neg hc]
    have : same9 (0 :: pad 8 m) = true := by
      unfold same9; rw [b0, b1, decide_eq_true (by omega)]; rfl
    rw [if_pos this]
    unfold pn
    rw [show ((m : Int) % 18446744073709551616).toNat = m by omega]
    rfl
theorem putunsigned_walk (m : Nat) (hm : m < 18446744073709551616) (w : World) :
    Calls Tryz.prog 123 #[.int .u64 m] w fun e w' => e = .returned (.string (bs (un m))) ∧ Below w.heap.size w w' := by
  have HA := Lib.hid (fun w1 => eight_walk m hm w1)
  have hl := pad_length 8 m
  have hx1 : ((0 : UInt8) :: pad 8 m).length = 9 := by rw [List.length_cons, hl]
  have hs : strip (((0 : UInt8) :: pad 8 m).length - 1) (0 :: pad 8 m) = un m := by rw [hx1]; exact un_strip m hm
  have hC := fun w1 => cut_walkB (0 :: pad 8 m) (by omega) (by omega) w1
  rw [hs] at hC
  have HC := Lib.hid hC
  have hpl8 : (pad 8 m).length ≤ 8 := by omega
  generalize pad 8 m = P8 at *
  have hcat : ({ data := #[0] } : ByteArray) ++ bs P8 = bs (0 :: P8) := bs_append [0] P8
  have hm0 : ((m : Nat) : Int) < 18446744073709551616 := by omega
  generalize un m = UN at *
  generalize ((m : Nat) : Int) = z at *
  clear hl hC hm hx1 hs
  go_enter Tryz.func123, Tryz.ntmps123
  go_wp2_with fail
  refine (HA.out _).mono ?_
  rintro e x1 ⟨rfl, b1⟩
  go_wp2_with fail
  refine (HC.out _).mono ?_
  rintro e x2 ⟨rfl, k, rfl⟩
  go_wp2
  go_ret
  exact ⟨rfl, Below_drewNa b1 k⟩
end Go.Proofs.YtlpknkfidcojeaaGreatDoor
/- ber.Number, ber.Unsigned, walked. -/
namespace Go.Proofs.YtlpknkfidcojeaaGreatDoor
open Go.ChangeShapes Go.WideShapes Go.ChangeAt Go.RowKit K P1 B5
set_option linter.unusedVariables false

theorem bits_shl_orI (y : Int) (b : Nat) (hb : b < 256) : bits .or .i64 (wrap64 (wrap64 y * 256)) b = wrap64 (y * 256 + b) := by
  have h1 : (BitVec.ofInt 64 (wrap64 (wrap64 y * 256))).toNat = 2 ^ 8 * (y % 72057594037927936).toNat := by
    rw [BitVec.toNat_ofInt, wrap64_eq, wrap64_eq]
    omega
  have h2 : (BitVec.ofInt 64 ((b : Nat) : Int)).toNat = b := by
    rw [BitVec.toNat_ofInt]; omega
  have h4 : bits .or .i64 (wrap64 (wrap64 y * 256)) b = IntKind.i64.wrap (((BitVec.ofInt 64 (wrap64 (wrap64 y * 256))).toNat ||| (BitVec.ofInt 64 ((b : Nat) : Int)).toNat : Nat) : Int) := by
    show IntKind.i64.wrap (((BitVec.ofInt 64 (wrap64 (wrap64 y * 256)) ||| BitVec.ofInt 64 ((b : Nat) : Int)).toNat : Nat) : Int) = _
    rw [BitVec.toNat_or]
  rw [h4, h1, h2, ← Nat.two_pow_add_eq_or_of_lt (by omega), IntKind.wrap_i64, wrap64_eq]
  omega
/-- The number behind i bytes. -/
def nvi (l : List UInt8) (i : Nat) : Int := if byt l 0 < 128 then (num (l.take i) : Int) else (num (l.take i) : Int) - ((256 ^ i : Nat) : Int)
theorem nvi_all (l : List UInt8) : nvi l l.length = nv l := by unfold nvi nv; rw [List.take_length]
theorem nvi_step (l : List UInt8) (i : Nat) (h : i < l.length) : nvi l (i + 1) = nvi l i * 256 + (byt l i : Nat) := by
  unfold nvi
  rw [num_take l i h, Nat.pow_succ]
  by_cases hb : byt l 0 < 128
  · rw [if_pos hb, if_pos hb]; omega
  · rw [if_neg hb, if_neg hb]; omega
theorem nv_range (l : List UInt8) (h1 : 1 ≤ l.length) (h8 : l.length ≤ 8) : -9223372036854775808 ≤ nv l ∧ nv l ≤ 9223372036854775807 ∧ (0 ≤ nv l ↔ byt l 0 < 128) := by
  match l, h1 with
  | a :: r, _ =>
    have hb : byt (a :: r) 0 = a.toNat := by simp [byt]
    have hr : r.length ≤ 7 := by simpa using h8
    have ha := a.toNat_lt
    have hn := num_lt r
    have hm : (256 : Nat) ^ r.length ≤ 256 ^ 7 := Nat.pow_le_pow_right (by omega) hr
    have hpos : 0 < (256 : Nat) ^ r.length := Nat.pow_pos (by omega)
    unfold nv
    rw [hb, num_cons, List.length_cons, Nat.pow_succ]
    generalize 256 ^ r.length = M at *
    generalize num r = N at *
    by_cases h : a.toNat < 128
    · rw [if_pos h]
      have : a.toNat * M ≤ 127 * M := Nat.mul_le_mul_right _ (by omega)
      generalize a.toNat * M = X at *
      omega
    · rw [if_neg h]
      have h1 : 128 * M ≤ a.toNat * M := Nat.mul_le_mul_right _ (by omega)
      have h2 : a.toNat * M ≤ 255 * M := Nat.mul_le_mul_right _ (by omega)
      generalize a.toNat * M = X at *
      omega
theorem nOk_no {l : List UInt8} (h : isSh l = false) : nOk l = false := by
  unfold isSh at h; unfold nOk
  rw [Bool.or_eq_false_iff] at h
  by_cases h1 : 1 ≤ l.length
  · have h2 : 1 < l.length := by have := beq_eq_false_iff_ne.1 h.1; omega
    have := h.2
    rw [decide_eq_true h2, Bool.true_and] at this
    rw [decide_eq_true h2, Bool.true_and, this]; simp
  · rw [decide_eq_false h1]; rfl
theorem nOk_yes {l : List UInt8} (h : isSh l = true) : nOk l = decide (l.length ≤ 8) ∧ 1 ≤ l.length := by
  unfold isSh at h; unfold nOk
  rw [Bool.or_eq_true, Bool.and_eq_true, beq_iff_eq, decide_eq_true_eq] at h
  have h1 : 1 ≤ l.length := by rcases h with h | ⟨h, _⟩ <;> omega
  refine ⟨?_, h1⟩
  rw [decide_eq_true h1, Bool.true_and]
  rcases h with h | ⟨h2, h3⟩
  · rw [h]; rfl
  · rw [decide_eq_true h2, Bool.true_and, h3, Bool.and_true]
def NbRel (l : List UInt8) (vn vi : Value) : Prop := ∃ i : Nat, ∃ x : Int, i ≤ l.length ∧ vn = .int .i64 x ∧ x = wrap64 (nvi l i) ∧ vi = .int .i64 i
def nuV (l : List UInt8) : Int := if nOk l then nv l else 0
def nuE (l : List UInt8) : Nat := if nOk l then 0 else 50
set_option maxRecDepth 100000 in
theorem number_walk (l : List UInt8) (hl : l.length ≤ 140737488351232) (w : World) :
    Calls Tryz.prog 54 #[.string (bs l)] w fun e w' => e = .returned (.tuple #[.int .i64 (nuV l), .int .i64 (nuE l : Nat)]) ∧ Below w.heap.size w w' := by
  have hS := isShort_walk l hl w
  cases hs : isSh l
  · have e1 : nuV l = 0 ∧ nuE l = 50 := by unfold nuV nuE; rw [nOk_no hs]; exact ⟨rfl, rfl⟩
    rw [e1.1, e1.2]
    rw [hs] at hS
    have HS := Lib.hid hS
    clear hS hs e1
    go_enter Tryz.func54, Tryz.ntmps54
    go_wp2_with fail
    refine HS.out.mono ?_
    rintro e x1 ⟨rfl, k, rfl⟩
    go_wp2
    go_ret2
    exact ⟨rfl, Below_drewNa (Below.refl _ _) k⟩
  · rw [hs] at hS
    obtain ⟨hok, h1⟩ := nOk_yes hs
    by_cases h8 : l.length ≤ 8
    · rw [decide_eq_true h8] at hok
      have e1 : nuV l = nv l ∧ nuE l = 0 := by unfold nuV nuE; rw [hok]; exact ⟨rfl, rfl⟩
      rw [e1.1, e1.2]
      have h8' : ((l.length : Nat) : Int) ≤ 8 := by omega
      have h1' : (1 : Int) ≤ ((l.length : Nat) : Int) := by omega
      have hb := and128 (byt l 0) (byt_lt l 0)
      have hn0 : nvi l 0 = if byt l 0 < 128 then 0 else -1 := by unfold nvi; simp [num]
      have HS := Lib.hid hS
      have HN := Lib.hid (nvi_all l)
      have HR := Lib.hid (nv_range l h1 h8)
      have HT := Lib.hid (fun i h => nvi_step l i h)
      have hcs : ((bits .and .u8 ((byt l 0 : Nat) : Int) 128 != 0) = false ∧ wrap64 (nvi l 0) = 0) ∨ ((bits .and .u8 ((byt l 0 : Nat) : Int) 128 != 0) = true ∧ wrap64 (nvi l 0) = -1) := by
        by_cases hneg : byt l 0 < 128
        · left; rw [if_pos hneg] at hn0; exact ⟨by rw [hb]; simp; omega, by rw [hn0, wrap64_eq]; omega⟩
        · right; rw [if_neg hneg] at hn0; exact ⟨by rw [hb]; simp; omega, by rw [hn0, wrap64_eq]; omega⟩
      clear hS hs hok e1 h1 hb hn0
      rcases hcs with ⟨hb, hn0⟩ | ⟨hb, hn0⟩
      all_goals
        have HN0 := Lib.hid hn0
        clear hn0
        go_enter Tryz.func54, Tryz.ntmps54
        go_wp2_with fail
        refine HS.out.mono ?_
        rintro e x1 ⟨rfl, k, rfl⟩
        have hb0 : Below w.heap.size w (w.drewN k) := Below_drewNa (Below.refl _ _) k
        generalize w.drewN k = w1 at *
        have hcv := Lib.run_convert_string_bytes (P := Tryz.prog) w1 9 77 5 (bs l) Tryz.underlying9 Tryz.underlying77 Tryz.underlying5
        go_wp2
        have kpb : Below w.heap.size w (Lib.bytesWorld w1 5 (bs l)) := ((Kp.ofBelow hb0 []).bytes 5 (bs l)).below (Nat.le_refl _) (by simp)
        have hcb := bytes_cell w1 5 l
        generalize Lib.bytesWorld w1 5 (bs l) = wb at *
        have HC := Lib.hid hcb
        clear hcb hcv hb
        go_loop [4, 22] (fun vn vi => NbRel l vn vi) (fun vn vi => l.length - (intOf vi).toNat)
        case atStart => exact ⟨0, _, Nat.zero_le _, rfl, HN0.out.symm, rfl⟩
        case round =>
          obtain ⟨i, x, hi, rfl, hx, rfl⟩ := hrel
          by_cases hlt : i < l.length
          · have hcell := HC.out i hlt
            have hnt := HT.out i hlt
            have hbb := byt_lt l i
            have hbo := bits_shl_orI (nvi l i) (byt l i) hbb
            rw [← hx, ← hnt] at hbo
            clear hx hnt
            have HB := Lib.hid hbo
            clear hbo
            go_wp2
            go_round
            case measure => simp [intOf]; omega
            case rel => exact ⟨i + 1, _, by omega, rfl, HB.out, by simp⟩
          · obtain rfl : i = l.length := by omega
            have hxx : x = nv l := by
              rw [hx, HN.out, wrap64_eq]
              have := HR.out
              omega
            have HX := Lib.hid hxx
            clear hx hlt hi hxx
            go_wp2
            go_ret2
            rw [HX.out]
            exact ⟨rfl, kpb⟩
    · rw [decide_eq_false h8] at hok
      have e1 : nuV l = 0 ∧ nuE l = 50 := by unfold nuV nuE; rw [hok]; exact ⟨rfl, rfl⟩
      rw [e1.1, e1.2]
      have HS := Lib.hid hS
      have h8' : (8 : Int) < ((l.length : Nat) : Int) := by omega
      clear hS hs e1 hok h1 h8
      go_enter Tryz.func54, Tryz.ntmps54
      go_wp2_with fail
      refine HS.out.mono ?_
      rintro e x1 ⟨rfl, k, rfl⟩
      go_wp2
      go_ret2
      exact ⟨rfl, Below_drewNa (Below.refl _ _) k⟩
/-- The unsigned number behind i bytes. -/
def uvi (l : List UInt8) (i : Nat) : Nat := num (l.take i) % 18446744073709551616
theorem uvi_step (l : List UInt8) (i : Nat) (h : i < l.length) : uvi l (i + 1) = (uvi l i * 256 + byt l i) % 18446744073709551616 := by
  unfold uvi; rw [num_take l i h]; omega
theorem bits_shl_orU (x b : Nat) (hb : b < 256) : bits .or .u64 (((x : Int) * 256) % 18446744073709551616) b = (((x * 256 + b) % 18446744073709551616 : Nat) : Int) := by
  have h1 : (((x : Int) * 256) % 18446744073709551616) = ((2 ^ 8 * (x % 72057594037927936) : Nat) : Int) := by omega
  have h := u64_or_nat (2 ^ 8 * (x % 72057594037927936)) b (by omega) (by omega)
  rw [h1, h, ← Nat.two_pow_add_eq_or_of_lt (by omega)]
  omega
def uuE (l : List UInt8) : Nat := if uOk l then 0 else 50
def uuV (l : List UInt8) : Int := if uOk l then uv l else 0
theorem uOk_no {l : List UInt8} (h : isSh l = false) : uOk l = false := by
  have h1 := nOk_no h
  unfold uOk
  rw [h1, Bool.false_and, Bool.or_false]
  by_cases h9 : l.length = 9
  · rw [isSh_step (by omega)] at h
    have : same9 l = true := by simpa using h
    unfold same9 at this
    by_cases hb : byt l 0 = 0
    · rw [hb] at this ⊢
      have : byt l 1 < 128 := by simpa using this
      rw [decide_eq_false (by omega)]; simp
    · have : (byt l 0 == 0) = false := by rw [beq_eq_false_iff_ne]; exact hb
      rw [this]; simp
  · have : (l.length == 9) = false := by rw [beq_eq_false_iff_ne]; exact h9
    rw [this]; rfl
/-- What is looked at, one after the other. -/
theorem uOk_ways {l : List UInt8} (h : isSh l = true) :
    (uOk l = false ∧ 9 < l.length) ∨ (uOk l = false ∧ l.length ≤ 9 ∧ 128 ≤ byt l 0) ∨ (uOk l = false ∧ l.length = 9 ∧ byt l 0 < 128 ∧ byt l 0 ≠ 0) ∨
    (uOk l = true ∧ l.length ≤ 9 ∧ byt l 0 < 128 ∧ (l.length ≠ 9 ∨ byt l 0 = 0) ∧ uv l = (uvi l l.length : Nat)) := by
  obtain ⟨hok, h1⟩ := nOk_yes h
  by_cases hl : 9 < l.length
  · left
    refine ⟨?_, hl⟩
    unfold uOk
    rw [hok, decide_eq_false (by omega : ¬ l.length ≤ 8), show (l.length == 9) = false by rw [beq_eq_false_iff_ne]; omega]; rfl
  · right
    by_cases h9 : l.length = 9
    · have hn : nOk l = false := by rw [hok]; simp; omega
      by_cases hb : byt l 0 = 0
      · right; right
        rw [isSh_step (by omega)] at h
        have hs : same9 l = false := by simpa using h
        have hb1 : 128 ≤ byt l 1 := by
          unfold same9 at hs
          rw [hb] at hs
          have : ¬ byt l 1 < 128 := by simpa using hs
          omega
        refine ⟨by unfold uOk; rw [h9, hb, decide_eq_true hb1]; rfl, by omega, by omega, .inr hb, ?_⟩
        unfold uv uvi
        rw [if_pos h9, List.take_length]
        match l, h9, hb with
        | a :: r, h9, hb =>
          have hr : r.length = 8 := by simpa using h9
          have ha : a.toNat = 0 := by simpa [byt] using hb
          have hn := num_lt r
          rw [hr] at hn
          rw [num_cons, ha]
          show ((num r : Nat) : Int) = _
          omega
      · have hu : uOk l = false := by
          unfold uOk
          rw [hn, h9, show (byt l 0 == 0) = false by rw [beq_eq_false_iff_ne]; exact hb]; rfl
        by_cases h128 : 128 ≤ byt l 0
        · left; exact ⟨hu, by omega, h128⟩
        · right; left; exact ⟨hu, h9, by omega, hb⟩
    · have h8 : l.length ≤ 8 := by omega
      rw [decide_eq_true h8] at hok
      obtain ⟨r1, r2, r3⟩ := nv_range l h1 h8
      by_cases h128 : 128 ≤ byt l 0
      · left
        refine ⟨?_, by omega, h128⟩
        unfold uOk
        rw [hok, decide_eq_false (by omega : ¬ 0 ≤ nv l), show (l.length == 9) = false by rw [beq_eq_false_iff_ne]; omega]; rfl
      · right; right
        refine ⟨?_, by omega, by omega, .inl h9, ?_⟩
        · unfold uOk
          rw [hok, decide_eq_true (r3.2 (by omega))]; simp
        · have hn := num_lt l
          have hm : (256 : Nat) ^ l.length ≤ 256 ^ 8 := Nat.pow_le_pow_right (by omega) h8
          unfold uv uvi nv
          rw [if_neg h9, List.take_length, if_pos (by omega)]
          omega
def UuRel (l : List UInt8) (vn vi : Value) : Prop := ∃ i : Nat, i ≤ l.length ∧ vn = .int .u64 (uvi l i : Nat) ∧ vi = .int .i64 i
set_option maxRecDepth 100000 in
theorem unsigned_walk (l : List UInt8) (hl : l.length ≤ 140737488351232) (w : World) :
    Calls Tryz.prog 121 #[.string (bs l)] w fun e w' => e = .returned (.tuple #[.int .u64 (uuV l), .int .i64 (uuE l : Nat)]) ∧ Below w.heap.size w w' := by
  have hS := isShort_walk l hl w
  cases hs : isSh l
  · have e1 : uuV l = 0 ∧ uuE l = 50 := by unfold uuV uuE; rw [uOk_no hs]; exact ⟨rfl, rfl⟩
    rw [e1.1, e1.2]
    rw [hs] at hS
    have HS := Lib.hid hS
    clear hS hs e1
    go_enter Tryz.func121, Tryz.ntmps121
    go_wp2_with fail
    refine HS.out.mono ?_
    rintro e x1 ⟨rfl, k, rfl⟩
    go_wp2
    go_ret2
    exact ⟨rfl, Below_drewNa (Below.refl _ _) k⟩
  · rw [hs] at hS
    have HS := Lib.hid hS
    have h1 := (nOk_yes hs).2
    have h1' : (1 : Int) ≤ ((l.length : Nat) : Int) := by omega
    have hb := and128 (byt l 0) (byt_lt l 0)
    rcases uOk_ways hs with ⟨hu, hc⟩ | ⟨hu, hc, hc2⟩ | ⟨hu, hc, hc2, hc3⟩ | ⟨hu, hc, hc2, hc3, hv⟩
    · have e1 : uuV l = 0 ∧ uuE l = 50 := by unfold uuV uuE; rw [hu]; exact ⟨rfl, rfl⟩
      rw [e1.1, e1.2]
      have hc' : (9 : Int) < ((l.length : Nat) : Int) := by omega
      clear hS hs e1 hu hc hb h1
      go_enter Tryz.func121, Tryz.ntmps121
      go_wp2_with fail
      refine HS.out.mono ?_
      rintro e x1 ⟨rfl, k, rfl⟩
      go_wp2
      go_ret2
      exact ⟨rfl, Below_drewNa (Below.refl _ _) k⟩
    · have e1 : uuV l = 0 ∧ uuE l = 50 := by unfold uuV uuE; rw [hu]; exact ⟨rfl, rfl⟩
      rw [e1.1, e1.2]
      have hc' : ((l.length : Nat) : Int) ≤ 9 := by omega
      rw [decide_eq_true hc2] at hb
      clear hS hs e1 hu hc hc2 h1
      go_enter Tryz.func121, Tryz.ntmps121
      go_wp2_with fail
      refine HS.out.mono ?_
      rintro e x1 ⟨rfl, k, rfl⟩
      go_wp2
      go_ret2
      exact ⟨rfl, Below_drewNa (Below.refl _ _) k⟩
    · have e1 : uuV l = 0 ∧ uuE l = 50 := by unfold uuV uuE; rw [hu]; exact ⟨rfl, rfl⟩
      rw [e1.1, e1.2]
      have hc' : ((l.length : Nat) : Int) = 9 := by omega
      rw [decide_eq_false (by omega)] at hb
      have hn0 : (((byt l 0 : Nat) : Int) != 0) = true := by rw [bne_iff_ne]; omega
      clear hS hs e1 hu hc hc2 hc3 h1 h1' hl
      go_enter Tryz.func121, Tryz.ntmps121
      go_wp2_with fail
      refine HS.out.mono ?_
      rintro e x1 ⟨rfl, k, rfl⟩
      go_wp2
      go_ret2
      exact ⟨rfl, Below_drewNa (Below.refl _ _) k⟩
    · have e1 : uuV l = uv l ∧ uuE l = 0 := by unfold uuV uuE; rw [hu]; exact ⟨rfl, rfl⟩
      rw [e1.1, e1.2, hv]
      have hc' : ((l.length : Nat) : Int) ≤ 9 := by omega
      rw [decide_eq_false (by omega)] at hb
      have HT := Lib.hid (fun i h => uvi_step l i h)
      have hcs : (((((l.length : Nat) : Int) == 9) = false) ∨ (((((l.length : Nat) : Int) == 9) = true) ∧ (((byt l 0 : Nat) : Int) != 0) = false)) := by
        by_cases h9 : l.length = 9
        · right; exact ⟨by rw [beq_iff_eq]; omega, by rw [bne_eq_false_iff_eq]; omega⟩
        · left; rw [beq_eq_false_iff_ne]; omega
      clear hS hs e1 hu hc hc2 hc3 h1 hv
      rcases hcs with hq | ⟨hq, hq2⟩
      all_goals
        go_enter Tryz.func121, Tryz.ntmps121
        go_wp2_with fail
        refine HS.out.mono ?_
        rintro e x1 ⟨rfl, k, rfl⟩
        have hb0 : Below w.heap.size w (w.drewN k) := Below_drewNa (Below.refl _ _) k
        generalize w.drewN k = w1 at *
        have hcv := Lib.run_convert_string_bytes (P := Tryz.prog) w1 9 77 5 (bs l) Tryz.underlying9 Tryz.underlying77 Tryz.underlying5
        go_wp2
        have kpb : Below w.heap.size w (Lib.bytesWorld w1 5 (bs l)) := ((Kp.ofBelow hb0 []).bytes 5 (bs l)).below (Nat.le_refl _) (by simp)
        have hcb := bytes_cell w1 5 l
        generalize Lib.bytesWorld w1 5 (bs l) = wb at *
        have HC := Lib.hid hcb
        clear hcb hcv hb
        go_loop [4, 32] (fun vn vi => UuRel l vn vi) (fun vn vi => l.length - (intOf vi).toNat)
        case atStart => exact ⟨0, Nat.zero_le _, by simp [uvi, num], rfl⟩
        case round =>
          obtain ⟨i, hi, rfl, rfl⟩ := hrel
          by_cases hlt : i < l.length
          · have hcell := HC.out i hlt
            have hnt := HT.out i hlt
            have hbb := byt_lt l i
            have hbo := bits_shl_orU (uvi l i) (byt l i) hbb
            rw [← hnt] at hbo
            generalize uvi l i = x at *
            clear hnt
            have HB := Lib.hid hbo
            clear hbo
            go_wp2
            go_round
            case measure => simp [intOf]; omega
            case rel => exact ⟨i + 1, by omega, by rw [← HB.out]; simp [IntKind.wrap, IntKind.signed, IntKind.bits], by simp⟩
          · obtain rfl : i = l.length := by omega
            clear hlt hi
            go_wp2
            go_ret2
            exact ⟨rfl, kpb⟩
end Go.Proofs.YtlpknkfidcojeaaGreatDoor
