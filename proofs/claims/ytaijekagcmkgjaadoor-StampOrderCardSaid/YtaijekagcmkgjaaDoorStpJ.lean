/- stamp's printing, walked. -/
import Derived.Test.YtaijekagcmkgjaaDoorStpC
import Derived.Test.YtaijekagcmkgjaaDoorStpU
import Derived.Test.YtaijekagcmkgjaaDoorShelf
import Derived.Test.YtaijekagcmkgjaaDoorTab
import Derived.Lib.AppendIntMem
namespace Go.Proofs.YtaijekagcmkgjaaDoor
open Go.ChangeShapes Go.WideShapes Go.ChangeAt Go.RowKit K S3
set_option linter.unusedVariables false

/-- The tables that printing reads. -/
def Pows (w : World) : Prop := Lib.TabIs Tryd.prog w "internal/strconv.uint64pow10" .u64 Lib.pow10Tab
theorem Pows.below {w w' : World} (h : Pows w) (k : Below w.heap.size w w') : Pows w' := tab_below h k
theorem itoa_walk (n : Nat) (hn : n ≤ 9223372036854775807) (w : World) (h : Pows w) :
    Calls Tryd.prog 41 #[.int .i64 n] w fun e w' => e = .returned (.string (bs (Lib.decDigits n))) ∧ Below w.heap.size w w' := by
  refine (Tryd.strconv_Itoa n (by omega) (by omega) w h).mono ?_
  rintro e w' ⟨rfl, k, os, rfl⟩
  have : Lib.itoa (n : Int) = Lib.decDigits n := by unfold Lib.itoa; rw [if_neg (by omega), Int.toNat_natCast]
  rw [this]
  exact ⟨rfl, Lib.below_grow _ _ (Nat.le_refl _) _ _⟩
theorem repeat_walk (c : Nat) (hc : c ≤ 1000) (w : World) :
    Calls Tryd.prog 57 #[.string (bs [48]), .int .i64 c] w fun e w' => e = .returned (.string (bs (List.replicate c 48))) ∧ Below w.heap.size w w' := by
  refine (Tryd.strings_Repeat (bs [48]) c w (by omega) (by rw [bs_size]; simp; omega)).mono ?_
  rintro e w' ⟨rfl, hb⟩
  rw [bs_toList, repeat_one]
  exact ⟨rfl, hb⟩
theorem trim_walk (l : List UInt8) (hl : l.length ≤ 140737488351232) (w : World) :
    Calls Tryd.prog 58 #[.string (bs l), .string (bs [48])] w fun e w' => e = .returned (.string (bs (Lib.trimRightB l 48))) ∧ w = w' := by
  have h := Tryd.strings_TrimRight_one (bs l) 48 (by decide) w (by rw [bs_size]; omega)
  rw [bs_toList] at h
  exact h.mono fun _ _ ⟨a, b⟩ => ⟨a, b.symm⟩

theorem digits_walk (k n : Nat) (kk : Int) (hkk : kk = ((k + 1 : Nat) : Int)) (hk : k ≤ 8) (hn : n < 10 ^ (k + 1)) (w : World) (h : Pows w) :
    Calls Tryd.prog 51 #[.int .i64 n, .int .i64 kk] w fun e w' => e = .returned (.string (bs (dg (k + 1) n))) ∧ Below w.heap.size w w' := by
  subst hkk
  have hn9 : n < 1000000000 := by
    have : 10 ^ (k + 1) ≤ 10 ^ 9 := Nat.pow_le_pow_right (by omega) (by omega)
    omega
  have hp := pad_dec k n hn
  have hI := itoa_walk n (by omega) w h
  obtain ⟨hlen, hpe⟩ := hp
  have hR := fun w1 => repeat_walk (k + 1 - (Lib.decDigits n).length) (by omega) w1
  have hmax : max (0 : Int) ((k : Int) + 1 - ((Lib.decDigits n).length : Int)) = ((k + 1 - (Lib.decDigits n).length : Nat) : Int) := by omega
  rw [← hpe]
  generalize Lib.decDigits n = D at *
  have HR := Lib.hid hR
  generalize hc : k + 1 - D.length = c at *
  have hc0 : (0 : Int) ≤ (k : Int) + 1 - (D.length : Int) := by omega
  have hce : (k : Int) + 1 - (D.length : Int) = (c : Int) := by omega
  clear hR hmax hpe hc hn
  go_enter Tryd.func51, Tryd.ntmps51
  go_wp2_with fail
  refine hI.mono ?_
  rintro e w1 ⟨rfl, b1⟩
  go_wp2_with fail
  refine (HR.out w1).mono ?_
  rintro e w2 ⟨rfl, b2⟩
  go_wp2
  go_ret
  exact ⟨rfl, b1.trans (b2.mono b1.size)⟩

theorem hm_walk (x : Nat) (hx : x < 1440) (w : World) (h : Pows w) :
    Calls Tryd.prog 39 #[.int .i64 x] w fun e w' => e = .returned (.string (bs (hmt x))) ∧ Below w.heap.size w w' := by
  have hA := digits_walk 1 (x / 60) 2 rfl (by omega) (by omega) w h
  have hB := fun w1 h1 => digits_walk 1 (x % 60) 2 rfl (by omega) (by omega) w1 h1
  have e1 : ((x / 60 : Nat) : Int) = (x : Int) / 60 := by omega
  have e2 : ((x % 60 : Nat) : Int) = (x : Int) % 60 := by omega
  rw [e1] at hA
  rw [e2] at hB
  unfold hmt
  have l1 : (dg 2 (x / 60)).length ≤ 2 := by rw [dg_len]; omega
  have l2 : (dg 2 (x % 60)).length ≤ 2 := by rw [dg_len]; omega
  generalize dg 2 (x / 60) = A at *
  generalize dg 2 (x % 60) = B at *
  have HB := Lib.hid hB
  clear hB e1 e2
  go_enter Tryd.func39, Tryd.ntmps39
  go_wp2_with fail
  refine hA.mono ?_
  rintro e w1 ⟨rfl, b1⟩
  go_wp2_with fail
  refine (HB.out w1 (h.below b1)).mono ?_
  rintro e w2 ⟨rfl, b2⟩
  go_wp2
  go_ret
  refine ⟨?_, b1.trans (b2.mono b1.size)⟩
  refine one (congrArg Value.string ?_)
  show bs A ++ bs [58] ++ bs B = _
  rw [bs_append, bs_append]; simp
theorem fraction_walk (n : Nat) (hn : n < 1000000000) (w : World) (h : Pows w) :
    Calls Tryd.prog 52 #[.int .i64 n] w fun e w' => e = .returned (.string (bs (frc n))) ∧ Below w.heap.size w w' := by
  by_cases h0 : n = 0
  · subst h0
    go_enter Tryd.func52, Tryd.ntmps52
    go_wp2
    go_ret
    exact ⟨rfl, Below.refl _ _⟩
  · have e1 : frc n = 46 :: Lib.trimRightB (dg 9 n) 48 := by unfold frc; rw [if_neg h0]
    rw [e1]
    have hA := digits_walk 8 n 9 rfl (by omega) hn w h
    have hB := fun w1 => trim_walk (dg 9 n) (by rw [dg_len]; omega) w1
    have l1 : (Lib.trimRightB (dg 9 n) 48).length ≤ 9 := by have := trim_len (dg 9 n) 48; rw [dg_len] at this; exact this
    generalize dg 9 n = D at *
    generalize Lib.trimRightB D 48 = E at *
    have HB := Lib.hid hB
    have hz : (((n : Nat) : Int) == 0) = false := by rw [beq_eq_false_iff_ne]; omega
    clear hB e1 h0
    go_enter Tryd.func52, Tryd.ntmps52
    go_wp2_with fail
    refine hA.mono ?_
    rintro e w1 ⟨rfl, b1⟩
    go_wp2_with fail
    refine (HB.out w1).mono ?_
    rintro e w2 ⟨rfl, rfl⟩
    go_wp2
    go_ret
    exact ⟨rfl, b1⟩

/-! ### The date -/
def YRel (y : Nat) (v2 : Value) : Prop := ∃ k : Nat, 1970 ≤ k ∧ k ≤ y ∧ v2 = .int .i64 k
def MRel2 (m : Nat) (v3 : Value) : Prop := ∃ k : Nat, 1 ≤ k ∧ k ≤ m ∧ v3 = .int .i64 k
theorem year_start (n y m d : Nat) (h : IsD n y m d) : 1970 + n / 366 ≤ y := by
  rcases Nat.lt_or_ge y (1970 + n / 366) with h1 | h1
  · exfalso
    have h2 := h.hi
    have h3 := ya_mono ((y : Int) + 1) ((1970 + n / 366 : Nat) : Int) (by omega) (by omega)
    have h4 : ya ((1970 + n / 366 : Nat) : Int) ≤ n := by unfold ya lf; omega
    omega
  · exact h1
set_option maxHeartbeats 1000000 in
theorem date_walk (n y m d : Nat) (hd : IsD n y m d) (hn : n < 27028) (w : World) (hM : Months w) :
    Calls Tryd.prog 50 #[.int .i64 n] w fun e w' => e = .returned (.tuple #[.int .i64 y, .int .i64 m, .int .i64 d]) ∧ w = w' := by
  have hst := year_start n y m d hd
  have hy1 := hd.y1 hn
  have hY := fun (k : Int) (a : 0 ≤ k) (b : k ≤ 1000000) w1 => yearsAhead_walk k a b w1
  have hD := fun (k : Nat) (kk : Int) (e : kk = (k : Nat)) (a : 1 ≤ k) (b : k ≤ 13) => daysAhead_walk y k kk e (by omega) a b w hM
  have hlo := hd.lo; have hhi := hd.hi; have hm1 := hd.m1; have hm2 := hd.m2; have hdlo := hd.dlo; have hdhi := hd.dhi; have hdd := hd.dd; have hy0 := hd.y0
  have HY := Lib.hid hY; have HD := Lib.hid hD
  clear hY hD hd
  have HDD := Lib.hid hdd; clear hdd
  go_enter Tryd.func50, Tryd.ntmps50
  go_wp2
  go_loop [2] (fun v2 => YRel y v2) (fun v2 => y - (intOf v2).toNat)
  case atStart => exact ⟨1970 + n / 366, by omega, hst, by simp⟩
  case round =>
    obtain ⟨k, k0, k1, rfl⟩ := hrel
    clear hst
    have hA := HY.out ((k : Int) + 1) (by omega) (by omega) w
    by_cases hlt : k < y
    · have hle : ya ((k : Int) + 1) ≤ n := by
        have := ya_mono ((k : Int) + 1) y (by omega) (by omega)
        omega
      generalize ya ((k : Int) + 1) = q at *
      go_wp2_with fail
      refine hA.mono ?_
      rintro e w1 ⟨rfl, rfl⟩
      go_wp2
      go_round
      case measure => simp [intOf]; omega
      case rel => exact ⟨k + 1, by omega, by omega, by simp⟩
    · obtain rfl : k = y := by omega
      have hB := HY.out (k : Int) (by omega) (by omega) w
      have hyb : 0 ≤ ya (k : Int) ∧ ya (k : Int) ≤ 27028 := by
        have := ya_mono 1970 k (by omega) (by omega)
        have h3 : ya 1970 = 0 := by decide
        omega
      generalize ya ((k : Int) + 1) = q at *
      generalize ya (k : Int) = Y at *
      obtain ⟨y3, y4⟩ := hyb
      go_wp2_with fail
      refine hA.mono ?_
      rintro e w1 ⟨rfl, rfl⟩
      go_wp2_with fail
      refine hB.mono ?_
      rintro e w1 ⟨rfl, rfl⟩
      clear hA hB HY
      go_wp2
      go_loop [3] (fun v3 => MRel2 m v3) (fun v3 => m - (intOf v3).toNat)
      case atStart => exact ⟨1, by omega, hm1, rfl⟩
      case round =>
        obtain ⟨j, j1, j2, rfl⟩ := hrel
        have hA := HD.out (j + 1) ((j : Int) + 1) (by omega) (by omega) (by omega)
        by_cases hlt : j < m
        · have hle : da k (j + 1) ≤ (n : Int) - Y := by
            have := da_mono k (j + 1) (by omega) (m - (j + 1)) (by omega)
            rw [show j + 1 + (m - (j + 1)) = m by omega] at this
            omega
          generalize da k (j + 1) = q2 at *
          go_wp2_with fail
          refine hA.mono ?_
          rintro e w1 ⟨rfl, rfl⟩
          go_wp2
          go_round
          case measure => simp [intOf]; omega
          case rel => exact ⟨j + 1, by omega, by omega, by simp⟩
        · obtain rfl : j = m := by omega
          have hB := HD.out j (j : Int) rfl (by omega) (by omega)
          have hdb := da_in k j (by omega) (by omega)
          have hdd := HDD.out
          generalize da k (j + 1) = q2 at *
          generalize da k j = q3 at *
          obtain ⟨db1, db2⟩ := hdb
          go_wp2_with fail
          refine hA.mono ?_
          rintro e w1 ⟨rfl, rfl⟩
          go_wp2_with fail
          refine hB.mono ?_
          rintro e w1 ⟨rfl, rfl⟩
          go_wp2
          go_ret3
          exact ⟨tup3 rfl rfl (congrArg (Value.int .i64) hdd.symm), rfl⟩

/-! ### The text -/
theorem clk_min (t : Nat) : t % 86400000000000 / 60000000000 = t / 1000000000 / 60 % 1440 := by omega
set_option maxRecDepth 100000 in
set_option maxHeartbeats 2000000 in
theorem dateAndClock_walk (t y m d : Nat) (ht : t ≤ 2305950000000000000) (hd : IsD (t / 86400000000000) y m d) (w : World) (hM : Months w) (hP : Pows w) :
    Calls Tryd.prog 37 #[.int .i64 t] w fun e w' => e = .returned (.string (bs (txt y m d (t / 1000000000) (t % 1000000000)))) ∧ Below w.heap.size w w' := by
  have hy := hd.y1 (by omega)
  have hd1 := hd.d1
  have hm2 := hd.m2
  have hA := date_walk (t / 86400000000000) y m d hd (by omega) w hM
  have hB := fun w1 h => digits_walk 3 y 4 rfl (by omega) (by omega) w1 h
  have hC := fun w1 h => digits_walk 1 m 2 rfl (by omega) (by omega) w1 h
  have hD := fun w1 h => digits_walk 1 d 2 rfl (by omega) (by omega) w1 h
  have hE := fun w1 h => hm_walk (t % 86400000000000 / 60000000000) (by omega) w1 h
  have hF := fun w1 h => digits_walk 1 (t / 1000000000 % 60) 2 rfl (by omega) (by omega) w1 h
  have hG := fun w1 h => fraction_walk (t % 1000000000) (by omega) w1 h
  have e1 : ((t / 86400000000000 : Nat) : Int) = (t : Int) / 86400000000000 := by omega
  have e2 : ((t % 86400000000000 / 60000000000 : Nat) : Int) = (t : Int) % 86400000000000 / 60000000000 := by omega
  have e3 : ((t / 1000000000 % 60 : Nat) : Int) = (t : Int) / 1000000000 % 60 := by omega
  have e4 : ((t % 1000000000 : Nat) : Int) = (t : Int) % 1000000000 := by omega
  rw [e1] at hA
  rw [e2] at hE
  rw [e3] at hF
  rw [e4] at hG
  have l1 : (dg 4 y).length ≤ 4 := by rw [dg_len]; omega
  have l2 : (dg 2 m).length ≤ 2 := by rw [dg_len]; omega
  have l3 : (dg 2 d).length ≤ 2 := by rw [dg_len]; omega
  have l4 : (hmt (t % 86400000000000 / 60000000000)).length ≤ 5 := by rw [hmt_len]; omega
  have l5 : (dg 2 (t / 1000000000 % 60)).length ≤ 2 := by rw [dg_len]; omega
  have l6 := frc_len (t % 1000000000)
  have HX : Hid (txt y m d (t / 1000000000) (t % 1000000000) = dg 4 y ++ (45 :: (dg 2 m ++ (45 :: (dg 2 d ++ (84 :: (hmt (t % 86400000000000 / 60000000000) ++ (58 :: (dg 2 (t / 1000000000 % 60) ++ frc (t % 1000000000)))))))))) := by
    apply Lib.hid
    rw [clk_min]; simp [txt, dtx, clk]
  change ∀ w1, Pows w1 → Calls _ _ _ w1 fun e w' => e = .returned (.string (bs (dg 4 y))) ∧ Below w1.heap.size w1 w' at hB
  change ∀ w1, Pows w1 → Calls _ _ _ w1 fun e w' => e = .returned (.string (bs (dg 2 m))) ∧ Below w1.heap.size w1 w' at hC
  change ∀ w1, Pows w1 → Calls _ _ _ w1 fun e w' => e = .returned (.string (bs (dg 2 d))) ∧ Below w1.heap.size w1 w' at hD
  change ∀ w1, Pows w1 → Calls _ _ _ w1 fun e w' => e = .returned (.string (bs (dg 2 (t / 1000000000 % 60)))) ∧ Below w1.heap.size w1 w' at hF
  generalize txt y m d (t / 1000000000) (t % 1000000000) = X at *
  generalize dg 4 y = X1 at *
  generalize dg 2 m = X2 at *
  generalize dg 2 d = X3 at *
  generalize hmt (t % 86400000000000 / 60000000000) = X4 at *
  generalize dg 2 (t / 1000000000 % 60) = X5 at *
  generalize frc (t % 1000000000) = X6 at *
  have HB := Lib.hid hB; have HC := Lib.hid hC; have HD := Lib.hid hD; have HE := Lib.hid hE; have HF := Lib.hid hF; have HG := Lib.hid hG
  clear hB hC hD hE hF hG e1 e2 e3 e4 hd hd1 hm2 hy
  go_enter Tryd.func37, Tryd.ntmps37
  go_wp2_with fail
  refine hA.mono ?_
  rintro e w1 ⟨rfl, rfl⟩
  clear hA
  go_wp2_with fail
  refine (HB.out w hP).mono ?_
  rintro e w1 ⟨rfl, b1⟩
  go_wp2_with fail
  refine (HC.out w1 (hP.below b1)).mono ?_
  rintro e w2 ⟨rfl, c⟩
  replace b1 := b1.trans (c.mono b1.size); clear c
  go_wp2_with fail
  refine (HD.out w2 (hP.below b1)).mono ?_
  rintro e w3 ⟨rfl, c⟩
  replace b1 := b1.trans (c.mono b1.size); clear c
  go_wp2_with fail
  refine (HE.out w3 (hP.below b1)).mono ?_
  rintro e w4 ⟨rfl, c⟩
  replace b1 := b1.trans (c.mono b1.size); clear c
  go_wp2_with fail
  refine (HF.out w4 (hP.below b1)).mono ?_
  rintro e w5 ⟨rfl, c⟩
  replace b1 := b1.trans (c.mono b1.size); clear c
  go_wp2_with fail
  refine (HG.out w5 (hP.below b1)).mono ?_
  rintro e w6 ⟨rfl, c⟩
  replace b1 := b1.trans (c.mono b1.size); clear c
  clear HB HC HD HE HF HG
  go_wp2
  go_ret
  refine ⟨one (congrArg Value.string ?_), b1⟩
  rw [HX.out]
  show bs X1 ++ bs [45] ++ bs X2 ++ bs [45] ++ bs X3 ++ bs [84] ++ bs X4 ++ bs [58] ++ bs X5 ++ bs X6 = _
  simp only [bs_append]
  simp
/-- What Print answers. -/
def isT (t : Int) : Bool := decide (0 ≤ t) && decide (t ≤ 2305843009213693952)
theorem print_no (t : Int) (h : ¬ (0 ≤ t ∧ t ≤ 2305843009213693952)) (w : World) :
    Calls Tryd.prog 13 #[.int .i64 t] w fun e w' => e = .returned (.tuple #[.string (bs []), .int .i64 1]) ∧ w = w' := by
  have hT := fun w1 => isTime_walk t false (by
    by_cases h0 : 0 ≤ t
    · rw [decide_eq_false (by omega : ¬ t ≤ 2305843009213693952)]; simp
    · rw [decide_eq_false h0]; rfl) w1
  have HT := Lib.hid hT; clear hT h
  go_enter Tryd.func13, Tryd.ntmps13
  go_wp2_with fail
  refine (HT.out w).mono ?_
  rintro e w1 ⟨rfl, rfl⟩
  go_wp2
  go_ret2
  exact ⟨rfl, rfl⟩
theorem print_yes (t y m d : Nat) (ht : t ≤ 2305843009213693952) (hd : IsD (t / 86400000000000) y m d) (w : World) (hM : Months w) (hP : Pows w) :
    Calls Tryd.prog 13 #[.int .i64 t] w fun e w' => e = .returned (.tuple #[.string (bs (txt y m d (t / 1000000000) (t % 1000000000) ++ [90])), .int .i64 0]) ∧ Below w.heap.size w w' := by
  have hT := fun w1 => isTime_walk (t : Int) true (by rw [decide_eq_true (by omega : (0 : Int) ≤ t), decide_eq_true (by omega : (t : Int) ≤ 2305843009213693952)]; rfl) w1
  have hA := dateAndClock_walk t y m d (by omega) hd w hM hP
  have hl := txt_len y m d (t / 1000000000) (t % 1000000000)
  have hf := frc_len (t % 1000000000)
  have hl2 : (txt y m d (t / 1000000000) (t % 1000000000)).length ≤ 29 := by omega
  generalize txt y m d (t / 1000000000) (t % 1000000000) = X at *
  have HT := Lib.hid hT; clear hT hl hf hd
  go_enter Tryd.func13, Tryd.ntmps13
  go_wp2_with fail
  refine (HT.out w).mono ?_
  rintro e w1 ⟨rfl, rfl⟩
  go_wp2_with fail
  refine hA.mono ?_
  rintro e w1 ⟨rfl, b1⟩
  go_wp2
  go_ret2
  refine ⟨tup2 (congrArg Value.string ?_) rfl, b1⟩
  show bs X ++ bs [90] = _
  rw [bs_append]

/-- What a clock that goes ahead shows behind the time. -/
def sgn (z : Int) : List UInt8 := (if z < 0 then 45 else 43) :: hmt z.natAbs
theorem sgn_len (z : Int) : (sgn z).length = 6 := by simp [sgn, hmt_len]
theorem shifted_no (t z : Int) (h0 : -9223372036854775808 ≤ t) (h1 : t ≤ 9223372036854775807) (hz0 : -9223372036854775808 ≤ z) (hz1 : z ≤ 9223372036854775807)
    (h : ¬ (0 ≤ t ∧ t ≤ 2305843009213693952) ∨ z < -1439 ∨ 1439 < z ∨ t + z * 60000000000 < 0) (w : World) :
    Calls Tryd.prog 15 #[.int .i64 t, .int .i64 z] w fun e w' => e = .returned (.tuple #[.string (bs []), .int .i64 1]) ∧ w = w' := by
  by_cases hT : 0 ≤ t ∧ t ≤ 2305843009213693952
  · have hT2 := fun w1 => isTime_walk t true (by rw [decide_eq_true hT.1, decide_eq_true hT.2]; rfl) w1
    have HT := Lib.hid hT2
    obtain ⟨ht0, ht1⟩ := hT
    have h2 : z < -1439 ∨ (-1439 ≤ z ∧ 1439 < z) ∨ (-1439 ≤ z ∧ z ≤ 1439 ∧ t + z * 60000000000 < 0) := by omega
    clear hT2 h
    rcases h2 with a | ⟨a, b⟩ | ⟨a, b, c⟩
    all_goals
      go_enter Tryd.func15, Tryd.ntmps15
      go_wp2_with fail
      refine (HT.out w).mono ?_
      rintro e w1 ⟨rfl, rfl⟩
      go_wp2
      go_ret2
      exact ⟨rfl, rfl⟩
  · have hT2 := fun w1 => isTime_walk t false (by
      by_cases h0 : 0 ≤ t
      · rw [decide_eq_false (by omega : ¬ t ≤ 2305843009213693952)]; simp
      · rw [decide_eq_false h0]; rfl) w1
    have HT := Lib.hid hT2
    clear hT2 h hT
    go_enter Tryd.func15, Tryd.ntmps15
    go_wp2_with fail
    refine (HT.out w).mono ?_
    rintro e w1 ⟨rfl, rfl⟩
    go_wp2
    go_ret2
    exact ⟨rfl, rfl⟩
set_option maxHeartbeats 1000000 in
theorem shifted_yes (t : Nat) (z : Int) (u y m d : Nat) (ht : t ≤ 2305843009213693952) (z0 : -1439 ≤ z) (z1 : z ≤ 1439) (hu : (t : Int) + z * 60000000000 = (u : Int)) (hd : IsD (u / 86400000000000) y m d) (w : World) (hM : Months w) (hP : Pows w) :
    Calls Tryd.prog 15 #[.int .i64 t, .int .i64 z] w fun e w' => e = .returned (.tuple #[.string (bs (txt y m d (u / 1000000000) (u % 1000000000) ++ sgn z)), .int .i64 0]) ∧ Below w.heap.size w w' := by
  have hT := fun w1 => isTime_walk (t : Int) true (by rw [decide_eq_true (by omega : (0 : Int) ≤ t), decide_eq_true (by omega : (t : Int) ≤ 2305843009213693952)]; rfl) w1
  have hA := dateAndClock_walk u y m d (by omega) hd w hM hP
  have hB := fun w1 h => hm_walk z.natAbs (by omega) w1 h
  have hl := txt_len y m d (u / 1000000000) (u % 1000000000)
  have hf := frc_len (u % 1000000000)
  have hl2 : (txt y m d (u / 1000000000) (u % 1000000000)).length ≤ 29 := by omega
  have hl3 : (hmt z.natAbs).length ≤ 5 := by rw [hmt_len]; omega
  have hu0 : 0 ≤ (t : Int) + z * 60000000000 := by omega
  generalize txt y m d (u / 1000000000) (u % 1000000000) = X at *
  rw [← hu] at hA
  have HT := Lib.hid hT
  by_cases hz : z < 0
  · have e1 : ((z.natAbs : Nat) : Int) = -z := by omega
    have e2 : sgn z = 45 :: hmt z.natAbs := by unfold sgn; rw [if_pos hz]
    rw [e2]
    rw [e1] at hB
    generalize hmt z.natAbs = Y at *
    have HB := Lib.hid hB
    clear hT hl hf hd hB e1 e2 hu
    go_enter Tryd.func15, Tryd.ntmps15
    go_wp2_with fail
    refine (HT.out w).mono ?_
    rintro e w1 ⟨rfl, rfl⟩
    go_wp2_with fail
    refine hA.mono ?_
    rintro e w1 ⟨rfl, b1⟩
    go_wp2_with fail
    refine (HB.out w1 (hP.below b1)).mono ?_
    rintro e w2 ⟨rfl, c⟩
    replace b1 := b1.trans (c.mono b1.size); clear c
    go_wp2
    go_ret2
    refine ⟨tup2 (congrArg Value.string ?_) rfl, b1⟩
    show bs X ++ bs [45] ++ bs Y = _
    rw [bs_append, bs_append]; simp
  · have e1 : ((z.natAbs : Nat) : Int) = z := by omega
    have e2 : sgn z = 43 :: hmt z.natAbs := by unfold sgn; rw [if_neg hz]
    rw [e2]
    rw [e1] at hB
    generalize hmt z.natAbs = Y at *
    have HB := Lib.hid hB
    have hz' : 0 ≤ z := by omega
    clear hT hl hf hd hB e1 e2 hz hu
    go_enter Tryd.func15, Tryd.ntmps15
    go_wp2_with fail
    refine (HT.out w).mono ?_
    rintro e w1 ⟨rfl, rfl⟩
    go_wp2_with fail
    refine hA.mono ?_
    rintro e w1 ⟨rfl, b1⟩
    go_wp2_with fail
    refine (HB.out w1 (hP.below b1)).mono ?_
    rintro e w2 ⟨rfl, c⟩
    replace b1 := b1.trans (c.mono b1.size); clear c
    go_wp2
    go_ret2
    refine ⟨tup2 (congrArg Value.string ?_) rfl, b1⟩
    show bs X ++ bs [43] ++ bs Y = _
    rw [bs_append, bs_append]; simp
end Go.Proofs.YtaijekagcmkgjaaDoor
