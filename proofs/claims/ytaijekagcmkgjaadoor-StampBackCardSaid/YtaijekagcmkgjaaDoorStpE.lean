/- The document's own reading of stamps, walked: its small functions. -/
import Derived.Test.YtaijekagcmkgjaaDoorStpC
import Derived.Test.YtaijekagcmkgjaaDoorStpR
namespace Go.Proofs.YtaijekagcmkgjaaDoor
open Go.ChangeShapes Go.WideShapes Go.ChangeAt Go.RowKit K S3
set_option linter.unusedVariables false

theorem qleap_walk (y : Nat) (hy : y ≤ 1000000) (w : World) :
    Calls Tryd.prog 48 #[.int .i64 y] w fun e w' => e = .returned (.bool (leap y)) ∧ w = w' := by
  by_cases h2 : y % 400 = 0
  · have a2 : (((y : Nat) : Int) % 400 == 0) = true := by rw [beq_iff_eq]; omega
    rw [leap_3 y (by omega) (by omega) h2]
    clear h2
    go_enter Tryd.func48, Tryd.ntmps48
    go_wp2
    go_ret
    exact ⟨rfl, rfl⟩
  · have a2 : (((y : Nat) : Int) % 400 == 0) = false := by rw [beq_eq_false_iff_ne]; omega
    by_cases h4 : y % 4 = 0
    · have a4 : (((y : Nat) : Int) % 4 == 0) = true := by rw [beq_iff_eq]; omega
      by_cases h1 : y % 100 = 0
      · have a1 : (((y : Nat) : Int) % 100 != 0) = false := by rw [bne_eq_false_iff_eq]; omega
        rw [leap_4 y h4 h1 h2]
        clear h4 h1 h2
        go_enter Tryd.func48, Tryd.ntmps48
        go_wp2
        go_ret
        exact ⟨rfl, rfl⟩
      · have a1 : (((y : Nat) : Int) % 100 != 0) = true := by rw [bne_iff_ne]; omega
        rw [leap_2 y h4 h1]
        clear h4 h1 h2
        go_enter Tryd.func48, Tryd.ntmps48
        go_wp2
        go_ret
        exact ⟨rfl, rfl⟩
    · have a4 : (((y : Nat) : Int) % 4 == 0) = false := by rw [beq_eq_false_iff_ne]; omega
      rw [leap_1 y h4]
      clear h4 h2
      go_enter Tryd.func48, Tryd.ntmps48
      go_wp2
      go_ret
      exact ⟨rfl, rfl⟩
theorem days_walk (y m : Nat) (hy : y ≤ 1000000) (h1 : 1 ≤ m) (h2 : m ≤ 12) (w : World) :
    Calls Tryd.prog 29 #[.int .i64 y, .int .i64 m] w fun e w' => e = .returned (.int .i64 (dim y m)) ∧ w = w' := by
  have hL := qleap_walk y hy w
  have hd : dim y m = if m = 2 then 28 + lp y else if m = 4 ∨ m = 6 ∨ m = 9 ∨ m = 11 then 30 else 31 := by
    have := lp_01 y
    obtain rfl | rfl | rfl | rfl | rfl | rfl | rfl | rfl | rfl | rfl | rfl | rfl : m = 1 ∨ m = 2 ∨ m = 3 ∨ m = 4 ∨ m = 5 ∨ m = 6 ∨ m = 7 ∨ m = 8 ∨ m = 9 ∨ m = 10 ∨ m = 11 ∨ m = 12 := by omega
    all_goals (simp [dim, da, cum]; try omega)
  rw [hd]
  clear hd
  obtain rfl | rfl | rfl | rfl | rfl | rfl | rfl | rfl | rfl | rfl | rfl | rfl : m = 1 ∨ m = 2 ∨ m = 3 ∨ m = 4 ∨ m = 5 ∨ m = 6 ∨ m = 7 ∨ m = 8 ∨ m = 9 ∨ m = 10 ∨ m = 11 ∨ m = 12 := by omega
  case inr.inl =>
    simp only [if_true]
    unfold lp
    cases hk : leap y
    · rw [hk] at hL
      clear hk
      go_enter Tryd.func29, Tryd.ntmps29
      go_wp2_with fail
      refine hL.mono ?_
      rintro e w1 ⟨rfl, rfl⟩
      go_wp2
      go_ret
      exact ⟨rfl, rfl⟩
    · rw [hk] at hL
      clear hk
      go_enter Tryd.func29, Tryd.ntmps29
      go_wp2_with fail
      refine hL.mono ?_
      rintro e w1 ⟨rfl, rfl⟩
      go_wp2
      go_ret
      exact ⟨rfl, rfl⟩
  all_goals
    clear hL
    go_enter Tryd.func29, Tryd.ntmps29
    go_wp2
    go_ret
    exact ⟨rfl, rfl⟩

def PRel (y : Nat) (v3 v4 : Value) : Prop := ∃ i : Nat, 1970 ≤ i ∧ (i ≤ y ∨ i = 1970) ∧ v4 = .int .i64 i ∧ v3 = .int .i64 (ya i)
theorem past_walk (y : Nat) (hy : y ≤ 100000) (w : World) :
    Calls Tryd.prog 32 #[.int .i64 y] w fun e w' => e = .returned (.int .i64 (pst y)) ∧ w = w' := by
  go_enter Tryd.func32, Tryd.ntmps32
  go_wp2
  go_loop [3, 4] (fun v3 v4 => PRel y v3 v4) (fun v3 v4 => (y - (intOf v4).toNat))
  case atStart => exact ⟨1970, by omega, Or.inr rfl, rfl, rfl⟩
  case round =>
    obtain ⟨i, h0, h1, rfl, rfl⟩ := hrel
    have hs := ya_succ i
    have hi := ya_in
    by_cases hlt : i < y
    · have hb : 0 ≤ ya i ∧ ya i ≤ 100000000 := by unfold ya lf; omega
      have hL := qleap_walk i (by omega) w
      unfold lp at hs
      generalize ya i = q at *
      obtain ⟨b1, b2⟩ := hb
      clear hi
      cases hk : leap i
      · rw [hk] at hL hs
        have HS := Lib.hid hs
        clear hk hs
        go_wp2_with fail
        refine hL.mono ?_
        rintro e w1 ⟨rfl, rfl⟩
        go_wp2
        go_round
        case measure => simp [intOf]; omega
        case rel =>
          refine ⟨i + 1, by omega, Or.inl (by omega), by simp, ?_⟩
          have := HS.out
          rw [Int.natCast_add, Int.natCast_one, this]; simp
      · rw [hk] at hL hs
        have HS := Lib.hid hs
        clear hk hs
        go_wp2_with fail
        refine hL.mono ?_
        rintro e w1 ⟨rfl, rfl⟩
        go_wp2
        go_round
        case measure => simp [intOf]; omega
        case rel =>
          refine ⟨i + 1, by omega, Or.inl (by omega), by simp, ?_⟩
          have := HS.out
          rw [Int.natCast_add, Int.natCast_one, this]; simp
    · have hp : pst y = ya i := by
        unfold pst
        by_cases h : 1970 ≤ y
        · rw [if_pos h]; have : i = y := by omega
          rw [this]
        · rw [if_neg h]; have : i = 1970 := by omega
          rw [this]; rfl
      have HP := Lib.hid hp
      clear hp hs hi
      go_wp2
      go_ret
      rw [HP.out]
      exact ⟨rfl, rfl⟩

def QRel (X : List UInt8) (v3 v4 : Value) : Prop := ∃ i : Nat, i ≤ X.length ∧ v4 = .int .i64 i ∧ v3 = .int .i64 (vl (X.take i) : Nat) ∧ (X.take i).all isD = true
theorem qnumber_walk (X : List UInt8) (h9 : X.length ≤ 18) (w : World) :
    Calls Tryd.prog 28 #[.string (bs X)] w fun e w' => e = .returned (.int .i64 (numI X)) ∧ w = w' := by
  go_enter Tryd.func28, Tryd.ntmps28
  go_wp2
  go_loop [3, 4] (fun v3 v4 => QRel X v3 v4) (fun v3 v4 => (X.length - (intOf v4).toNat))
  case atStart => exact ⟨0, by omega, rfl, rfl, rfl⟩
  case round =>
    obtain ⟨i, hi, rfl, rfl, ha⟩ := hrel
    by_cases hlt : i < X.length
    · have hv := vl_lt (X.take i) ha
      have hv9 : vl (X.take i) < 100000000000000000 := by
        have : 10 ^ (X.take i).length ≤ 10 ^ 17 := Nat.pow_le_pow_right (by omega) (by rw [List.length_take]; omega)
        omega
      clear hv
      have hts := vl_take X i hlt
      have hta := all_take X i hlt
      have hbt := byt_lt X i
      cases hdg : isDn (byt X i)
      · have hno := numI_no X (all_of_take hlt hdg)
        have HN := Lib.hid hno
        have hd2 : byt X i < 48 ∨ 57 < byt X i := by
          unfold isDn at hdg; simp at hdg; omega
        clear hdg hts hta hno ha
        rcases hd2 with d | d
        · go_wp2
          go_ret
          rw [HN.out]
          exact ⟨rfl, rfl⟩
        · have d2 : ¬ ((byt X i : Nat) : Int) < 48 := by omega
          go_wp2
          go_ret
          rw [HN.out]
          exact ⟨rfl, rfl⟩
      · have hd2 : 48 ≤ byt X i ∧ byt X i ≤ 57 := by simpa [isDn] using hdg
        rw [ha, hdg] at hta
        have HTS := Lib.hid hts; have HTA := Lib.hid hta
        clear hdg hts hta ha
        obtain ⟨d1, d2⟩ := hd2
        generalize vl (X.take i) = V at *
        go_wp2
        go_round
        case measure => simp [intOf]; omega
        case rel =>
          refine ⟨i + 1, by omega, by simp, ?_, by rw [HTA.out]; rfl⟩
          rw [HTS.out]; congr 1; omega
    · obtain rfl : i = X.length := by omega
      rw [List.take_length] at ha
      simp only [List.take_length]
      by_cases h0 : X = []
      · subst h0
        clear ha hlt hi
        go_wp2
        go_ret
        exact ⟨rfl, rfl⟩
      · have hy := numI_yes X ha (List.length_pos_iff.2 h0)
        have hx2 : X.isEmpty = false := by simpa using h0
        have HY := Lib.hid hy
        clear hy ha h0
        generalize vl X = V at *
        go_wp2
        go_ret
        rw [HY.out]
        exact ⟨rfl, rfl⟩

/-! ### What stands behind the seconds -/
theorem ret3 {a b c a' b' c' : Value} (h1 : a = a') (h2 : b = b') (h3 : c = c') : Ending.returned (.tuple #[a, b, c]) = .returned (.tuple #[a', b', c']) := by rw [h1, h2, h3]
theorem ret2 {a b a' b' : Value} (h1 : a = a') (h2 : b = b') : Ending.returned (.tuple #[a, b]) = .returned (.tuple #[a', b']) := by rw [h1, h2]
theorem fGo_end (n p : Nat) : fGo p n [] = (n, p, []) := by cases p <;> rfl
def GRel (l : List UInt8) (v5 v6 v7 : Value) : Prop :=
  ∃ i p n : Nat, i + p = 10 ∧ 1 ≤ i ∧ i ≤ l.length ∧ n + 10 ^ p ≤ 1000000000 ∧ v5 = .int .i64 i ∧ v6 = .int .i64 n ∧ v7 = .int .i64 ((10 ^ p / 10 : Nat) : Int) ∧ fGo 9 0 (l.drop 1) = fGo p n (l.drop i)
theorem swd_drop (l : List UInt8) (i : Nat) (h : i < l.length) : swd (l.drop i) = isDn (byt l i) := by
  rw [List.drop_eq_getElem_cons h, byt_get l i h]; rfl
theorem byt_drop (l : List UInt8) (i : Nat) (h : i < l.length) : byt (l.drop i) 0 = byt l i := by
  rw [List.drop_eq_getElem_cons h, byt_get l i h]; rfl

set_option maxHeartbeats 2000000 in
theorem part_walk (l : List UInt8) (hl : l.length ≤ 140737488351232) (w : World) :
    Calls Tryd.prog 30 #[.string (bs l)] w fun e w' => e = .returned (.tuple #[.int .i64 (fV l : Nat), .string (bs (fL l)), .bool (fOk l)]) ∧ ∃ n, w' = w.drewN n := by
  cases hk : mkOk 46 l
  · have e1 : fV l = 0 := by unfold fV; rw [hk]; rfl
    have e2 : fOk l = true := by unfold fOk; rw [hk]; rfl
    have e3 : fL l = l := by unfold fL; rw [hk]; rfl
    rw [e1, e2, e3]
    clear e1 e2 e3
    by_cases hn : l = []
    · subst hn
      clear hk
      go_enter Tryd.func30, Tryd.ntmps30
      go_wp2
      go_ret3
      exact ⟨rfl, 0, rfl⟩
    · have hpos : 0 < l.length := List.length_pos_iff.2 hn
      have hx : l.isEmpty = false := by simpa using hn
      have hb : (((byt l 0 : Nat) : Int) != 46) = true := by
        rw [bne_iff_ne]; intro h
        have := (mkOk_iff 46 l).2 ⟨hpos, h⟩
        rw [hk] at this; cases this
      clear hk hn
      go_enter Tryd.func30, Tryd.ntmps30
      go_wp2
      go_ret3
      exact ⟨rfl, 0, rfl⟩
  · have h46 := (mkOk_iff 46 l).1 hk
    have e1 : fV l = (fGo 9 0 (l.drop 1)).1 := by unfold fV; rw [hk, mkL_of hk]; rfl
    have e2 : fOk l = !((fGo 9 0 (l.drop 1)).2.1 == 9) := by unfold fOk; rw [hk, mkL_of hk]; rfl
    have e3 : fL l = (fGo 9 0 (l.drop 1)).2.2 := by unfold fL; rw [hk, mkL_of hk]; rfl
    rw [e1, e2, e3]
    have hpos := h46.1
    have hx : l.isEmpty = false := by simpa using List.length_pos_iff.1 hpos
    have hb : (((byt l 0 : Nat) : Int) != 46) = false := by rw [bne_eq_false_iff_eq]; exact h46.2
    clear e1 e2 e3 hk h46
    go_enter Tryd.func30, Tryd.ntmps30
    go_wp2
    go_loop [5, 6, 7] (fun v5 v6 v7 => GRel l v5 v6 v7) (fun v5 v6 v7 => (l.length - (intOf v5).toNat))
    case atStart => exact ⟨1, 9, 0, rfl, by omega, by omega, by omega, rfl, rfl, rfl, rfl⟩
    case round =>
      clear hb hx
      obtain ⟨i, p, n, hip, h1, hil, hn, rfl, rfl, rfl, hg⟩ := hrel
      have hP9 := pow_nine (show p ≤ 9 by omega)
      have stop : ∀ q, fGo 9 0 (l.drop 1) = (n, p, l.drop i) → q = (!(p == 9)) → q = decide (1 < (i : Int)) := by
        intro q _ hq
        rw [hq]
        by_cases h9 : p = 9
        · rw [h9]; have : ¬ (1 < (i : Int)) := by omega
          rw [decide_eq_false this]; rfl
        · have h2 : (p == 9) = false := by rw [beq_eq_false_iff_ne]; exact h9
          rw [h2, decide_eq_true (by omega : (1 : Int) < (i : Int))]; rfl
      have STOP := Lib.hid stop; clear stop
      by_cases hend : i = l.length
      · have hg2 : fGo 9 0 (l.drop 1) = (n, p, l.drop i) := by rw [hg, hend, List.drop_length, fGo_end]
        have HG := Lib.hid hg2
        clear hg hg2 hn
        generalize 10 ^ p / 10 = B
        subst hend
        go_wp2
        go_quiet (fail)
        go_wp2
        go_ret3
        have hst := STOP.out _ HG.out rfl
        rw [HG.out]
        exact ⟨ret3 rfl (by rw [List.drop_length]; rfl) (congrArg Value.bool hst.symm), _, rfl⟩
      · by_cases hi9 : i = 10
        · obtain rfl : p = 0 := by omega
          have hg2 : fGo 9 0 (l.drop 1) = (n, 0, l.drop i) := by rw [hg]; rfl
          have HG := Lib.hid hg2
          clear hg hg2 hn hP9
          have hlt : ((i : Nat) : Int) < ((l.length : Nat) : Int) := by omega
          have hgt : ¬ ((i : Nat) : Int) ≤ 9 := by omega
          clear hend hi9
          go_wp2
          go_quiet (fail)
          go_wp2
          go_ret3
          have hst := STOP.out _ HG.out rfl
          rw [HG.out]
          exact ⟨ret3 rfl rfl (congrArg Value.bool hst.symm), _, rfl⟩
        · obtain ⟨q, rfl⟩ : ∃ q, p = q + 1 := ⟨p - 1, by omega⟩
          have hlt : ((i : Nat) : Int) < ((l.length : Nat) : Int) := by omega
          have hltn : i < l.length := by omega
          have hle9 : ((i : Nat) : Int) ≤ 9 := by omega
          have hbt := byt_lt l i
          cases hdg : isDn (byt l i)
          · have hg2 : fGo 9 0 (l.drop 1) = (n, q + 1, l.drop i) := by rw [hg]; exact fGo_stop q n _ (by rw [swd_drop l i hltn, hdg])
            have HG := Lib.hid hg2
            have hd2 : byt l i < 48 ∨ 57 < byt l i := by
              unfold isDn at hdg; simp at hdg; omega
            clear hg hg2 hn hP9 hend hi9 hdg
            generalize 10 ^ (q + 1) / 10 = B
            rcases hd2 with d | d
            · have d2 : ¬ 48 ≤ ((byt l i : Nat) : Int) := by omega
              go_wp2
              go_quiet (fail)
              go_wp2
              go_ret3
              have hst := STOP.out _ HG.out rfl
              rw [HG.out]
              exact ⟨ret3 rfl rfl (congrArg Value.bool hst.symm), _, rfl⟩
            · have d2 : 48 ≤ ((byt l i : Nat) : Int) := by omega
              have d3 : ¬ ((byt l i : Nat) : Int) ≤ 57 := by omega
              go_wp2
              go_quiet (fail)
              go_wp2
              go_ret3
              have hst := STOP.out _ HG.out rfl
              rw [HG.out]
              exact ⟨ret3 rfl rfl (congrArg Value.bool hst.symm), _, rfl⟩
          · have hd2 : 48 ≤ byt l i ∧ byt l i ≤ 57 := by simpa [isDn] using hdg
            have hst := fGo_step q n (l.drop i) (by rw [swd_drop l i hltn, hdg])
            rw [byt_drop l i hltn, List.tail_drop] at hst
            rw [hst.1] at hg
            have HG := Lib.hid hg
            have hP := pow_lt_nine (show q < 9 by omega)
            have hP1 := (pow_nine (show q ≤ 9 by omega)).1
            have h10 : 10 ^ (q + 1) = 10 * 10 ^ q := by rw [Nat.pow_succ]; omega
            rw [h10, Nat.mul_div_cancel_left _ (by omega)]
            rw [h10] at hn
            clear hg hst hdg h10 hend hi9 STOP hP9
            obtain ⟨d1, d2⟩ := hd2
            obtain ⟨P, hPe⟩ : ∃ P, P = 10 ^ q := ⟨_, rfl⟩
            have HPE := Lib.hid hPe
            rw [← hPe] at hn hP hP1 ⊢
            clear hPe
            have hm1 : (((byt l i : Nat) : Int) - 48) * (P : Int) ≤ 9 * P := Int.mul_le_mul_of_nonneg_right (by omega) (by omega)
            have hm0 : 0 ≤ (((byt l i : Nat) : Int) - 48) * (P : Int) := Int.mul_nonneg (by omega) (by omega)
            go_wp2
            go_round
            case measure => simp [intOf]; omega
            case rel =>
              have e48 : (((byt l i - 48) * P : Nat) : Int) = (((byt l i : Nat) : Int) - 48) * (P : Int) := by
                rw [Int.natCast_mul]; congr 1; omega
              refine ⟨i + 1, q, n + (byt l i - 48) * P, by omega, by omega, by omega, ?_, by simp, ?_, ?_, ?_⟩
              · rw [← HPE.out]; omega
              · congr 1; omega
              · rw [← HPE.out]; congr 1
              · rw [HG.out, HPE.out]

end Go.Proofs.YtaijekagcmkgjaaDoor
