/- The document's own printing of stamps, walked. -/
import Derived.Test.YtaijekagcmkgjaaDoorStpE
import Derived.Test.YtaijekagcmkgjaaDoorStpT
import Derived.Test.YtaijekagcmkgjaaDoorStpJ
namespace Go.Proofs.YtaijekagcmkgjaaDoor
open Go.ChangeShapes Go.WideShapes Go.ChangeAt Go.RowKit K S3
set_option linter.unusedVariables false

def ERel (w : World) (N k : Nat) (v0 v5 v6 : Value) (wr : World) : Prop :=
  ∃ i, i ≤ k ∧ v0 = .int .i64 ((N / 10 ^ i : Nat) : Int) ∧ v5 = .string (bs (dg i N)) ∧ v6 = .int .i64 (i : Nat) ∧ Below w.heap.size w wr
set_option maxRecDepth 100000 in
theorem qdigits_walk (N k : Nat) (kk : Int) (hkk : kk = (k : Nat)) (hN : N ≤ 9223372036854775000) (hk : k ≤ 9) (w : World) :
    Calls Tryd.prog 40 #[.int .i64 N, .int .i64 kk] w fun e w' => e = .returned (.string (bs (dg k N))) ∧ Below w.heap.size w w' := by
  subst hkk
  have hc1 := run_conv_one (P := Tryd.prog) 59 5 9 Tryd.underlying59 Tryd.underlying5 Tryd.underlying9
  go_enter Tryd.func40, Tryd.ntmps40
  go_wp2
  go_loopw [0, 5, 6] (fun v0 v5 v6 wr => ERel w N k v0 v5 v6 wr) (fun v0 v5 v6 wr => k - (intOf v6).toNat)
  case atStart => exact ⟨0, by omega, by simp, rfl, rfl, Below.refl _ _⟩
  case round =>
    obtain ⟨i, hi, rfl, rfl, rfl, hb⟩ := hrel
    have hle : N / 10 ^ i ≤ 9223372036854775000 := Nat.le_trans (Nat.div_le_self _ _) hN
    have hpl : (dg i N).length ≤ 9 := by rw [dg_len]; omega
    have hst : N / 10 ^ i / 10 = N / 10 ^ (i + 1) := by rw [Nat.div_div_eq_div_mul, Nat.pow_succ]
    have hpd := dg_cons i N
    generalize N / 10 ^ i = q at *
    obtain ⟨D, hD⟩ : ∃ D, D = dg i N := ⟨_, rfl⟩
    rw [← hD] at hpl hpd ⊢
    have HDq := Lib.hid hD; clear hD
    have Hst := Lib.hid hst; have Hpd := Lib.hid hpd; clear hst hpd
    by_cases h0 : i < k
    · go_wp2
      go_roundw
      case measure => simp [intOf]; omega
      case rel =>
        refine ⟨i + 1, by omega, ?_, ?_, by simp, hb.alloc (by have := hb.size; omega) _⟩
        · rw [← Hst.out]; simp
        · rw [Hpd.out]
    · obtain rfl : i = k := by omega
      go_wp2
      go_ret
      rw [← HDq.out]
      exact ⟨rfl, hb⟩

def CRel1 (y : Nat) (v5 v7 : Value) : Prop := ∃ k : Nat, 1970 ≤ k ∧ k ≤ y ∧ v5 = .int .i64 k ∧ v7 = .int .i64 ((k - 1970 : Nat) : Int)
def CRel2 (y m : Nat) (r : Int) (v6 v8 v9 : Value) : Prop := ∃ j : Nat, 1 ≤ j ∧ j ≤ m ∧ v8 = .int .i64 j ∧ v9 = .int .i64 ((j - 1 : Nat) : Int) ∧ v6 = .int .i64 (r - da y j)
def CRel3 (D : List UInt8) (v11 v12 : Value) : Prop := ∃ i : Nat, i ≤ 9 ∧ v12 = .int .i64 i ∧ v11 = .string (bs (D.take (9 - i))) ∧ ∀ (j : Nat) b, 9 - i ≤ j → D[j]? = some b → b = 48

set_option maxRecDepth 100000 in
set_option maxHeartbeats 8000000 in
theorem clock_walk (t n y m d : Nat) (ht : t ≤ 2305950000) (hn : n < 1000000000) (hd : IsD (t / 86400) y m d) (w : World) :
    Calls Tryd.prog 38 #[.int .i64 t, .int .i64 n] w fun e w' => e = .returned (.string (bs (txt y m d t n))) ∧ Below w.heap.size w w' := by
  have hy1 := hd.y1 (by omega)
  have hd1 := hd.d1
  have hlo := hd.lo; have hhi := hd.hi; have hm1 := hd.m1; have hm2 := hd.m2; have hdlo := hd.dlo; have hdhi := hd.dhi; have hdd := hd.dd; have hy0 := hd.y0
  obtain ⟨N, hN⟩ : ∃ N : Nat, N = t / 86400 := ⟨_, rfl⟩
  rw [← hN] at hlo hhi hdlo hdhi hdd
  have hNt : (t : Int) / 86400 = (N : Int) := by omega
  have hN2 : N < 27028 := by omega
  have hP := fun (k : Nat) (h : k ≤ 100000) w1 => past_walk k h w1
  have hDy := fun (j : Nat) (a : 1 ≤ j) (b : j ≤ 12) w1 => days_walk y j (by omega) a b w1
  have HP := Lib.hid hP; have HDy := Lib.hid hDy
  have qB := fun w1 => qdigits_walk y 4 4 rfl (by omega) (by omega) w1
  have qC := fun w1 => qdigits_walk m 2 2 rfl (by omega) (by omega) w1
  have qD := fun w1 => qdigits_walk d 2 2 rfl (by omega) (by omega) w1
  have qE := fun w1 => qdigits_walk (t / 3600 % 24) 2 2 rfl (by omega) (by omega) w1
  have qF := fun w1 => qdigits_walk (t / 60 % 60) 2 2 rfl (by omega) (by omega) w1
  have qG := fun w1 => qdigits_walk (t % 60) 2 2 rfl (by omega) (by omega) w1
  have qH := fun w1 => qdigits_walk n 9 9 rfl (by omega) (by omega) w1
  have e1 : ((t / 3600 % 24 : Nat) : Int) = (t : Int) / 3600 % 24 := by omega
  have e2 : ((t / 60 % 60 : Nat) : Int) = (t : Int) / 60 % 60 := by omega
  have e3 : ((t % 60 : Nat) : Int) = (t : Int) % 60 := by omega
  rw [e1] at qE
  rw [e2] at qF
  rw [e3] at qG
  have l1 : (dg 4 y).length ≤ 4 := by rw [dg_len]; omega
  have l2 : (dg 2 m).length ≤ 2 := by rw [dg_len]; omega
  have l3 : (dg 2 d).length ≤ 2 := by rw [dg_len]; omega
  have l4 : (dg 2 (t / 3600 % 24)).length ≤ 2 := by rw [dg_len]; omega
  have l5 : (dg 2 (t / 60 % 60)).length ≤ 2 := by rw [dg_len]; omega
  have l6 : (dg 2 (t % 60)).length ≤ 2 := by rw [dg_len]; omega
  have l7 : (dg 9 n).length = 9 := dg_len 9 n
  have HX : Hid (txt y m d t n = dg 4 y ++ (45 :: (dg 2 m ++ (45 :: (dg 2 d ++ (84 :: (dg 2 (t / 3600 % 24) ++ (58 :: (dg 2 (t / 60 % 60) ++ (58 :: (dg 2 (t % 60) ++ frc n))))))))))) := by
    apply Lib.hid
    have a1 : t / 60 % 1440 / 60 = t / 3600 % 24 := by omega
    have a2 : t / 60 % 1440 % 60 = t / 60 % 60 := by omega
    simp [txt, dtx, clk, hmt, a1, a2]
  have HFR : Hid (frc n = if n = 0 then [] else 46 :: Lib.trimRightB (dg 9 n) 48) := Lib.hid rfl
  generalize txt y m d t n = X at *
  generalize dg 4 y = X1 at *
  generalize dg 2 m = X2 at *
  generalize dg 2 d = X3 at *
  generalize dg 2 (t / 3600 % 24) = X4 at *
  generalize dg 2 (t / 60 % 60) = X5 at *
  generalize dg 2 (t % 60) = X6 at *
  generalize dg 9 n = X7 at *
  generalize frc n = X8 at *
  have QB := Lib.hid qB; have QC := Lib.hid qC; have QD := Lib.hid qD; have QE := Lib.hid qE; have QF := Lib.hid qF; have QG := Lib.hid qG; have QH := Lib.hid qH
  have HDD := Lib.hid hdd; have L7 := Lib.hid l7
  clear qB qC qD qE qF qG qH e1 e2 e3 hP hDy hd hdd hN l7
  go_enter Tryd.func38, Tryd.ntmps38
  go_wp2
  go_loop [5, 7] (fun v5 v7 => CRel1 y v5 v7) (fun v5 v7 => y - (intOf v5).toNat)
  case atStart => exact ⟨1970, by omega, hy0, rfl, rfl⟩
  case round =>
    obtain ⟨k, k0, k1, rfl, rfl⟩ := hrel
    have hA := HP.out (k + 1) (by omega) w
    have ep : pst (k + 1) = ya ((k : Int) + 1) := by unfold pst; rw [if_pos (by omega)]; simp
    rw [ep] at hA
    have ek : ((k + 1 : Nat) : Int) = (k : Int) + 1 := by omega
    rw [ek] at hA
    have hi400 : ((k - 1970 : Nat) : Int) < 400 := by omega
    clear ep ek
    by_cases hlt : k < y
    · have hle : ya ((k : Int) + 1) ≤ N := by
        have := ya_mono ((k : Int) + 1) y (by omega) (by omega)
        omega
      generalize ya ((k : Int) + 1) = q at *
      go_wp2_with fail
      refine hA.mono ?_
      rintro e w1 ⟨rfl, rfl⟩
      go_wp2
      go_round
      case measure => simp [intOf]; omega
      case rel => exact ⟨k + 1, by omega, by omega, by simp, by congr 1; omega⟩
    · obtain rfl : k = y := by omega
      have hB := HP.out k (by omega) w
      have ep : pst k = ya (k : Int) := by unfold pst; rw [if_pos k0]
      rw [ep] at hB
      clear ep
      have hyb : 0 ≤ ya (k : Int) ∧ ya (k : Int) ≤ 27028 := by
        have := ya_mono 1970 k (by omega) (by omega)
        have h3 : ya 1970 = 0 := by decide
        omega
      generalize ya ((k : Int) + 1) = q at *
      generalize ya (k : Int) = Y at *
      obtain ⟨y3, y4⟩ := hyb
      go_wp2_with fail
      refine hA.mono ?_
      rintro e w1 ⟨rfl, rfl⟩
      go_wp2_with fail
      refine hB.mono ?_
      rintro e w1 ⟨rfl, rfl⟩
      clear hA hB HP hi400
      go_wp2
      go_loop [6, 8, 9] (fun v6 v8 v9 => CRel2 k m ((N : Int) - Y) v6 v8 v9) (fun v6 v8 v9 => m - (intOf v8).toNat)
      case atStart => exact ⟨1, by omega, hm1, rfl, rfl, by rw [da_first]; simp⟩
      case round =>
        obtain ⟨j, j1, j2, rfl, rfl, rfl⟩ := hrel
        have hA := HDy.out j (by omega) (by omega) w
        have hs := da_succ k j
        have hdi := dim_in k j (by omega) (by omega)
        have hdb := da_in k j (by omega) (by omega)
        obtain ⟨db1, db2⟩ := hdb
        obtain ⟨di1, di2⟩ := hdi
        have hi12 : ((j - 1 : Nat) : Int) < 12 := by omega
        by_cases hlt : j < m
        · have hle : dim k j ≤ (N : Int) - Y - da k j := by
            have := da_mono k (j + 1) (by omega) (m - (j + 1)) (by omega)
            rw [show j + 1 + (m - (j + 1)) = m by omega] at this
            omega
          generalize dim k j = q2 at *
          generalize da k j = q3 at *
          have HS := Lib.hid hs; clear hs
          go_wp2_with fail
          refine hA.mono ?_
          rintro e w1 ⟨rfl, rfl⟩
          go_wp2_with fail
          refine hA.mono ?_
          rintro e w1 ⟨rfl, rfl⟩
          go_wp2
          go_round
          case measure => simp [intOf]; omega
          case rel => exact ⟨j + 1, by omega, by omega, by simp, by congr 1; omega, by rw [HS.out]; congr 1; omega⟩
        · obtain rfl : j = m := by omega
          have hdd := HDD.out
          have hlt2 : (N : Int) - Y - da k j < dim k j := by omega
          have hq0 : 0 ≤ (N : Int) - Y - da k j := by omega
          have hde : (N : Int) - Y - da k j + 1 = (d : Int) := by omega
          generalize dim k j = q2 at *
          generalize da k j = q3 at *
          have qd := QD.out
          rw [← hde] at qd
          have QD2 := Lib.hid qd
          have hr31 : (N : Int) - Y - q3 ≤ 31 := by omega
          clear hs hdlo hdhi hde qd hdd
          generalize (N : Int) - Y - q3 = r at *
          go_wp2_with fail
          refine hA.mono ?_
          rintro e w1 ⟨rfl, rfl⟩
          clear hA
          go_wp2_with fail
          refine (QB.out w).mono ?_
          rintro e w1 ⟨rfl, b1⟩
          go_wp2_with fail
          refine (QC.out w1).mono ?_
          rintro e w2 ⟨rfl, c⟩
          replace b1 := b1.trans (c.mono b1.size); clear c
          go_wp2_with fail
          refine (QD2.out w2).mono ?_
          rintro e w3 ⟨rfl, c⟩
          replace b1 := b1.trans (c.mono b1.size); clear c
          go_wp2_with fail
          refine (QE.out w3).mono ?_
          rintro e w4 ⟨rfl, c⟩
          replace b1 := b1.trans (c.mono b1.size); clear c
          go_wp2_with fail
          refine (QF.out w4).mono ?_
          rintro e w5 ⟨rfl, c⟩
          replace b1 := b1.trans (c.mono b1.size); clear c
          go_wp2_with fail
          refine (QG.out w5).mono ?_
          rintro e w6 ⟨rfl, c⟩
          replace b1 := b1.trans (c.mono b1.size); clear c
          clear QB QC QD QD2 QE QF QG
          by_cases hn0 : n = 0
          · subst hn0
            have hfr : X8 = [] := HFR.out
            have HF := Lib.hid hfr
            clear hfr
            go_wp2
            go_ret
            refine ⟨one (congrArg Value.string ?_), b1⟩
            rw [HX.out, HF.out]
            show bs X1 ++ bs [45] ++ bs X2 ++ bs [45] ++ bs X3 ++ bs [84] ++ bs X4 ++ bs [58] ++ bs X5 ++ bs [58] ++ bs X6 = _
            simp only [bs_append]
            simp
          · have hnz : (((n : Nat) : Int) == 0) = false := by rw [beq_eq_false_iff_ne]; omega
            have hfr : X8 = 46 :: Lib.trimRightB X7 48 := by have := HFR.out; rwa [if_neg hn0] at this
            have HF := Lib.hid hfr
            clear hfr hn0
            go_wp2_with fail
            refine (QH.out w6).mono ?_
            rintro e w7 ⟨rfl, c⟩
            replace b1 := b1.trans (c.mono b1.size); clear c
            clear QH
            go_wp2
            go_loop [11, 12] (fun v11 v12 => CRel3 X7 v11 v12) (fun v11 v12 => 9 - (intOf v12).toNat)
            case atStart => exact ⟨0, by omega, rfl, by rw [List.take_of_length_le (by rw [L7.out]; omega)], fun j b hj hb => by have := (List.getElem?_eq_some_iff.1 hb).1; rw [L7.out] at this; omega⟩
            case round =>
              obtain ⟨i, hi, rfl, rfl, hz⟩ := hrel
              have HZ := Lib.hid hz; clear hz
              have hlen : (X7.take (9 - i)).length = 9 - i := by rw [List.length_take, L7.out]; omega
              have hbyt : ∀ b, 0 < 9 - i → X7[9 - i - 1]? = some b → byt (X7.take (9 - i)) (9 - i - 1) = b.toNat := by
                intro b hp hb
                rw [byt_take X7 (9 - i) (9 - i - 1) (by omega)]
                unfold byt; rw [hb]; rfl
              have HB := Lib.hid hbyt; clear hbyt
              by_cases hgo : i < 9 ∧ byt (X7.take (9 - i)) (9 - i - 1) = 48
              · obtain ⟨hi9, h48⟩ := hgo
                have htt : (X7.take (9 - i)).take (9 - i - 1) = X7.take (9 - (i + 1)) := by
                  rw [List.take_take]; congr 1; omega
                have HT := Lib.hid htt
                have h48b : (((byt (X7.take (9 - i)) (9 - i - 1) : Nat) : Int) == 48) = true := by rw [h48]; rfl
                obtain ⟨p, hp⟩ : ∃ p, 9 - i = p + 1 := ⟨8 - i, by omega⟩
                have HPp := Lib.hid hp
                have hp8 : (p : Int) ≤ 8 := by omega
                have H48 := Lib.hid h48
                rw [hp] at hlen h48b htt ⊢
                have hl1 : (p : Int) + 1 - 1 = (p : Int) := by omega
                clear htt h48 hp
                generalize hQ : X7.take (p + 1) = Q at *
                have HQ := Lib.hid hQ; clear hQ
                have h48c : (((byt Q p : Nat) : Int) == 48) = true := h48b
                have hpl : p < Q.length := by omega
                have hQI : ((Q.length : Nat) : Int) = (p : Int) + 1 := by omega
                clear h48b hlen
                go_wp2
                go_round
                case measure => simp [intOf]; omega
                case rel =>
                  refine ⟨i + 1, by omega, by simp, ?_, ?_⟩
                  · rw [← HT.out, HPp.out, HQ.out]; rfl
                  · intro j2 b hj hb
                    by_cases e : 9 - i ≤ j2
                    · exact HZ.out j2 b e hb
                    · have e2 : j2 = 9 - i - 1 := by omega
                      subst e2
                      have h1 := HB.out b (by omega) hb
                      have h2 := H48.out
                      rw [h1] at h2
                      exact UInt8.toNat_inj.1 h2
              · have htr : Lib.trimRightB X7 48 = X7.take (9 - i) := by
                  refine Lib.trimRightB_take X7 48 (9 - i) (by rw [L7.out]; omega) HZ.out ?_
                  intro b hp hb he
                  have h1 := HB.out b hp hb
                  refine hgo ⟨by omega, ?_⟩
                  rw [h1, he]; rfl
                have HTR := Lib.hid htr
                have hl9 : (X7.take (9 - i)).length ≤ 9 := by rw [hlen]; omega
                by_cases h9 : i = 9
                · have h9I : ¬ ((i : Nat) : Int) < 9 := by omega
                  generalize hQ : X7.take (9 - i) = Q at *
                  clear htr hgo hlen h9 hQ
                  go_wp2
                  go_ret
                  refine ⟨one (congrArg Value.string ?_), b1⟩
                  rw [HX.out, HF.out, HTR.out]
                  show bs X1 ++ bs [45] ++ bs X2 ++ bs [45] ++ bs X3 ++ bs [84] ++ bs X4 ++ bs [58] ++ bs X5 ++ bs [58] ++ bs X6 ++ bs [46] ++ bs Q = _
                  simp only [bs_append]
                  simp
                · obtain ⟨p, hp⟩ : ∃ p, 9 - i = p + 1 := ⟨8 - i, by omega⟩
                  have h48 : ¬ byt (X7.take (9 - i)) (9 - i - 1) = 48 := fun h => hgo ⟨by omega, h⟩
                  rw [hp] at hlen h48 hl9 ⊢
                  generalize hQ : X7.take (p + 1) = Q at *
                  have HQ := Lib.hid hQ
                  have HPp := Lib.hid hp
                  have h48c : (((byt Q p : Nat) : Int) == 48) = false := by
                    rw [beq_eq_false_iff_ne]; intro e; apply h48
                    show byt Q p = 48
                    omega
                  have hpl : p < Q.length := by omega
                  have hQI : ((Q.length : Nat) : Int) = (p : Int) + 1 := by omega
                  have hp8 : (p : Int) ≤ 8 := by omega
                  have hl1 : (p : Int) + 1 - 1 = (p : Int) := by omega
                  have hi9I : ((i : Nat) : Int) < 9 := by omega
                  clear htr hgo hlen h9 hQ h48 hp
                  go_wp2
                  go_ret
                  refine ⟨one (congrArg Value.string ?_), b1⟩
                  rw [HX.out, HF.out, HTR.out, HPp.out, HQ.out]
                  show bs X1 ++ bs [45] ++ bs X2 ++ bs [45] ++ bs X3 ++ bs [84] ++ bs X4 ++ bs [58] ++ bs X5 ++ bs [58] ++ bs X6 ++ bs [46] ++ bs Q = _
                  simp only [bs_append]
                  simp

theorem isD_days {t y m d : Nat} (h : IsD (t / 86400000000000) y m d) : IsD (t / 1000000000 / 86400) y m d := by
  rwa [show t / 1000000000 / 86400 = t / 86400000000000 by omega]
theorem qprint_no (t : Int) (h : ¬ (0 ≤ t ∧ t ≤ 2305843009213693952)) (w : World) :
    Calls Tryd.prog 14 #[.int .i64 t] w fun e w' => e = .returned (.tuple #[.string (bs []), .int .i64 1]) ∧ w = w' := by
  have h2 : t < 0 ∨ (0 ≤ t ∧ 2305843009213693952 < t) := by omega
  clear h
  rcases h2 with a | ⟨a, b⟩
  all_goals
    go_enter Tryd.func14, Tryd.ntmps14
    go_wp2
    go_ret2
    exact ⟨rfl, rfl⟩
theorem qprint_yes (t y m d : Nat) (ht : t ≤ 2305843009213693952) (hd : IsD (t / 86400000000000) y m d) (w : World) :
    Calls Tryd.prog 14 #[.int .i64 t] w fun e w' => e = .returned (.tuple #[.string (bs (txt y m d (t / 1000000000) (t % 1000000000) ++ [90])), .int .i64 0]) ∧ Below w.heap.size w w' := by
  have hA := clock_walk (t / 1000000000) (t % 1000000000) y m d (by omega) (by omega) (isD_days hd) w
  have hl := txt_len y m d (t / 1000000000) (t % 1000000000)
  have hf := frc_len (t % 1000000000)
  have hl2 : (txt y m d (t / 1000000000) (t % 1000000000)).length ≤ 29 := by omega
  have e1 : ((t / 1000000000 : Nat) : Int) = (t : Int) / 1000000000 := by omega
  have e2 : ((t % 1000000000 : Nat) : Int) = (t : Int) % 1000000000 := by omega
  generalize txt y m d (t / 1000000000) (t % 1000000000) = X at *
  rw [e1, e2] at hA
  have htI : (t : Int) ≤ 2305843009213693952 := by omega
  clear hl hf hd e1 e2
  go_enter Tryd.func14, Tryd.ntmps14
  go_wp2_with fail
  refine hA.mono ?_
  rintro e w1 ⟨rfl, b1⟩
  go_wp2
  go_ret2
  refine ⟨tup2 (congrArg Value.string ?_) rfl, b1⟩
  show bs X ++ bs [90] = _
  rw [bs_append]
theorem qshifted_no (t z : Int) (h0 : -9223372036854775808 ≤ t) (h1 : t ≤ 9223372036854775807) (hz0 : -9223372036854775808 ≤ z) (hz1 : z ≤ 9223372036854775807)
    (h : ¬ (0 ≤ t ∧ t ≤ 2305843009213693952) ∨ z < -1439 ∨ 1439 < z ∨ t + z * 60000000000 < 0) (w : World) :
    Calls Tryd.prog 16 #[.int .i64 t, .int .i64 z] w fun e w' => e = .returned (.tuple #[.string (bs []), .int .i64 1]) ∧ w = w' := by
  have h2 : t < 0 ∨ (0 ≤ t ∧ 2305843009213693952 < t) ∨ (0 ≤ t ∧ t ≤ 2305843009213693952 ∧ z < -1439) ∨ (0 ≤ t ∧ t ≤ 2305843009213693952 ∧ -1439 ≤ z ∧ 1439 < z) ∨ (0 ≤ t ∧ t ≤ 2305843009213693952 ∧ -1439 ≤ z ∧ z ≤ 1439 ∧ t / 1000000000 + z * 60 < 0) := by omega
  clear h
  rcases h2 with a | ⟨a, b⟩ | ⟨a, b, c⟩ | ⟨a, b, c, d⟩ | ⟨a, b, c, d, e⟩
  all_goals
    go_enter Tryd.func16, Tryd.ntmps16
    go_wp2
    go_ret2
    exact ⟨rfl, rfl⟩
set_option maxRecDepth 100000 in
set_option maxHeartbeats 2000000 in
theorem qshifted_yes (t : Nat) (z : Int) (u y m d : Nat) (ht : t ≤ 2305843009213693952) (z0 : -1439 ≤ z) (z1 : z ≤ 1439) (hu : (t : Int) + z * 60000000000 = (u : Int)) (hd : IsD (u / 86400000000000) y m d) (w : World) :
    Calls Tryd.prog 16 #[.int .i64 t, .int .i64 z] w fun e w' => e = .returned (.tuple #[.string (bs (txt y m d (u / 1000000000) (u % 1000000000) ++ sgn z)), .int .i64 0]) ∧ Below w.heap.size w w' := by
  have hA := clock_walk (u / 1000000000) (u % 1000000000) y m d (by omega) (by omega) (isD_days hd) w
  have hB := fun w1 => qdigits_walk (z.natAbs / 60) 2 2 rfl (by omega) (by omega) w1
  have hC := fun w1 => qdigits_walk (z.natAbs % 60) 2 2 rfl (by omega) (by omega) w1
  have hl := txt_len y m d (u / 1000000000) (u % 1000000000)
  have hf := frc_len (u % 1000000000)
  have hl2 : (txt y m d (u / 1000000000) (u % 1000000000)).length ≤ 29 := by omega
  have hl3 : (dg 2 (z.natAbs / 60)).length ≤ 2 := by rw [dg_len]; omega
  have hl4 : (dg 2 (z.natAbs % 60)).length ≤ 2 := by rw [dg_len]; omega
  have e1 : ((u / 1000000000 : Nat) : Int) = (t : Int) / 1000000000 + z * 60 := by omega
  have e2 : ((u % 1000000000 : Nat) : Int) = (t : Int) % 1000000000 := by omega
  have hu0 : 0 ≤ (t : Int) / 1000000000 + z * 60 := by omega
  generalize txt y m d (u / 1000000000) (u % 1000000000) = X at *
  rw [e1, e2] at hA
  have htI : (t : Int) ≤ 2305843009213693952 := by omega
  by_cases hz : z < 0
  · obtain ⟨k, rfl⟩ : ∃ k : Nat, z = -(k : Int) := ⟨z.natAbs, by omega⟩
    have hka : (-(k : Int)).natAbs = k := by omega
    have hk1 : 0 < (k : Int) := by omega
    have hk2 : (k : Int) ≤ 1439 := by omega
    have e5 : sgn (-(k : Int)) = 45 :: (dg 2 (k / 60) ++ (58 :: dg 2 (k % 60))) := by unfold sgn hmt; rw [if_pos hz, hka]
    rw [e5]
    rw [hka] at hB hC hl3 hl4
    have e3 : ((k / 60 : Nat) : Int) = (k : Int) / 60 := by omega
    have e4 : ((k % 60 : Nat) : Int) = (k : Int) % 60 := by omega
    rw [e3] at hB
    rw [e4] at hC
    generalize dg 2 (k / 60) = Y at *
    generalize dg 2 (k % 60) = Z at *
    have HB := Lib.hid hB; have HC := Lib.hid hC
    clear hl hf hd hB hC e1 e2 e3 e4 e5 hu hka
    go_enter Tryd.func16, Tryd.ntmps16
    go_wp2_with fail
    refine hA.mono ?_
    rintro e w1 ⟨rfl, b1⟩
    go_wp2_with fail
    refine (HB.out w1).mono ?_
    rintro e w2 ⟨rfl, c⟩
    replace b1 := b1.trans (c.mono b1.size); clear c
    go_wp2_with fail
    refine (HC.out w2).mono ?_
    rintro e w3 ⟨rfl, c⟩
    replace b1 := b1.trans (c.mono b1.size); clear c
    go_wp2
    go_ret2
    refine ⟨tup2 (congrArg Value.string ?_) rfl, b1⟩
    show bs X ++ bs [45] ++ bs Y ++ bs [58] ++ bs Z = _
    simp only [bs_append]; simp
  · have e3 : ((z.natAbs / 60 : Nat) : Int) = z / 60 := by omega
    have e4 : ((z.natAbs % 60 : Nat) : Int) = z % 60 := by omega
    have e5 : sgn z = 43 :: (dg 2 (z.natAbs / 60) ++ (58 :: dg 2 (z.natAbs % 60))) := by unfold sgn hmt; rw [if_neg hz]
    rw [e5]
    rw [e3] at hB
    rw [e4] at hC
    generalize dg 2 (z.natAbs / 60) = Y at *
    generalize dg 2 (z.natAbs % 60) = Z at *
    have HB := Lib.hid hB; have HC := Lib.hid hC
    have hz' : 0 ≤ z := by omega
    clear hl hf hd hB hC e1 e2 e3 e4 e5 hu hz
    go_enter Tryd.func16, Tryd.ntmps16
    go_wp2_with fail
    refine hA.mono ?_
    rintro e w1 ⟨rfl, b1⟩
    go_wp2_with fail
    refine (HB.out w1).mono ?_
    rintro e w2 ⟨rfl, c⟩
    replace b1 := b1.trans (c.mono b1.size); clear c
    go_wp2_with fail
    refine (HC.out w2).mono ?_
    rintro e w3 ⟨rfl, c⟩
    replace b1 := b1.trans (c.mono b1.size); clear c
    go_wp2
    go_ret2
    refine ⟨tup2 (congrArg Value.string ?_) rfl, b1⟩
    show bs X ++ bs [43] ++ bs Y ++ bs [58] ++ bs Z = _
    simp only [bs_append]; simp
end Go.Proofs.YtaijekagcmkgjaaDoor
