/- The document's Letter, Digit, goesOn, run, IsSign, nibble, walked. gen_lexa.py writes it. -/
import Derived.Test.YtkobjbmjefkmgaaDoorLexP
import Derived.Test.YtkobjbmjefkmgaaDoorRows
import Derived.WalkKit
import Derived.ProofKit
import Derived.OpenShut
import Derived.ShutString
import Derived.Deep.LoopGhost
namespace Go.Proofs.YtkobjbmjefkmgaaDoor
open Go.ChangeShapes Go.WideShapes Go.ChangeAt Go.RowKit K L14
set_option linter.unusedVariables false

set_option maxRecDepth 100000 in
theorem qletter_walk (n : Nat) (hn : n < 256) (w : World) : Calls Tryd.prog 45 #[.int .u8 (n : Nat)] w fun e w' => e = .returned (.bool (ltN n)) ∧ w = w' := by
  by_cases c0 : n ≤ 64
  · have HN := Lib.hid (show ltN n = false by simp [ltN]; omega)
    have g0 : ¬ (97 : Int) ≤ ((n : Nat) : Int) := by omega
    have g0x : ((n : Nat) : Int) < 97 := by omega
    have g1 : ¬ (65 : Int) ≤ ((n : Nat) : Int) := by omega
    have g1x : ((n : Nat) : Int) < 65 := by omega
    have l0 : ((n : Nat) : Int) ≤ 122 := by omega
    have l1 : ((n : Nat) : Int) ≤ 90 := by omega
    clear c0 hn
    go_enter Tryd.func45, Tryd.ntmps45
    go_wp2
    go_ret
    rw [HN.out]
    exact ⟨rfl, rfl⟩
  by_cases c1 : n ≤ 90
  · have HN := Lib.hid (show ltN n = true by simp [ltN]; omega)
    have g0 : ¬ (97 : Int) ≤ ((n : Nat) : Int) := by omega
    have g0x : ((n : Nat) : Int) < 97 := by omega
    have g1 : (65 : Int) ≤ ((n : Nat) : Int) := by omega
    have l0 : ((n : Nat) : Int) ≤ 122 := by omega
    have l1 : ((n : Nat) : Int) ≤ 90 := by omega
    clear c0 c1 hn
    go_enter Tryd.func45, Tryd.ntmps45
    go_wp2
    go_ret
    rw [HN.out]
    exact ⟨rfl, rfl⟩
  by_cases c2 : n ≤ 96
  · have HN := Lib.hid (show ltN n = false by simp [ltN]; omega)
    have g0 : ¬ (97 : Int) ≤ ((n : Nat) : Int) := by omega
    have g0x : ((n : Nat) : Int) < 97 := by omega
    have g1 : (65 : Int) ≤ ((n : Nat) : Int) := by omega
    have l0 : ((n : Nat) : Int) ≤ 122 := by omega
    have l1 : ¬ ((n : Nat) : Int) ≤ 90 := by omega
    have l1x : (90 : Int) < ((n : Nat) : Int) := by omega
    clear c0 c1 c2 hn
    go_enter Tryd.func45, Tryd.ntmps45
    go_wp2
    go_ret
    rw [HN.out]
    exact ⟨rfl, rfl⟩
  by_cases c3 : n ≤ 122
  · have HN := Lib.hid (show ltN n = true by simp [ltN]; omega)
    have g0 : (97 : Int) ≤ ((n : Nat) : Int) := by omega
    have g1 : (65 : Int) ≤ ((n : Nat) : Int) := by omega
    have l0 : ((n : Nat) : Int) ≤ 122 := by omega
    have l1 : ¬ ((n : Nat) : Int) ≤ 90 := by omega
    have l1x : (90 : Int) < ((n : Nat) : Int) := by omega
    clear c0 c1 c2 c3 hn
    go_enter Tryd.func45, Tryd.ntmps45
    go_wp2
    go_ret
    rw [HN.out]
    exact ⟨rfl, rfl⟩
  · have HN := Lib.hid (show ltN n = false by simp [ltN]; omega)
    have g0 : (97 : Int) ≤ ((n : Nat) : Int) := by omega
    have g1 : (65 : Int) ≤ ((n : Nat) : Int) := by omega
    have l0 : ¬ ((n : Nat) : Int) ≤ 122 := by omega
    have l0x : (122 : Int) < ((n : Nat) : Int) := by omega
    have l1 : ¬ ((n : Nat) : Int) ≤ 90 := by omega
    have l1x : (90 : Int) < ((n : Nat) : Int) := by omega
    clear c0 c1 c2 c3 hn
    go_enter Tryd.func45, Tryd.ntmps45
    go_wp2
    go_ret
    rw [HN.out]
    exact ⟨rfl, rfl⟩
set_option maxRecDepth 100000 in
theorem qdigit_walk (n : Nat) (hn : n < 256) (w : World) : Calls Tryd.prog 47 #[.int .u8 (n : Nat)] w fun e w' => e = .returned (.bool (dgN n)) ∧ w = w' := by
  by_cases c0 : n ≤ 47
  · have HN := Lib.hid (show dgN n = false by simp [dgN]; omega)
    have g0 : ¬ (48 : Int) ≤ ((n : Nat) : Int) := by omega
    have g0x : ((n : Nat) : Int) < 48 := by omega
    have l0 : ((n : Nat) : Int) ≤ 57 := by omega
    clear c0 hn
    go_enter Tryd.func47, Tryd.ntmps47
    go_wp2
    go_ret
    rw [HN.out]
    exact ⟨rfl, rfl⟩
  by_cases c1 : n ≤ 57
  · have HN := Lib.hid (show dgN n = true by simp [dgN]; omega)
    have g0 : (48 : Int) ≤ ((n : Nat) : Int) := by omega
    have l0 : ((n : Nat) : Int) ≤ 57 := by omega
    clear c0 c1 hn
    go_enter Tryd.func47, Tryd.ntmps47
    go_wp2
    go_ret
    rw [HN.out]
    exact ⟨rfl, rfl⟩
  · have HN := Lib.hid (show dgN n = false by simp [dgN]; omega)
    have g0 : (48 : Int) ≤ ((n : Nat) : Int) := by omega
    have l0 : ¬ ((n : Nat) : Int) ≤ 57 := by omega
    have l0x : (57 : Int) < ((n : Nat) : Int) := by omega
    clear c0 c1 hn
    go_enter Tryd.func47, Tryd.ntmps47
    go_wp2
    go_ret
    rw [HN.out]
    exact ⟨rfl, rfl⟩
/-- The bytes that are told by name. -/
def nmN (k n : Nat) : Bool := if k = 1 then n == 95 || n == 45 else if k = 2 then n == 46 else n == 46 || n == 95 || n == 45 || n == 35 || n == 64
theorem go_nm (k n : Nat) : goN k n = (ltN n || dgN n || nmN k n) := rfl
set_option maxRecDepth 100000 in
theorem qgoes1_walk (n : Nat) (hn : n < 256) (w : World) : Calls Tryd.prog 60 #[.int .i64 1, .int .u8 (n : Nat)] w fun e w' => e = .returned (.bool (goN 1 n)) ∧ w = w' := by
  have HL := Lib.hid (fun w1 => qletter_walk n hn w1)
  have HD := Lib.hid (fun w1 => qdigit_walk n hn w1)
  have HE := Lib.hid (go_nm 1 n)
  clear hn
  cases hl : ltN n
  rotate_left
  · rw [hl] at HL HE
    have HX := Lib.hid (show goN 1 n = true by rw [HE.out]; rfl)
    clear hl
    go_enter Tryd.func60, Tryd.ntmps60
    go_wp2_with fail
    refine (HL.out _).mono ?_
    rintro e w1 ⟨rfl, rfl⟩
    go_wp2
    go_ret
    rw [HX.out]
    exact ⟨rfl, rfl⟩
  cases hd : dgN n
  rotate_left
  · rw [hl] at HL HE
    rw [hd] at HD HE
    have HX := Lib.hid (show goN 1 n = true by rw [HE.out]; rfl)
    clear hl hd
    go_enter Tryd.func60, Tryd.ntmps60
    go_wp2_with fail
    refine (HL.out _).mono ?_
    rintro e w1 ⟨rfl, rfl⟩
    go_wp2_with fail
    refine (HD.out _).mono ?_
    rintro e w1 ⟨rfl, rfl⟩
    go_wp2
    go_ret
    rw [HX.out]
    exact ⟨rfl, rfl⟩
  rw [hl] at HL HE
  rw [hd] at HD HE
  clear hl hd
  by_cases c0 : n = 95
  · subst c0
    have HX := Lib.hid (show goN 1 95 = true by decide)
    go_enter Tryd.func60, Tryd.ntmps60
    go_wp2_with fail
    refine (HL.out _).mono ?_
    rintro e w1 ⟨rfl, rfl⟩
    go_wp2_with fail
    refine (HD.out _).mono ?_
    rintro e w1 ⟨rfl, rfl⟩
    go_wp2
    go_ret
    rw [HX.out]
    exact ⟨rfl, rfl⟩
  by_cases c1 : n = 45
  · subst c1
    have HX := Lib.hid (show goN 1 45 = true by decide)
    go_enter Tryd.func60, Tryd.ntmps60
    go_wp2_with fail
    refine (HL.out _).mono ?_
    rintro e w1 ⟨rfl, rfl⟩
    go_wp2_with fail
    refine (HD.out _).mono ?_
    rintro e w1 ⟨rfl, rfl⟩
    go_wp2
    go_ret
    rw [HX.out]
    exact ⟨rfl, rfl⟩
  · have e0 : (((n : Nat) : Int) == 95) = false := by rw [beq_eq_false_iff_ne]; omega
    have e1 : (((n : Nat) : Int) == 45) = false := by rw [beq_eq_false_iff_ne]; omega
    have HX := Lib.hid (show goN 1 n = false by rw [HE.out]; simp [nmN]; omega)
    clear c0 c1
    go_enter Tryd.func60, Tryd.ntmps60
    go_wp2_with fail
    refine (HL.out _).mono ?_
    rintro e w1 ⟨rfl, rfl⟩
    go_wp2_with fail
    refine (HD.out _).mono ?_
    rintro e w1 ⟨rfl, rfl⟩
    go_wp2
    go_ret
    rw [HX.out]
    exact ⟨rfl, rfl⟩
set_option maxRecDepth 100000 in
theorem qgoes2_walk (n : Nat) (hn : n < 256) (w : World) : Calls Tryd.prog 60 #[.int .i64 2, .int .u8 (n : Nat)] w fun e w' => e = .returned (.bool (goN 2 n)) ∧ w = w' := by
  have HL := Lib.hid (fun w1 => qletter_walk n hn w1)
  have HD := Lib.hid (fun w1 => qdigit_walk n hn w1)
  have HE := Lib.hid (go_nm 2 n)
  clear hn
  cases hl : ltN n
  rotate_left
  · rw [hl] at HL HE
    have HX := Lib.hid (show goN 2 n = true by rw [HE.out]; rfl)
    clear hl
    go_enter Tryd.func60, Tryd.ntmps60
    go_wp2_with fail
    refine (HL.out _).mono ?_
    rintro e w1 ⟨rfl, rfl⟩
    go_wp2
    go_ret
    rw [HX.out]
    exact ⟨rfl, rfl⟩
  cases hd : dgN n
  rotate_left
  · rw [hl] at HL HE
    rw [hd] at HD HE
    have HX := Lib.hid (show goN 2 n = true by rw [HE.out]; rfl)
    clear hl hd
    go_enter Tryd.func60, Tryd.ntmps60
    go_wp2_with fail
    refine (HL.out _).mono ?_
    rintro e w1 ⟨rfl, rfl⟩
    go_wp2_with fail
    refine (HD.out _).mono ?_
    rintro e w1 ⟨rfl, rfl⟩
    go_wp2
    go_ret
    rw [HX.out]
    exact ⟨rfl, rfl⟩
  rw [hl] at HL HE
  rw [hd] at HD HE
  clear hl hd
  by_cases c0 : n = 46
  · subst c0
    have HX := Lib.hid (show goN 2 46 = true by decide)
    go_enter Tryd.func60, Tryd.ntmps60
    go_wp2_with fail
    refine (HL.out _).mono ?_
    rintro e w1 ⟨rfl, rfl⟩
    go_wp2_with fail
    refine (HD.out _).mono ?_
    rintro e w1 ⟨rfl, rfl⟩
    go_wp2
    go_ret
    rw [HX.out]
    exact ⟨rfl, rfl⟩
  · have e0 : (((n : Nat) : Int) == 46) = false := by rw [beq_eq_false_iff_ne]; omega
    have HX := Lib.hid (show goN 2 n = false by rw [HE.out]; simp [nmN]; omega)
    clear c0
    go_enter Tryd.func60, Tryd.ntmps60
    go_wp2_with fail
    refine (HL.out _).mono ?_
    rintro e w1 ⟨rfl, rfl⟩
    go_wp2_with fail
    refine (HD.out _).mono ?_
    rintro e w1 ⟨rfl, rfl⟩
    go_wp2
    go_ret
    rw [HX.out]
    exact ⟨rfl, rfl⟩
set_option maxRecDepth 100000 in
theorem qgoes3_walk (n : Nat) (hn : n < 256) (w : World) : Calls Tryd.prog 60 #[.int .i64 3, .int .u8 (n : Nat)] w fun e w' => e = .returned (.bool (goN 3 n)) ∧ w = w' := by
  have HL := Lib.hid (fun w1 => qletter_walk n hn w1)
  have HD := Lib.hid (fun w1 => qdigit_walk n hn w1)
  have HE := Lib.hid (go_nm 3 n)
  clear hn
  cases hl : ltN n
  rotate_left
  · rw [hl] at HL HE
    have HX := Lib.hid (show goN 3 n = true by rw [HE.out]; rfl)
    clear hl
    go_enter Tryd.func60, Tryd.ntmps60
    go_wp2_with fail
    refine (HL.out _).mono ?_
    rintro e w1 ⟨rfl, rfl⟩
    go_wp2
    go_ret
    rw [HX.out]
    exact ⟨rfl, rfl⟩
  cases hd : dgN n
  rotate_left
  · rw [hl] at HL HE
    rw [hd] at HD HE
    have HX := Lib.hid (show goN 3 n = true by rw [HE.out]; rfl)
    clear hl hd
    go_enter Tryd.func60, Tryd.ntmps60
    go_wp2_with fail
    refine (HL.out _).mono ?_
    rintro e w1 ⟨rfl, rfl⟩
    go_wp2_with fail
    refine (HD.out _).mono ?_
    rintro e w1 ⟨rfl, rfl⟩
    go_wp2
    go_ret
    rw [HX.out]
    exact ⟨rfl, rfl⟩
  rw [hl] at HL HE
  rw [hd] at HD HE
  clear hl hd
  by_cases c0 : n = 46
  · subst c0
    have HX := Lib.hid (show goN 3 46 = true by decide)
    go_enter Tryd.func60, Tryd.ntmps60
    go_wp2_with fail
    refine (HL.out _).mono ?_
    rintro e w1 ⟨rfl, rfl⟩
    go_wp2_with fail
    refine (HD.out _).mono ?_
    rintro e w1 ⟨rfl, rfl⟩
    go_wp2
    go_ret
    rw [HX.out]
    exact ⟨rfl, rfl⟩
  by_cases c1 : n = 95
  · subst c1
    have HX := Lib.hid (show goN 3 95 = true by decide)
    go_enter Tryd.func60, Tryd.ntmps60
    go_wp2_with fail
    refine (HL.out _).mono ?_
    rintro e w1 ⟨rfl, rfl⟩
    go_wp2_with fail
    refine (HD.out _).mono ?_
    rintro e w1 ⟨rfl, rfl⟩
    go_wp2
    go_ret
    rw [HX.out]
    exact ⟨rfl, rfl⟩
  by_cases c2 : n = 45
  · subst c2
    have HX := Lib.hid (show goN 3 45 = true by decide)
    go_enter Tryd.func60, Tryd.ntmps60
    go_wp2_with fail
    refine (HL.out _).mono ?_
    rintro e w1 ⟨rfl, rfl⟩
    go_wp2_with fail
    refine (HD.out _).mono ?_
    rintro e w1 ⟨rfl, rfl⟩
    go_wp2
    go_ret
    rw [HX.out]
    exact ⟨rfl, rfl⟩
  by_cases c3 : n = 35
  · subst c3
    have HX := Lib.hid (show goN 3 35 = true by decide)
    go_enter Tryd.func60, Tryd.ntmps60
    go_wp2_with fail
    refine (HL.out _).mono ?_
    rintro e w1 ⟨rfl, rfl⟩
    go_wp2_with fail
    refine (HD.out _).mono ?_
    rintro e w1 ⟨rfl, rfl⟩
    go_wp2
    go_ret
    rw [HX.out]
    exact ⟨rfl, rfl⟩
  by_cases c4 : n = 64
  · subst c4
    have HX := Lib.hid (show goN 3 64 = true by decide)
    go_enter Tryd.func60, Tryd.ntmps60
    go_wp2_with fail
    refine (HL.out _).mono ?_
    rintro e w1 ⟨rfl, rfl⟩
    go_wp2_with fail
    refine (HD.out _).mono ?_
    rintro e w1 ⟨rfl, rfl⟩
    go_wp2
    go_ret
    rw [HX.out]
    exact ⟨rfl, rfl⟩
  · have e0 : (((n : Nat) : Int) == 46) = false := by rw [beq_eq_false_iff_ne]; omega
    have e1 : (((n : Nat) : Int) == 95) = false := by rw [beq_eq_false_iff_ne]; omega
    have e2 : (((n : Nat) : Int) == 45) = false := by rw [beq_eq_false_iff_ne]; omega
    have e3 : (((n : Nat) : Int) == 35) = false := by rw [beq_eq_false_iff_ne]; omega
    have e4 : (((n : Nat) : Int) == 64) = false := by rw [beq_eq_false_iff_ne]; omega
    have HX := Lib.hid (show goN 3 n = false by rw [HE.out]; simp [nmN]; omega)
    clear c0 c1 c2 c3 c4
    go_enter Tryd.func60, Tryd.ntmps60
    go_wp2_with fail
    refine (HL.out _).mono ?_
    rintro e w1 ⟨rfl, rfl⟩
    go_wp2_with fail
    refine (HD.out _).mono ?_
    rintro e w1 ⟨rfl, rfl⟩
    go_wp2
    go_ret
    rw [HX.out]
    exact ⟨rfl, rfl⟩
theorem qgoes_walk (k : Nat) (hk : k = 1 ∨ k = 2 ∨ k = 3) (n : Nat) (hn : n < 256) (w : World) : Calls Tryd.prog 60 #[.int .i64 (k : Nat), .int .u8 (n : Nat)] w fun e w' => e = .returned (.bool (goN k n)) ∧ w = w' := by
  rcases hk with rfl | rfl | rfl
  · exact qgoes1_walk n hn w
  · exact qgoes2_walk n hn w
  · exact qgoes3_walk n hn w
theorem run_at (k : Nat) : ∀ (s : List UInt8) (i : Nat), i ≤ run k s → (i < s.length → goN k (byt s i) = decide (i < run k s)) ∧ (i = s.length → run k s = s.length)
  | [], i, h => ⟨fun hi => by simp at hi, fun _ => rfl⟩
  | c :: t, 0, h => by
    refine ⟨fun _ => ?_, fun hi => by simp at hi⟩
    show goN k c.toNat = _
    by_cases hc : goN k c.toNat = true
    · simp only [run, if_pos hc]; rw [hc]; simp
    · rw [Bool.not_eq_true] at hc
      simp [run, hc]
  | c :: t, i + 1, h => by
    by_cases hc : goN k c.toNat = true
    · have ih := run_at k t i (by simp only [run, if_pos hc] at h; omega)
      refine ⟨fun hi => ?_, fun hi => ?_⟩
      · have := ih.1 (by simpa using hi)
        simp only [run, if_pos hc]
        rw [show byt (c :: t) (i + 1) = byt t i from rfl, this, decide_eq_decide]; omega
      · have := ih.2 (by simpa using hi)
        simp only [run, if_pos hc, List.length_cons, this]
    · simp only [run, if_neg hc] at h; omega
set_option maxRecDepth 100000 in
theorem qrun_walk (k : Nat) (hk : k = 1 ∨ k = 2 ∨ k = 3) (s : List UInt8) (hs : s.length ≤ 1000000) (w : World) : Calls Tryd.prog 46 #[.int .i64 (k : Nat), .string (bs s)] w fun e w' => e = .returned (.int .i64 (run k s : Nat)) ∧ w = w' := by
  have HG := Lib.hid (fun n hn w1 => qgoes_walk k hk n hn w1)
  have HR := Lib.hid (run_at k s)
  have HL := Lib.hid (run_le k s)
  clear hk
  obtain ⟨R, hR⟩ : ∃ R, L14.run k s = R := ⟨_, rfl⟩
  rw [hR] at HR HL
  have HRR := Lib.hid hR
  clear hR
  go_enter Tryd.func46, Tryd.ntmps46
  go_wp2
  go_loopg [5] s.length (fun g v5 wx => wx = w ∧ ∃ i : Nat, i + g = s.length ∧ i ≤ R ∧ v5 = .int .i64 i)
  case atStart => exact ⟨rfl, 0, by omega, by omega, rfl⟩
  case round =>
    obtain ⟨rfl, i, hig, hiR, rfl⟩ := hrel
    by_cases hi : i < s.length
    · have hi2 : ((i : Nat) : Int) < ((s.length : Nat) : Int) := by omega
      have hb := byt_lt s i
      have hgo := (HR.out i hiR).1 hi
      have H1 := HG.out (byt s i) hb wr
      rw [hgo] at H1
      by_cases hiR2 : i < R
      · rw [decide_eq_true hiR2] at H1
        have HH := Lib.hid H1
        clear H1 hgo
        obtain ⟨G, rfl⟩ : ∃ G, gk = G + 1 := ⟨gk - 1, by omega⟩
        go_wp2_with fail
        refine HH.out.mono ?_
        rintro e w1 ⟨rfl, rfl⟩
        go_wp2
        go_roundg G
        case measure => omega
        case rel => exact ⟨rfl, i + 1, by omega, by omega, rfl⟩
      · rw [decide_eq_false hiR2] at H1
        have HH := Lib.hid H1
        have HE := Lib.hid (show L14.run k s = i by rw [HRR.out]; omega)
        clear H1 hgo hiR2
        go_wp2_with fail
        refine HH.out.mono ?_
        rintro e w1 ⟨rfl, rfl⟩
        go_wp2
        go_ret
        rw [HE.out]
        exact ⟨rfl, rfl⟩
    · have hi2 : ¬ ((i : Nat) : Int) < ((s.length : Nat) : Int) := by omega
      have HE := Lib.hid (show L14.run k s = i by rw [HRR.out, (HR.out i hiR).2 (by omega)]; omega)
      go_wp2
      go_ret
      rw [HE.out]
      exact ⟨rfl, rfl⟩
set_option maxRecDepth 100000 in
theorem qissign_walk (c : UInt8) (w : World) : Calls Tryd.prog 44 #[.string (bs [c])] w fun e w' => e = .returned (.bool (sgN c.toNat)) ∧ w = w' := by
  by_cases c0 : c = 123
  · subst c0
    go_enter Tryd.func44, Tryd.ntmps44
    go_wp2
    go_ret
    exact ⟨rfl, rfl⟩
  by_cases c1 : c = 125
  · subst c1
    go_enter Tryd.func44, Tryd.ntmps44
    go_wp2
    go_ret
    exact ⟨rfl, rfl⟩
  by_cases c2 : c = 40
  · subst c2
    go_enter Tryd.func44, Tryd.ntmps44
    go_wp2
    go_ret
    exact ⟨rfl, rfl⟩
  by_cases c3 : c = 41
  · subst c3
    go_enter Tryd.func44, Tryd.ntmps44
    go_wp2
    go_ret
    exact ⟨rfl, rfl⟩
  by_cases c4 : c = 59
  · subst c4
    go_enter Tryd.func44, Tryd.ntmps44
    go_wp2
    go_ret
    exact ⟨rfl, rfl⟩
  by_cases c5 : c = 61
  · subst c5
    go_enter Tryd.func44, Tryd.ntmps44
    go_wp2
    go_ret
    exact ⟨rfl, rfl⟩
  by_cases c6 : c = 43
  · subst c6
    go_enter Tryd.func44, Tryd.ntmps44
    go_wp2
    go_ret
    exact ⟨rfl, rfl⟩
  by_cases c7 : c = 44
  · subst c7
    go_enter Tryd.func44, Tryd.ntmps44
    go_wp2
    go_ret
    exact ⟨rfl, rfl⟩
  have HX := Lib.hid (show sgN c.toNat = false by
    unfold sgN
    simp only [Bool.or_eq_false_iff, beq_eq_false_iff_ne]
    refine ⟨⟨⟨⟨⟨⟨⟨?_, ?_⟩, ?_⟩, ?_⟩, ?_⟩, ?_⟩, ?_⟩, ?_⟩
    · intro e; exact c0 (UInt8.toNat_inj.1 e)
    · intro e; exact c1 (UInt8.toNat_inj.1 e)
    · intro e; exact c2 (UInt8.toNat_inj.1 e)
    · intro e; exact c3 (UInt8.toNat_inj.1 e)
    · intro e; exact c4 (UInt8.toNat_inj.1 e)
    · intro e; exact c5 (UInt8.toNat_inj.1 e)
    · intro e; exact c6 (UInt8.toNat_inj.1 e)
    · intro e; exact c7 (UInt8.toNat_inj.1 e))
  have n0 : ¬ [c] = [123] := by simpa using c0
  have m0 : ([c] == [123]) = false := by simpa using c0
  have n1 : ¬ [c] = [125] := by simpa using c1
  have m1 : ([c] == [125]) = false := by simpa using c1
  have n2 : ¬ [c] = [40] := by simpa using c2
  have m2 : ([c] == [40]) = false := by simpa using c2
  have n3 : ¬ [c] = [41] := by simpa using c3
  have m3 : ([c] == [41]) = false := by simpa using c3
  have n4 : ¬ [c] = [59] := by simpa using c4
  have m4 : ([c] == [59]) = false := by simpa using c4
  have n5 : ¬ [c] = [61] := by simpa using c5
  have m5 : ([c] == [61]) = false := by simpa using c5
  have n6 : ¬ [c] = [43] := by simpa using c6
  have m6 : ([c] == [43]) = false := by simpa using c6
  have n7 : ¬ [c] = [44] := by simpa using c7
  have m7 : ([c] == [44]) = false := by simpa using c7
  clear c0 c1 c2 c3 c4 c5 c6 c7
  generalize [c] = s at *
  go_enter Tryd.func44, Tryd.ntmps44
  go_wp2
  go_ret
  rw [HX.out]
  exact ⟨rfl, rfl⟩
/-- What nibble answers. -/
def nbV (n : Nat) : Int := match nib n with | some a => (a : Nat) | none => -1
set_option maxRecDepth 100000 in
theorem qnibble_walk (n : Nat) (hn : n < 256) (w : World) : Calls Tryd.prog 71 #[.int .u8 (n : Nat)] w fun e w' => e = .returned (.int .i64 (nbV n)) ∧ w = w' := by
  have HD := Lib.hid (fun w1 => qdigit_walk n hn w1)
  cases hd : dgN n
  rotate_left
  · rw [hd] at HD
    have h1 : 48 ≤ n ∧ n ≤ 57 := by unfold dgN at hd; simpa using hd
    have HX := Lib.hid (show nbV n = (n : Int) - 48 by unfold nbV nib; rw [if_pos hd]; simp only; omega)
    have h2 : (48 : Int) ≤ (n : Int) := by omega
    clear hd
    go_enter Tryd.func71, Tryd.ntmps71
    go_wp2_with fail
    refine (HD.out _).mono ?_
    rintro e w1 ⟨rfl, rfl⟩
    go_wp2
    go_ret
    rw [HX.out]
    exact ⟨rfl, rfl⟩
  rw [hd] at HD
  have h1 : ¬ (48 ≤ n ∧ n ≤ 57) := by unfold dgN at hd; simpa using hd
  by_cases c1 : 97 ≤ n ∧ n ≤ 102
  · have HX := Lib.hid (show nbV n = (n : Int) - 97 + 10 by unfold nbV nib; rw [if_neg (by rw [hd]; decide), if_pos c1]; simp only; omega)
    have g0 : (97 : Int) ≤ (n : Int) := by omega
    have g1 : (n : Int) ≤ 102 := by omega
    clear hd h1
    go_enter Tryd.func71, Tryd.ntmps71
    go_wp2_with fail
    refine (HD.out _).mono ?_
    rintro e w1 ⟨rfl, rfl⟩
    go_wp2
    go_ret
    rw [HX.out]
    exact ⟨rfl, rfl⟩
  by_cases c2 : 65 ≤ n ∧ n ≤ 70
  · have HX := Lib.hid (show nbV n = (n : Int) - 65 + 10 by unfold nbV nib; rw [if_neg (by rw [hd]; decide), if_neg c1, if_pos c2]; simp only; omega)
    have g0 : ¬ (97 : Int) ≤ (n : Int) := by omega
    have g0x : (n : Int) < 97 := by omega
    have g1 : (65 : Int) ≤ (n : Int) := by omega
    have g2 : (n : Int) ≤ 70 := by omega
    clear hd h1 c1
    go_enter Tryd.func71, Tryd.ntmps71
    go_wp2_with fail
    refine (HD.out _).mono ?_
    rintro e w1 ⟨rfl, rfl⟩
    go_wp2
    go_ret
    rw [HX.out]
    exact ⟨rfl, rfl⟩
  have HX := Lib.hid (show nbV n = -1 by unfold nbV nib; rw [if_neg (by rw [hd]; decide), if_neg c1, if_neg c2])
  clear hd h1
  rcases (show n < 65 ∨ (70 < n ∧ n < 97) ∨ 102 < n by omega) with h | h | h
  · have g0 : (n : Int) < 97 := by omega
    have g1 : (n : Int) < 65 := by omega
    clear h c1 c2
    go_enter Tryd.func71, Tryd.ntmps71
    go_wp2_with fail
    refine (HD.out _).mono ?_
    rintro e w1 ⟨rfl, rfl⟩
    go_wp2
    go_ret
    rw [HX.out]
    exact ⟨rfl, rfl⟩
  · have g0 : (n : Int) < 97 := by omega
    have g1 : (65 : Int) ≤ (n : Int) := by omega
    have g2 : (70 : Int) < (n : Int) := by omega
    clear h c1 c2
    go_enter Tryd.func71, Tryd.ntmps71
    go_wp2_with fail
    refine (HD.out _).mono ?_
    rintro e w1 ⟨rfl, rfl⟩
    go_wp2
    go_ret
    rw [HX.out]
    exact ⟨rfl, rfl⟩
  · have g0 : (97 : Int) ≤ (n : Int) := by omega
    have g1 : (102 : Int) < (n : Int) := by omega
    have g2 : (65 : Int) ≤ (n : Int) := by omega
    have g3 : (70 : Int) < (n : Int) := by omega
    clear h c1 c2
    go_enter Tryd.func71, Tryd.ntmps71
    go_wp2_with fail
    refine (HD.out _).mono ?_
    rintro e w1 ⟨rfl, rfl⟩
    go_wp2
    go_ret
    rw [HX.out]
    exact ⟨rfl, rfl⟩
end Go.Proofs.YtkobjbmjefkmgaaDoor
