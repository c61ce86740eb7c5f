/- The document's IsSign of any text, and put, walked (gen_lexi.py writes this). -/
import Derived.Test.YtkobjbmjefkmgaaDoorLexH
namespace Go.Proofs.YtkobjbmjefkmgaaDoor
open Go.ChangeShapes Go.WideShapes Go.ChangeAt Go.RowKit K L14
set_option linter.unusedVariables false

set_option maxRecDepth 100000 in
theorem qissignL_walk (s : List UInt8) (w : World) : Calls Tryd.prog 44 #[.string (bs s)] w fun e w' => e = .returned (.bool (isS s)) ∧ w = w' := by
  by_cases h : ∃ c, s = [c]
  · obtain ⟨c, rfl⟩ := h
    exact qissign_walk c w
  have HX := Lib.hid (show isS s = false by
    unfold isS
    split
    · next c => exact absurd ⟨c, rfl⟩ h
    · rfl)
  have n0 : ¬ s = [123] := fun e => h ⟨123, e⟩
  have m0 : (s == [123]) = false := beq_eq_false_iff_ne.2 n0
  have n1 : ¬ s = [125] := fun e => h ⟨125, e⟩
  have m1 : (s == [125]) = false := beq_eq_false_iff_ne.2 n1
  have n2 : ¬ s = [40] := fun e => h ⟨40, e⟩
  have m2 : (s == [40]) = false := beq_eq_false_iff_ne.2 n2
  have n3 : ¬ s = [41] := fun e => h ⟨41, e⟩
  have m3 : (s == [41]) = false := beq_eq_false_iff_ne.2 n3
  have n4 : ¬ s = [59] := fun e => h ⟨59, e⟩
  have m4 : (s == [59]) = false := beq_eq_false_iff_ne.2 n4
  have n5 : ¬ s = [61] := fun e => h ⟨61, e⟩
  have m5 : (s == [61]) = false := beq_eq_false_iff_ne.2 n5
  have n6 : ¬ s = [43] := fun e => h ⟨43, e⟩
  have m6 : (s == [43]) = false := beq_eq_false_iff_ne.2 n6
  have n7 : ¬ s = [44] := fun e => h ⟨44, e⟩
  have m7 : (s == [44]) = false := beq_eq_false_iff_ne.2 n7
  clear h
  go_enter Tryd.func44, Tryd.ntmps44
  go_wp2
  go_ret
  rw [HX.out]
  exact ⟨rfl, rfl⟩
/-- A kind among the five; or none. -/
def kN (k : Int) : Nat := if k = 1 then 1 else if k = 2 then 2 else if k = 3 then 3 else if k = 4 then 4 else if k = 5 then 5 else 0
def PuPost (k : Nat) (t : List UInt8) (w : World) (e : Ending) (w' : World) : Prop := e = .returned (.string (bs (put k t))) ∧ Below w.heap.size w w'
theorem eq_len {a b : Nat} (h : a = b) : (((a : Nat) : Int) != ((b : Nat) : Int)) = false := by subst h; simp
theorem ne_len {a b : Nat} (h : ¬ a = b) : (((a : Nat) : Int) != ((b : Nat) : Int)) = true := by rw [bne_iff_ne]; omega
set_option maxRecDepth 100000 in
set_option maxHeartbeats 1000000 in
theorem qput_walk (k l : Int) (t : List UInt8) (ht : t.length ≤ 1000000) (w : World) : Calls Tryd.prog 29 #[.agg #[.int .i64 k, .string (bs t), .int .i64 l]] w (PuPost (kN k) t w) := by
  have b0 := fun X => (Below.refl w.heap.size w).alloc (Nat.le_refl _) X
  have HB := Lib.hid b0
  clear b0
  by_cases k1 : k = 1
  · subst k1
    have hk : kN 1 = 1 := rfl
    rw [hk]
    clear hk
    cases t with
    | nil =>
      have HX := Lib.hid (show put 1 [] = [] by decide)
      go_enter Tryd.func29, Tryd.ntmps29
      go_wp2
      go_ret
      exact ⟨by rw [HX.out]; rfl, HB.out _⟩
    | cons c r =>
      have HL := Lib.hid (fun w1 => qletter_walk (byt (c :: r) 0) (byt_lt _ _) w1)
      have HR := Lib.hid (fun w1 => qrun_walk 1 (by omega) (c :: r) ht w1)
      have hlen : (0 : Int) < (((c :: r).length : Nat) : Int) := by simp
      have hlen2 : 0 < (c :: r).length := by simp
      have n0 : ¬ (c :: r) = [] := by simp
      have m0 : ((c :: r) == []) = false := rfl
      have hPL : ltN (byt (c :: r) 0) = false → put 1 (c :: r) = [] := by
        intro h; unfold put; rw [if_pos rfl]; have h' : ltN c.toNat = false := h; simp [isW, h']
      have hPR : ¬ run 1 (c :: r) = (c :: r).length → put 1 (c :: r) = [] := by
        intro h; unfold put; rw [if_pos rfl, if_neg]; unfold isW; simp only [Bool.and_eq_true, beq_iff_eq]; exact fun x => h x.2
      have hPY : ltN (byt (c :: r) 0) = true → run 1 (c :: r) = (c :: r).length → put 1 (c :: r) = c :: r := by
        intro h g; unfold put; rw [if_pos rfl, if_pos]; unfold isW; simp only [Bool.and_eq_true, beq_iff_eq]; exact ⟨h, g⟩
      generalize c :: r = s at *
      generalize run 1 s = N at *
      generalize ltN (byt s 0) = B at *
      cases B
      · have HX := Lib.hid (hPL rfl)
        clear hPL hPR hPY
        go_enter Tryd.func29, Tryd.ntmps29
        go_wp2_with fail
        refine (HL.out _).mono ?_
        rintro e w1 ⟨rfl, rfl⟩
        go_wp2
        go_ret
        exact ⟨by rw [HX.out]; rfl, HB.out _⟩
      by_cases hN : N = s.length
      · have HX := Lib.hid (hPY rfl hN)
        have hne := eq_len hN
        clear hPL hPR hPY hN
        go_enter Tryd.func29, Tryd.ntmps29
        go_wp2_with fail
        refine (HL.out _).mono ?_
        rintro e w1 ⟨rfl, rfl⟩
        go_wp2_with fail
        refine (HR.out _).mono ?_
        rintro e w1 ⟨rfl, rfl⟩
        go_wp2
        go_ret
        exact ⟨by rw [HX.out]; rfl, HB.out _⟩
      · have HX := Lib.hid (hPR hN)
        have hne := ne_len hN
        clear hPL hPR hPY hN
        go_enter Tryd.func29, Tryd.ntmps29
        go_wp2_with fail
        refine (HL.out _).mono ?_
        rintro e w1 ⟨rfl, rfl⟩
        go_wp2_with fail
        refine (HR.out _).mono ?_
        rintro e w1 ⟨rfl, rfl⟩
        go_wp2
        go_ret
        exact ⟨by rw [HX.out]; rfl, HB.out _⟩
  by_cases k2 : k = 2
  · subst k2
    have hk : kN 2 = 2 := rfl
    rw [hk]
    clear hk
    cases t with
    | nil =>
      have HX := Lib.hid (show put 2 [] = [] by decide)
      go_enter Tryd.func29, Tryd.ntmps29
      go_wp2
      go_ret
      exact ⟨by rw [HX.out]; rfl, HB.out _⟩
    | cons c r =>
      have HL := Lib.hid (fun w1 => qdigit_walk (byt (c :: r) 0) (byt_lt _ _) w1)
      have HR := Lib.hid (fun w1 => qrun_walk 2 (by omega) (c :: r) ht w1)
      have hlen : (0 : Int) < (((c :: r).length : Nat) : Int) := by simp
      have hlen2 : 0 < (c :: r).length := by simp
      have n0 : ¬ (c :: r) = [] := by simp
      have m0 : ((c :: r) == []) = false := rfl
      have hPL : dgN (byt (c :: r) 0) = false → put 2 (c :: r) = [] := by
        intro h; unfold put; rw [if_neg (by decide), if_pos rfl]; have h' : dgN c.toNat = false := h; simp [isF, h']
      have hPR : ¬ run 2 (c :: r) = (c :: r).length → put 2 (c :: r) = [] := by
        intro h; unfold put; rw [if_neg (by decide), if_pos rfl, if_neg]; unfold isF; simp only [Bool.and_eq_true, beq_iff_eq]; exact fun x => h x.2
      have hPY : dgN (byt (c :: r) 0) = true → run 2 (c :: r) = (c :: r).length → put 2 (c :: r) = c :: r := by
        intro h g; unfold put; rw [if_neg (by decide), if_pos rfl, if_pos]; unfold isF; simp only [Bool.and_eq_true, beq_iff_eq]; exact ⟨h, g⟩
      generalize c :: r = s at *
      generalize run 2 s = N at *
      generalize dgN (byt s 0) = B at *
      cases B
      · have HX := Lib.hid (hPL rfl)
        clear hPL hPR hPY
        go_enter Tryd.func29, Tryd.ntmps29
        go_wp2_with fail
        refine (HL.out _).mono ?_
        rintro e w1 ⟨rfl, rfl⟩
        go_wp2
        go_ret
        exact ⟨by rw [HX.out]; rfl, HB.out _⟩
      by_cases hN : N = s.length
      · have HX := Lib.hid (hPY rfl hN)
        have hne := eq_len hN
        clear hPL hPR hPY hN
        go_enter Tryd.func29, Tryd.ntmps29
        go_wp2_with fail
        refine (HL.out _).mono ?_
        rintro e w1 ⟨rfl, rfl⟩
        go_wp2_with fail
        refine (HR.out _).mono ?_
        rintro e w1 ⟨rfl, rfl⟩
        go_wp2
        go_ret
        exact ⟨by rw [HX.out]; rfl, HB.out _⟩
      · have HX := Lib.hid (hPR hN)
        have hne := ne_len hN
        clear hPL hPR hPY hN
        go_enter Tryd.func29, Tryd.ntmps29
        go_wp2_with fail
        refine (HL.out _).mono ?_
        rintro e w1 ⟨rfl, rfl⟩
        go_wp2_with fail
        refine (HR.out _).mono ?_
        rintro e w1 ⟨rfl, rfl⟩
        go_wp2
        go_ret
        exact ⟨by rw [HX.out]; rfl, HB.out _⟩
  by_cases k3 : k = 3
  · subst k3
    have hk : kN 3 = 3 := rfl
    rw [hk]
    clear hk
    cases t with
    | nil =>
      have HX := Lib.hid (show put 3 [] = [] by decide)
      go_enter Tryd.func29, Tryd.ntmps29
      go_wp2
      go_ret
      exact ⟨by rw [HX.out]; rfl, HB.out _⟩
    | cons c r =>
      have HR := Lib.hid (fun w1 => qrun_walk 3 (by omega) (c :: r) ht w1)
      have n0 : ¬ (c :: r) = [] := by simp
      have m0 : ((c :: r) == []) = false := rfl
      have hPR : ¬ run 3 (c :: r) = (c :: r).length → put 3 (c :: r) = [] := by
        intro h; unfold put; rw [if_neg (by decide), if_neg (by decide), if_pos rfl, if_neg]; unfold isD; simp only [Bool.and_eq_true, beq_iff_eq]; exact fun x => h x.2
      have hPY : run 3 (c :: r) = (c :: r).length → put 3 (c :: r) = 36 :: c :: r := by
        intro g; unfold put; rw [if_neg (by decide), if_neg (by decide), if_pos rfl, if_pos]; unfold isD; simp only [Bool.and_eq_true, beq_iff_eq]; exact ⟨rfl, g⟩
      generalize c :: r = s at *
      generalize run 3 s = N at *
      by_cases hN : N = s.length
      · have HX := Lib.hid (hPY hN)
        have hne := eq_len hN
        clear hPR hPY hN
        go_enter Tryd.func29, Tryd.ntmps29
        go_wp2_with fail
        refine (HR.out _).mono ?_
        rintro e w1 ⟨rfl, rfl⟩
        go_wp2
        go_ret
        exact ⟨by rw [HX.out]; rfl, HB.out _⟩
      · have HX := Lib.hid (hPR hN)
        have hne := ne_len hN
        clear hPR hPY hN
        go_enter Tryd.func29, Tryd.ntmps29
        go_wp2_with fail
        refine (HR.out _).mono ?_
        rintro e w1 ⟨rfl, rfl⟩
        go_wp2
        go_ret
        exact ⟨by rw [HX.out]; rfl, HB.out _⟩
  by_cases k4 : k = 4
  · subst k4
    have HX := Lib.hid (show put (kN 4) t = quo t from rfl)
    have HQ := Lib.hid (fun w1 => qquote_walk t ht w1)
    go_enter Tryd.func29, Tryd.ntmps29
    go_wp2_with fail
    refine (HQ.out _).mono ?_
    rintro e w1 ⟨rfl, b1⟩
    have HB1 := Lib.hid ((HB.out _).trans (b1.mono (by simp)))
    clear b1
    go_wp2
    go_ret
    exact ⟨by rw [HX.out]; rfl, HB1.out⟩
  by_cases k5 : k = 5
  · subst k5
    have HS := Lib.hid (fun w1 => qissignL_walk t w1)
    have hPN : isS t = false → put (kN 5) t = [] := by
      intro h; show put 5 t = []; unfold put; rw [if_neg (by decide), if_neg (by decide), if_neg (by decide), if_neg (by decide), if_pos rfl, h]; rfl
    have hPY : isS t = true → put (kN 5) t = t := by
      intro h; show put 5 t = t; unfold put; rw [if_neg (by decide), if_neg (by decide), if_neg (by decide), if_neg (by decide), if_pos rfl, h]; rfl
    generalize isS t = B at *
    cases B
    · have HX := Lib.hid (hPN rfl)
      clear hPN hPY
      go_enter Tryd.func29, Tryd.ntmps29
      go_wp2_with fail
      refine (HS.out _).mono ?_
      rintro e w1 ⟨rfl, rfl⟩
      go_wp2
      go_ret
      exact ⟨by rw [HX.out]; rfl, HB.out _⟩
    · have HX := Lib.hid (hPY rfl)
      clear hPN hPY
      go_enter Tryd.func29, Tryd.ntmps29
      go_wp2_with fail
      refine (HS.out _).mono ?_
      rintro e w1 ⟨rfl, rfl⟩
      go_wp2
      go_ret
      exact ⟨by rw [HX.out]; rfl, HB.out _⟩
  have HX := Lib.hid (show put (kN k) t = [] by unfold kN; rw [if_neg k1, if_neg k2, if_neg k3, if_neg k4, if_neg k5]; rfl)
  have n1 : (k == 1) = false := beq_eq_false_iff_ne.2 k1
  have n2 : (k == 2) = false := beq_eq_false_iff_ne.2 k2
  have n3 : (k == 3) = false := beq_eq_false_iff_ne.2 k3
  have n4 : (k == 4) = false := beq_eq_false_iff_ne.2 k4
  have n5 : (k == 5) = false := beq_eq_false_iff_ne.2 k5
  go_enter Tryd.func29, Tryd.ntmps29
  go_wp2
  go_ret
  exact ⟨by rw [HX.out]; rfl, HB.out _⟩
end Go.Proofs.YtkobjbmjefkmgaaDoor
