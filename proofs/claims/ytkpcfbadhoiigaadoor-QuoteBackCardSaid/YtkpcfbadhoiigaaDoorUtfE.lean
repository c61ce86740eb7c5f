/- The document's First, Check and Mark, walked. -/
import Derived.Test.YtkpcfbadhoiigaaDoorUtfD
import Derived.Outline
namespace Go.Proofs.YtkpcfbadhoiigaaDoor
open Go.ChangeShapes Go.WideShapes Go.ChangeAt Go.RowKit K U4
set_option linter.unusedVariables false

theorem Below_ofDrew {B : Nat} {a b : World} {n : Nat} (h : Below B (a.drewN n) b) : Below B a b := ⟨h.os, h.tape, h.output, h.size, h.block⟩
theorem Below_drewN {B : Nat} {a b : World} (h : Below B a b) (n : Nat) : Below B a (b.drewN n) := ⟨h.os, h.tape, h.output, h.size, h.block⟩
theorem Below_ofDrew1 {B : Nat} {a b : World} (h : Below B a.drew b) : Below B a b := ⟨h.os, h.tape, h.output, h.size, h.block⟩
theorem gac_le (l : List UInt8) (n : Nat) : gac l n 0 < 256 ∧ gac l n 1 < 16448 ∧ gac l n 2 < 1052736 ∧ gac l n 3 < 67375168 := by
  have h := byt_lt l 0
  have h1 : gst n (byt l 0) < 256 := by
    unfold gst
    by_cases e1 : n = 1
    · rw [if_pos e1]; exact h
    · by_cases e2 : n = 2
      · rw [if_neg e1, if_pos e2]; omega
      · by_cases e3 : n = 3
        · rw [if_neg e1, if_neg e2, if_pos e3]; omega
        · rw [if_neg e1, if_neg e2, if_neg e3]; omega
  simp only [gac]; omega
theorem gac_lt (l : List UInt8) (n i : Nat) (h : i ≤ 3) : gac l n i < 67375168 := by
  obtain ⟨a, b, c, d⟩ := gac_le l n
  obtain rfl | rfl | rfl | rfl : i = 0 ∨ i = 1 ∨ i = 2 ∨ i = 3 := by omega
  all_goals omega
theorem gs_lt (l : List UInt8) (n : Nat) (h : n ≤ 4) : gs l n < 67375168 := gac_lt l n (n - 1) (by omega)
def GuRel (l : List UInt8) (n : Nat) (w : World) (g : Nat) (v5 v6 : Value) (wr : World) : Prop :=
  ∃ j, j + 1 + g = n ∧ v6 = .int .i64 ((j + 1 : Nat) : Int) ∧ v5 = .int .i64 ((gac l n j : Nat) : Int) ∧ wr = w
set_option maxRecDepth 100000 in
theorem guess_walk (l : List UInt8) (hl : l.length ≤ 140737488351232) (n : Nat) (h1 : 1 ≤ n) (h4 : n ≤ 4) (hn : n ≤ l.length) (w : World) :
    Calls Tryd.prog 79 #[.string (bs l), .int .i64 n] w fun e w' => e = .returned (.int .i64 (gs l n : Nat)) ∧ w = w' := by
  have hpos : 0 < l.length := by omega
  have hb0 := byt_lt l 0
  by_cases hn1 : n = 1
  · subst hn1
    show Calls _ _ _ _ fun e w' => e = .returned (.int .i64 (byt l 0 : Nat)) ∧ w = w'
    go_enter Tryd.func79, Tryd.ntmps79
    go_wp2
    go_ret
    exact ⟨rfl, rfl⟩
  · have HG := Lib.hid (show gac l n (n - 1) = gs l n from rfl)
    have q1 : (((n : Nat) : Int) == 1) = false := by rw [beq_eq_false_iff_ne]; omega
    have hq : (((n : Nat) : Int) == 2) = true ∧ (((n : Nat) : Int) == 3) = false ∧ ((byt l 0 : Nat) : Int) % 32 = ((gac l n 0 : Nat) : Int) ∨
        (((n : Nat) : Int) == 2) = false ∧ (((n : Nat) : Int) == 3) = true ∧ ((byt l 0 : Nat) : Int) % 16 = ((gac l n 0 : Nat) : Int) ∨
        (((n : Nat) : Int) == 2) = false ∧ (((n : Nat) : Int) == 3) = false ∧ ((byt l 0 : Nat) : Int) % 8 = ((gac l n 0 : Nat) : Int) := by
      obtain rfl | rfl | rfl : n = 2 ∨ n = 3 ∨ n = 4 := by omega
      · left; simp [gac, gst]
      · right; left; simp [gac, gst]
      · right; right; simp [gac, gst]
    have hn2 : 2 ≤ n := by omega
    clear hn1
    rcases hq with ⟨q2, q3, hv⟩ | ⟨q2, q3, hv⟩ | ⟨q2, q3, hv⟩
    all_goals
      have HV := Lib.hid hv
      clear hv
      go_enter Tryd.func79, Tryd.ntmps79
      go_wp2
      clear q1 q2 q3
      go_loopg [5, 6] (n - 1) (fun g v5 v6 wr => GuRel l n w g v5 v6 wr)
      case atStart => exact ⟨0, by omega, rfl, by rw [← HV.out], rfl⟩
      case round =>
        obtain ⟨j, hjn, rfl, rfl, rfl⟩ := hrel
        cases gk with
        | zero =>
          have hG : gac l n j = gs l n := by rw [← HG.out, show n - 1 = j by omega]
          obtain rfl : j + 1 = n := by omega
          have HGN := Lib.hid hG
          clear hG hb0
          go_wp2
          go_ret
          rw [← HGN.out]
          exact ⟨rfl, rfl⟩
        | succ g =>
          have hb := byt_lt l (j + 1)
          have hX := gac_lt l n j (by omega)
          go_wp2
          go_roundg g
          case measure => omega
          case rel => exact ⟨j + 1, by omega, by simp, by simp [gac], rfl⟩
def FqRel (l : List UInt8) (w : World) (g : Nat) (v5 : Value) (wr : World) : Prop :=
  ∃ n, n + g = 5 ∧ 1 ≤ n ∧ v5 = .int .i64 ((n : Nat) : Int) ∧ (fOk l = true → n ≤ fN l) ∧ Below w.heap.size w wr
set_option maxRecDepth 100000 in
set_option maxHeartbeats 1000000 in
theorem qfirst_walk (l : List UInt8) (hl : l.length ≤ 140737488351232) (w : World) :
    Calls Tryd.prog 76 #[.string (bs l)] w fun e w' => e = .returned (.tuple #[.int .i64 (fC l : Nat), .int .i64 (fN l : Nat), .int .i64 (fE l : Nat)]) ∧ Below w.heap.size w w' := by
  go_enter Tryd.func76, Tryd.ntmps76
  go_wp2
  go_loopg [5] 4 (fun g v5 wr => FqRel l w g v5 wr)
  case atStart => exact ⟨1, by omega, by omega, rfl, fun h => (fN_le h).1, Below.refl _ _⟩
  case round =>
    obtain ⟨n, hng, h1, rfl, hno, hb⟩ := hrel
    by_cases hin : n ≤ 4 ∧ n ≤ l.length
    · obtain ⟨h4, hnl⟩ := hin
      obtain ⟨g, rfl⟩ : ∃ g, gk = g + 1 := ⟨gk - 1, by omega⟩
      have hG := fun w1 => guess_walk l hl n h1 h4 hnl w1
      have hgl := gs_lt l n h4
      have hI := fun w1 => uqis_walk ((gs l n : Nat) : Int) w1
      rw [isCi_nat] at hI
      have HQ := Lib.hid hG
      clear hG
      have hle : decide (n ≤ l.length) = true := decide_eq_true hnl
      cases hic : isC (gs l n)
      · have hno2 : fOk l = true → n + 1 ≤ fN l := by
          intro hf
          have := hno hf
          rcases Nat.lt_or_ge n (fN l) with h | h
          · omega
          · obtain rfl : n = fN l := by omega
            rw [hit_yes hf, (of_first hf).1] at hic; cases hic
        have HNO := Lib.hid hno2
        rw [hic] at hI
        have HI := Lib.hid hI
        generalize gs l n = G at *
        clear hI hno hno2 hic
        go_wp2_with fail
        refine (HQ.out _).mono ?_
        rintro e w1 ⟨rfl, rfl⟩
        go_wp2_with fail
        go_quiet ((go_at_call 80; refine Calls.quiet_mk (HI.out _)))
        go_wp2
        go_roundg g
        case measure => omega
        case rel => exact ⟨n + 1, by omega, by omega, by simp, HNO.out, Below_drewN hb _⟩
      · rw [hic] at hI
        have HI := Lib.hid hI
        have HM := Lib.hid (fun w1 => qmade_walk (gs l n) hic w1)
        by_cases heq : made (gs l n) = l.take n
        · have hh := of_hit hnl hic heq
          have hq : (made (gs l n) == l.take n) = true := beq_iff_eq.2 heq
          have HH := Lib.hid hh
          have HE := Lib.hid (show fE l = 0 by unfold fE; rw [hh.1]; rfl)
          generalize gs l n = G at *
          generalize made G = M at *
          clear hI hno hic heq hh
          go_wp2_with fail
          refine (HQ.out _).mono ?_
          rintro e w1 ⟨rfl, rfl⟩
          go_wp2_with fail
          go_region_held3 (fun _ => True) (exact trivial) (first
            | (go_at_call 80; refine (HI.out _).mono ?_; rintro e x0 ⟨rfl, rfl⟩)
            | (go_at_call 81; refine (HM.out _).mono ?_; rintro e x1 ⟨rfl, k1⟩))
          go_wp2
          go_ret3
          rw [HH.out.2.1, HH.out.2.2, HE.out]
          exact ⟨rfl, hb.trans (Below.mono (by first | exact Below_ofDrew1 k1 | exact Below_ofDrew k1 | exact k1) hb.size)⟩
        · have hno2 : fOk l = true → n + 1 ≤ fN l := by
            intro hf
            have := hno hf
            rcases Nat.lt_or_ge n (fN l) with h | h
            · omega
            · obtain rfl : n = fN l := by omega
              rw [hit_yes hf] at heq
              exact absurd (take_first hf).symm heq
          have HNO := Lib.hid hno2
          have hq : (made (gs l n) == l.take n) = false := beq_eq_false_iff_ne.2 heq
          generalize gs l n = G at *
          generalize made G = M at *
          clear hI hno hno2 hic heq
          go_wp2_with fail
          refine (HQ.out _).mono ?_
          rintro e w1 ⟨rfl, rfl⟩
          go_wp2_with fail
          go_region_held3 (fun _ => True) (exact trivial) (first
            | (go_at_call 80; refine (HI.out _).mono ?_; rintro e x0 ⟨rfl, rfl⟩)
            | (go_at_call 81; refine (HM.out _).mono ?_; rintro e x1 ⟨rfl, k1⟩))
          have hb2 := hb.trans (Below.mono (by first | exact Below_ofDrew1 k1 | exact Below_ofDrew k1 | exact k1) hb.size)
          clear k1 hb
          go_wp2
          go_roundg g
          case measure => omega
          case rel => exact ⟨n + 1, by omega, by omega, by simp, HNO.out, hb2⟩
    · have hnf : fOk l = false := by
        rw [← Bool.not_eq_true]
        intro hf
        have h2 := hno hf
        have h3 := fN_le hf
        omega
      have HF := Lib.hid (f_not hnf)
      have hend : (n ≤ 4 ∧ l.length < n) ∨ 4 < n := by omega
      clear hno hnf hin
      rcases hend with ⟨he1, he2⟩ | he1
      all_goals
        go_wp2
        go_ret3
        rw [HF.out.1, HF.out.2.1, HF.out.2.2]
        exact ⟨rfl, hb⟩
end Go.Proofs.YtkpcfbadhoiigaaDoor
