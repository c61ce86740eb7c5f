/- The document's reader: Left, Groups. -/
import Derived.Test.YtanainpapcblfaaDoorRows
import Derived.Test.YtanainpapcblfaaDoorRd0
import Derived.ProofKit
import Derived.OpenShut
import Derived.ShutString
import Derived.IntWalk
namespace Go.Proofs.YtanainpapcblfaaDoor
open Go.ChangeShapes Go.WideShapes Go.ChangeAt Go.RowKit P1 K
set_option linter.unusedVariables false

theorem qLeft_walk (b T : Nat) (s : List UInt8) (p : Nat) (c : Int) (ok : Ok s p c) (w : World) (h : Rdr w b T s p c) :
    Calls Tryd.prog 44 #[.pointer (some ⟨b, 0, none⟩)] w fun e w' => e = .returned (.int .i64 (((s.length - p : Nat) : Nat) : Int)) ∧ ∃ n, w' = w.drewN n := by
  obtain ⟨hs, hp, _, _⟩ := ok
  obtain ⟨c0, c1, c2, _, _⟩ := h.cells
  clear h
  go_enter Tryd.func44, Tryd.ntmps44
  go_wp2
  go_quiet (fail)
  go_wp2
  go_ret
  refine ⟨?_, nq, rfl⟩
  show Ending.returned (.int .i64 ((s.length : Int) - p)) = _
  rw [show ((s.length : Int) - p) = ((s.length - p : Nat) : Int) by omega]

def QRel (w : World) (l : List UInt8) (most : Int) (vn vi : Value) (wr : World) : Prop :=
  ∃ i n d : Nat, i ≤ 9 ∧ i ≤ l.length ∧ n < 128 ^ i ∧ vn = .int .i64 n ∧ vi = .int .i64 i ∧ (0 < i → ¬ byt l 0 = 128) ∧ rgo l most 9 0 0 = rgo l most (9 - i) i n ∧ wr = w.drewN d

set_option maxRecDepth 100000 in
set_option maxHeartbeats 1000000 in
theorem qGroups_in (b T : Nat) (s : List UInt8) (p : Nat) (most : Int) (ok : Ok s p 0) (h0 : -9223372036854775808 ≤ most) (h1 : most ≤ 9223372036854775807) (w : World) (h : Rdr w b T s p 0) :
    Calls Tryd.prog 43 #[.pointer (some ⟨b, 0, none⟩), .int .i64 most] w fun e w' => e = .returned (.int .i64 (rdG s p 0 most).1) ∧ Kp [b] w w' ∧ Rdr w' b T s (rdG s p 0 most).2.1 (rdG s p 0 most).2.2 := by
  obtain ⟨c0, c1, c2, f1, f2⟩ := h.cells
  obtain ⟨hs, hp, _, _⟩ := ok
  have H := Lib.hid h; clear h
  have hlen : (s.drop p).length = s.length - p := List.length_drop
  have hbs : ∀ i, byt (s.drop p) i = byt s (p + i) := byt_drop s p
  have HL := Lib.hid hlen; have HB := Lib.hid hbs
  clear hlen hbs
  go_enter Tryd.func43, Tryd.ntmps43
  go_wp2
  go_loopw [5, 6] (fun vn vi wr => QRel w (s.drop p) most vn vi wr) (fun vn vi wr => 9 - (intOf vi).toNat)
  case atStart => exact ⟨0, 0, 0, by omega, by omega, by omega, rfl, rfl, by omega, rfl, rfl⟩
  case round =>
    obtain ⟨i, n, d, hi, hil, hn, rfl, rfl, hb, he, rfl⟩ := hrel
    rw [HL.out] at hil
    have He := Lib.hid he; have Hb := Lib.hid hb
    clear hb he
    by_cases h9 : i < 9
    · have hle : (128 : Nat) ^ i ≤ 128 ^ 8 := Nat.pow_le_pow_right (by omega) (by omega)
      have hn8 : n < 72057594037927936 := by omega
      have Hn := Lib.hid hn; clear hle hn
      have q2 : (0 : Int) ≤ (p : Int) + (i : Int) := by omega
      have q3 : ((p : Int) + (i : Int)).toNat = p + i := by omega
      by_cases hend : s.length ≤ p + i
      · have hE : rgo (s.drop p) most 9 0 0 = (0, 0, 10) := by
          rw [He.out, show 9 - i = (8 - i) + 1 by omega]
          unfold rgo; rw [if_pos (by rw [HL.out]; omega)]
        have HE := Lib.hid (rdG_of_no hE (by decide))
        have q5 : (s.length : Int) ≤ (p : Int) + (i : Int) := by omega
        clear hE
        go_wp2
        have q1 : IntKind.i64.wrap ((p : Int) + (i : Int)) = (p : Int) + (i : Int) := IntWalk.i64_in _ (by omega)
        go_quiet (fail)
        clear q1 q3
        go_wp2
        go_ret
        rw [HE.out]
        exact ⟨rfl, ((Kp.refl _ _).drewN _).set _ (by simp) _, (show Rdr (w.drewN (d + nq)) b T s p 0 from H.out).setC 10⟩
      · have q5 : (p : Int) + (i : Int) < (s.length : Int) := by omega
        have q6 : p + i < s.length := by omega
        have hil' : i < (s.drop p).length := by rw [HL.out]; omega
        have hbt := byt_lt s (p + i)
        have hbq := HB.out i
        have hb0 := HB.out 0
        rw [Nat.add_zero] at hb0
        have Hil := Lib.hid hil'
        clear hend hil'
        by_cases hf : i = 0 ∧ byt s (p + i) = 128
        · obtain ⟨hi0, hf⟩ := hf
          have hE : rgo (s.drop p) most 9 0 0 = (0, 0, 3) := rgo_form _ most 8 0 (by have := Hil.out; omega) (by rw [← hf, ← hbq, hi0])
          have HE := Lib.hid (rdG_of_no hE (by decide))
          have hq1 : (((i : Nat) : Int) == 0) = true := by rw [beq_iff_eq]; omega
          have hq2 : (((byt s (p + i) : Nat) : Int) == 128) = true := by rw [beq_iff_eq]; omega
          clear hE hf hbq hb0 hi0
          go_wp2
          have q1 : IntKind.i64.wrap ((p : Int) + (i : Int)) = (p : Int) + (i : Int) := IntWalk.i64_in _ (by omega)
          go_quiet (fail)
          clear q1
          go_wp2
          have q1 : IntKind.i64.wrap ((p : Int) + (i : Int)) = (p : Int) + (i : Int) := IntWalk.i64_in _ (by omega)
          go_quiet (fail)
          clear q1 q3
          go_wp2
          go_ret
          rw [HE.out]
          exact ⟨rfl, ((Kp.refl _ _).drewN _).set _ (by simp) _, (show Rdr (w.drewN _) b T s p 0 from H.out).setC 3⟩
        · have hf2 : ¬ (i = 0 ∧ byt (s.drop p) 0 = 128) := fun ⟨e, h⟩ => hf ⟨e, by subst e; rw [Nat.add_zero, ← hb0]; exact h⟩
          have hq : ((((i : Nat) : Int) == 0) = true ∧ (((byt s (p + i) : Nat) : Int) == 128) = false) ∨ ((((i : Nat) : Int) == 0) = false) := by
            by_cases hi0 : i = 0
            · left; exact ⟨by rw [beq_iff_eq]; omega, by rw [beq_eq_false_iff_ne]; omega⟩
            · right; rw [beq_eq_false_iff_ne]; omega
          by_cases hm : most < ((n * 128 + byt s (p + i) % 128 : Nat) : Int)
          · have hE : rgo (s.drop p) most 9 0 0 = (0, 0, 2) := by rw [He.out, show 9 - i = (8 - i) + 1 by omega]; exact rgo_long _ most _ i n Hil.out hf2 (by rw [hbq]; exact hm)
            have HE := Lib.hid (rdG_of_no hE (by decide))
            have hm' : most < (n : Int) * 128 + (byt s (p + i) : Int) % 128 := by omega
            clear hE hm hf hf2 hbq hb0
            rcases hq with ⟨hq1, hq2⟩ | hq
            all_goals
              go_wp2
              have q1 : IntKind.i64.wrap ((p : Int) + (i : Int)) = (p : Int) + (i : Int) := IntWalk.i64_in _ (by omega)
              go_quiet (fail)
              clear q1
              go_wp2
              have q1 : IntKind.i64.wrap ((p : Int) + (i : Int)) = (p : Int) + (i : Int) := IntWalk.i64_in _ (by omega)
              go_quiet (fail)
              clear q1 q3
              go_wp2
              go_ret
              rw [HE.out]
              exact ⟨rfl, ((Kp.refl _ _).drewN _).set _ (by simp) _, (show Rdr (w.drewN _) b T s p 0 from H.out).setC 2⟩
          · have hm' : (n : Int) * 128 + (byt s (p + i) : Int) % 128 ≤ most := by omega
            by_cases hs8 : byt s (p + i) < 128
            · have hE : rgo (s.drop p) most 9 0 0 = (n * 128 + byt (s.drop p) i % 128, i + 1, 0) := by rw [He.out, show 9 - i = (8 - i) + 1 by omega]; exact rgo_done _ most _ i n Hil.out hf2 (by rw [hbq]; exact hm) (by rw [hbq]; exact hs8)
              rw [hbq] at hE
              have HE := Lib.hid (rdG_of_yes hE)
              clear hE hm hf hf2 hbq hb0
              rcases hq with ⟨hq1, hq2⟩ | hq
              all_goals
                go_wp2
                have q1 : IntKind.i64.wrap ((p : Int) + (i : Int)) = (p : Int) + (i : Int) := IntWalk.i64_in _ (by omega)
                go_quiet (fail)
                clear q1
                go_wp2
                have q1 : IntKind.i64.wrap ((p : Int) + (i : Int)) = (p : Int) + (i : Int) := IntWalk.i64_in _ (by omega)
                go_quiet (fail)
                clear q1 q3
                go_wp2
                go_ret
                rw [HE.out]
                exact ⟨rfl, ((Kp.refl _ _).drewN _).set _ (by simp) _, H.out.setPN _ (p + (i + 1)) _ (by simp; omega)⟩
            · have hE : rgo (s.drop p) most 9 0 0 = rgo (s.drop p) most (9 - (i + 1)) (i + 1) (n * 128 + byt (s.drop p) i % 128) := by rw [He.out, show 9 - i = (8 - i) + 1 by omega, show 9 - (i + 1) = 8 - i by omega]; exact rgo_more _ most _ i n Hil.out hf2 (by rw [hbq]; exact hm) (by rw [hbq]; exact hs8)
              rw [hbq] at hE
              have hb1 : ¬ byt (s.drop p) 0 = 128 := by
                rcases Nat.eq_zero_or_pos i with h | h
                · exact fun e => hf2 ⟨h, e⟩
                · exact Hb.out h
              have HE := Lib.hid hE
              have Hb1 := Lib.hid hb1
              clear hE hm hf hf2 hbq hb0 hb1
              rcases hq with ⟨hq1, hq2⟩ | hq
              all_goals
                go_wp2
                have q1 : IntKind.i64.wrap ((p : Int) + (i : Int)) = (p : Int) + (i : Int) := IntWalk.i64_in _ (by omega)
                go_quiet (fail)
                clear q1
                go_wp2
                have q1 : IntKind.i64.wrap ((p : Int) + (i : Int)) = (p : Int) + (i : Int) := IntWalk.i64_in _ (by omega)
                go_quiet (fail)
                clear q1 q3
                go_wp2
                go_roundw
                case measure => first | (simp [intOf]; done) | (simp [intOf]; omega)
                case rel =>
                  refine ⟨_, _, _, by omega, by rw [HL.out]; omega, ?_, ?_, ?_, fun _ => Hb1.out, HE.out, rfl⟩
                  · have := Hn.out
                    rw [Nat.pow_succ]; omega
                  · simp
                  · simp
    · obtain rfl : i = 9 := by omega
      have hE : rgo (s.drop p) most 9 0 0 = (0, 0, 3) := He.out
      have HE := Lib.hid (rdG_of_no hE (by decide))
      clear hE hn
      go_wp2
      go_ret
      rw [HE.out]
      exact ⟨rfl, ((Kp.refl _ _).drewN _).set _ (by simp) _, (show Rdr (w.drewN _) b T s p 0 from H.out).setC 3⟩

theorem qGroups_walk (b T : Nat) (s : List UInt8) (p : Nat) (c most : Int) (ok : Ok s p c) (h0 : -9223372036854775808 ≤ most) (h1 : most ≤ 9223372036854775807) (w : World) (h : Rdr w b T s p c) :
    Calls Tryd.prog 43 #[.pointer (some ⟨b, 0, none⟩), .int .i64 most] w fun e w' => e = .returned (.int .i64 (rdG s p c most).1) ∧ Kp [b] w w' ∧ Rdr w' b T s (rdG s p c most).2.1 (rdG s p c most).2.2 := by
  by_cases hc : c = 0
  · subst hc; exact qGroups_in b T s p most ok h0 h1 w h
  · rw [rdG_bad s p c most hc]
    obtain ⟨c0, c1, c2, f1, f2⟩ := h.cells
    have H := Lib.hid h; clear h
    have hn : (c != 0) = true := by rw [bne_iff_ne]; exact hc
    clear hc
    go_enter Tryd.func43, Tryd.ntmps43
    go_wp2
    go_ret
    exact ⟨rfl, Kp.refl _ _, H.out⟩
end Go.Proofs.YtanainpapcblfaaDoor
