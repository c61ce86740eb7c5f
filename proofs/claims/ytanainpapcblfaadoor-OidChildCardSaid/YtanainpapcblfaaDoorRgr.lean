/- octet's Reader: Groups, Left, Done, walked at this translation. -/
import Derived.Test.YtanainpapcblfaaDoorRows
import Derived.Test.YtanainpapcblfaaDoorOctP
import Derived.Test.YtanainpapcblfaaDoorLib
import Derived.Test.YtanainpapcblfaaDoorOctQ
import Derived.Test.YtanainpapcblfaaDoorRd0
import Derived.ProofKit
import Derived.OpenShut
import Derived.ShutString
namespace Go.Proofs.YtanainpapcblfaaDoor
open Go.ChangeShapes Go.WideShapes Go.ChangeAt Go.RowKit P1 K
set_option linter.unusedVariables false

namespace RG
def FRel (l : List UInt8) (most : Int) (vn vi : Value) : Prop :=
  ∃ i n : Nat, i ≤ 9 ∧ i ≤ l.length ∧ n < 128 ^ i ∧ vn = .int .i64 n ∧ vi = .int .i64 i ∧ (0 < i → ¬ byt l 0 = 128) ∧ rgo l most 9 0 0 = rgo l most (9 - i) i n

set_option maxRecDepth 100000 in
theorem first_walk (l : List UInt8) (most : Int) (hl : l.length ≤ 140737488351232) (h0 : -9223372036854775808 ≤ most) (h1 : most ≤ 9223372036854775807) (w : World) :
    Calls Tryd.prog 56 #[.string (bs l), .int .i64 most] w fun e w' => e = .returned (.tuple #[.int .i64 (rgo l most 9 0 0).1, .int .i64 (rgo l most 9 0 0).2.1, .int .i64 (rgo l most 9 0 0).2.2]) ∧ w = w' := by
  go_enter Tryd.func56, Tryd.ntmps56
  go_wp2
  go_loop [4, 8] (fun vn vi => FRel l most vn vi) (fun vn vi => 9 - (intOf vi).toNat)
  case atStart => exact ⟨0, 0, by omega, by omega, by omega, rfl, rfl, by omega, rfl⟩
  case round =>
    obtain ⟨i, n, hi, hil, hn, rfl, rfl, hb, he⟩ := hrel
    have He := Lib.hid he; have Hb := Lib.hid hb
    clear hb he
    by_cases h9 : i < 9
    · have hle : (128 : Nat) ^ i ≤ 128 ^ 8 := Nat.pow_le_pow_right (by omega) (by omega)
      have hn8 : n < 72057594037927936 := by omega
      have Hn := Lib.hid hn; clear hle hn
      have hbt := byt_lt l i
      by_cases hend : i = l.length
      · have hE : rgo l most 9 0 0 = (0, 0, 10) := by
          rw [He.out, show 9 - i = (8 - i) + 1 by omega, hend]; exact rgo_end l most _ n
        have HE := Lib.hid hE
        subst hend
        clear hE
        go_wp2
        go_ret3
        rw [HE.out]
        exact ⟨rfl, rfl⟩
      · have hlt : i < l.length := by omega
        have hne : (((i : Nat) : Int) == ((l.length : Nat) : Int)) = false := by rw [beq_eq_false_iff_ne]; omega
        clear hend
        by_cases hf : i = 0 ∧ byt l 0 = 128
        · obtain ⟨rfl, hf⟩ := hf
          have hE : rgo l most 9 0 0 = (0, 0, 3) := rgo_form l most 8 0 hlt hf
          have HE := Lib.hid hE
          have hf' : (((byt l 0 : Nat) : Int) == 128) = true := by rw [beq_iff_eq]; omega
          clear hE hf
          go_wp2
          go_ret3
          rw [HE.out]
          exact ⟨rfl, rfl⟩
        · have hq : (i = 0 ∧ (((byt l 0 : Nat) : Int) == 128) = false) ∨ ((((i : Nat) : Int) == 0) = false) := by
            by_cases hi0 : i = 0
            · left; exact ⟨hi0, by rw [beq_eq_false_iff_ne]; omega⟩
            · right; rw [beq_eq_false_iff_ne]; omega
          by_cases hm : most < ((n * 128 + byt l i % 128 : Nat) : Int)
          · have hE : rgo l most 9 0 0 = (0, 0, 2) := by rw [He.out, show 9 - i = (8 - i) + 1 by omega]; exact rgo_long l most _ i n hlt hf hm
            have HE := Lib.hid hE
            have hm' : most < (n : Int) * 128 + (byt l i : Int) % 128 := by omega
            clear hE hm hf
            rcases hq with ⟨rfl, hq⟩ | hq
            all_goals
              go_wp2
              go_ret3
              rw [HE.out]
              exact ⟨rfl, rfl⟩
          · have hm' : (n : Int) * 128 + (byt l i : Int) % 128 ≤ most := by omega
            by_cases hs : byt l i < 128
            · have hE : rgo l most 9 0 0 = (n * 128 + byt l i % 128, i + 1, 0) := by rw [He.out, show 9 - i = (8 - i) + 1 by omega]; exact rgo_done l most _ i n hlt hf hm hs
              have HE := Lib.hid hE
              clear hE hm hf
              rcases hq with ⟨rfl, hq⟩ | hq
              all_goals
                go_wp2
                go_ret3
                rw [HE.out]
                exact ⟨rfl, rfl⟩
            · have hE : rgo l most 9 0 0 = rgo l most (9 - (i + 1)) (i + 1) (n * 128 + byt l i % 128) := by rw [He.out, show 9 - i = (8 - i) + 1 by omega, show 9 - (i + 1) = 8 - i by omega]; exact rgo_more l most _ i n hlt hf hm hs
              have HE := Lib.hid hE
              have hb1 : ¬ byt l 0 = 128 := by
                rcases Nat.eq_zero_or_pos i with h | h
                · exact fun e => hf ⟨h, e⟩
                · exact Hb.out h
              have Hb1 := Lib.hid hb1
              clear hE hm hf hb1
              rcases hq with ⟨rfl, hq⟩ | hq
              all_goals
                go_wp2
                go_round
                case measure => first | (simp [intOf]; done) | (simp [intOf]; omega)
                case rel =>
                  refine ⟨_, _, by omega, by omega, ?_, ?_, ?_, fun _ => Hb1.out, HE.out⟩
                  · have := Hn.out
                    rw [Nat.pow_succ]; omega
                  · simp
                  · simp
    · obtain rfl : i = 9 := by omega
      have hE : rgo l most 9 0 0 = (0, 0, 3) := He.out
      have HE := Lib.hid hE
      clear hE hn
      go_wp2
      go_ret3
      rw [HE.out]
      exact ⟨rfl, rfl⟩

theorem left_walk (b T : Nat) (s : List UInt8) (p : Nat) (c : Int) (ok : Ok s p c) (w : World) (h : Rdr w b T s p c) :
    Calls Tryd.prog 40 #[.pointer (some ⟨b, 0, none⟩)] w fun e w' => e = .returned (.int .i64 (((s.length - p : Nat) : Nat) : Int)) ∧ ∃ n, w' = w.drewN n := by
  obtain ⟨hs, hp, _, _⟩ := ok
  obtain ⟨c0, c1, c2, _, _⟩ := h.cells
  clear h
  go_enter Tryd.func40, Tryd.ntmps40
  go_wp2
  go_quiet (fail)
  go_wp2
  go_ret
  refine ⟨?_, nq, rfl⟩
  show Ending.returned (.int .i64 ((s.length : Int) - p)) = _
  rw [show ((s.length : Int) - p) = ((s.length - p : Nat) : Int) by omega]

theorem refuse_walk (b T : Nat) (s : List UInt8) (p : Nat) (c d : Int) (w : World) (h : Rdr w b T s p c) :
    Calls Tryd.prog 57 #[.pointer (some ⟨b, 0, none⟩), .int .i64 d] w fun e w' => e = .returned (.tuple #[]) ∧ Kp [b] w w' ∧ Rdr w' b T s p (newc c d) := by
  obtain ⟨c0, c1, c2, _, f2⟩ := h.cells
  have H := Lib.hid h; clear h
  by_cases hc : c = 0
  · subst hc
    go_enter Tryd.func57, Tryd.ntmps57
    go_wp2
    go_end0
    exact ⟨rfl, (Kp.refl _ _).set _ (by simp) _, H.out.setC d⟩
  · have hc' : (c == 0) = false := by rw [beq_eq_false_iff_ne]; exact hc
    have Hc := Lib.hid hc; clear hc
    go_enter Tryd.func57, Tryd.ntmps57
    go_wp2
    go_end0
    exact ⟨rfl, Kp.refl _ _, by rw [newc_not _ _ Hc.out]; exact H.out⟩
set_option maxRecDepth 100000 in
theorem rGroups_walk (b T : Nat) (s : List UInt8) (p : Nat) (c most : Int) (ok : Ok s p c) (h0 : -9223372036854775808 ≤ most) (h1 : most ≤ 9223372036854775807) (w : World) (h : Rdr w b T s p c) :
    Calls Tryd.prog 39 #[.pointer (some ⟨b, 0, none⟩), .int .i64 most] w fun e w' => e = .returned (.int .i64 (rdG s p c most).1) ∧ Kp [b] w w' ∧ Rdr w' b T s (rdG s p c most).2.1 (rdG s p c most).2.2 := by
  obtain ⟨hs, hp, _, _⟩ := ok
  have hfa := rgo_facts s p most
  obtain ⟨c0, c1, c2, _, f2⟩ := h.cells
  have H := Lib.hid h; clear h
  have HF := Lib.hid hfa; clear hfa
  have hdl : (s.drop p).length ≤ 140737488351232 := by rw [List.length_drop]; omega
  have HD := Lib.hid hdl; clear hdl
  go_enter Tryd.func39, Tryd.ntmps39
  go_wp2
  go_quiet ((go_at_call 56; refine Calls.quiet_mk (first_walk _ most HD.out h0 h1 _)))
  go_wp2_with fail
  refine (refuse_walk b T s p c _ (w.drewN nq) H.out).mono ?_
  rintro e w1 ⟨rfl, kp, h1'⟩
  have kp' := kp.ofDrewN
  clear c0 c1 c2 f2 kp
  obtain ⟨c0, c1, c2, f1, f2⟩ := h1'.cells
  have H1 := Lib.hid h1'; clear h1'
  by_cases hd : newc c (rgo (s.drop p) most 9 0 0).2.2 = 0
  · have HE := Lib.hid (rdG_0 s p c most hd)
    have hz := HF.out
    generalize (rgo (s.drop p) most 9 0 0).1 = r1 at *
    generalize (rgo (s.drop p) most 9 0 0).2.1 = r2 at *
    generalize newc c (rgo (s.drop p) most 9 0 0).2.2 = d at *
    subst hd
    obtain ⟨_, hz2, _⟩ := hz
    go_wp2
    go_ret
    rw [HE.out]
    exact ⟨rfl, kp'.set _ (by simp) _, by have := H1.out.setP (p + r2); simpa using this⟩
  · have HE := Lib.hid (rdG_d s p c most hd)
    have hn : ((newc c (rgo (s.drop p) most 9 0 0).2.2) != 0) = true := by rw [bne_iff_ne]; exact hd
    clear hd
    generalize newc c (rgo (s.drop p) most 9 0 0).2.2 = d at *
    go_wp2
    go_ret
    rw [HE.out]
    exact ⟨rfl, kp', H1.out⟩

theorem rDone_walk (b T : Nat) (s : List UInt8) (p : Nat) (c : Int) (ok : Ok s p c) (w : World) (h : Rdr w b T s p c) :
    Calls Tryd.prog 41 #[.pointer (some ⟨b, 0, none⟩)] w fun e w' => e = .returned (.int .i64 (rdD s p c)) ∧ ∃ n, w' = w.drewN n := by
  obtain ⟨c0, c1, c2, _, _⟩ := h.cells
  have H := Lib.hid h; clear h
  by_cases hc : c = 0
  · subst hc
    by_cases hp : p < s.length
    · have e : rdD s p 0 = 3 := by simp [rdD, hp]
      rw [e]; clear e
      have hlt : (0 : Int) < ((s.length - p : Nat) : Int) := by omega
      go_enter Tryd.func41, Tryd.ntmps41
      go_wp2_with (go_at_call 40; refine (left_walk b T s p 0 ok w H.out).mono ?_; rintro e w1 ⟨rfl, n, rfl⟩)
      go_ret
      exact ⟨rfl, _, rfl⟩
    · have e : rdD s p 0 = 0 := by simp [rdD, hp]
      rw [e]; clear e
      have hle : ((s.length - p : Nat) : Int) ≤ 0 := by omega
      have Hp := Lib.hid hp; clear hp
      go_enter Tryd.func41, Tryd.ntmps41
      go_wp2_with (go_at_call 40; refine (left_walk b T s p 0 ok w H.out).mono ?_; rintro e w1 ⟨rfl, n, rfl⟩)
      go_ret
      exact ⟨rfl, _, rfl⟩
  · have e : rdD s p c = c := by simp [rdD, hc]
    rw [e]; clear e
    have hn : (c == 0) = false := by rw [beq_eq_false_iff_ne]; exact hc
    clear hc
    go_enter Tryd.func41, Tryd.ntmps41
    go_wp2
    go_ret
    exact ⟨rfl, 0, rfl⟩

theorem read_walk (s : List UInt8) (w : World) :
    Calls Tryd.prog 38 #[.string (bs s)] w fun e w' => e = .returned (.pointer (some ⟨w.heap.size, 0, none⟩)) ∧ Kp [] w w' ∧ w'.heap.size = w.heap.size + 1 ∧ Rdr w' w.heap.size 79 s 0 0 := by
  go_enter Tryd.func38, Tryd.ntmps38
  go_wp2
  go_ret
  exact ⟨rfl, (Kp.refl _ _).alloc _, by simp, rowNew w _⟩
end RG
end Go.Proofs.YtanainpapcblfaaDoor
