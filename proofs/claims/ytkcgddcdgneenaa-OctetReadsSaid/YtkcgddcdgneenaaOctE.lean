import Derived.Test.YtkcgddcdgneenaaOctD
import Derived.Test.YtkcgddcdgneenaaOctQ
namespace Go.Proofs.Ytkcgddcdgneenaa
open Go.ChangeShapes Go.WideShapes Go.ChangeAt Go.RowKit P1 K
set_option linter.unusedVariables false

/-- A reader in block b: its bytes, its place, its code. -/
def Rdr (w : World) (b T : Nat) (s : List UInt8) (p : Nat) (c : Int) : Prop := w.heap[b]? = some (.cells #[.string (bs s), .int .i64 p, .int .i64 c] T (0, 0))
theorem Rdr.cells {w : World} {b T : Nat} {s : List UInt8} {p : Nat} {c : Int} (h : Rdr w b T s p c) :
    w.cell? ⟨b, 0, none⟩ = some (.string (bs s)) ∧ w.cell? ⟨b, 1, none⟩ = some (.int .i64 p) ∧ w.cell? ⟨b, 2, none⟩ = some (.int .i64 c) ∧ w.frozen? ⟨b, 1, none⟩ = false ∧ w.frozen? ⟨b, 2, none⟩ = false :=
  ⟨cellRow h 0, cellRow h 1, cellRow h 2, freeRow h 1, freeRow h 2⟩
theorem Rdr.setP {w : World} {b T : Nat} {s : List UInt8} {p : Nat} {c : Int} (h : Rdr w b T s p c) (q : Nat) : Rdr (w.setCell ⟨b, 1, none⟩ (.int .i64 q)) b T s q c := by
  have := rowSet h 1 (.int .i64 q); simpa [Rdr] using this
theorem Rdr.setC {w : World} {b T : Nat} {s : List UInt8} {p : Nat} {c : Int} (h : Rdr w b T s p c) (d : Int) : Rdr (w.setCell ⟨b, 2, none⟩ (.int .i64 d)) b T s p d := by
  have := rowSet h 2 (.int .i64 d); simpa [Rdr] using this

theorem Rdr.setPN {w : World} {b T : Nat} {s : List UInt8} {p : Nat} {c : Int} (h : Rdr w b T s p c) (n q : Nat) (x : Int) (hx : x = (q : Nat)) : Rdr ((w.drewN n).setCell ⟨b, 1, none⟩ (.int .i64 x)) b T s q c := by
  subst hx; exact (show Rdr (w.drewN n) b T s p c from h).setP q

def FRel (l : List UInt8) (most : Int) (vn vi : Value) : Prop :=
  ∃ i n : Nat, i ≤ 9 ∧ i ≤ l.length ∧ n < 128 ^ i ∧ vn = .int .i64 n ∧ vi = .int .i64 i ∧ (0 < i → ¬ byt l 0 = 128) ∧ rgo l most 9 0 0 = rgo l most (9 - i) i n

set_option maxRecDepth 100000 in
theorem first_walk (l : List UInt8) (most : Int) (hl : l.length ≤ 140737488351232) (h0 : -9223372036854775808 ≤ most) (h1 : most ≤ 9223372036854775807) (w : World) :
    Calls Try.prog 38 #[.string (bs l), .int .i64 most] w fun e w' => e = .returned (.tuple #[.int .i64 (rgo l most 9 0 0).1, .int .i64 (rgo l most 9 0 0).2.1, .int .i64 (rgo l most 9 0 0).2.2]) ∧ w = w' := by
  go_enter Try.func38, Try.ntmps38
  go_wp2
  go_loop [4, 8] (fun vn vi => FRel l most vn vi) (fun vn vi => 9 - (intOf vi).toNat)
  case atStart => exact ⟨0, 0, by omega, by omega, by omega, rfl, rfl, by omega, rfl⟩
  case round =>
    obtain ⟨i, n, hi, hil, hn, rfl, rfl, hb, he⟩ := hrel
    have He := Lib.hid he; have Hb := Lib.hid hb
    clear hb he
    by_cases h9 : i < 9
    · have hle : (128 : Nat) ^ i ≤ 128 ^ 8 := Nat.pow_le_pow_right (by omega) (by omega)
      have hn8 : n < 72057594037927936 := by omega
      have Hn := Lib.hid hn; clear hle hn
      have hbt := byt_lt l i
      by_cases hend : i = l.length
      · have hE : rgo l most 9 0 0 = (0, 0, 10) := by
          rw [He.out, show 9 - i = (8 - i) + 1 by omega, hend]; exact rgo_end l most _ n
        have HE := Lib.hid hE
        subst hend
        clear hE
        go_wp2
        go_ret3
        rw [HE.out]
        exact ⟨rfl, rfl⟩
      · have hlt : i < l.length := by omega
        have hne : (((i : Nat) : Int) == ((l.length : Nat) : Int)) = false := by rw [beq_eq_false_iff_ne]; omega
        clear hend
        by_cases hf : i = 0 ∧ byt l 0 = 128
        · obtain ⟨rfl, hf⟩ := hf
          have hE : rgo l most 9 0 0 = (0, 0, 3) := rgo_form l most 8 0 hlt hf
          have HE := Lib.hid hE
          have hf' : (((byt l 0 : Nat) : Int) == 128) = true := by rw [beq_iff_eq]; omega
          clear hE hf
          go_wp2
          go_ret3
          rw [HE.out]
          exact ⟨rfl, rfl⟩
        · have hq : (i = 0 ∧ (((byt l 0 : Nat) : Int) == 128) = false) ∨ ((((i : Nat) : Int) == 0) = false) := by
            by_cases hi0 : i = 0
            · left; exact ⟨hi0, by rw [beq_eq_false_iff_ne]; omega⟩
            · right; rw [beq_eq_false_iff_ne]; omega
          by_cases hm : most < ((n * 128 + byt l i % 128 : Nat) : Int)
          · have hE : rgo l most 9 0 0 = (0, 0, 2) := by rw [He.out, show 9 - i = (8 - i) + 1 by omega]; exact rgo_long l most _ i n hlt hf hm
            have HE := Lib.hid hE
            have hm' : most < (n : Int) * 128 + (byt l i : Int) % 128 := by omega
            clear hE hm hf
            rcases hq with ⟨rfl, hq⟩ | hq
            all_goals
              go_wp2
              go_ret3
              rw [HE.out]
              exact ⟨rfl, rfl⟩
          · have hm' : (n : Int) * 128 + (byt l i : Int) % 128 ≤ most := by omega
            by_cases hs : byt l i < 128
            · have hE : rgo l most 9 0 0 = (n * 128 + byt l i % 128, i + 1, 0) := by rw [He.out, show 9 - i = (8 - i) + 1 by omega]; exact rgo_done l most _ i n hlt hf hm hs
              have HE := Lib.hid hE
              clear hE hm hf
              rcases hq with ⟨rfl, hq⟩ | hq
              all_goals
                go_wp2
                go_ret3
                rw [HE.out]
                exact ⟨rfl, rfl⟩
            · have hE : rgo l most 9 0 0 = rgo l most (9 - (i + 1)) (i + 1) (n * 128 + byt l i % 128) := by rw [He.out, show 9 - i = (8 - i) + 1 by omega, show 9 - (i + 1) = 8 - i by omega]; exact rgo_more l most _ i n hlt hf hm hs
              have HE := Lib.hid hE
              have hb1 : ¬ byt l 0 = 128 := by
                rcases Nat.eq_zero_or_pos i with h | h
                · exact fun e => hf ⟨h, e⟩
                · exact Hb.out h
              have Hb1 := Lib.hid hb1
              clear hE hm hf hb1
              rcases hq with ⟨rfl, hq⟩ | hq
              all_goals
                go_wp2
                go_round
                case measure => first | (simp [intOf]; done) | (simp [intOf]; omega)
                case rel =>
                  refine ⟨_, _, by omega, by omega, ?_, ?_, ?_, fun _ => Hb1.out, HE.out⟩
                  · have := Hn.out
                    rw [Nat.pow_succ]; omega
                  · simp
                  · simp
    · obtain rfl : i = 9 := by omega
      have hE : rgo l most 9 0 0 = (0, 0, 3) := He.out
      have HE := Lib.hid hE
      clear hE hn
      go_wp2
      go_ret3
      rw [HE.out]
      exact ⟨rfl, rfl⟩

theorem left_walk (b T : Nat) (s : List UInt8) (p : Nat) (c : Int) (ok : Ok s p c) (w : World) (h : Rdr w b T s p c) :
    Calls Try.prog 17 #[.pointer (some ⟨b, 0, none⟩)] w fun e w' => e = .returned (.int .i64 (((s.length - p : Nat) : Nat) : Int)) ∧ ∃ n, w' = w.drewN n := by
  obtain ⟨hs, hp, _, _⟩ := ok
  obtain ⟨c0, c1, c2, _, _⟩ := h.cells
  clear h
  go_enter Try.func17, Try.ntmps17
  go_wp2
  go_quiet (fail)
  go_wp2
  go_ret
  refine ⟨?_, nq, rfl⟩
  show Ending.returned (.int .i64 ((s.length : Int) - p)) = _
  rw [show ((s.length : Int) - p) = ((s.length - p : Nat) : Int) by omega]

theorem code_walk (b T : Nat) (s : List UInt8) (p : Nat) (c : Int) (w : World) (h : Rdr w b T s p c) :
    Calls Try.prog 19 #[.pointer (some ⟨b, 0, none⟩)] w fun e w' => e = .returned (.int .i64 c) ∧ w = w' := by
  obtain ⟨c0, c1, c2, _, _⟩ := h.cells
  clear h
  go_enter Try.func19, Try.ntmps19
  go_wp2
  go_ret
  exact ⟨rfl, rfl⟩

theorem refuse_walk (b T : Nat) (s : List UInt8) (p : Nat) (c d : Int) (w : World) (h : Rdr w b T s p c) :
    Calls Try.prog 27 #[.pointer (some ⟨b, 0, none⟩), .int .i64 d] w fun e w' => e = .returned (.tuple #[]) ∧ Kp [b] w w' ∧ Rdr w' b T s p (newc c d) := by
  obtain ⟨c0, c1, c2, _, f2⟩ := h.cells
  have H := Lib.hid h; clear h
  by_cases hc : c = 0
  · subst hc
    go_enter Try.func27, Try.ntmps27
    go_wp2
    go_end0
    exact ⟨rfl, (Kp.refl _ _).set _ (by simp) _, H.out.setC d⟩
  · have hc' : (c == 0) = false := by rw [beq_eq_false_iff_ne]; exact hc
    have Hc := Lib.hid hc; clear hc
    go_enter Try.func27, Try.ntmps27
    go_wp2
    go_end0
    exact ⟨rfl, Kp.refl _ _, by rw [newc_not _ _ Hc.out]; exact H.out⟩
end Go.Proofs.Ytkcgddcdgneenaa
