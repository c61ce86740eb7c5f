/- Texts on the program and on the document, joined: PduC, Bpq, Pts, BerB. -/
import Derived.Test.YtdgnhcbhbpffmaaGreatDoorMa14
import Derived.Test.YtdgnhcbhbpffmaaGreatDoorMa04
import Derived.Test.YtdgnhcbhbpffmaaGreatDoorMa03
import Derived.IntWalk
import Derived.BigQuiet
import Derived.Deep.QuietTactic
import Derived.Deep.LoopGhost
import Derived.Test.YtdgnhcbhbpffmaaGreatDoorMa01
import Derived.Below
import Derived.Laws.OwnMore
import Derived.Laws.AppendOwn
import Derived.Deep.Onto
import Derived.Test.YtdgnhcbhbpffmaaGreatDoorMa05
import Derived.Test.YtdgnhcbhbpffmaaGreatDoorMa06
/- The document's Put and Encode of units, walked. -/
namespace Go.Proofs.YtdgnhcbhbpffmaaGreatDoor
open Go.ChangeShapes Go.WideShapes Go.ChangeAt Go.RowKit K P1 B5
open D8 (Bd Un lst)
set_option linter.unusedVariables false

theorem lst_app (a b : List Bd) : lst (a ++ b) = lst a ++ lst b := by
  unfold lst
  rw [List.map_append, List.flatMap_append]
theorem lst_one (x : Bd) : lst [x] = put 48 x.body := by
  show put 48 x.body ++ [] = _
  rw [List.append_nil]
theorem lst_take {xs : List Bd} {i : Nat} (hi : i < xs.length) : lst (xs.take (i + 1)) = lst (xs.take i) ++ put 48 (xs.getD i nob).body := by
  rw [List.take_succ_eq_append_getElem hi, lst_app, lst_one, List.getD_eq_getElem?_getD, List.getElem?_eq_getElem hi]; rfl
theorem ok_at {xs : List Bd} (h : ∀ x ∈ xs, x.ok = true) {i : Nat} (hi : i < xs.length) : (xs.getD i nob).ok = true := by
  rw [List.getD_eq_getElem?_getD, List.getElem?_eq_getElem hi]
  exact h _ (List.getElem_mem hi)
/-- What the element of a bind that may be comes to. -/
theorem bd_puts {x : Bd} (h : x.ok = true) : enS x.o = V7.ob x.o ∧ arE x.o = 0 ∧ V7.ckV x.k x.n x.s = true ∧ x.body = put 6 (V7.ob x.o) ++ V7.enT x.k x.n x.s ∧ (V7.ob x.o).length ≤ 640 ∧ x.body.length ≤ 66300 ∧ x.o.length ≤ 140737488351232 := by
  have h1 := (D8.bd_parts h).2
  have h0 := h
  unfold Bd.ok at h
  rw [Bool.and_eq_true] at h
  obtain ⟨l, hl⟩ := Option.isSome_iff_exists.1 h.1
  have hL := (D8.ob_facts h.1).2.2
  obtain ⟨a1, a2⟩ := (O6.arcs_iff _ _).1 hl
  have p1 := O6.put_len l (O6.isArcs_le a1)
  have p2 := (O6.isArcs_len a1).2
  refine ⟨?_, (ar_some hl).1, h.2, ?_, hL, h1, by rw [← a2]; omega⟩
  · unfold enS V7.ob; rw [hl, (ar_some hl).2]; rfl
  · unfold Bd.body; rw [(V7.en_next h.2).1]
theorem lst_take_len {xs : List Bd} (h : ∀ x ∈ xs, x.ok = true) (hl : xs.length ≤ 4096) (i : Nat) : (lst (xs.take i)).length ≤ 271605760 := by
  have h1 := D8.lst_len (xs.take i) (fun x hx => h x (List.mem_of_mem_take hx))
  rw [List.length_take] at h1
  have : min i xs.length ≤ xs.length := Nat.min_le_right _ _
  omega
theorem Uq.four {T : TypeId} {w : World} {b : Nat} {u : Un} {ao : Option Addr} {cap : Nat} (h : Uq T w b u ao cap) : w.cell? ⟨b, 0, none⟩ = some (.int .i64 u.t) ∧ w.cell? ⟨b, 1, none⟩ = some (.int .i64 u.r) ∧ w.cell? ⟨b, 2, none⟩ = some (.int .i64 u.a) ∧ w.cell? ⟨b, 3, none⟩ = some (.int .i64 u.i) :=
  ⟨cellRow h 0, cellRow h 1, cellRow h 2, cellRow h 3⟩
theorem cell_below {w w' : World} {p : Addr} {v : Value} (h : w.cell? p = some v) (k : Below w.heap.size w w') : w'.cell? p = some v := (k.cell (World.block_lt_of_cell? w _ h)).trans h
def P8Rel (u : Un) (ao : Option Addr) (cap : Nat) (w : World) (g : Nat) (vl vi : Value) (wr : World) : Prop :=
  ∃ i : Nat, i + g = u.l.length ∧ vi = .int .i64 (i : Nat) ∧ vl = .string (bs (lst (u.l.take i))) ∧ Uq 60 wr w.heap.size u ao cap ∧ Below w.heap.size w wr
set_option maxRecDepth 100000 in
set_option maxHeartbeats 2000000 in
theorem qput8_walk (u : Un) (ao : Option Addr) (cap : Nat) (hu : u.ok = true) (hx : Lim u.l) (w : World) (hr : RdB w ao u.l) :
    Calls Tryz.prog 56 #[.agg #[.int .i64 u.t, .int .i64 u.r, .int .i64 u.a, .int .i64 u.i, .slice ao u.l.length cap]] w fun e w' => e = .returned (.string (bs u.el)) ∧ Below w.heap.size w w' := by
  have hok := (D8.Un.ok_iff u).1 hu
  have hba := alloc_in w (.cells #[.int .i64 u.t, .int .i64 u.r, .int .i64 u.a, .int .i64 u.i, .slice ao u.l.length cap] 60)
  have huq := Uq.new 60 w u ao cap
  go_enter Tryz.func56, Tryz.ntmps56
  go_wp2_with fail
  generalize w.alloc (.cells #[.int .i64 u.t, .int .i64 u.r, .int .i64 u.a, .int .i64 u.i, .slice ao u.l.length cap] 60) = w0 at *
  go_loopg [3, 4] u.l.length (fun g vl vi wr => P8Rel u ao cap w g vl vi wr)
  case atStart => exact ⟨0, by omega, rfl, rfl, huq, hba⟩
  case round =>
    obtain ⟨i, hi, rfl, rfl, hq, hb⟩ := hrel
    clear huq hba
    obtain ⟨z0, z1, z2, z3, z4⟩ := hq.cells
    cases gk with
    | zero =>
      obtain rfl : i = u.l.length := by omega
      rw [List.take_length]
      have hln := D8.lst_len u.l hok.2.2.2.2.2
      have nr := (pn_ok u.r (by omega) (by omega)).2.2.2
      have na := (pn_ok u.a (by omega) (by omega)).2.2.2
      have ni := (pn_ok u.i (by omega) (by omega)).2.2.2
      have HR := Lib.hid (fun w1 => qnumber8_walk u.r (by omega) (by omega) w1)
      have HA := Lib.hid (fun w1 => qnumber8_walk u.a (by omega) (by omega) w1)
      have HI := Lib.hid (fun w1 => qnumber8_walk u.i (by omega) (by omega) w1)
      have hQ : ∀ w1, Calls Tryz.prog 55 #[.int .i64 48, .string (bs (lst u.l))] w1 fun e w' => e = .returned (.string (bs (put 48 (lst u.l)))) ∧ Below w1.heap.size w1 w' := fun w1 => qput_walk 48 (by omega) (lst u.l) (by omega) w1
      have HQ := Lib.hid hQ
      have s2 := D8.short_le8 (pn u.r).length
      have s3 := D8.short_le8 (pn u.a).length
      have s4 := D8.short_le8 (pn u.i).length
      have s5 := D8.short_le8 (lst u.l).length
      have hbd : u.body = put 2 (pn u.r) ++ put 2 (pn u.a) ++ put 2 (pn u.i) ++ put 48 (lst u.l) := by unfold Un.body; simp only [List.append_assoc]
      have l1 : (put 2 (pn u.r)).length ≤ 20 := by rw [put_len]; omega
      have l2 : (put 2 (pn u.a)).length ≤ 20 := by rw [put_len]; omega
      have l3 : (put 2 (pn u.i)).length ≤ 20 := by rw [put_len]; omega
      have l4 : (put 48 (lst u.l)).length ≤ 271700000 := by rw [put_len]; omega
      have ht : ((u.t.toNat : Nat) : Int) = u.t := by omega
      have hbl : u.body.length < 4294967296 := by rw [hbd]; simp only [List.length_append]; omega
      have hPt := fun w1 => qput_walk u.t.toNat (by omega) u.body hbl w1
      rw [ht, hbd, show put u.t.toNat (put 2 (pn u.r) ++ put 2 (pn u.a) ++ put 2 (pn u.i) ++ put 48 (lst u.l)) = u.el by unfold Un.el; rw [hbd]] at hPt
      have HPt := Lib.hid hPt
      clear hPt hQ hbd hbl ht s2 s3 s4 s5 nr na ni hln
      generalize put 2 (pn u.r) = R1 at *
      generalize put 2 (pn u.a) = R2 at *
      generalize put 2 (pn u.i) = R3 at *
      generalize put 48 (lst u.l) = R4 at *
      generalize lst u.l = L0 at *
      obtain ⟨EL, hEL⟩ : ∃ x, u.el = x := ⟨_, rfl⟩
      rw [hEL] at HPt
      have HEL := Lib.hid hEL
      clear hEL
      have hc1 : (9223372036854775807 < R1.length + R2.length) = False := eq_false (by omega)
      have hc2 : (9223372036854775807 < R1.length + R2.length + R3.length) = False := eq_false (by omega)
      have hc3 : (9223372036854775807 < R1.length + R2.length + R3.length + R4.length) = False := eq_false (by omega)
      have hc4 : (9223372036854775807 < R1.length + (R2.length + R3.length)) = False := eq_false (by omega)
      have hc5 : (9223372036854775807 < R1.length + (R2.length + (R3.length + R4.length))) = False := eq_false (by omega)
      have hc6 : (9223372036854775807 < R1.length + (R2.length + R3.length) + R4.length) = False := eq_false (by omega)
      rw [List.append_assoc, List.append_assoc] at HPt
      go_wp2_with fail
      have zS := Uq.four hq
      go_region_held3 (fun x' => x'.cell? ⟨w.heap.size, 0, none⟩ = some (.int .i64 u.t) ∧ x'.cell? ⟨w.heap.size, 1, none⟩ = some (.int .i64 u.r) ∧ x'.cell? ⟨w.heap.size, 2, none⟩ = some (.int .i64 u.a) ∧ x'.cell? ⟨w.heap.size, 3, none⟩ = some (.int .i64 u.i)) (first | exact zS | exact zS1 | exact zS2 | exact zS3 | exact zS4 | exact zS5)
        (first
          | (go_at_call 84; (with_reducible refine (HR.out _).mono ?_); rintro e x1 ⟨rfl, j1⟩; have k1 : Below wr.heap.size wr x1 := ⟨j1.os, j1.tape, j1.output, j1.size, j1.block⟩; have hb1 := hb.trans (k1.mono hb.size); have hq1 := hq.below k1; have zS1 := Uq.four hq1)
          | (go_at_call 84; (with_reducible refine (HA.out _).mono ?_); rintro e x2 ⟨rfl, j2⟩; have k2 : Below x1.heap.size x1 x2 := ⟨j2.os, j2.tape, j2.output, j2.size, j2.block⟩; have hb2 := hb1.trans (k2.mono hb1.size); have hq2 := hq1.below k2; have zS2 := Uq.four hq2)
          | (go_at_call 84; (with_reducible refine (HI.out _).mono ?_); rintro e x3 ⟨rfl, j3⟩; have k3 : Below x2.heap.size x2 x3 := ⟨j3.os, j3.tape, j3.output, j3.size, j3.block⟩; have hb3 := hb2.trans (k3.mono hb2.size); have hq3 := hq2.below k3; have zS3 := Uq.four hq3)
          | (go_at_call 55; (with_reducible refine (HQ.out _).mono ?_); rintro e x4 ⟨rfl, j4⟩; have k4 : Below x3.heap.size x3 x4 := ⟨j4.os, j4.tape, j4.output, j4.size, j4.block⟩; have hb4 := hb3.trans (k4.mono hb3.size); have hq4 := hq3.below k4; have zS4 := Uq.four hq4)
          | (go_at_call 55; (with_reducible refine (HPt.out _).mono ?_); rintro e x5 ⟨rfl, j5⟩; have k5 : Below x4.heap.size x4 x5 := ⟨j5.os, j5.tape, j5.output, j5.size, j5.block⟩; have hb5 := hb4.trans (k5.mono hb4.size); have hq5 := hq4.below k5; have zS5 := Uq.four hq5))
      go_wp2
      go_ret
      exact ⟨by rw [HEL.out]; rfl, hb5⟩
    | succ g =>
      have hlt : i < u.l.length := by omega
      have HLT := Lib.hid (lst_take hlt)
      have hln := lst_take_len hok.2.2.2.2.2 hok.2.2.2.2.1 i
      have hof := ok_at hok.2.2.2.2.2 hlt
      have hxf := (hx.at hlt).2.2
      obtain ⟨x, hxe⟩ : ∃ x, u.l.getD i nob = x := ⟨_, rfl⟩
      obtain ⟨b, off, hao, hbl, c0, c1, c2, c3⟩ := (hr.below hb).at hlt hxe
      subst hao
      rw [hxe] at HLT hof hxf
      obtain ⟨p1, p2, p3, p4, p5, p6, p7⟩ := bd_puts hof
      have hE := fun w1 => qencode_walk x.o p7 w1
      rw [p1, p2] at hE
      have hP : ∀ w1, Calls Tryz.prog 55 #[.int .i64 6, .string (bs (V7.ob x.o))] w1 fun e w' => e = .returned (.string (bs (put 6 (V7.ob x.o)))) ∧ Below w1.heap.size w1 w' := fun w1 => qput_walk 6 (by omega) (V7.ob x.o) (by omega) w1
      have HP := Lib.hid hP
      have HV := Lib.hid (fun w1 => qput7_walk x.k x.n x.s hxf.1 hxf.2 p3 w1)
      have hQ : ∀ w1, Calls Tryz.prog 55 #[.int .i64 48, .string (bs x.body)] w1 fun e w' => e = .returned (.string (bs (put 48 x.body))) ∧ Below w1.heap.size w1 w' := fun w1 => qput_walk 48 (by omega) x.body (by omega) w1
      rw [p4] at hQ HLT
      have hbl2 : (put 6 (V7.ob x.o) ++ V7.enT x.k x.n x.s).length ≤ 66300 := by rw [← p4]; exact p6
      have hbl3 : (put 48 (put 6 (V7.ob x.o) ++ V7.enT x.k x.n x.s)).length ≤ 66310 := by have := D8.short_le8 (put 6 (V7.ob x.o) ++ V7.enT x.k x.n x.s).length; rw [put_len]; omega
      have HE := Lib.hid hE
      have HQ := Lib.hid hQ
      rw [List.length_append] at hbl2
      clear hE hQ hP p1 p2 p3 p4 hof hxe
      generalize lst (u.l.take i) = L0 at *
      generalize put 6 (V7.ob x.o) = B6 at *
      generalize V7.enT x.k x.n x.s = BV at *
      generalize V7.ob x.o = OB at *
      generalize put 48 (B6 ++ BV) = B48 at *
      go_wp2_with fail
      refine (HE.out _).mono ?_
      rintro e w1 ⟨rfl, k1⟩
      have hb1 := hb.trans (k1.mono hb.size)
      have hq1 := hq.below k1
      have d1 := cell_below c1 k1
      have d2 := cell_below c2 k1
      have d3 := cell_below c3 k1
      obtain ⟨y0, y1, y2, y3, y4⟩ := hq1.cells
      clear c0 c1 c2 c3 z0 z1 z2 z3 z4 hq hb k1 HE
      go_wp2_with fail
      have hcat1 : (9223372036854775807 < B6.length + BV.length) = False := eq_false (by omega)
      have hcat2 : (9223372036854775807 < L0.length + B48.length) = False := eq_false (by omega)
      have zS := And.intro y4 (And.intro d1 (And.intro d2 d3))
      go_region_held3 (fun x' => x'.cell? ⟨w.heap.size, 4, none⟩ = some (.slice (some ⟨b, off, none⟩) u.l.length cap) ∧ x'.cell? ⟨b, off + i * 4 + 1, none⟩ = some (.int .i64 x.k) ∧ x'.cell? ⟨b, off + i * 4 + 2, none⟩ = some (.int .i64 x.n) ∧ x'.cell? ⟨b, off + i * 4 + 3, none⟩ = some (.string (bs x.s))) (first | exact zS | exact zS2 | exact zS3 | exact zS4)
        (first
          | (go_at_call 55; (with_reducible refine (HP.out _).mono ?_); rintro e x2 ⟨rfl, j2⟩; have k2 : Below w1.heap.size w1 x2 := ⟨j2.os, j2.tape, j2.output, j2.size, j2.block⟩; have hb2 := hb1.trans (k2.mono hb1.size); have hq2 := hq1.below k2; have zS2 := And.intro (cell_below zS.1 k2) (And.intro (cell_below zS.2.1 k2) (And.intro (cell_below zS.2.2.1 k2) (cell_below zS.2.2.2 k2))))
          | (go_at_call 83; refine (HV.out _).mono ?_; rintro e x3 ⟨rfl, j3⟩; have k3 : Below x2.heap.size x2 x3 := ⟨j3.os, j3.tape, j3.output, j3.size, j3.block⟩; have hb3 := hb2.trans (k3.mono hb2.size); have hq3 := hq2.below k3; have zS3 := And.intro (cell_below zS2.1 k3) (And.intro (cell_below zS2.2.1 k3) (And.intro (cell_below zS2.2.2.1 k3) (cell_below zS2.2.2.2 k3))))
          | (go_at_call 55; refine (HQ.out _).mono ?_; rintro e x4 ⟨rfl, j4⟩; have k4 : Below x3.heap.size x3 x4 := ⟨j4.os, j4.tape, j4.output, j4.size, j4.block⟩; have hb4 := hb3.trans (k4.mono hb3.size); have hq4 := hq3.below k4; have zS4 := And.intro (cell_below zS3.1 k4) (And.intro (cell_below zS3.2.1 k4) (And.intro (cell_below zS3.2.2.1 k4) (cell_below zS3.2.2.2 k4)))))
      go_wp2
      go_roundg g
      case measure => omega
      case rel => exact ⟨i + 1, by omega, by simp, by rw [HLT.out], hq4, hb4⟩
end Go.Proofs.YtdgnhcbhbpffmaaGreatDoor
/- The document's own length, walked. -/
namespace Go.Proofs.YtdgnhcbhbpffmaaGreatDoor
open Go.ChangeShapes Go.WideShapes Go.ChangeAt Go.RowKit K P1 B5
set_option linter.unusedVariables false

def QlRel (l : List UInt8) (k : Nat) (w : World) (g : Nat) (vn vi : Value) (wr : World) : Prop :=
  ∃ i, i + g = k ∧ vi = .int .i64 ((i : Int) + 1) ∧ vn = .int .i64 ((num ((l.drop 1).take i) : Nat) : Int) ∧ wr = w
set_option maxRecDepth 100000 in
set_option maxHeartbeats 1000000 in
theorem qlen_walk (l : List UInt8) (hl : l.length ≤ 140737488351232) (w : World) :
    Calls Tryz.prog 72 #[.string (bs l)] w fun e w' => e = .returned (.tuple #[.int .i64 ((if lOk l then lV l else 0 : Nat) : Nat), .int .i64 ((if lOk l then lK l else 0 : Nat) : Nat), .bool (lOk l)]) ∧ ∃ m, w' = w.drewN m := by
  by_cases h0 : l = []
  · subst h0
    have h : lOk [] = false := rfl
    rw [h]
    clear h
    go_enter Tryz.func72, Tryz.ntmps72
    go_wp2
    go_ret3
    exact ⟨rfl, 0, rfl⟩
  · have hne : l.isEmpty = false := List.isEmpty_eq_false_iff.2 h0
    have hp := List.length_pos_iff.2 h0
    have hp' : (0 : Int) < ((l.length : Nat) : Int) := by omega
    have hb := byt_lt l 0
    by_cases h1 : byt l 0 < 128
    · have h : lOk l = true := (lOk_iff l).2 ⟨h0, .inl h1⟩
      have hv : lV l = byt l 0 := by unfold lV; rw [if_pos h1]
      have hk : lK l = 1 := by unfold lK; rw [if_pos h1]
      rw [h, if_pos rfl, if_pos rfl, hv, hk]
      have h1' : ((byt l 0 : Nat) : Int) < 128 := by omega
      clear h hv hk h0 hp
      go_enter Tryz.func72, Tryz.ntmps72
      go_wp2
      go_ret3
      exact ⟨rfl, 0, rfl⟩
    · have h1' : (128 : Int) ≤ ((byt l 0 : Nat) : Int) := by omega
      obtain ⟨K, hK⟩ : ∃ K : Nat, byt l 0 = 128 + K := ⟨byt l 0 - 128, by omega⟩
      have hw : IntKind.i64.wrap (((byt l 0 : Nat) : Int) - 128) = (K : Nat) := by
        rw [IntWalk.i64_in _ (by omega)]; omega
      have hw2 : IntKind.i64.wrap (1 + ((K : Nat) : Int)) = 1 + ((K : Nat) : Int) := IntWalk.i64_in _ (by omega)
      by_cases hbad : K < 1 ∨ (1 ≤ K ∧ 4 < K) ∨ (1 ≤ K ∧ K ≤ 4 ∧ l.length < 1 + K)
      · have h : lOk l = false := lOk_no (by
          rintro ⟨_, h2 | ⟨h2, h3, h4⟩⟩
          · omega
          · unfold lK at h4; rw [if_neg h1] at h4; omega)
        rw [h]
        simp only [Bool.false_eq_true, if_false]
        clear h h0 hp h1
        rcases hbad with g1 | ⟨g0, g1⟩ | ⟨g0, g1, g2⟩
        · have g1' : ((K : Nat) : Int) < 1 := by omega
          clear g1 hK
          go_enter Tryz.func72, Tryz.ntmps72
          go_wp2
          go_ret3
          exact ⟨rfl, 0, rfl⟩
        · have g0' : (1 : Int) ≤ (K : Nat) := by omega
          have g1' : (4 : Int) < (K : Nat) := by omega
          clear g0 g1 hK
          go_enter Tryz.func72, Tryz.ntmps72
          go_wp2
          go_ret3
          exact ⟨rfl, 0, rfl⟩
        · have g0' : (1 : Int) ≤ (K : Nat) := by omega
          have g1' : ((K : Nat) : Int) ≤ 4 := by omega
          have g2' : ((l.length : Nat) : Int) < 1 + (K : Nat) := by omega
          clear g0 g1 g2 hK
          go_enter Tryz.func72, Tryz.ntmps72
          go_wp2
          go_ret3
          exact ⟨rfl, 0, rfl⟩
      · have g0 : 1 ≤ K := by omega
        have g1 : K ≤ 4 := by omega
        have g2 : 1 + K ≤ l.length := by omega
        have hk : lK l = 1 + K := by unfold lK; rw [if_neg h1]; omega
        have hv : lV l = num ((l.drop 1).take K) := by
          unfold lV; rw [if_neg h1, show byt l 0 - 128 = K by omega]
        have h : lOk l = true := (lOk_iff l).2 ⟨h0, .inr ⟨by omega, by omega, by omega⟩⟩
        rw [h, if_pos rfl, if_pos rfl, hv, hk]
        have g0' : (1 : Int) ≤ (K : Nat) := by omega
        have g1' : ((K : Nat) : Int) ≤ 4 := by omega
        have g2' : 1 + ((K : Nat) : Int) ≤ (l.length : Nat) := by omega
        have HB := Lib.hid (fun i (hi : i < K) => (show num ((l.drop 1).take (i + 1)) = num ((l.drop 1).take i) * 256 + byt l (i + 1) by
          rw [num_take _ _ (by rw [List.length_drop]; omega), byt_drop, Nat.add_comm 1 i]))
        have HLT := Lib.hid (fun i (hi : i ≤ 4) => (show num ((l.drop 1).take i) < 4294967296 by
          have h3 := num_lt ((l.drop 1).take i)
          have h4 : (256 : Nat) ^ ((l.drop 1).take i).length ≤ 256 ^ 4 := Nat.pow_le_pow_right (by omega) (by rw [List.length_take]; omega)
          have : (256 : Nat) ^ 4 = 4294967296 := by decide
          omega))
        have HLN := Lib.hid g2
        clear h hk hv h0 hp h1 hbad hK g2
        go_enter Tryz.func72, Tryz.ntmps72
        go_wp2
        go_loopg [6, 7] K (fun g vn vi wr => QlRel l K w g vn vi wr)
        case atStart => exact ⟨0, by omega, rfl, by simp [num], rfl⟩
        case round =>
          obtain ⟨i, hig, rfl, rfl, rfl⟩ := hrel
          cases gk with
          | zero =>
            obtain rfl : i = K := by omega
            go_wp2
            go_ret3
            exact ⟨by first | rfl | (congr 3 <;> omega), 0, rfl⟩
          | succ g =>
            have hi : i < K := by omega
            have hi' : ((i : Nat) : Int) + 1 ≤ (K : Nat) := by omega
            have hst := HB.out i hi
            have hl1 := HLT.out i (by omega)
            have hl2 := HLT.out (i + 1) (by omega)
            have hil : ((i : Nat) : Int) + 1 < (l.length : Nat) := by have := HLN.out; omega
            have hbt := byt_lt l (i + 1)
            have y1 : IntKind.i64.wrap (((num ((l.drop 1).take i) : Nat) : Int) * 256) = ((num ((l.drop 1).take i) : Nat) : Int) * 256 := IntWalk.i64_in _ (by omega)
            have y2 : IntKind.i64.wrap (((num ((l.drop 1).take i) : Nat) : Int) * 256 + ((byt l (i + 1) : Nat) : Int)) = ((num ((l.drop 1).take i) : Nat) : Int) * 256 + ((byt l (i + 1) : Nat) : Int) := IntWalk.i64_in _ (by omega)
            have HS := Lib.hid hst
            have HL1 := Lib.hid hl1
            have HBT := Lib.hid hbt
            clear hst hl1 hl2 hbt
            generalize num ((l.drop 1).take i) = X at *
            go_wp2
            go_roundg g
            case measure => omega
            case rel =>
              refine ⟨i + 1, by omega, by simp, ?_, rfl⟩
              have e0 : ∀ n : Int, wrap64 n = IntKind.i64.wrap n := fun n => by rw [wrap64_eq, IntKind.wrap_i64]
              have hbb := HBT.out
              have hxx := HL1.out
              have e1 : wrap64 ((byt l (i + 1) : Nat) : Int) = ((byt l (i + 1) : Nat) : Int) := by rw [e0]; exact IntWalk.i64_in _ (by omega)
              have e2 : wrap64 (((X : Nat) : Int) * 256 + ((byt l (i + 1) : Nat) : Int)) = ((X : Nat) : Int) * 256 + ((byt l (i + 1) : Nat) : Int) := by rw [e0]; exact y2
              have e3 : ((X : Nat) : Int) * 256 + ((byt l (i + 1) : Nat) : Int) = ((X * 256 + byt l (i + 1) : Nat) : Int) := by rw [Int.natCast_add, Int.natCast_mul]; rfl
              rw [HS.out, e1, e2, e3]
end Go.Proofs.YtdgnhcbhbpffmaaGreatDoor
/- A list of pairs (a number, a text) that a call made itself: its cells, and what keeps them. Of no program. -/
namespace Go.Proofs.YtdgnhcbhbpffmaaGreatDoor
open Go.RowKit
namespace K

def pairs (ps : List (Nat × List UInt8)) : List Value := ps.flatMap fun p => [Value.int .i64 (p.1 : Nat), Value.string (bs p.2)]
theorem pairs_app (a b : List (Nat × List UInt8)) : pairs (a ++ b) = pairs a ++ pairs b := by simp [pairs]
theorem pairs_len (ps : List (Nat × List UInt8)) : (pairs ps).length = ps.length * 2 := by
  induction ps with
  | nil => rfl
  | cons p ps ih =>
    show ([Value.int .i64 (p.1 : Nat), Value.string (bs p.2)] ++ pairs ps).length = _
    rw [List.length_append, ih, List.length_cons]; simp; omega
theorem pairs_get : ∀ (ps : List (Nat × List UInt8)) (i : Nat), i < ps.length → (pairs ps)[i * 2]? = some (.int .i64 ((ps.getD i (0, [])).1 : Nat)) ∧ (pairs ps)[i * 2 + 1]? = some (.string (bs (ps.getD i (0, [])).2))
  | [], i, h => by simp at h
  | p :: ps, 0, _ => by constructor <;> rfl
  | p :: ps, i + 1, h => by
    have := pairs_get ps i (by simpa using h)
    have e : pairs (p :: ps) = Value.int .i64 (p.1 : Nat) :: Value.string (bs p.2) :: pairs ps := rfl
    rw [e, show (i + 1) * 2 = i * 2 + 1 + 1 by omega]
    simpa [List.getD] using this
/-- A slice that the call made itself, behind block B, of these pairs; T is the type of its elements. -/
def OwnP (w : World) (B : Nat) (T : TypeId) (v : Value) (ps : List (Nat × List UInt8)) : Prop := w.ownsRow B T 2 v ps.length (pairs ps)
theorem OwnP.nil (w : World) (B : Nat) (T : TypeId) : OwnP w B T (.slice none 0 0) [] := World.ownsRow_nil w B T 2
theorem OwnP.below {w w' : World} {B : Nat} {T : TypeId} {v : Value} {ps : List (Nat × List UInt8)} (h : OwnP w B T v ps) (k : Below w.heap.size w w') : OwnP w' B T v ps := by
  refine ⟨h.1, ?_⟩
  rcases h.2 with hn | ⟨g, cap, cur, h1, h2, h3, h4⟩
  · exact .inl hn
  · exact .inr ⟨g, cap, cur, h1, h2, (k.block g (lt_of_block h3)).trans h3, h4⟩
theorem OwnP.mono {w : World} {B B' : Nat} {T : TypeId} {v : Value} {ps : List (Nat × List UInt8)} (h : OwnP w B T v ps) (hb : B' ≤ B) : OwnP w B' T v ps := World.ownsRow.mono h hb
theorem OwnP.form {w : World} {B : Nat} {T : TypeId} {v : Value} {ps : List (Nat × List UInt8)} (h : OwnP w B T v ps) :
    ∃ ao cap, v = .slice ao ps.length cap ∧ (ps.length = 0 ∨ ∃ g, ao = some ⟨g, 0, none⟩ ∧ B ≤ g ∧ g < w.heap.size ∧
      ∀ i, i < ps.length → w.cell? ⟨g, i * 2, none⟩ = some (.int .i64 ((ps.getD i (0, [])).1 : Nat)) ∧ w.cell? ⟨g, i * 2 + 1, none⟩ = some (.string (bs (ps.getD i (0, [])).2))) := by
  rcases h.2 with ⟨hv, h0⟩ | ⟨g, cap, cur, hv, hB, hh, hle, hm, hs, ht⟩
  · exact ⟨none, 0, by rw [hv, h0], .inl h0⟩
  · refine ⟨some ⟨g, 0, none⟩, cap, hv, .inr ⟨g, rfl, hB, lt_of_block hh, fun i hi => ?_⟩⟩
    obtain ⟨p1, p2⟩ := pairs_get ps i hi
    rw [cellRow hh, cellRow hh, ← Array.getElem?_toList, ← Array.getElem?_toList, ← p1, ← p2, ← ht]
    rw [List.getElem?_take_of_lt (by omega), List.getElem?_take_of_lt (by omega)]
    exact ⟨rfl, rfl⟩
theorem OwnP.put {w : World} {B : Nat} {T : TypeId} {v : Value} {ps : List (Nat × List UInt8)} {t : Nat} {b : List UInt8} (h : w.ownsRow B T 2 v (ps.length + 1) (pairs ps ++ [.int .i64 (t : Nat), .string (bs b)])) : OwnP w B T v (ps ++ [(t, b)]) := by
  unfold OwnP
  rw [List.length_append, pairs_app]
  exact h
end K
end Go.Proofs.YtdgnhcbhbpffmaaGreatDoor
/- ber's head, Wrap, Parts, walked. -/
namespace Go.Proofs.YtdgnhcbhbpffmaaGreatDoor
open Go.ChangeShapes Go.WideShapes Go.ChangeAt Go.RowKit K P1 B5
set_option linter.unusedVariables false

theorem run_conv_two {P : Program} (src e dst : TypeId) (hs : P.underlying src = some (.slice e)) (he : P.underlying e = some (.int .u8)) (hd : P.underlying dst = some .string) :
    ∀ (w : World) (x y : Int), (convert src dst (.slice (some ⟨w.heap.size, 0, none⟩) 2 2)).run P (w.alloc (.cells #[.int .u8 x, .int .u8 y] e)) = .ok (.string (bs [b8 x.toNat, b8 y.toNat])) (w.alloc (.cells #[.int .u8 x, .int .u8 y] e)) := by
  intro w x y
  rw [run_convert_bytes_arg (P := P) (w.alloc (.cells #[.int .u8 x, .int .u8 y] e)) src e hs he w.heap.size 0 2 2 [x, y] rfl _ dst hd]
  · rfl
  · intro i hi
    obtain rfl | rfl : i = 0 ∨ i = 1 := by omega
    · rw [cellRow (rowNew w _)]; rfl
    · rw [cellRow (rowNew w _)]; rfl
theorem wide_at {n k : Nat} (hn : n < 4294967296) (h1 : 1 ≤ k) (h4 : k ≤ kb n) : (k < kb n → wideS n k = [] ∧ wideC n k = 1) ∧ (k = kb n → wideS n k = pad k n ∧ wideC n k = 0) := by
  have hkb := kb_pos n
  constructor
  · intro h
    refine wide_big n k fun hlt => ?_
    have := kb_least n k hlt h1 (by omega)
    omega
  · intro h
    refine wide_yes n k h1 (by omega) ?_
    rw [h]; exact kb_fits n hn
def HdRel (n : Nat) (w : World) (g : Nat) (v5 v6 v7 : Value) (wr : World) : Prop :=
  ∃ k, k + g = kb n ∧ 1 ≤ k ∧ v5 = .int .i64 (k : Nat) ∧ v6 = .string (bs (wideS n k)) ∧ v7 = .int .i64 (wideC n k) ∧ Below w.heap.size w wr
set_option maxRecDepth 100000 in
theorem head_walk (t n : Nat) (ht : t < 256) (hn : n < 4294967296) (w : World) :
    Calls Tryz.prog 104 #[.int .i64 t, .int .i64 n] w fun e w' => e = .returned (.string (bs (b8 t :: short n))) ∧ Below w.heap.size w w' := by
  have hcv := run_conv_two (P := Tryz.prog) 124 5 9 Tryz.underlying124 Tryz.underlying5 Tryz.underlying9
  have et : IntKind.u8.wrap (t : Int) = (t : Int) := IntWalk.u8_in _ (by omega)
  by_cases h : n < 128
  · have e : b8 t :: short n = [b8 t, b8 n] := by unfold short; rw [if_pos h]
    rw [e]
    have en : IntKind.u8.wrap (n : Int) = (n : Int) := IntWalk.u8_in _ (by omega)
    have h' : (n : Int) < 128 := by omega
    clear hn e
    go_enter Tryz.func104, Tryz.ntmps104
    go_wp2
    go_ret
    exact ⟨by simp, (Below.refl _ _).alloc (Nat.le_refl _) _⟩
  · have e : b8 t :: short n = b8 t :: b8 (128 + kb n) :: pad (kb n) n := by unfold short; rw [if_neg h]
    have HE := Lib.hid e
    have hkb := kb_pos n
    have HW := Lib.hid (fun k h1 h4 => @wide_at n k hn h1 h4)
    have HO := Lib.hid (fun k w1 => octWide_walk (n : Int) k (by omega) (by omega) w1)
    have hpl := pad_length (kb n) n
    have hz0 : (128 : Int) ≤ (n : Nat) := by omega
    have hn2 : ((n : Nat) : Int) < 4294967296 := by omega
    clear e h hn
    generalize hN : ((n : Nat) : Int) = N at *
    go_enter Tryz.func104, Tryz.ntmps104
    go_wp2_with fail
    refine (HO.out 1 w).mono ?_
    rintro e w1 ⟨rfl, b1⟩
    go_wp2
    go_loopg [5, 6, 7] (kb n - 1) (fun g v5 v6 v7 wr => HdRel n w g v5 v6 v7 wr)
    case atStart => exact ⟨1, by omega, by omega, rfl, by rw [← hN]; rfl, by rw [← hN]; rfl, b1⟩
    case round =>
      obtain ⟨k, hkg, hk1, rfl, rfl, rfl, hbr⟩ := hrel
      rw [hN]
      obtain ⟨s1, s2⟩ := HW.out k hk1 (by omega)
      cases gk with
      | zero =>
        obtain rfl : k = kb n := by omega
        rw [(s2 rfl).1, (s2 rfl).2]
        clear s1 s2
        have e1 : IntKind.i64.wrap (128 + ((kb n : Nat) : Int)) = 128 + ((kb n : Nat) : Int) := IntWalk.i64_in _ (by omega)
        have e2 : IntKind.u8.wrap (128 + ((kb n : Nat) : Int)) = 128 + ((kb n : Nat) : Int) := IntWalk.u8_in _ (by omega)
        have e3 : (128 + ((kb n : Nat) : Int)).toNat = 128 + kb n := by omega
        have hcat : (9223372036854775807 < 2 + (pad (kb n) n).length) = False := eq_false (by omega)
        generalize pad (kb n) n = PD at *
        clear hkg hk1
        go_wp2
        go_ret
        exact ⟨by rw [HE.out]; simp, hbr.alloc hbr.size _⟩
      | succ g =>
        have hlt : k < kb n := by omega
        rw [(s1 hlt).1, (s1 hlt).2]
        clear s1 s2
        have hk1' := Lib.hid (show ((k : Nat) : Int) + 1 = ((k + 1 : Nat) : Int) by omega)
        go_wp2_with fail
        refine (HO.out _ wr).mono ?_
        rintro e w2 ⟨rfl, b2⟩
        go_wp2
        go_roundg g
        case measure => omega
        case rel => exact ⟨k + 1, by omega, by omega, by simp, by rw [hN, hk1'.out], by rw [hN, hk1'.out], hbr.trans (b2.mono hbr.size)⟩
set_option maxRecDepth 100000 in
theorem wrap_walk (t : Int) (b : List UInt8) (hb : b.length ≤ 140737488351232) (w : World) :
    Calls Tryz.prog 80 #[.int .i64 t, .string (bs b)] w fun e w' => e = .returned (.tuple #[.string (bs (wrT t b)), .int .i64 (wrE t b : Nat)]) ∧ Below w.heap.size w w' := by
  have hI := istag_walk t w
  cases hi : isTi t
  · have e1 : wrT t b = [] ∧ wrE t b = 1 := by unfold wrT wrE; rw [hi]; exact ⟨rfl, rfl⟩
    rw [e1.1, e1.2]
    rw [hi] at hI
    have HI := Lib.hid hI
    clear hI hi e1
    go_enter Tryz.func80, Tryz.ntmps80
    go_wp2_with fail
    refine HI.out.mono ?_
    rintro e w1 ⟨rfl, rfl⟩
    go_wp2
    go_ret2
    exact ⟨rfl, Below.refl _ _⟩
  · rw [hi] at hI
    have HI := Lib.hid hI
    obtain ⟨k, rfl, hk, _⟩ := isTi_nat hi
    by_cases hl : 16777216 < b.length
    · have e1 : wrT (k : Int) b = [] ∧ wrE (k : Int) b = 2 := by unfold wrT wrE; rw [hi, if_pos rfl, if_pos hl, if_pos rfl, if_pos hl]; exact ⟨rfl, rfl⟩
      rw [e1.1, e1.2]
      have hl' : (16777216 : Int) < ((b.length : Nat) : Int) := by omega
      clear hI hi e1 hl
      go_enter Tryz.func80, Tryz.ntmps80
      go_wp2_with fail
      refine HI.out.mono ?_
      rintro e w1 ⟨rfl, rfl⟩
      go_wp2
      go_ret2
      exact ⟨rfl, Below.refl _ _⟩
    · have e1 : wrT (k : Int) b = (b8 k :: short b.length) ++ b ∧ wrE (k : Int) b = 0 := by unfold wrT wrE; rw [hi, if_pos rfl, if_neg hl, if_pos rfl, if_neg hl]; exact ⟨by simp [put], rfl⟩
      rw [e1.1, e1.2]
      have HP := Lib.hid (fun w1 => head_walk k b.length hk (by omega) w1)
      have hl' : ((b.length : Nat) : Int) ≤ 16777216 := by omega
      have hsl : (b8 k :: short b.length).length ≤ 6 := by
        rw [List.length_cons, short_len]; have := kb_pos b.length
        by_cases h : b.length < 128
        · rw [if_pos h]; omega
        · rw [if_neg h]; omega
      clear hI hi e1 hl
      generalize b8 k :: short b.length = X at *
      have hcat : (9223372036854775807 < X.length + b.length) = False := eq_false (by omega)
      go_enter Tryz.func80, Tryz.ntmps80
      go_wp2_with fail
      refine HI.out.mono ?_
      rintro e w1 ⟨rfl, rfl⟩
      go_wp2_with fail
      refine (HP.out _).mono ?_
      rintro e x1 ⟨rfl, k1⟩
      go_wp2
      go_ret2
      exact ⟨rfl, k1⟩
end Go.Proofs.YtdgnhcbhbpffmaaGreatDoor
