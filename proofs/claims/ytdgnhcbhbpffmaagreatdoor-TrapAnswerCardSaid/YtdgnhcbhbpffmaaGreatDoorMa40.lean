/- Texts on the program and on the document, joined: TrqF, TrqG, TrqH, TrqZ, Arr. -/
import Derived.Test.YtdgnhcbhbpffmaaGreatDoorMa39
import Derived.Test.YtdgnhcbhbpffmaaGreatDoorMa33
import Derived.StillTailTactics
import Derived.Test.YtdgnhcbhbpffmaaGreatDoorMa38
import Derived.Test.YtdgnhcbhbpffmaaGreatDoorMa35
import Derived.Test.YtdgnhcbhbpffmaaGreatDoorMa36
import Derived.Test.YtdgnhcbhbpffmaaGreatDoorMa13
import Derived.OpenShut
/- The program's read of a trap, walked. -/
namespace Go.Proofs.YtdgnhcbhbpffmaaGreatDoor
open Go.ChangeShapes Go.WideShapes Go.ChangeAt Go.RowKit K P1 B5
open D8 (Bd Un lst deU)
open T9 (Tr bU bI msg msgB ofU m3 deM)
set_option linter.unusedVariables false

theorem opn_some {s : List UInt8} {c : List UInt8} {p : Nat × List UInt8} (h : opn s = some (c, p)) : s.length ≤ 65535 ∧ m3 s = some (c, p) ∧ comB c = true ∧ p.2.length ≤ 65535 := by
  unfold opn at h
  split at h
  · next hs =>
    split at h
    · next m hm =>
      split at h
      · next hc =>
        obtain rfl := Option.some.inj h
        refine ⟨hs, hm, hc, ?_⟩
        obtain ⟨n1, _, _, l1, n4, _, _⟩ := m3_inv hm
        have h1 := (prt_mem _ _ (nxB s) _ (Nat.le_refl _) n4 p (by simp)).2
        have h2 := (nx_of n1).2.2.2.2
        omega
      · cases h
    · cases h
  · cases h
theorem opn_none {s : List UInt8} (h : opn s = none) (hs : s.length ≤ 65535) : deM s = none := by
  unfold opn at h
  rw [if_pos hs] at h
  cases hm : m3 s with
  | none => exact T9.deM_no hm
  | some m =>
    obtain ⟨c, p⟩ := m
    rw [hm] at h
    have h' : (if comB c = true then some (c, p) else none) = none := h
    have hc : ¬ comB c = true := fun e => by rw [if_pos e] at h'; cases h'
    rw [deM_go hm]
    cases hd : deU (p.1 : Nat) p.2 with
    | none => rfl
    | some u => exact ofU_com (fun e => hc ((comB_iff c).2 e))
def RePost (s : List UInt8) (w : World) (e : Ending) (w' : World) : Prop :=
  ∃ (t : Tr) (ao : Option Addr) (cap : Nat) (ok : Bool), e = .returned (.tuple #[.agg #[.string (bs t.c), .bool t.f, .int .i64 t.r, .int .i64 t.n, .string (bs t.o), .slice ao t.l.length cap], .bool ok]) ∧ RdB w' ao t.l ∧ Below w.heap.size w w' ∧ (ok = true → s.length ≤ 65535 ∧ deM s = some t) ∧ (ok = false → s.length ≤ 65535 → deM s = none)
/-- A list of binds is not in a trap's block. -/
theorem RdB.apartT {w : World} {a : Addr} {xs : List Bd} {b : Nat} {t : Tr} {bo : Option Addr} {cb : Nat} (h : RdB w (some a) xs) (ht : Tq w b t bo cb) (hl : 0 < xs.length) : b ≠ a.block := by
  rcases h with h | ⟨b', off, ha, hb, hc⟩
  · omega
  · injection ha with ha
    subst ha
    show b ≠ b'
    rintro rfl
    obtain ⟨c0, c1, _, _⟩ := hc 0 hl
    rw [show off + 0 * 4 = off by omega] at c0
    rw [show off + (0 * 4 + 1) = off + 1 by omega] at c1
    obtain ⟨z0, z1, z2, z3, z4, z5⟩ := ht.cells
    match off with
    | 0 => rw [z1] at c1; cases c1
    | 1 => rw [z1] at c0; cases c0
    | 2 => rw [z2] at c0; cases c0
    | 3 => rw [z3] at c0; cases c0
    | 4 => rw [z5] at c1; cases c1
    | 5 => rw [z5] at c0; cases c0
    | k + 6 =>
      have : w.cell? ⟨b, k + 6, none⟩ = none := by
        rw [cell_of_row w b (k + 6) _ _ _ ht]; simp
      rw [this] at c0; cases c0
theorem RdB.set6 {w : World} {ao : Option Addr} {xs : List Bd} {b : Nat} {t : Tr} {bo : Option Addr} {cb : Nat} (h : RdB w ao xs) (ht : Tq w b t bo cb) (v0 v1 v2 v3 v4 v5 : Value) :
    RdB ((((((w.setCell ⟨b, 0, none⟩ v0).setCell ⟨b, 1, none⟩ v1).setCell ⟨b, 2, none⟩ v2).setCell ⟨b, 3, none⟩ v3).setCell ⟨b, 4, none⟩ v4).setCell ⟨b, 5, none⟩ v5) ao xs := by
  by_cases h0 : xs.length = 0
  · exact .inl h0
  · have hne : ∀ a, ao = some a → b ≠ a.block := fun a ha => by subst ha; exact h.apartT ht (by omega)
    exact (((((h.far hne 0 v0).far hne 1 v1).far hne 2 v2).far hne 3 v3).far hne 4 v4).far hne 5 v5
theorem Tq.drew {w : World} {b : Nat} {t : Tr} {ao : Option Addr} {cap : Nat} (h : Tq w b t ao cap) : Tq w.drew b t ao cap := h
theorem RdB.drew {w : World} {ao : Option Addr} {xs : List Bd} (h : RdB w ao xs) : RdB w.drew ao xs := h
theorem below_drew {B : Nat} {w w' : World} (h : Below B w w') : Below B w w'.drew := ⟨h.os, h.tape, h.output, h.size, h.block⟩
set_option maxRecDepth 100000 in
set_option maxHeartbeats 4000000 in
theorem read9_walk (s : List UInt8) (hs : s.length ≤ 140737488351232) (w : World) (T : Tw w) :
    Calls Tryz.prog 25 #[.string (bs s)] w (RePost s w) := by
  have HNo := Lib.hid (fun (h : s.length ≤ 65535 → deM s = none) (w' : World) (k : Below w.heap.size w w') => (show RePost s w (.returned (.tuple #[.agg #[.string (bs []), .bool false, .int .i64 0, .int .i64 0, .string (bs []), .slice none 0 0], .bool false])) w' from ⟨not9, none, 0, false, rfl, .inl rfl, k, fun h => Bool.noConfusion h, fun _ => h⟩))
  obtain ⟨w2, hw2, ht, hb⟩ := trap_block w
  have HW := Lib.hid hw2
  have HT := Lib.hid (T.below hb)
  have HO := Lib.hid (fun w1 (T1 : Tw w1) => open9_walk s hs w1 T1)
  unfold OpPost at HO
  clear hw2 T
  go_enter Tryz.func25, Tryz.ntmps25
  go_wp2_with fail
  rw [HW.out]
  refine (HO.out _ HT.out).mono ?_
  rintro e w3 (⟨c, p, ho, rfl, d3⟩ | ⟨ho, rfl, d3⟩)
  rotate_left
  · have HE := Lib.hid (fun h => opn_none ho h)
    have a3 := alloc_in w3 (.cells #[.int .i64 0, .string (bs [])] 72)
    replace ht := (ht.below d3).below a3
    replace hb := (hb.trans (d3.mono hb.size)).trans (a3.mono (hb.trans (d3.mono hb.size)).size)
    clear ho d3 a3 HO HW HT
    have PX := ht.set not9 none 0
    have bb := below_set6 hb (b := w.heap.size) (Nat.le_refl _) (.string (bs [])) (.bool false) (.int .i64 0) (.int .i64 0) (.string (bs [])) (.slice none 0 0)
    obtain ⟨c0, c1, c2, c3, c4, c5⟩ := ht.cells
    have f0 := ht.free 0
    have f1 := ht.free 1
    have f2 := ht.free 2
    have f3 := ht.free 3
    have f4 := ht.free 4
    have f5 := ht.free 5
    clear ht hb
    go_wp2
    refine bodyPost_ret (results_cell_row2 rfl _ _ w.heap.size _ _ _ _ rfl PX Tryz.underlying27 rfl (by kernel_rfl)) rfl ?_
    exact HNo.out HE.out _ bb
  obtain ⟨h65, hm, hc, hp⟩ := opn_some ho
  have HD := Lib.hid (fun w1 (T1 : Tw w1) => decode8_walkc (p.1 : Nat) p.2 (by omega) w1 T1.1)
  unfold DuPc at HD
  have HM := Lib.hid (deM_go hm)
  have a3 := alloc_in w3 (.cells #[.int .i64 (p.1 : Nat), .string (bs p.2)] 72)
  have hpq := Prt.new w3 72 (p.1 : Nat) p.2
  replace ht := (ht.below d3).below a3
  replace HT := Lib.hid ((HT.out.below d3).below a3)
  replace hb := (hb.trans (d3.mono hb.size)).trans (a3.mono (hb.trans (d3.mono hb.size)).size)
  have HC := Lib.hid hc
  have H65 := Lib.hid h65
  obtain ⟨x0, x1, _, _⟩ := hpq.cells
  clear ho d3 a3 HO HW hm hp hc h65
  go_wp2_with fail
  refine (HD.out _ HT.out).mono ?_
  rintro e w4 ⟨bo, cb, rfl, hr, d4, hcap, hsh⟩
  cases hd : deU (p.1 : Nat) p.2 with
  | none =>
    have e80 : duE (p.1 : Nat) p.2 = 80 := (du_none hd).2
    rw [e80]
    have HE := Lib.hid (show s.length ≤ 65535 → deM s = none from fun _ => by rw [HM.out, hd])
    generalize duU (p.1 : Nat) p.2 = u at *
    have a4 := alloc_in w4 (.cells #[.int .i64 u.t, .int .i64 u.r, .int .i64 u.a, .int .i64 u.i, .slice bo u.l.length cb] 41)
    replace ht := (ht.below d4).below a4
    replace hb := (hb.trans (d4.mono hb.size)).trans (a4.mono (hb.trans (d4.mono hb.size)).size)
    clear hd e80 x0 x1 hpq d4 a4 HD HT HM hr hcap hsh
    have PX := ht.set not9 none 0
    have bb := below_set6 hb (b := w.heap.size) (Nat.le_refl _) (.string (bs [])) (.bool false) (.int .i64 0) (.int .i64 0) (.string (bs [])) (.slice none 0 0)
    obtain ⟨c0, c1, c2, c3, c4, c5⟩ := ht.cells
    have f0 := ht.free 0
    have f1 := ht.free 1
    have f2 := ht.free 2
    have f3 := ht.free 3
    have f4 := ht.free 4
    have f5 := ht.free 5
    clear ht hb
    go_wp2
    refine bodyPost_ret (results_cell_row2 rfl _ _ w.heap.size _ _ _ _ rfl PX Tryz.underlying27 rfl (by kernel_rfl)) rfl ?_
    exact HNo.out HE.out _ bb
  | some u =>
    rw [(du_some hd).2, (du_some hd).1]
    rw [(du_some hd).1] at hr hcap hsh
    have hu := (D8.unit_told hd).1
    have hul := ((D8.Un.ok_iff u).1 hu).2.2.2.2.1
    have a4 := alloc_in w4 (.cells #[.int .i64 u.t, .int .i64 u.r, .int .i64 u.a, .int .i64 u.i, .slice bo u.l.length cb] 41)
    have huq := Uq.new 41 w4 u bo cb
    replace ht := (ht.below d4).below a4
    replace hb := (hb.trans (d4.mono hb.size)).trans (a4.mono (hb.trans (d4.mono hb.size)).size)
    replace hr := hr.below a4
    have hI := fun w1 (h : RdB w1 bo u.l) => istrap_walk u bo cb (by omega) w1 h
    have HM2 := Lib.hid (show deM s = ofU c u by rw [HM.out, hd])
    have HU := Lib.hid hu
    clear hd x0 x1 hpq d4 a4 HD HT HM hu
    obtain ⟨x0, x1, x2, x3, x4⟩ := huq.cells
    cases hi : isTr u
    · rw [hi] at hI
      have HI := Lib.hid hI
      have HE := Lib.hid (show s.length ≤ 65535 → deM s = none from fun _ => by rw [HM2.out]; exact ofU_un HU.out hi)
      clear hI hi HM2
      go_wp2_with fail
      refine (HI.out _ hr).mono ?_
      rintro e w5 ⟨rfl, d5⟩
      replace ht := ht.below d5
      replace hb := hb.trans (d5.mono hb.size)
      clear x0 x1 x2 x3 x4 huq hr d5
      have PX := ht.set not9 none 0
      have bb := below_set6 hb (b := w.heap.size) (Nat.le_refl _) (.string (bs [])) (.bool false) (.int .i64 0) (.int .i64 0) (.string (bs [])) (.slice none 0 0)
      obtain ⟨c0, c1, c2, c3, c4, c5⟩ := ht.cells
      have f0 := ht.free 0
      have f1 := ht.free 1
      have f2 := ht.free 2
      have f3 := ht.free 3
      have f4 := ht.free 4
      have f5 := ht.free 5
      clear ht hb
      go_wp2
      refine bodyPost_ret (results_cell_row2 rfl _ _ w.heap.size _ _ _ _ rfl PX Tryz.underlying27 rfl (by kernel_rfl)) rfl ?_
      exact HNo.out HE.out _ bb
    · rw [hi] at hI
      have HI := Lib.hid hI
      have HY := Lib.hid (show deM s = some (trOf c u) by rw [HM2.out]; exact ofU_yes HU.out ((comB_iff c).1 HC.out) hi)
      have hlen : 2 ≤ u.l.length := by
        unfold isTr at hi
        simp only [Bool.and_eq_true, decide_eq_true_eq] at hi
        exact hi.1.2
      clear hI hi HM2
      go_wp2_with fail
      refine (HI.out _ hr).mono ?_
      rintro e w5 ⟨rfl, d5⟩
      replace ht := ht.below d5
      replace hb := hb.trans (d5.mono hb.size)
      replace hr := hr.below d5
      replace huq := huq.below d5
      clear x0 x1 x2 x3 x4 d5 HI
      obtain ⟨x, y, l, hl2⟩ : ∃ x y l, u.l = x :: y :: l := by
        match hh : u.l, hlen with
        | x :: y :: l, _ => exact ⟨x, y, l, rfl⟩
      have hlen2 : u.l.length = l.length + 2 := by rw [hl2]; rfl
      have htr : trOf c u = ⟨c, u.t == 166, u.r, x.n, y.s, l⟩ := by unfold trOf; rw [hl2]; rfl
      rw [htr] at HY
      have hulx := hul
      rw [hlen2] at hcap hulx
      obtain ⟨b, off, rfl, hbl, p0, p1, p2, p3⟩ := hr.at (i := 0) (by omega) (x := x) (by rw [hl2]; rfl)
      obtain ⟨b', off', hbo, _, q0, q1, q2, q3⟩ := hr.at (i := 1) (by omega) (x := y) (by rw [hl2]; rfl)
      simp only [Option.some.injEq, Addr.mk.injEq, and_true] at hbo
      obtain ⟨rfl, rfl⟩ := hbo
      simp only [Nat.zero_mul, Nat.add_zero, Nat.one_mul] at p0 p1 p2 p3 q0 q1 q2 q3
      rw [hl2] at hr
      obtain ⟨x0, x1, x2, x3, x4⟩ := huq.cells
      rw [hlen2] at x4
      have q7 : w5.cell? ⟨b, off + 7, none⟩ = some (.string (bs y.s)) := q3
      have p7 : w5.cell? ⟨b, off + 2, none⟩ = some (.int .i64 x.n) := p2
      have hn0 : (0 : Int) < ((l.length + 2 : Nat) : Int) := by omega
      have hn1 : (1 : Int) < ((l.length + 2 : Nat) : Int) := by omega
      have hn2 : (2 : Int) ≤ ((l.length + 2 : Nat) : Int) := by omega
      have hn5 : (2 : Int) ≤ ((l.length : Nat) : Int) + 2 := by omega
      have hn6 : (1 : Int) < ((l.length : Nat) : Int) + 2 := by omega
      have hn7 : (0 : Int) < ((l.length : Nat) : Int) + 2 := by omega
      by_cases h2 : cb = 2
      · subst h2
        obtain rfl : l = [] := List.length_eq_zero_iff.1 (by omega)
        have hTl : RdB w5 (some (⟨b, off, none⟩ : Addr)) [] := .inl rfl
        have PX := (ht.set ⟨c, u.t == 166, u.r, x.n, y.s, []⟩ (some (⟨b, off, none⟩ : Addr)) (0)).drew
        have bb := below_drew (below_set6 hb (b := w.heap.size) (Nat.le_refl _) (.string (bs c)) (.bool (u.t == 166)) (.int .i64 u.r) (.int .i64 x.n) (.string (bs y.s)) (.slice (some (⟨b, off, none⟩ : Addr)) 0 (0)))
        have HRR := Lib.hid (hTl.set6 ht (.string (bs c)) (.bool (u.t == 166)) (.int .i64 u.r) (.int .i64 x.n) (.string (bs y.s)) (.slice (some (⟨b, off, none⟩ : Addr)) 0 (0))).drew
        have HQ := Lib.hid (And.intro PX bb)
        have HTD := Lib.hid ht
        have d0 : ({ heap := w5.heap, tape := w5.tape, drawn := w5.drawn + 1, os := w5.os, output := w5.output } : World).cell? ⟨w4.heap.size, 0, none⟩ = some (.int .i64 u.t) := x0
        have d1 : ({ heap := w5.heap, tape := w5.tape, drawn := w5.drawn + 1, os := w5.os, output := w5.output } : World).cell? ⟨w4.heap.size, 1, none⟩ = some (.int .i64 u.r) := x1
        have d4 : ({ heap := w5.heap, tape := w5.tape, drawn := w5.drawn + 1, os := w5.os, output := w5.output } : World).cell? ⟨w4.heap.size, 4, none⟩ = some (.slice (some ⟨b, off, none⟩) 2 2) := x4
        have d5 : ({ heap := w5.heap, tape := w5.tape, drawn := w5.drawn + 1, os := w5.os, output := w5.output } : World).cell? ⟨b, off + 2, none⟩ = some (.int .i64 x.n) := p7
        have d6 : ({ heap := w5.heap, tape := w5.tape, drawn := w5.drawn + 1, os := w5.os, output := w5.output } : World).cell? ⟨b, off + 7, none⟩ = some (.string (bs y.s)) := q7
        clear hl2 hlen htr hr hTl ht hb huq p0 p1 p2 p3 q0 q1 q2 q3 hlen2 PX bb HNo HU HC hsh hul
        go_wp2_with fail
        go_still_tail 22, (by kernel_rfl)
        change wpList _ _ _ _ _ w5.drew
        clear d0 d1 d4 d5 d6 x0 x1 x2 x3 x4 p7 q7
        have ht := HTD.out
        obtain ⟨c0, c1, c2, c3, c4, c5⟩ := ht.cells
        have f0 := ht.free 0
        have f1 := ht.free 1
        have f2 := ht.free 2
        have f3 := ht.free 3
        have f4 := ht.free 4
        have f5 := ht.free 5
        clear ht
        go_wp2_with fail
        refine bodyPost_ret (results_cell_row2 rfl _ _ w.heap.size _ _ _ _ rfl HQ.out.1 Tryz.underlying27 rfl (by kernel_rfl)) rfl ?_
        refine ⟨⟨c, u.t == 166, u.r, x.n, y.s, []⟩, some (⟨b, off, none⟩ : Addr), 0, true, rfl, ?_, ?_, fun _ => ⟨H65.out, HY.out⟩, fun h => Bool.noConfusion h⟩
        · exact HRR.out
        · exact HQ.out.2
      · have hTl : RdB w5 (some (⟨b, off + 8, none⟩ : Addr)) l := hr.drop2
        have PX := (ht.set ⟨c, u.t == 166, u.r, x.n, y.s, l⟩ (some (⟨b, off + 8, none⟩ : Addr)) (cb - 2)).drew
        have bb := below_drew (below_set6 hb (b := w.heap.size) (Nat.le_refl _) (.string (bs c)) (.bool (u.t == 166)) (.int .i64 u.r) (.int .i64 x.n) (.string (bs y.s)) (.slice (some (⟨b, off + 8, none⟩ : Addr)) l.length (cb - 2)))
        have HRR := Lib.hid (hTl.set6 ht (.string (bs c)) (.bool (u.t == 166)) (.int .i64 u.r) (.int .i64 x.n) (.string (bs y.s)) (.slice (some (⟨b, off + 8, none⟩ : Addr)) l.length (cb - 2))).drew
        have HQ := Lib.hid (And.intro PX bb)
        have HTD := Lib.hid ht
        have d0 : ({ heap := w5.heap, tape := w5.tape, drawn := w5.drawn + 1, os := w5.os, output := w5.output } : World).cell? ⟨w4.heap.size, 0, none⟩ = some (.int .i64 u.t) := x0
        have d1 : ({ heap := w5.heap, tape := w5.tape, drawn := w5.drawn + 1, os := w5.os, output := w5.output } : World).cell? ⟨w4.heap.size, 1, none⟩ = some (.int .i64 u.r) := x1
        have d4 : ({ heap := w5.heap, tape := w5.tape, drawn := w5.drawn + 1, os := w5.os, output := w5.output } : World).cell? ⟨w4.heap.size, 4, none⟩ = some (.slice (some ⟨b, off, none⟩) (l.length + 2) cb) := x4
        have d5 : ({ heap := w5.heap, tape := w5.tape, drawn := w5.drawn + 1, os := w5.os, output := w5.output } : World).cell? ⟨b, off + 2, none⟩ = some (.int .i64 x.n) := p7
        have d6 : ({ heap := w5.heap, tape := w5.tape, drawn := w5.drawn + 1, os := w5.os, output := w5.output } : World).cell? ⟨b, off + 7, none⟩ = some (.string (bs y.s)) := q7
        clear hl2 hlen htr hr hTl ht hb huq p0 p1 p2 p3 q0 q1 q2 q3 hlen2 PX bb HNo HU HC hsh hul
        go_wp2_with fail
        go_still_tail 22, (by kernel_rfl)
        change wpList _ _ _ _ _ w5.drew
        clear d0 d1 d4 d5 d6 x0 x1 x2 x3 x4 p7 q7
        have ht := HTD.out
        obtain ⟨c0, c1, c2, c3, c4, c5⟩ := ht.cells
        have f0 := ht.free 0
        have f1 := ht.free 1
        have f2 := ht.free 2
        have f3 := ht.free 3
        have f4 := ht.free 4
        have f5 := ht.free 5
        clear ht
        go_wp2_with fail
        refine bodyPost_ret (results_cell_row2 rfl _ _ w.heap.size _ _ _ _ rfl HQ.out.1 Tryz.underlying27 rfl (by kernel_rfl)) rfl ?_
        refine ⟨⟨c, u.t == 166, u.r, x.n, y.s, l⟩, some (⟨b, off + 8, none⟩ : Addr), cb - 2, true, rfl, ?_, ?_, fun _ => ⟨H65.out, HY.out⟩, fun h => Bool.noConfusion h⟩
        · exact HRR.out
        · exact HQ.out.2
end Go.Proofs.YtdgnhcbhbpffmaaGreatDoor
/- The program's Decode of traps, walked. -/
namespace Go.Proofs.YtdgnhcbhbpffmaaGreatDoor
open Go.ChangeShapes Go.WideShapes Go.ChangeAt Go.RowKit K P1 B5
open D8 (Bd Un lst deU)
open T9 (Tr bU bI msg msgB ofU m3 deM)
set_option linter.unusedVariables false

set_option maxRecDepth 100000 in
set_option maxHeartbeats 4000000 in
theorem decode9_walk (s : List UInt8) (hs : s.length ≤ 1000000) (known : List (List UInt8)) (ko : Option Addr) (kc : Nat) (hk : known.length ≤ 1000000) (w : World) (T : Tw w) (hko : RdS w ko known) :
    Calls Tryz.prog 10 #[.string (bs s), .slice ko known.length kc] w (DtPost s known w) := by
  have HNo := Lib.hid (fun (h : s.length ≤ 65535 → deM s = none) (w' : World) (k : Below w.heap.size w w') => DtPost.no (known := known) h k)
  obtain ⟨w2, hw2, ht, hb⟩ := trap_block w
  have HW := Lib.hid hw2
  have HR := Lib.hid (fun w1 (T1 : Tw w1) => read9_walk s (by omega) w1 T1)
  unfold RePost at HR
  have HT := Lib.hid (T.below hb)
  have hko2 := hko.below hb
  clear hw2 T hko
  go_enter Tryz.func10, Tryz.ntmps10
  go_wp2_with fail
  rw [HW.out]
  refine (HR.out _ HT.out).mono ?_
  rintro e w3 ⟨t, ao, cap, ok, rfl, hr, d3, hyes, hno⟩
  have a3 := alloc_in w3 (.cells #[.string (bs t.c), .bool t.f, .int .i64 t.r, .int .i64 t.n, .string (bs t.o), .slice ao t.l.length cap] 27)
  have hu := Tq.new w3 t ao cap
  replace ht := (ht.below d3).below a3
  replace hb := (hb.trans (d3.mono hb.size)).trans (a3.mono (hb.trans (d3.mono hb.size)).size)
  replace hr := hr.below a3
  replace hko2 := (hko2.below d3).below a3
  clear d3 a3 HR HT HW
  cases ok
  · have HE := Lib.hid (hno rfl)
    clear hyes hno hu hr hko2
    have PX := ht.set not9 none 0
    have bb := below_set6 hb (b := w.heap.size) (Nat.le_refl _) (.string (bs [])) (.bool false) (.int .i64 0) (.int .i64 0) (.string (bs [])) (.slice none 0 0)
    obtain ⟨c0, c1, c2, c3, c4, c5⟩ := ht.cells
    have f0 := ht.free 0
    have f1 := ht.free 1
    have f2 := ht.free 2
    have f3 := ht.free 3
    have f4 := ht.free 4
    have f5 := ht.free 5
    clear ht hb
    go_wp2
    refine bodyPost_ret (results_cell_row2 rfl _ _ w.heap.size _ _ _ _ rfl PX Tryz.underlying27 rfl (by kernel_rfl)) rfl ?_
    exact HNo.out HE.out _ bb
  · obtain ⟨h65, hdm⟩ := hyes rfl
    obtain ⟨y0, y1, y2, y3, y4, y5⟩ := hu.cells
    have hC := fun w1 (h : RdS w1 ko known) => contains_walk t.c known ko kc (by omega) w1 h
    have hD := dt_yes h65 hdm known
    cases hkn : knows known t.c
    · rw [hkn] at hC hD
      have HC := Lib.hid hC
      have HD := Lib.hid hD
      clear hC hD hkn hdm h65 hyes hno
      go_wp2_with fail
      refine (HC.out _ hko2).mono ?_
      rintro e w4 ⟨rfl, rfl⟩
      clear y0 y1 y2 y3 y4 y5 hko2 hr HC
      have PX := ht.set not9 none 0
      have bb := below_set6 hb (b := w.heap.size) (Nat.le_refl _) (.string (bs [])) (.bool false) (.int .i64 0) (.int .i64 0) (.string (bs [])) (.slice none 0 0)
      obtain ⟨c0, c1, c2, c3, c4, c5⟩ := ht.cells
      have f0 := ht.free 0
      have f1 := ht.free 1
      have f2 := ht.free 2
      have f3 := ht.free 3
      have f4 := ht.free 4
      have f5 := ht.free 5
      clear ht hb
      go_wp2
      refine bodyPost_ret (results_cell_row2 rfl _ _ w.heap.size _ _ _ _ rfl PX Tryz.underlying27 rfl (by kernel_rfl)) rfl ?_
      refine ⟨none, 0, ?_, ?_, bb⟩
      · rw [HD.out.1, HD.out.2]; rfl
      · rw [HD.out.1]; exact .inl rfl
    · rw [hkn] at hC hD
      have HC := Lib.hid hC
      have HD := Lib.hid hD
      clear hC hD hkn hdm h65 hyes hno
      go_wp2_with fail
      refine (HC.out _ hko2).mono ?_
      rintro e w4 ⟨rfl, rfl⟩
      have PX := ht.set t ao cap
      have bb := below_set6 hb (b := w.heap.size) (Nat.le_refl _) (.string (bs t.c)) (.bool t.f) (.int .i64 t.r) (.int .i64 t.n) (.string (bs t.o)) (.slice ao t.l.length cap)
      obtain ⟨c0, c1, c2, c3, c4, c5⟩ := ht.cells
      have f0 := ht.free 0
      have f1 := ht.free 1
      have f2 := ht.free 2
      have f3 := ht.free 3
      have f4 := ht.free 4
      have f5 := ht.free 5
      have HRR := Lib.hid (And.intro hr ht)
      clear hb hko2 HC hr ht
      go_wp2
      refine bodyPost_ret (results_cell_row2 rfl _ _ w.heap.size _ _ _ _ rfl PX Tryz.underlying27 rfl (by kernel_rfl)) rfl ?_
      refine ⟨ao, cap, ?_, ?_, bb⟩
      · rw [HD.out.1, HD.out.2]; rfl
      · rw [HD.out.1]
        exact HRR.out.1.set6 HRR.out.2 _ _ _ _ _ _
end Go.Proofs.YtdgnhcbhbpffmaaGreatDoor
/- The program's Same of traps, walked. -/
namespace Go.Proofs.YtdgnhcbhbpffmaaGreatDoor
open Go.ChangeShapes Go.WideShapes Go.ChangeAt Go.RowKit K P1 B5
open D8 (Bd Un lst deU)
open T9 (Tr bU bI msg msgB ofU m3 deM)
set_option linter.unusedVariables false

theorem sameT_un (t u : Tr) : sameT t u = ((t.c == u.c) && sameU t.un u.un) := by
  rw [Bool.eq_iff_iff, sameT_iff, Bool.and_eq_true, beq_iff_eq]
  constructor
  · rintro rfl
    exact ⟨rfl, sameU_self _⟩
  · rintro ⟨h1, h2⟩
    unfold sameU at h2
    simp only [Bool.and_eq_true, beq_iff_eq, sameL_iff] at h2
    obtain ⟨c, f, r, n, o, l⟩ := t
    obtain ⟨c', f', r', n', o', l'⟩ := u
    obtain ⟨h2, h3, _, _, h6⟩ := h2
    have hf : f = f' := by
      cases f <;> cases f' <;> first | rfl | (simp [Tr.un, Tr.as, Tr.tag] at h2)
    simp only [Tr.un, Tr.as, List.cons.injEq, bU, bI, D8.Bd.mk.injEq, true_and, and_true] at h1 h3 h6
    obtain ⟨h7, h8, h9⟩ := h6
    rw [h1, hf, h3, h7, h8, h9]
theorem twelveP {w x : World} {t u : Tr} {ao bo : Option Addr} {ca cb : Nat} (ht : Tq x w.heap.size t ao ca) (hu : Tq x (w.heap.size + 1) u bo cb) : x.cell? ⟨w.heap.size, 0, none⟩ = some (.string (bs t.c)) ∧ x.cell? ⟨w.heap.size, 1, none⟩ = some (.bool t.f) ∧ x.cell? ⟨w.heap.size, 2, none⟩ = some (.int .i64 t.r) ∧ x.cell? ⟨w.heap.size, 3, none⟩ = some (.int .i64 t.n) ∧ x.cell? ⟨w.heap.size, 4, none⟩ = some (.string (bs t.o)) ∧ x.cell? ⟨w.heap.size, 5, none⟩ = some (.slice ao t.l.length ca) ∧ x.cell? ⟨w.heap.size + 1, 0, none⟩ = some (.string (bs u.c)) ∧ x.cell? ⟨w.heap.size + 1, 1, none⟩ = some (.bool u.f) ∧ x.cell? ⟨w.heap.size + 1, 2, none⟩ = some (.int .i64 u.r) ∧ x.cell? ⟨w.heap.size + 1, 3, none⟩ = some (.int .i64 u.n) ∧ x.cell? ⟨w.heap.size + 1, 4, none⟩ = some (.string (bs u.o)) ∧ x.cell? ⟨w.heap.size + 1, 5, none⟩ = some (.slice bo u.l.length cb) := by
  obtain ⟨a0, a1, a2, a3, a4, a5⟩ := ht.cells
  obtain ⟨b0, b1, b2, b3, b4, b5⟩ := hu.cells
  exact ⟨a0, a1, a2, a3, a4, a5, b0, b1, b2, b3, b4, b5⟩
set_option maxRecDepth 100000 in
set_option maxHeartbeats 4000000 in
theorem same9_walk (t u : Tr) (ao bo : Option Addr) (ca cb : Nat) (hl : t.l.length * 48 ≤ 140737488351280) (hl2 : u.l.length * 48 ≤ 140737488351280) (w : World) (hr : RdB w ao t.l) (hs : RdB w bo u.l) :
    Calls Tryz.prog 21 #[.agg #[.string (bs t.c), .bool t.f, .int .i64 t.r, .int .i64 t.n, .string (bs t.o), .slice ao t.l.length ca], .agg #[.string (bs u.c), .bool u.f, .int .i64 u.r, .int .i64 u.n, .string (bs u.o), .slice bo u.l.length cb]] w fun e w' => e = .returned (.bool (sameT t u)) ∧ Below w.heap.size w w' := by
  obtain ⟨w2, hw2, ht, hu, bw⟩ := two_traps w t u ao bo ca cb
  have HW := Lib.hid hw2
  have hr2 := hr.below bw
  have hs2 := hs.below bw
  have HU := Lib.hid (fun w1 (h : RdB w1 ao t.l) => unit9_walk t ao ca hl w1 h)
  have HV := Lib.hid (fun w1 (h : RdB w1 bo u.l) => unit9_walk u bo cb hl2 w1 h)
  have hS : ∀ p cp q cq w1, RdB w1 p (t.as 0).l → RdB w1 q (u.as 0).l → Calls Tryz.prog 24 #[.agg #[.int .i64 t.tag, .int .i64 t.r, .int .i64 0, .int .i64 0, .slice p (t.l.length + 2) cp], .agg #[.int .i64 u.tag, .int .i64 u.r, .int .i64 0, .int .i64 0, .slice q (u.l.length + 2) cq]] w1 fun e w' => e = .returned (.bool (sameU t.un u.un)) ∧ Below w1.heap.size w1 w' :=
    fun p cp q cq w1 h1 h2 => same8_walk t.un u.un p q cp cq (show t.l.length + 2 ≤ _ by omega) (show u.l.length + 2 ≤ _ by omega) w1 h1 h2
  have HS := Lib.hid hS
  rw [sameT_un]
  clear hw2 hr hs hS
  by_cases h0 : t.c = u.c
  rotate_left
  · rw [show (t.c == u.c) = false from beq_eq_false_iff_ne.2 h0, Bool.false_and]
    have et : decide (bs t.c = bs u.c) = false := decide_eq_false (fun k => h0 (bs_inj k))
    have h0' : (t.c == u.c) = false := beq_eq_false_iff_ne.2 h0
    obtain ⟨z0, z1, z2, z3, z4, z5⟩ := ht.cells
    obtain ⟨y0, y1, y2, y3, y4, y5⟩ := hu.cells
    clear h0 HU HV HS
    go_enter Tryz.func21, Tryz.ntmps21
    go_wp2_with fail
    rw [HW.out]
    first
      | (go_region_with (fail))
      | fail
    all_goals
      go_wp2
      go_ret
      exact ⟨rfl, ⟨bw.os, bw.tape, bw.output, bw.size, bw.block⟩⟩
  · rw [show (t.c == u.c) = true from beq_iff_eq.2 h0, Bool.true_and]
    have h0' : (t.c == u.c) = true := beq_iff_eq.2 h0
    have et : decide (bs t.c = bs u.c) = true := decide_eq_true (by rw [h0])
    clear h0
    generalize sameU t.un u.un = SU at *
    have zS := twelveP (w := w) ht hu
    have HR := Lib.hid hr2
    have HR2 := Lib.hid hs2
    clear hr2 hs2
    go_enter Tryz.func21, Tryz.ntmps21
    go_wp2_with fail
    rw [HW.out]
    go_region_held3 (fun x => x.cell? ⟨w.heap.size, 0, none⟩ = some (.string (bs t.c)) ∧ x.cell? ⟨w.heap.size, 1, none⟩ = some (.bool t.f) ∧ x.cell? ⟨w.heap.size, 2, none⟩ = some (.int .i64 t.r) ∧ x.cell? ⟨w.heap.size, 3, none⟩ = some (.int .i64 t.n) ∧ x.cell? ⟨w.heap.size, 4, none⟩ = some (.string (bs t.o)) ∧ x.cell? ⟨w.heap.size, 5, none⟩ = some (.slice ao t.l.length ca) ∧ x.cell? ⟨w.heap.size + 1, 0, none⟩ = some (.string (bs u.c)) ∧ x.cell? ⟨w.heap.size + 1, 1, none⟩ = some (.bool u.f) ∧ x.cell? ⟨w.heap.size + 1, 2, none⟩ = some (.int .i64 u.r) ∧ x.cell? ⟨w.heap.size + 1, 3, none⟩ = some (.int .i64 u.n) ∧ x.cell? ⟨w.heap.size + 1, 4, none⟩ = some (.string (bs u.o)) ∧ x.cell? ⟨w.heap.size + 1, 5, none⟩ = some (.slice bo u.l.length cb)) (first | exact zS | exact zS1 | exact zS2 | exact zS3)
      (first
        | (go_at_call 34; (with_reducible refine Calls.mono (HU.out _ ?_) ?_); exact HR.out; rintro e x1 ⟨pa, ca1, rfl, r1, j1⟩; have k1 : Below w2.heap.size w2 x1 := ⟨j1.os, j1.tape, j1.output, j1.size, j1.block⟩; have ht1 := ht.below k1; have hu1 := hu.below k1; have b1 := bw.trans (k1.mono bw.size); have zS1 := twelveP (w := w) ht1 hu1; have HR3 := Lib.hid (HR2.out.below k1))
        | (go_at_call 34; (with_reducible refine Calls.mono (HV.out _ ?_) ?_); exact HR3.out; rintro e x2 ⟨pb, cb1, rfl, r2, j2⟩; have k2 : Below x1.heap.size x1 x2 := ⟨j2.os, j2.tape, j2.output, j2.size, j2.block⟩; have ht2 := ht1.below k2; have hu2 := hu1.below k2; have b2 := b1.trans (k2.mono b1.size); have zS2 := twelveP (w := w) ht2 hu2; have HR4 := Lib.hid (r1.below k2))
        | (go_at_call 24; (with_reducible refine Calls.mono (HS.out _ _ _ _ _ ?_ ?_) ?_); exact HR4.out; exact r2; rintro e x3 ⟨rfl, j3⟩; have k3 : Below x2.heap.size x2 x3 := ⟨j3.os, j3.tape, j3.output, j3.size, j3.block⟩; have b3 := b2.trans (k3.mono b2.size); have zS3 := twelveP (w := w) (ht2.below k3) (hu2.below k3)))
    all_goals
      go_wp2
      go_ret
      exact ⟨rfl, b3⟩
end Go.Proofs.YtdgnhcbhbpffmaaGreatDoor
/- What the program's trap calls are known to answer: all that the laws ask of them. -/
namespace Go.Proofs.YtdgnhcbhbpffmaaGreatDoor
open Go.ChangeShapes Go.WideShapes Go.ChangeAt Go.RowKit K P1 B5
set_option linter.unusedVariables false
theorem trp_ok : TrpOk Tw where
  keep := fun a b h k => h.below k
  tp := fun w h => h.1
  check := fun t ao cap w hx _ T hr => check9_walk t ao cap hx w T hr
  encode := fun t ao cap w hx _ T hr => encode9_walk t ao cap hx w T hr
  answer := fun t ao cap w hx _ T hr => answer9_walk t ao cap hx w T hr
  decode := fun s known ko kc w hs hk T hr => decode9_walk s hs known ko kc hk w T hr
  same := fun t u ao bo cap cb w hl hl2 T hr hs => same9_walk t u ao bo cap cb hl hl2 w hr hs
end Go.Proofs.YtdgnhcbhbpffmaaGreatDoor
/- An array among the arguments, and a slice that is nil or not: what the reading gives. Of no program. -/
namespace Go.Proofs.YtdgnhcbhbpffmaaGreatDoor
open Go.RowKit
namespace K
set_option linter.unusedVariables false
section
variable {P : Program} {w : World} {t e : TypeId} {cs : List Value}
theorem okWide_agg {n : Nat} {r : Reach} {base : Nat} {v : Value} (ht : P.underlying t = some (.array n e)) (h : Value.okWide P w r base t v) : ∃ xs : Array Value, v = .agg xs ∧ xs.size = P.cellsOf t := by
  unfold Value.okWide at h
  rw [ht] at h
  obtain ⟨xs, h1, h2, _⟩ := h
  exact ⟨xs, h1, h2⟩
theorem Rdg.array {n : Nat} (h : Rdg P w t cs) (ht : P.underlying t = some (.array n e)) :
    cs.length = P.cellsOf t ∧ ∀ i, i < n → Rdg P w e ((cs.drop (i * P.cellsOf e)).take (P.cellsOf e)) := by
  obtain ⟨H, enc, fuel, x, hx, hw⟩ := h
  obtain ⟨xs, m, _, hxx, hl, hn, hf⟩ := DataW.trod_array ht hx
  refine ⟨hl, fun i hi => ?_⟩
  have h1 := hf i hi
  have hil : i < xs.length := by omega
  rw [List.getElem?_eq_getElem hil] at h1
  refine ⟨H, enc, m, _, h1, fun q hq => hw q ?_⟩
  subst hxx
  simp only [DataW.weights, ht]
  have hrep : ∀ (ds : List (DataW H)) (i : Nat) (d : DataW H), ds[i]? = some d → ∀ q ∈ d.weights P e, q ∈ DataW.weightsAll P e ds := by
    intro ds
    induction ds with
    | nil => intro i d h; simp at h
    | cons a ds ih =>
      intro i d h q hq
      cases i with
      | zero => simp at h; subst h; simp [DataW.weightsAll, hq]
      | succ i => simp at h; simp [DataW.weightsAll, ih i d h q hq]
  exact hrep _ i _ (by simp [List.getElem?_eq_getElem hil]) q hq
/-- Two texts. -/
theorem Rdg.strs2 {x y : Value} (h : Rdg P w t [x, y]) (ht : P.underlying t = some (.array 2 e)) (he : P.underlying e = some .string) (hC : P.cellsOf e = 1) :
    ∃ a b : List UInt8, x = .string (bs a) ∧ y = .string (bs b) ∧ a.length ≤ reachBytes ∧ b.length ≤ reachBytes := by
  obtain ⟨_, hf⟩ := h.array ht
  rw [hC] at hf
  obtain ⟨a, ea, la⟩ := (show Rdg P w e [x] from hf 0 (by omega)).string he
  obtain ⟨b, eb, lb⟩ := (show Rdg P w e [y] from hf 1 (by omega)).string he
  simp at ea eb
  exact ⟨a, b, ea, eb, la, lb⟩
/-- A slice is nil, or has a place. -/
theorem Rdg.shape {ao : Option Addr} {len cap : Nat} (h : Rdg P w t [.slice ao len cap]) (ht : P.underlying t = some (.slice e)) : (ao = none ∧ len = 0 ∧ cap = 0) ∨ ∃ a, ao = some a := by
  obtain ⟨H, enc, fuel, x, hx, hw⟩ := h
  rcases Deep.open_slice ht hx with ⟨h1, _⟩ | ⟨a, len', cap', m, n, D, Pl, hcs, _⟩
  · simp at h1; exact .inl h1
  · simp at hcs; exact .inr ⟨a, hcs.1⟩
end
end K
end Go.Proofs.YtdgnhcbhbpffmaaGreatDoor
