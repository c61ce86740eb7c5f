/- Texts on the program and on the document, joined: PduO, TrqA, TrpTb. -/
import Derived.Test.YtmdibafofdghgaaGreatDoorMa26
import Derived.Test.YtmdibafofdghgaaGreatDoorMa33
import Derived.Test.YtmdibafofdghgaaGreatDoorMa17
/- pdu's Encode, walked. -/
namespace Go.Proofs.YtmdibafofdghgaaGreatDoor
open Go.ChangeShapes Go.WideShapes Go.ChangeAt Go.RowKit K P1 B5
open D8 (Bd Un lst)
set_option linter.unusedVariables false

theorem el_ge (u : Un) : (lst u.l).length ≤ u.el.length ∧ u.body.length ≤ u.el.length := by
  have h : u.body.length ≤ u.el.length := by unfold Un.el; rw [put_len]; omega
  refine ⟨Nat.le_trans ?_ h, h⟩
  unfold Un.body
  simp only [List.length_append, put_len]
  omega
/-- The numbers' elements, so many of them. -/
def pre3 (u : Un) : Nat → List UInt8
  | 0 => []
  | 1 => put 2 (pn u.r)
  | 2 => put 2 (pn u.r) ++ put 2 (pn u.a)
  | _ => put 2 (pn u.r) ++ put 2 (pn u.a) ++ put 2 (pn u.i)
theorem pre3_len (u : Un) (hr : (pn u.r).length ≤ 8) (ha : (pn u.a).length ≤ 8) (hi : (pn u.i).length ≤ 8) (k : Nat) : (pre3 u k).length ≤ 60 := by
  have s2 := D8.short_le8 (pn u.r).length
  have s3 := D8.short_le8 (pn u.a).length
  have s4 := D8.short_le8 (pn u.i).length
  match k with
  | 0 => show (0 : Nat) ≤ 60; omega
  | 1 => simp only [pre3, put_len]; omega
  | 2 => simp only [pre3, List.length_append, put_len]; omega
  | k + 3 => simp only [pre3, List.length_append, put_len]; omega
theorem pre3_all (u : Un) : pre3 u 3 ++ put 48 (lst u.l) = u.body := by
  unfold Un.body
  simp only [pre3, List.append_assoc]
def En8Rel (u : Un) (w2 : World) (g : Nat) (v : Value) (wr : World) : Prop :=
  ∃ k : Nat, k + g = 3 ∧ v = .int .i64 (k : Nat) ∧ Bld w2.heap.size w2.heap.size (pre3 u k) wr ∧ Below w2.heap.size w2 wr
set_option maxRecDepth 100000 in
set_option maxHeartbeats 2000000 in
theorem encode8_walk (u : Un) (ao : Option Addr) (cap : Nat) (hl : u.l.length ≤ 140737488351232) (hx : LimP u.l) (w : World) (T : Tp w) (hr : RdB w ao u.l) :
    Calls Tryz.prog 51 #[.agg #[.int .i64 u.t, .int .i64 u.r, .int .i64 u.a, .int .i64 u.i, .slice ao u.l.length cap]] w fun e w' => e = .returned (.tuple #[.string (bs (eS u)), .int .i64 (eE u : Nat)]) ∧ Below w.heap.size w w' := by
  have hba := alloc_in w (.cells #[.int .i64 u.t, .int .i64 u.r, .int .i64 u.a, .int .i64 u.i, .slice ao u.l.length cap] 41)
  have huq := Uq.new 41 w u ao cap
  have hC := check8_walk u ao cap hl hx _ (T.below hba) (hr.below hba)
  have HR := Lib.hid (hr.below hba)
  have HT := Lib.hid (T.below hba)
  clear T hr
  cases hk : u.ok
  · rw [show eS u = [] by unfold eS; rw [hk]; rfl, show eE u = 80 by unfold eE; rw [hk]; rfl]
    rw [show ckU u = 80 by unfold ckU; rw [hk]; rfl] at hC
    have HC := Lib.hid hC
    clear hC hk HR HT
    go_enter Tryz.func51, Tryz.ntmps51
    go_wp2_with fail
    refine HC.out.mono ?_
    rintro e w1 ⟨rfl, b1⟩
    go_wp2
    go_ret2
    exact ⟨rfl, Below_in b1⟩
  · rw [show ckU u = 0 by unfold ckU; rw [hk]; rfl] at hC
    have HC := Lib.hid hC
    have hok := (D8.Un.ok_iff u).1 hk
    have hL := fun w1 (h : Tabs w1) (hr : RdB w1 ao u.l) => list_walk8 u.l ao cap hok.2.2.2.2.2 hx.lim hok.2.2.2.2.1 w1 h hr
    obtain ⟨ge1, ge2⟩ := el_ge u
    clear hC
    by_cases h6 : (lst u.l).length ≤ 65536
    · rw [(ls_yes h6).1, (ls_yes h6).2] at hL
      have HL := Lib.hid hL
      have HN := Lib.hid (fun w1 => numbersof_walk u.t u.r u.a u.i ao u.l.length cap w1)
      have HRn := Lib.hid (fun w1 => putnumber_walk u.r (by omega) (by omega) w1)
      have HAn := Lib.hid (fun w1 => putnumber_walk u.a (by omega) (by omega) w1)
      have HIn := Lib.hid (fun w1 => putnumber_walk u.i (by omega) (by omega) w1)
      have nr := (pn_ok u.r (by omega) (by omega)).2.2.2
      have na := (pn_ok u.a (by omega) (by omega)).2.2.2
      have ni := (pn_ok u.i (by omega) (by omega)).2.2.2
      have HW2 : Hid (∀ (b : List UInt8) (hb : b.length ≤ 16777216) (w1 : World), Calls Tryz.prog 77 #[.int .i64 2, .string (bs b)] w1 fun e w' => e = .returned (.string (bs (put 2 b))) ∧ Below w1.heap.size w1 w') := Lib.hid (fun b hb w1 => wrap8_walk 2 (by decide) (by omega) b hb w1)
      have HW48 : Hid (∀ (w1 : World), Calls Tryz.prog 77 #[.int .i64 48, .string (bs (lst u.l))] w1 fun e w' => e = .returned (.string (bs (put 48 (lst u.l)))) ∧ Below w1.heap.size w1 w') := Lib.hid (fun w1 => wrap8_walk 48 (by decide) (by omega) (lst u.l) (by omega) w1)
      have hle := el_len hk
      have ht : ((u.t.toNat : Nat) : Int) = u.t := by omega
      have hTt : isTag u.t.toNat = true ∧ u.t.toNat < 256 := by rcases hok.1 with h | h | h <;> (rw [h]; decide)
      have hsm : (lst u.l).length ≤ 65536 := h6
      have hbl : u.body.length ≤ 16777216 := by
        have s2 := D8.short_le8 (pn u.r).length
        have s3 := D8.short_le8 (pn u.a).length
        have s4 := D8.short_le8 (pn u.i).length
        have s5 := D8.short_le8 (lst u.l).length
        unfold Un.body
        simp only [List.length_append, put_len]
        omega
      have hWt := fun w1 => wrap8_walk u.t.toNat hTt.1 hTt.2 u.body hbl w1
      rw [ht, show put u.t.toNat u.body = u.el from rfl] at hWt
      have HWt := Lib.hid hWt
      clear hL hWt ht hTt
      go_enter Tryz.func51, Tryz.ntmps51
      go_wp2_with fail
      refine HC.out.mono ?_
      rintro e w1 ⟨rfl, b1⟩
      have hq1 := huq.below b1
      obtain ⟨z0, z1, z2, z3, z4⟩ := hq1.cells
      have HT1 := Lib.hid (HT.out.below b1)
      have HR1 := Lib.hid (HR.out.below b1)
      have bw1 := Below_in b1
      clear b1 huq hba HC HR HT
      go_wp2_with fail
      refine (HL.out _ HT1.out.1 HR1.out).mono ?_
      rintro e w2 ⟨rfl, d2⟩
      have hq2 := hq1.below d2
      have bw2 := bw1.trans (d2.mono bw1.size)
      have hbf := bld_fresh w2
      have hq3 := hq2.below (alloc_in w2 (.cells #[.pointer none, .slice none 0 0] 126))
      clear z0 z1 z2 z3 z4 d2 hq1 bw1
      obtain ⟨z0, z1, z2, z3, z4⟩ := hq3.cells
      go_wp2_with fail
      refine (HN.out _).mono ?_
      rintro e w3 ⟨rfl, d3⟩
      have hB3 := bld_below hbf d3
      have hb3 : Below w2.heap.size w2 w3 := Below_in d3
      have hq4 := hq3.below d3
      clear z0 z1 z2 z3 z4 d3 hbf hq3
      go_wp2_with fail
      have hp := Lib.hid (pre3_len u nr na ni)
      go_loopg [23] 3 (fun g v wr => En8Rel u w2 g v wr)
      case atStart => exact ⟨0, by omega, rfl, hB3, hb3⟩
      case round =>
        obtain ⟨k, hkg, rfl, hB, hb⟩ := hrel
        have hx0 := fun w1 => (numbers_at u.r u.a u.i w1).1
        have hx1 := fun w1 => (numbers_at u.r u.a u.i w1).2.1
        have hx2 := fun w1 => (numbers_at u.r u.a u.i w1).2.2
        clear hB3 hb3 hq4
        cases gk with
        | zero =>
          obtain rfl : k = 3 := by omega
          have HPA := Lib.hid (pre3_all u)
          go_wp2_with fail
          refine (HW48.out _).mono ?_
          rintro e w4 ⟨rfl, d4⟩
          have hB4 := bld_below hB d4
          have hb4 := hb.trans (d4.mono hb.size)
          clear d4 hB hb
          go_wp2_with fail
          refine (wstr _ _ _ (put 48 (lst u.l)) _ hB4 (by have h1 := hp.out 3; have h2 := D8.short_le8 (lst u.l).length; rw [put_len]; omega) hb4.size).mono ?_
          rintro e w5 ⟨rfl, hB5, d5, _⟩
          have hb5 := hb4.trans d5
          rw [HPA.out] at hB5
          obtain ⟨z0, z1, z2, z3, z4⟩ := (hq2.below hb5).cells
          clear hB4 hb4 d5
          have zS := z0
          clear z1 z2 z3 z4
          go_wp2_with fail
          go_region_held3 (fun x => x.cell? ⟨w.heap.size, 0, none⟩ = some (.int .i64 u.t)) (first | exact zS | exact zS1 | exact zS2)
            (first
              | (go_at_call 79; refine (bstr w2.heap.size w2.heap.size u.body _ (by exact hB5) (by exact hb5.size)).mono ?_; rintro e x1 ⟨rfl, j1⟩; have k1 : Below w2.heap.size w5 x1 := ⟨j1.os, j1.tape, j1.output, j1.size, j1.block⟩; have hb6 := hb5.trans k1; have zS1 := (hq2.below hb6).cells.1)
              | (go_at_call 77; (with_reducible refine (HWt.out _).mono ?_); rintro e x2 ⟨rfl, j2⟩; have k2 : Below x1.heap.size x1 x2 := ⟨j2.os, j2.tape, j2.output, j2.size, j2.block⟩; have hb7 := hb6.trans (k2.mono hb6.size); have zS2 := (hq2.below hb7).cells.1))
          have hfin := bw2.trans (hb7.mono bw2.size)
          by_cases h5 : u.el.length ≤ 65536
          · have HE := Lib.hid (show eS u = u.el ∧ eE u = 0 from ⟨by unfold eS; rw [hk, if_pos h5]; rfl, by unfold eE; rw [hk, if_pos h5]; rfl⟩)
            have h5' : ((u.el.length : Nat) : Int) ≤ 65536 := by omega
            clear h5
            generalize u.el = EL at *
            go_wp2
            go_ret2
            exact ⟨by rw [HE.out.1, HE.out.2]; rfl, hfin⟩
          · have HE := Lib.hid (show eS u = [] ∧ eE u = 2 from ⟨by unfold eS; rw [hk, if_neg h5]; rfl, by unfold eE; rw [hk, if_neg h5]; rfl⟩)
            have h5' : (65536 : Int) < ((u.el.length : Nat) : Int) := by omega
            clear h5
            generalize u.el = EL at *
            go_wp2
            go_ret2
            exact ⟨by rw [HE.out.1, HE.out.2]; rfl, hfin⟩
        | succ g =>
          obtain rfl | rfl | rfl : k = 0 ∨ k = 1 ∨ k = 2 := by omega
          · go_wp2_with fail
            refine (HRn.out _).mono ?_
            rintro e w4 ⟨rfl, d4⟩
            have hB4 := bld_below hB d4
            have hb4 := hb.trans (d4.mono hb.size)
            clear d4
            go_wp2_with fail
            refine (HW2.out (pn u.r) (by omega) _).mono ?_
            rintro e w5 ⟨rfl, d5⟩
            have hB5 := bld_below hB4 d5
            have hb5 := hb4.trans (d5.mono hb4.size)
            clear d5
            go_wp2_with fail
            refine (wstr _ _ _ (put 2 (pn u.r)) _ hB5 (by have h1 := hp.out 0; have h2 := D8.short_le8 (pn u.r).length; rw [put_len]; omega) hb5.size).mono ?_
            rintro e w6 ⟨rfl, hB6, d6, _⟩
            go_wp2
            go_roundg g
            case measure => omega
            case rel => exact ⟨1, by omega, by simp, hB6, hb5.trans d6⟩
          · go_wp2_with fail
            refine (HAn.out _).mono ?_
            rintro e w4 ⟨rfl, d4⟩
            have hB4 := bld_below hB d4
            have hb4 := hb.trans (d4.mono hb.size)
            clear d4
            go_wp2_with fail
            refine (HW2.out (pn u.a) (by omega) _).mono ?_
            rintro e w5 ⟨rfl, d5⟩
            have hB5 := bld_below hB4 d5
            have hb5 := hb4.trans (d5.mono hb4.size)
            clear d5
            go_wp2_with fail
            refine (wstr _ _ _ (put 2 (pn u.a)) _ hB5 (by have h1 := hp.out 1; have h2 := D8.short_le8 (pn u.a).length; rw [put_len]; omega) hb5.size).mono ?_
            rintro e w6 ⟨rfl, hB6, d6, _⟩
            go_wp2
            go_roundg g
            case measure => omega
            case rel => exact ⟨2, by omega, by simp, hB6, hb5.trans d6⟩
          · go_wp2_with fail
            refine (HIn.out _).mono ?_
            rintro e w4 ⟨rfl, d4⟩
            have hB4 := bld_below hB d4
            have hb4 := hb.trans (d4.mono hb.size)
            clear d4
            go_wp2_with fail
            refine (HW2.out (pn u.i) (by omega) _).mono ?_
            rintro e w5 ⟨rfl, d5⟩
            have hB5 := bld_below hB4 d5
            have hb5 := hb4.trans (d5.mono hb4.size)
            clear d5
            go_wp2_with fail
            refine (wstr _ _ _ (put 2 (pn u.i)) _ hB5 (by have h1 := hp.out 2; have h2 := D8.short_le8 (pn u.i).length; rw [put_len]; omega) hb5.size).mono ?_
            rintro e w6 ⟨rfl, hB6, d6, _⟩
            go_wp2
            go_roundg g
            case measure => omega
            case rel => exact ⟨3, by omega, by simp, hB6, hb5.trans d6⟩
    · rw [(ls_no h6).1, (ls_no h6).2] at hL
      have HL := Lib.hid hL
      have h5 : ¬ u.el.length ≤ 65536 := by omega
      rw [show eS u = [] by unfold eS; rw [hk, if_neg h5]; rfl, show eE u = 2 by unfold eE; rw [hk, if_neg h5]; rfl]
      clear hL hk h6 ge1 ge2 h5
      go_enter Tryz.func51, Tryz.ntmps51
      go_wp2_with fail
      refine HC.out.mono ?_
      rintro e w1 ⟨rfl, b1⟩
      obtain ⟨z0, z1, z2, z3, z4⟩ := (huq.below b1).cells
      have HT1 := Lib.hid (HT.out.below b1)
      have HR1 := Lib.hid (HR.out.below b1)
      go_wp2_with fail
      refine (HL.out _ HT1.out.1 HR1.out).mono ?_
      rintro e w2 ⟨rfl, d2⟩
      go_wp2
      go_ret2
      exact ⟨rfl, Below_in (b1.trans (d2.mono b1.size))⟩
end Go.Proofs.YtmdibafofdghgaaGreatDoor
/- What the variable v2c holds; the program's small calls for traps, walked. -/
namespace Go.Proofs.YtmdibafofdghgaaGreatDoor
open Go.ChangeShapes Go.WideShapes Go.ChangeAt Go.RowKit K P1 B5
open D8 (Bd Un lst deU)
open T9 (Tr bU bI msg msgB ofU m3 deM)
set_option linter.unusedVariables false

/-- What the variable 'v2c' holds. -/
def V2 (w : World) : Prop := w.cell? ⟨0, 0, none⟩ = some (.int .i64 48) ∧ w.cell? ⟨0, 1, none⟩ = some (.int .i64 2) ∧ w.cell? ⟨0, 2, none⟩ = some (.string (bs [1])) ∧ w.cell? ⟨0, 3, none⟩ = some (.int .i64 4)
theorem V2.below {w w' : World} (h : V2 w) (k : Below w.heap.size w w') : V2 w' :=
  ⟨(k.cell (World.block_lt_of_cell? w _ h.1)).trans h.1, (k.cell (World.block_lt_of_cell? w _ h.2.1)).trans h.2.1, (k.cell (World.block_lt_of_cell? w _ h.2.2.1)).trans h.2.2.1, (k.cell (World.block_lt_of_cell? w _ h.2.2.2)).trans h.2.2.2⟩
/-- The variables that the program reads. -/
def Tw (w : World) : Prop := Tp w ∧ V2 w
theorem Tw.below {w w' : World} (h : Tw w) (k : Below w.heap.size w w') : Tw w' := ⟨h.1.below k, h.2.below k⟩
def comB (c : List UInt8) : Bool := decide (1 ≤ c.length) && decide (c.length ≤ 64)
theorem comB_iff (c : List UInt8) : comB c = true ↔ 1 ≤ c.length ∧ c.length ≤ 64 := by
  unfold comB; rw [Bool.and_eq_true, decide_eq_true_eq, decide_eq_true_eq]
set_option maxRecDepth 100000 in
set_option maxHeartbeats 1000000 in
theorem iscommunity_walk (c : List UInt8) (w : World) : Calls Tryz.prog 37 #[.string (bs c)] w fun e w' => e = .returned (.bool (comB c)) ∧ w = w' := by
  by_cases h1 : c = []
  · subst h1
    go_enter Tryz.func37, Tryz.ntmps37
    go_wp2
    go_ret
    exact ⟨rfl, rfl⟩
  · have hne : c.isEmpty = false := List.isEmpty_eq_false_iff.2 h1
    have hl := List.length_pos_iff.2 h1
    by_cases h2 : c.length ≤ 64
    · have h3 : decide (((c.length : Nat) : Int) ≤ 64) = true := decide_eq_true (by omega)
      rw [show comB c = true from (comB_iff c).2 ⟨hl, h2⟩]
      clear h1 h2 hl
      go_enter Tryz.func37, Tryz.ntmps37
      go_wp2
      go_ret
      exact ⟨rfl, rfl⟩
    · have h3 : decide (((c.length : Nat) : Int) ≤ 64) = false := decide_eq_false (by omega)
      rw [show comB c = false by unfold comB; rw [decide_eq_false h2, Bool.and_false]]
      clear h1 h2 hl
      go_enter Tryz.func37, Tryz.ntmps37
      go_wp2
      go_ret
      exact ⟨rfl, rfl⟩
theorem wrap9_walk (t : Nat) (h2 : isTag t = true) (ht : t < 256) (b : List UInt8) (hb : b.length ≤ 16777216) (w : World) :
    Calls Tryz.prog 52 #[.int .i64 (t : Nat), .string (bs b)] w fun e w' => e = .returned (.string (bs (put t b))) ∧ Below w.heap.size w w' := by
  have hW := fun w1 => wrap_walk (t : Nat) b (by omega) w1
  rw [(wr_yes t b ht h2 hb).1, (wr_yes t b ht h2 hb).2] at hW
  have HW := Lib.hid hW
  clear hW h2 ht
  generalize put t b = R at *
  generalize ((t : Nat) : Int) = t' at *
  go_enter Tryz.func52, Tryz.ntmps52
  go_wp2_with fail
  refine (HW.out _).mono ?_
  rintro e w1 ⟨rfl, b1⟩
  go_wp2
  go_ret
  exact ⟨rfl, b1⟩
set_option maxRecDepth 100000 in
set_option maxHeartbeats 1000000 in
theorem uptimebind_walk (n : Int) (w : World) : Calls Tryz.prog 53 #[.int .i64 n] w fun e w' => e = .returned (.agg #[.string (bs T9.UPT), .int .i64 67, .int .i64 n, .string (bs [])]) ∧ Below w.heap.size w w' := by
  have PX := rowNew w (.cells #[.string { data := #[49, 46, 51, 46, 54, 46, 49, 46, 50, 46, 49, 46, 49, 46, 51, 46, 48] }, .int .i64 67, .int .i64 n, .string { data := #[] }] 48)
  have bb := alloc_in w (.cells #[.string { data := #[49, 46, 51, 46, 54, 46, 49, 46, 50, 46, 49, 46, 49, 46, 51, 46, 48] }, .int .i64 67, .int .i64 n, .string { data := #[] }] 48)
  go_enter Tryz.func53, Tryz.ntmps53
  go_wp2
  refine bodyPost_ret (results_cell_row rfl _ _ w.heap.size _ _ _ _ rfl PX Tryz.underlying48 rfl (by kernel_rfl)) rfl ?_
  exact ⟨rfl, bb⟩
set_option maxRecDepth 100000 in
set_option maxHeartbeats 1000000 in
theorem idbind_walk (o : List UInt8) (w : World) : Calls Tryz.prog 54 #[.string (bs o)] w fun e w' => e = .returned (.agg #[.string (bs T9.IDO), .int .i64 6, .int .i64 0, .string (bs o)]) ∧ Below w.heap.size w w' := by
  have PX := rowNew w (.cells #[.string { data := #[49, 46, 51, 46, 54, 46, 49, 46, 54, 46, 51, 46, 49, 46, 49, 46, 52, 46, 49, 46, 48] }, .int .i64 6, .int .i64 0, .string (bs o)] 48)
  have bb := alloc_in w (.cells #[.string { data := #[49, 46, 51, 46, 54, 46, 49, 46, 54, 46, 51, 46, 49, 46, 49, 46, 52, 46, 49, 46, 48] }, .int .i64 6, .int .i64 0, .string (bs o)] 48)
  go_enter Tryz.func54, Tryz.ntmps54
  go_wp2
  refine bodyPost_ret (results_cell_row rfl _ _ w.heap.size _ _ _ _ rfl PX Tryz.underlying48 rfl (by kernel_rfl)) rfl ?_
  exact ⟨rfl, bb⟩
/-- Whether a list of texts has one. -/
theorem contains_walk (c : List UInt8) (known : List (List UInt8)) (ko : Option Addr) (kc : Nat) (hk : known.length ≤ 140737488351232) (w : World) (hr : RdS w ko known) :
    Calls Tryz.prog 26 #[.slice ko known.length kc, .string (bs c)] w fun e w' => e = .returned (.bool (knows known c)) ∧ w = w' := by
  rcases hr with h0 | ⟨b, off, rfl, hb, hc⟩
  · have hn := List.length_eq_zero_iff.1 h0
    subst hn
    refine (Tryz.slices_Contains_string_empty ko kc (bs c) w).mono ?_
    rintro e w' ⟨rfl, rfl⟩
    exact ⟨rfl, rfl⟩
  · refine (Tryz.slices_Contains_string b off known.length kc (known.map bs) (bs c) w (by rw [List.length_map]; exact Nat.le_refl _) (by omega) ?_).mono ?_
    · intro j hj
      rw [List.length_map] at hj
      rw [hc j hj]
      simp [List.getD, List.getElem?_eq_getElem hj]
    · rintro e w' ⟨rfl, rfl⟩
      refine ⟨?_, rfl⟩
      have : Lib.containsS ((known.map bs).take known.length) (bs c) = knows known c := by
        rw [List.take_of_length_le (by rw [List.length_map]; exact Nat.le_refl _)]
        unfold knows
        rw [Bool.eq_iff_iff, Lib.containsS_iff, List.any_eq_true]
        constructor
        · intro h
          obtain ⟨x, hx, he⟩ := List.mem_map.1 h
          exact ⟨x, hx, by rw [beq_iff_eq]; exact bs_inj he⟩
        · rintro ⟨x, hx, he⟩
          rw [beq_iff_eq] at he
          exact List.mem_map.2 ⟨x, hx, by rw [he]⟩
      rw [this]
end Go.Proofs.YtmdibafofdghgaaGreatDoor
/- What the variables hold, as the rows list them: with v2c. -/
namespace Go.Proofs.YtmdibafofdghgaaGreatDoor
open Go.ChangeShapes Go.WideShapes Go.ChangeAt Go.RowKit K O6
set_option linter.unusedVariables false

set_option maxRecDepth 1000000 in
theorem v2Of {W : World} {L : List (String × DataW Unit)} (h : laidMetH Tryz.prog L W) (hp : (L.all fun x => x.2.handleName?.isNone) = true) (hm : ("gong/trap.v2c", Rows.laid_gong_trap_v2c) ∈ L) : V2 W := by
  have hg : Tryz.prog.globalNamed "gong/trap.v2c" = some 0 := by kernel_rfl
  obtain ⟨⟨l⟩, fuel, p, hv, hd⟩ := laid_at h hp hm hg (by kernel_rfl : (Tryz.prog.globals[0]?).map (·.type) = some 97)
  obtain ⟨xs, n, _, hx, hl, _, hf⟩ := DataW.trod_struct Tryz.underlying97 hd
  have ci : Tryz.prog.cellsOf 3 = 1 := by kernel_rfl
  have cs : Tryz.prog.cellsOf 9 = 1 := by kernel_rfl
  have cp : Tryz.prog.cellsOf 72 = 2 := by kernel_rfl
  have ch : Tryz.prog.cellsOf 97 = 4 := by kernel_rfl
  have g0 : DataW.trod (fun _ => ()) Tryz.prog W 0 (fun _ => true) false n 3 ((l.drop 0).take (Tryz.prog.cellsOf 3)) = xs[0]? := hf 0 _ rfl
  have g1 : DataW.trod (fun _ => ()) Tryz.prog W 0 (fun _ => true) false n 72 ((l.drop 1).take (Tryz.prog.cellsOf 72)) = xs[1]? := hf 1 _ rfl
  have g2 : DataW.trod (fun _ => ()) Tryz.prog W 0 (fun _ => true) false n 3 ((l.drop 3).take (Tryz.prog.cellsOf 3)) = xs[2]? := hf 2 _ rfl
  rw [ci] at g0 g2
  rw [cp] at g1
  rw [ch] at hl
  have hx1 : xs.map (·.1) = [.lit (.int .i64 48), .agg [.lit (.int .i64 2), .lit (.string [1])], .lit (.int .i64 4)] := (DataW.agg.inj (Prod.mk.inj hx).1).symm
  obtain ⟨a0, a1, a2, rfl⟩ : ∃ a0 a1 a2, xs = [a0, a1, a2] := by
    have hxl : xs.length = 3 := by have := congrArg List.length hx1; simpa using this
    match xs, hxl with
    | [a0, a1, a2], _ => exact ⟨a0, a1, a2, rfl⟩
  obtain ⟨x0, x1, x2, x3, rfl⟩ : ∃ x0 x1 x2 x3, l = [x0, x1, x2, x3] := by
    have hl' : l.length = 4 := hl
    match l, hl' with
    | [x0, x1, x2, x3], _ => exact ⟨x0, x1, x2, x3, rfl⟩
  simp only [List.map_cons, List.map_nil, List.cons.injEq, and_true] at hx1
  obtain ⟨m0, m1, m2⟩ := hx1
  simp only [List.drop_zero, List.drop_succ_cons, List.take_succ_cons, List.take_zero, List.getElem?_cons_zero, List.getElem?_cons_succ] at g0 g1 g2
  obtain ⟨v0, e0, r0, _⟩ := DataW.trod_int Tryz.underlying3 g0
  obtain ⟨v2, e2, r2, _⟩ := DataW.trod_int Tryz.underlying3 g2
  obtain ⟨ys, k, _, hy, hyl, _, hg1⟩ := DataW.trod_struct Tryz.underlying72 g1
  have q0 : DataW.trod (fun _ => ()) Tryz.prog W 0 (fun _ => true) false k 3 (([x1, x2].drop 0).take (Tryz.prog.cellsOf 3)) = ys[0]? := hg1 0 _ rfl
  have q1 : DataW.trod (fun _ => ()) Tryz.prog W 0 (fun _ => true) false k 9 (([x1, x2].drop 1).take (Tryz.prog.cellsOf 9)) = ys[1]? := hg1 1 _ rfl
  rw [ci] at q0
  rw [cs] at q1
  have hy1 : ys.map (·.1) = [.lit (.int .i64 2), .lit (.string [1])] := by
    have := congrArg Prod.fst hy
    rw [m1] at this
    exact (DataW.agg.inj this).symm
  obtain ⟨b0, b1, rfl⟩ : ∃ b0 b1, ys = [b0, b1] := by
    have hxl : ys.length = 2 := by have := congrArg List.length hy1; simpa using this
    match ys, hxl with
    | [b0, b1], _ => exact ⟨b0, b1, rfl⟩
  simp only [List.map_cons, List.map_nil, List.cons.injEq, and_true] at hy1
  obtain ⟨n0, n1⟩ := hy1
  simp only [List.drop_zero, List.drop_succ_cons, List.take_succ_cons, List.take_zero, List.getElem?_cons_zero, List.getElem?_cons_succ] at q0 q1
  obtain ⟨u0, f0, s0, _⟩ := DataW.trod_int Tryz.underlying3 q0
  obtain ⟨u1, f1, s1, _⟩ := DataW.trod_string Tryz.underlying9 q1
  rw [r0] at m0
  rw [r2] at m2
  rw [s0] at n0
  rw [s1] at n1
  simp only [DataW.lit.injEq, Lit.int.injEq, Lit.string.injEq, true_and] at m0 m2 n0 n1
  simp only [List.cons.injEq, and_true] at e0 e2 f0 f1
  have hu : bs [1] = u1 := by rw [← n1, bs_of]
  have c := fun i => World.var?_cell hg hv i
  refine ⟨?_, ?_, ?_, ?_⟩
  · rw [c 0]; simp [e0, m0]
  · rw [c 1]; simp [f0, n0]
  · rw [c 2]; simp [f1, hu]
  · rw [c 3]; simp [e2, m2]
theorem tabs9Of {W : World} (h : laidMetH Tryz.prog [("math/bits.deBruijn32tab", Rows.laid_math_bits_deBruijn32tab), ("math/bits.deBruijn64tab", Rows.laid_math_bits_deBruijn64tab), ("internal/strconv.uint64pow10", Rows.laid_internal_strconv_uint64pow10), ("unicode/utf8.acceptRanges", Rows.laid_unicode_utf8_acceptRanges), ("strconv.ErrRange", Rows.laid_strconv_ErrRange), ("strconv.ErrSyntax", Rows.laid_strconv_ErrSyntax), ("gong/pdu.least", Rows.laid_gong_pdu_least), ("gong/trap.v2c", Rows.laid_gong_trap_v2c), ("unicode/utf8.first", Rows.laid_unicode_utf8_first)] W) (hS : W.ShapedOpen Tryz.prog) : Tw W := by
  have hm : laidMet Tryz.prog [("math/bits.deBruijn32tab", Rows.laid_math_bits_deBruijn32tab), ("math/bits.deBruijn64tab", Rows.laid_math_bits_deBruijn64tab), ("internal/strconv.uint64pow10", Rows.laid_internal_strconv_uint64pow10), ("unicode/utf8.acceptRanges", Rows.laid_unicode_utf8_acceptRanges), ("strconv.ErrRange", Rows.laid_strconv_ErrRange), ("strconv.ErrSyntax", Rows.laid_strconv_ErrSyntax), ("gong/pdu.least", Rows.laid_gong_pdu_least), ("gong/trap.v2c", Rows.laid_gong_trap_v2c), ("unicode/utf8.first", Rows.laid_unicode_utf8_first)] W := by
    have h2 := h
    rw [MakeChecks.laidMetH_plain _ _ _ (by kernel_rfl)] at h2
    exact h2
  have h5 := hm.tail.tail.tail.tail
  refine ⟨⟨⟨Tryz.laysM147.s1_3 W hS, errOf h5.tail (by kernel_rfl) (by kernel_rfl), errOf h5 (by kernel_rfl) (by kernel_rfl), ?_⟩, leastOf h (by kernel_rfl) (List.Mem.tail _ (List.Mem.tail _ (List.Mem.tail _ (List.Mem.tail _ (List.Mem.tail _ (List.Mem.tail _ (List.Mem.head _)))))))⟩, v2Of h (by kernel_rfl) (List.Mem.tail _ (List.Mem.tail _ (List.Mem.tail _ (List.Mem.tail _ (List.Mem.tail _ (List.Mem.tail _ (List.Mem.tail _ (List.Mem.head _))))))))⟩
  exact laid_tab (zs := Lib.pow10Tab) h (by kernel_rfl) (by rw [← pow_data]; exact (List.Mem.tail _ (List.Mem.tail _ (List.Mem.head _)))) (by kernel_rfl : Tryz.prog.globalNamed "internal/strconv.uint64pow10" = some 7) (by kernel_rfl : (Tryz.prog.globals[7]?).map (·.type) = some 207) Tryz.underlying207 Tryz.underlying149 (by kernel_rfl) (by kernel_rfl)
end Go.Proofs.YtmdibafofdghgaaGreatDoor
