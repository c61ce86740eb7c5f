/- Texts on the program and on the document, joined: PduO, OidC, Rgr, OidY. -/
import Derived.Test.YtgjmnlgjdgjdbaaDoorMa25
import Derived.Test.YtgjmnlgjdgjdbaaDoorMa12
import Derived.Test.YtgjmnlgjdgjdbaaDoorRows
import Derived.Test.YtgjmnlgjdgjdbaaDoorMa02
import Derived.Test.YtgjmnlgjdgjdbaaDoorMa01
import Derived.Test.YtgjmnlgjdgjdbaaDoorMa04
import Derived.Test.YtgjmnlgjdgjdbaaDoorMa05
import Derived.ProofKit
import Derived.OpenShut
import Derived.ShutString
import Derived.Test.YtgjmnlgjdgjdbaaDoorMa22
/- pdu's Encode, walked. -/
namespace Go.Proofs.YtgjmnlgjdgjdbaaDoor
open Go.ChangeShapes Go.WideShapes Go.ChangeAt Go.RowKit K P1 B5
open D8 (Bd Un lst)
set_option linter.unusedVariables false

theorem el_ge (u : Un) : (lst u.l).length ≤ u.el.length ∧ u.body.length ≤ u.el.length := by
  have h : u.body.length ≤ u.el.length := by unfold Un.el; rw [put_len]; omega
  refine ⟨Nat.le_trans ?_ h, h⟩
  unfold Un.body
  simp only [List.length_append, put_len]
  omega
/-- The numbers' elements, so many of them. -/
def pre3 (u : Un) : Nat → List UInt8
  | 0 => []
  | 1 => put 2 (pn u.r)
  | 2 => put 2 (pn u.r) ++ put 2 (pn u.a)
  | _ => put 2 (pn u.r) ++ put 2 (pn u.a) ++ put 2 (pn u.i)
theorem pre3_len (u : Un) (hr : (pn u.r).length ≤ 8) (ha : (pn u.a).length ≤ 8) (hi : (pn u.i).length ≤ 8) (k : Nat) : (pre3 u k).length ≤ 60 := by
  have s2 := D8.short_le8 (pn u.r).length
  have s3 := D8.short_le8 (pn u.a).length
  have s4 := D8.short_le8 (pn u.i).length
  match k with
  | 0 => show (0 : Nat) ≤ 60; omega
  | 1 => simp only [pre3, put_len]; omega
  | 2 => simp only [pre3, List.length_append, put_len]; omega
  | k + 3 => simp only [pre3, List.length_append, put_len]; omega
theorem pre3_all (u : Un) : pre3 u 3 ++ put 48 (lst u.l) = u.body := by
  unfold Un.body
  simp only [pre3, List.append_assoc]
def En8Rel (u : Un) (w2 : World) (g : Nat) (v : Value) (wr : World) : Prop :=
  ∃ k : Nat, k + g = 3 ∧ v = .int .i64 (k : Nat) ∧ Bld w2.heap.size w2.heap.size (pre3 u k) wr ∧ Below w2.heap.size w2 wr
set_option maxRecDepth 100000 in
set_option maxHeartbeats 2000000 in
theorem encode8_walk (u : Un) (ao : Option Addr) (cap : Nat) (hl : u.l.length ≤ 140737488351232) (hx : LimP u.l) (w : World) (T : Tp w) (hr : RdB w ao u.l) :
    Calls Tryd.prog 9 #[.agg #[.int .i64 u.t, .int .i64 u.r, .int .i64 u.a, .int .i64 u.i, .slice ao u.l.length cap]] w fun e w' => e = .returned (.tuple #[.string (bs (eS u)), .int .i64 (eE u : Nat)]) ∧ Below w.heap.size w w' := by
  have hba := alloc_in w (.cells #[.int .i64 u.t, .int .i64 u.r, .int .i64 u.a, .int .i64 u.i, .slice ao u.l.length cap] 37)
  have huq := Uq.new 37 w u ao cap
  have hC := check8_walk u ao cap hl hx _ (T.below hba) (hr.below hba)
  have HR := Lib.hid (hr.below hba)
  have HT := Lib.hid (T.below hba)
  clear T hr
  cases hk : u.ok
  · rw [show eS u = [] by unfold eS; rw [hk]; rfl, show eE u = 80 by unfold eE; rw [hk]; rfl]
    rw [show ckU u = 80 by unfold ckU; rw [hk]; rfl] at hC
    have HC := Lib.hid hC
    clear hC hk HR HT
    go_enter Tryd.func9, Tryd.ntmps9
    go_wp2_with fail
    refine HC.out.mono ?_
    rintro e w1 ⟨rfl, b1⟩
    go_wp2
    go_ret2
    exact ⟨rfl, Below_in b1⟩
  · rw [show ckU u = 0 by unfold ckU; rw [hk]; rfl] at hC
    have HC := Lib.hid hC
    have hok := (D8.Un.ok_iff u).1 hk
    have hL := fun w1 (h : Tabs w1) (hr : RdB w1 ao u.l) => list_walk8 u.l ao cap hok.2.2.2.2.2 hx.lim hok.2.2.2.2.1 w1 h hr
    obtain ⟨ge1, ge2⟩ := el_ge u
    clear hC
    by_cases h6 : (lst u.l).length ≤ 65536
    · rw [(ls_yes h6).1, (ls_yes h6).2] at hL
      have HL := Lib.hid hL
      have HN := Lib.hid (fun w1 => numbersof_walk u.t u.r u.a u.i ao u.l.length cap w1)
      have HRn := Lib.hid (fun w1 => putnumber_walk u.r (by omega) (by omega) w1)
      have HAn := Lib.hid (fun w1 => putnumber_walk u.a (by omega) (by omega) w1)
      have HIn := Lib.hid (fun w1 => putnumber_walk u.i (by omega) (by omega) w1)
      have nr := (pn_ok u.r (by omega) (by omega)).2.2.2
      have na := (pn_ok u.a (by omega) (by omega)).2.2.2
      have ni := (pn_ok u.i (by omega) (by omega)).2.2.2
      have HW2 : Hid (∀ (b : List UInt8) (hb : b.length ≤ 16777216) (w1 : World), Calls Tryd.prog 18 #[.int .i64 2, .string (bs b)] w1 fun e w' => e = .returned (.string (bs (put 2 b))) ∧ Below w1.heap.size w1 w') := Lib.hid (fun b hb w1 => wrap8_walk 2 (by decide) (by omega) b hb w1)
      have HW48 : Hid (∀ (w1 : World), Calls Tryd.prog 18 #[.int .i64 48, .string (bs (lst u.l))] w1 fun e w' => e = .returned (.string (bs (put 48 (lst u.l)))) ∧ Below w1.heap.size w1 w') := Lib.hid (fun w1 => wrap8_walk 48 (by decide) (by omega) (lst u.l) (by omega) w1)
      have hle := el_len hk
      have ht : ((u.t.toNat : Nat) : Int) = u.t := by omega
      have hTt : isTag u.t.toNat = true ∧ u.t.toNat < 256 := by rcases hok.1 with h | h | h <;> (rw [h]; decide)
      have hsm : (lst u.l).length ≤ 65536 := h6
      have hbl : u.body.length ≤ 16777216 := by
        have s2 := D8.short_le8 (pn u.r).length
        have s3 := D8.short_le8 (pn u.a).length
        have s4 := D8.short_le8 (pn u.i).length
        have s5 := D8.short_le8 (lst u.l).length
        unfold Un.body
        simp only [List.length_append, put_len]
        omega
      have hWt := fun w1 => wrap8_walk u.t.toNat hTt.1 hTt.2 u.body hbl w1
      rw [ht, show put u.t.toNat u.body = u.el from rfl] at hWt
      have HWt := Lib.hid hWt
      clear hL hWt ht hTt
      go_enter Tryd.func9, Tryd.ntmps9
      go_wp2_with fail
      refine HC.out.mono ?_
      rintro e w1 ⟨rfl, b1⟩
      have hq1 := huq.below b1
      obtain ⟨z0, z1, z2, z3, z4⟩ := hq1.cells
      have HT1 := Lib.hid (HT.out.below b1)
      have HR1 := Lib.hid (HR.out.below b1)
      have bw1 := Below_in b1
      clear b1 huq hba HC HR HT
      go_wp2_with fail
      refine (HL.out _ HT1.out.1 HR1.out).mono ?_
      rintro e w2 ⟨rfl, d2⟩
      have hq2 := hq1.below d2
      have bw2 := bw1.trans (d2.mono bw1.size)
      have hbf := bld_fresh w2
      have hq3 := hq2.below (alloc_in w2 (.cells #[.pointer none, .slice none 0 0] 51))
      clear z0 z1 z2 z3 z4 d2 hq1 bw1
      obtain ⟨z0, z1, z2, z3, z4⟩ := hq3.cells
      go_wp2_with fail
      refine (HN.out _).mono ?_
      rintro e w3 ⟨rfl, d3⟩
      have hB3 := bld_below hbf d3
      have hb3 : Below w2.heap.size w2 w3 := Below_in d3
      have hq4 := hq3.below d3
      clear z0 z1 z2 z3 z4 d3 hbf hq3
      go_wp2_with fail
      have hp := Lib.hid (pre3_len u nr na ni)
      go_loopg [23] 3 (fun g v wr => En8Rel u w2 g v wr)
      case atStart => exact ⟨0, by omega, rfl, hB3, hb3⟩
      case round =>
        obtain ⟨k, hkg, rfl, hB, hb⟩ := hrel
        have hx0 := fun w1 => (numbers_at u.r u.a u.i w1).1
        have hx1 := fun w1 => (numbers_at u.r u.a u.i w1).2.1
        have hx2 := fun w1 => (numbers_at u.r u.a u.i w1).2.2
        clear hB3 hb3 hq4
        cases gk with
        | zero =>
          obtain rfl : k = 3 := by omega
          have HPA := Lib.hid (pre3_all u)
          go_wp2_with fail
          refine (HW48.out _).mono ?_
          rintro e w4 ⟨rfl, d4⟩
          have hB4 := bld_below hB d4
          have hb4 := hb.trans (d4.mono hb.size)
          clear d4 hB hb
          go_wp2_with fail
          refine (wstr _ _ _ (put 48 (lst u.l)) _ hB4 (by have h1 := hp.out 3; have h2 := D8.short_le8 (lst u.l).length; rw [put_len]; omega) hb4.size).mono ?_
          rintro e w5 ⟨rfl, hB5, d5, _⟩
          have hb5 := hb4.trans d5
          rw [HPA.out] at hB5
          obtain ⟨z0, z1, z2, z3, z4⟩ := (hq2.below hb5).cells
          clear hB4 hb4 d5
          have zS := z0
          clear z1 z2 z3 z4
          go_wp2_with fail
          go_region_held3 (fun x => x.cell? ⟨w.heap.size, 0, none⟩ = some (.int .i64 u.t)) (first | exact zS | exact zS1 | exact zS2)
            (first
              | (go_at_call 20; refine (bstr w2.heap.size w2.heap.size u.body _ (by exact hB5) (by exact hb5.size)).mono ?_; rintro e x1 ⟨rfl, j1⟩; have k1 : Below w2.heap.size w5 x1 := ⟨j1.os, j1.tape, j1.output, j1.size, j1.block⟩; have hb6 := hb5.trans k1; have zS1 := (hq2.below hb6).cells.1)
              | (go_at_call 18; (with_reducible refine (HWt.out _).mono ?_); rintro e x2 ⟨rfl, j2⟩; have k2 : Below x1.heap.size x1 x2 := ⟨j2.os, j2.tape, j2.output, j2.size, j2.block⟩; have hb7 := hb6.trans (k2.mono hb6.size); have zS2 := (hq2.below hb7).cells.1))
          have hfin := bw2.trans (hb7.mono bw2.size)
          by_cases h5 : u.el.length ≤ 65536
          · have HE := Lib.hid (show eS u = u.el ∧ eE u = 0 from ⟨by unfold eS; rw [hk, if_pos h5]; rfl, by unfold eE; rw [hk, if_pos h5]; rfl⟩)
            have h5' : ((u.el.length : Nat) : Int) ≤ 65536 := by omega
            clear h5
            generalize u.el = EL at *
            go_wp2
            go_ret2
            exact ⟨by rw [HE.out.1, HE.out.2]; rfl, hfin⟩
          · have HE := Lib.hid (show eS u = [] ∧ eE u = 2 from ⟨by unfold eS; rw [hk, if_neg h5]; rfl, by unfold eE; rw [hk, if_neg h5]; rfl⟩)
            have h5' : (65536 : Int) < ((u.el.length : Nat) : Int) := by omega
            clear h5
            generalize u.el = EL at *
            go_wp2
            go_ret2
            exact ⟨by rw [HE.out.1, HE.out.2]; rfl, hfin⟩
        | succ g =>
          obtain rfl | rfl | rfl : k = 0 ∨ k = 1 ∨ k = 2 := by omega
          · go_wp2_with fail
            refine (HRn.out _).mono ?_
            rintro e w4 ⟨rfl, d4⟩
            have hB4 := bld_below hB d4
            have hb4 := hb.trans (d4.mono hb.size)
            clear d4
            go_wp2_with fail
            refine (HW2.out (pn u.r) (by omega) _).mono ?_
            rintro e w5 ⟨rfl, d5⟩
            have hB5 := bld_below hB4 d5
            have hb5 := hb4.trans (d5.mono hb4.size)
            clear d5
            go_wp2_with fail
            refine (wstr _ _ _ (put 2 (pn u.r)) _ hB5 (by have h1 := hp.out 0; have h2 := D8.short_le8 (pn u.r).length; rw [put_len]; omega) hb5.size).mono ?_
            rintro e w6 ⟨rfl, hB6, d6, _⟩
            go_wp2
            go_roundg g
            case measure => omega
            case rel => exact ⟨1, by omega, by simp, hB6, hb5.trans d6⟩
          · go_wp2_with fail
            refine (HAn.out _).mono ?_
            rintro e w4 ⟨rfl, d4⟩
            have hB4 := bld_below hB d4
            have hb4 := hb.trans (d4.mono hb.size)
            clear d4
            go_wp2_with fail
            refine (HW2.out (pn u.a) (by omega) _).mono ?_
            rintro e w5 ⟨rfl, d5⟩
            have hB5 := bld_below hB4 d5
            have hb5 := hb4.trans (d5.mono hb4.size)
            clear d5
            go_wp2_with fail
            refine (wstr _ _ _ (put 2 (pn u.a)) _ hB5 (by have h1 := hp.out 1; have h2 := D8.short_le8 (pn u.a).length; rw [put_len]; omega) hb5.size).mono ?_
            rintro e w6 ⟨rfl, hB6, d6, _⟩
            go_wp2
            go_roundg g
            case measure => omega
            case rel => exact ⟨2, by omega, by simp, hB6, hb5.trans d6⟩
          · go_wp2_with fail
            refine (HIn.out _).mono ?_
            rintro e w4 ⟨rfl, d4⟩
            have hB4 := bld_below hB d4
            have hb4 := hb.trans (d4.mono hb.size)
            clear d4
            go_wp2_with fail
            refine (HW2.out (pn u.i) (by omega) _).mono ?_
            rintro e w5 ⟨rfl, d5⟩
            have hB5 := bld_below hB4 d5
            have hb5 := hb4.trans (d5.mono hb4.size)
            clear d5
            go_wp2_with fail
            refine (wstr _ _ _ (put 2 (pn u.i)) _ hB5 (by have h1 := hp.out 2; have h2 := D8.short_le8 (pn u.i).length; rw [put_len]; omega) hb5.size).mono ?_
            rintro e w6 ⟨rfl, hB6, d6, _⟩
            go_wp2
            go_roundg g
            case measure => omega
            case rel => exact ⟨3, by omega, by simp, hB6, hb5.trans d6⟩
    · rw [(ls_no h6).1, (ls_no h6).2] at hL
      have HL := Lib.hid hL
      have h5 : ¬ u.el.length ≤ 65536 := by omega
      rw [show eS u = [] by unfold eS; rw [hk, if_neg h5]; rfl, show eE u = 2 by unfold eE; rw [hk, if_neg h5]; rfl]
      clear hL hk h6 ge1 ge2 h5
      go_enter Tryd.func9, Tryd.ntmps9
      go_wp2_with fail
      refine HC.out.mono ?_
      rintro e w1 ⟨rfl, b1⟩
      obtain ⟨z0, z1, z2, z3, z4⟩ := (huq.below b1).cells
      have HT1 := Lib.hid (HT.out.below b1)
      have HR1 := Lib.hid (HR.out.below b1)
      go_wp2_with fail
      refine (HL.out _ HT1.out.1 HR1.out).mono ?_
      rintro e w2 ⟨rfl, d2⟩
      go_wp2
      go_ret2
      exact ⟨rfl, Below_in (b1.trans (d2.mono b1.size))⟩
end Go.Proofs.YtgjmnlgjdgjdbaaDoor
/- The document's own begins and Within, walked. -/
namespace Go.Proofs.YtgjmnlgjdgjdbaaDoor
open Go.ChangeShapes Go.WideShapes Go.ChangeAt Go.RowKit K O6
set_option linter.unusedVariables false

theorem Below_drewNc {B : Nat} {a b : World} (h : Below B a b) (n : Nat) : Below B a (b.drewN n) := ⟨h.os, h.tape, h.output, h.size, h.block⟩
theorem within_long {a b : List Nat} (h : b.length < a.length) : within a b = false := by
  cases hw : within a b with
  | false => rfl
  | true =>
    obtain ⟨t, rfl⟩ := (O6.within_iff a b).1 hw
    simp at h; omega
theorem within_diff {a b : List Nat} {i : Nat} (hi : i < a.length) (h : a.getD i 0 ≠ b.getD i 0) : within a b = false := by
  cases hw : within a b with
  | false => rfl
  | true =>
    obtain ⟨t, rfl⟩ := (O6.within_iff a b).1 hw
    refine absurd ?_ h
    rw [List.getD, List.getD, List.getElem?_append_left hi]
theorem within_same : ∀ {a b : List Nat}, a.length ≤ b.length → (∀ j, j < a.length → a.getD j 0 = b.getD j 0) → within a b = true
  | [], b, _, _ => (O6.within_iff [] b).2 ⟨b, rfl⟩
  | x :: a, [], h, _ => by simp at h
  | x :: a, y :: b, h, hj => by
    have h1 : x = y := hj 0 (by simp)
    obtain ⟨t, rfl⟩ := (O6.within_iff a b).1 (within_same (a := a) (b := b) (by simp at h; omega) (fun j h2 => by have := hj (j + 1) (by simp; omega); simpa using this))
    exact (O6.within_iff _ _).2 ⟨t, by rw [h1]; rfl⟩
def BeRel (a b : List Nat) (w : World) (g : Nat) (v4 : Value) (wr : World) : Prop :=
  ∃ i, i + g = a.length ∧ v4 = .int .i64 (i : Nat) ∧ (∀ j, j < i → a.getD j 0 = b.getD j 0) ∧ ∃ m, wr = w.drewN m
/-- Whether one text's arcs begin another's: false, if one is none's. -/
def wi (r s : List UInt8) : Bool := (arcs r).isSome && ((arcs s).isSome && within (arL r) (arL s))
theorem arL_len (s : List UInt8) : (arL s).length ≤ 128 := by
  unfold arL
  cases h : arcs s with
  | none => simp
  | some l => exact (isArcs_len ((arcs_iff s l).1 h).1).2
end Go.Proofs.YtgjmnlgjdgjdbaaDoor
/- octet's Reader: Groups, Left, Done, walked at this translation. -/
namespace Go.Proofs.YtgjmnlgjdgjdbaaDoor
open Go.ChangeShapes Go.WideShapes Go.ChangeAt Go.RowKit P1 K
set_option linter.unusedVariables false

namespace RG
def FRel (l : List UInt8) (most : Int) (vn vi : Value) : Prop :=
  ∃ i n : Nat, i ≤ 9 ∧ i ≤ l.length ∧ n < 128 ^ i ∧ vn = .int .i64 n ∧ vi = .int .i64 i ∧ (0 < i → ¬ byt l 0 = 128) ∧ rgo l most 9 0 0 = rgo l most (9 - i) i n

end RG
end Go.Proofs.YtgjmnlgjdgjdbaaDoor
/- oid's Decode, walked. -/
namespace Go.Proofs.YtgjmnlgjdgjdbaaDoor
open Go.ChangeShapes Go.WideShapes Go.ChangeAt Go.RowKit K O6
set_option linter.unusedVariables false

theorem deA_nil : deA [] = none := by unfold deA; rw [if_pos (.inl rfl)]
theorem dp_first (b : List UInt8) :
    ((P1.rdG b 0 0 4294967295).1 ≤ 4294967295) ∧ ((P1.rdG b 0 0 4294967295).2.2 = 0 → b ≠ [] ∧ gpl b = ahO [(P1.rdG b 0 0 4294967295).1] (gpl (b.drop (P1.rdG b 0 0 4294967295).2.1))) ∧ (¬ (P1.rdG b 0 0 4294967295).2.2 = 0 → deA b = none) := by
  by_cases hn : b = []
  · subst hn
    have h : (P1.rdG [] 0 0 4294967295) = (0, 0, 10) := by decide
    rw [h]
    exact ⟨Nat.zero_le _, fun h => absurd h (by decide), fun _ => deA_nil⟩
  · by_cases hc : (P1.rgo (b.drop 0) 4294967295 9 0 0).2.2 = 0
    · rw [P1.rdG_yes b 0 4294967295 hc]
      rw [List.drop_zero] at hc ⊢
      refine ⟨?_, fun _ => ⟨hn, ?_⟩, fun h => absurd rfl h⟩
      · have := rgo_most b 4294967295 9 0 0 hc
        show (P1.rgo b 4294967295 9 0 0).1 ≤ 4294967295
        omega
      · have h := ahO_more [] hn hc
        rw [Nat.zero_add]
        cases hg : gpl b with
        | none => rw [hg] at h; exact h
        | some r => rw [hg] at h; exact h
    · rw [P1.rdG_no b 0 4294967295 hc]
      refine ⟨Nat.zero_le _, fun h => absurd h hc, fun _ => ?_⟩
      rw [List.drop_zero] at hc
      exact deA_bad (by rw [gpl_step hn, if_neg hc])
theorem dp_step {b : List UInt8} {p : Nat} {c : Int} {N : Nat} {ys : List Nat} (hp : p < b.length) (h0 : c = 0 → gpl b = ahO (N :: ys) (gpl (b.drop p))) (h1 : ¬ c = 0 → deA b = none) :
    ((P1.rdG b p c 4294967295).2.2 = 0 → gpl b = ahO (N :: (ys ++ [(P1.rdG b p c 4294967295).1])) (gpl (b.drop (P1.rdG b p c 4294967295).2.1))) ∧ (¬ (P1.rdG b p c 4294967295).2.2 = 0 → deA b = none) := by
  by_cases hc : c = 0
  · subst hc
    obtain ⟨_, hok, hno⟩ := ahO_next (N :: ys) hp
    rw [← h0 rfl] at hok hno
    exact ⟨fun h => (hok h).2, fun h => deA_bad (hno h)⟩
  · rw [P1.rdG_bad b p c _ hc]
    exact ⟨fun h => absurd h hc, fun _ => h1 hc⟩
theorem dp_long {b : List UInt8} {p : Nat} {N : Nat} {ys : List Nat} (hp : p < b.length) (hy : ys.length = 126) (h0 : gpl b = ahO (N :: ys) (gpl (b.drop p))) : deA b = none := by
  cases hg : gpl (b.drop p) with
  | none => rw [hg] at h0; exact deA_bad h0
  | some zs =>
    rw [hg] at h0
    have h2 : gpl b = some (N :: (ys ++ zs)) := h0
    have hz := gpl_inv _ _ zs (Nat.le_refl _) hg
    have hzl : 1 ≤ zs.length := by
      rcases Nat.eq_zero_or_pos zs.length with h | h
      · have : zs = [] := List.length_eq_zero_iff.1 h
        rw [this] at hz
        have := congrArg List.length hz.1
        rw [List.length_drop] at this
        simp at this; omega
      · exact h
    by_cases hb : 640 < b.length
    · unfold deA; rw [if_pos (.inr hb)]
    · rw [deA_out (fun h => by rw [h] at hp; simp at hp) (by omega) h2, if_neg]
      intro h
      have := isArcs_len h
      simp at this; omega
theorem dp_end {b : List UInt8} {p : Nat} {N : Nat} {ys : List Nat} (hp : b.length ≤ p) (hb : b ≠ []) (hy : ys.length ≤ 126) (h0 : gpl b = ahO (N :: ys) (gpl (b.drop p))) :
    deA b = some (a0 N :: a1 N :: ys) ∧ ∀ a ∈ a0 N :: a1 N :: ys, a ≤ 4294967295 := by
  rw [List.drop_eq_nil_of_le hp, gpl_nil] at h0
  have h2 : gpl b = some (N :: ys) := by
    rw [h0]; show some (N :: ys ++ []) = _; rw [List.append_nil]
  obtain ⟨h3, h4, _⟩ := gpl_inv _ _ _ (Nat.le_refl _) h2
  have h5 := flat_small (N :: ys) h4
  rw [h3, List.length_cons] at h5
  have hN := h4 N (by simp)
  have hle : ∀ a ∈ a0 N :: a1 N :: ys, a ≤ 4294967295 := by
    intro a ha
    rcases List.mem_cons.1 ha with h | h
    · rw [h]; unfold a0; omega
    · rcases List.mem_cons.1 h with h | h
      · rw [h]; unfold a1 a0; omega
      · exact h4 a (List.mem_cons_of_mem _ h)
  have hia : isArcs (a0 N :: a1 N :: ys) = true := by
    unfold isArcs
    simp only [Bool.and_eq_true, decide_eq_true_eq, Bool.or_eq_true, List.all_eq_true, beq_iff_eq]
    refine ⟨by simp, by simp; omega, hle, ?_⟩
    show (a0 N < 2 ∧ a1 N ≤ 39) ∨ (a0 N = 2 ∧ a1 N ≤ 4294967215)
    unfold a1 a0; omega
  exact ⟨by rw [deA_out hb (by omega) h2, if_pos hia], hle⟩
end Go.Proofs.YtgjmnlgjdgjdbaaDoor
