/- Texts on the program and on the document, joined: Grp, OidE, ValB. -/
import Derived.Test.YtkmfcnilbmckmaaGreatDoorRows
import Derived.Test.YtkmfcnilbmckmaaGreatDoorMa01
import Derived.ProofKit
import Derived.OpenShut
import Derived.ShutString
import Derived.Test.YtkmfcnilbmckmaaGreatDoorMa16
import Derived.Test.YtkmfcnilbmckmaaGreatDoorMa12
import Derived.Deep.RegionHeld3
import Derived.Test.YtkmfcnilbmckmaaGreatDoorMa14
import Derived.Test.YtkmfcnilbmckmaaGreatDoorMa17
/- gongref01.Grouped alone: for the stages whose rows have no more of layer 1. -/
namespace Go.Proofs.YtkmfcnilbmckmaaGreatDoor
open Go.ChangeShapes Go.WideShapes Go.ChangeAt Go.RowKit P1 K
set_option linter.unusedVariables false

def GpRel (w : World) (t : List UInt8) (vn vs : Value) (wr : World) : Prop :=
  ∃ (m f : Nat) (l : List UInt8), m < 128 ^ (f + 1) ∧ f ≤ 8 ∧ vn = .int .i64 m ∧ vs = .string (bs l) ∧ l.length + f ≤ 9 ∧ low f (m / 128) ++ l = t ∧ Below w.heap.size w wr

set_option maxRecDepth 100000 in
/-- The document's Grouped (layer 1), for the stages that only call it. -/
theorem grp_walk (n : Nat) (h1 : n ≤ 9223372036854775807) (w : World) :
    Calls Tryz.prog 90 #[.int .i64 n] w fun e w' => e = .returned (.string (bs (grp n))) ∧ Below w.heap.size w w' := by
  have hc1 := run_conv_one (P := Tryz.prog) 53 5 9 Tryz.underlying53 Tryz.underlying5 Tryz.underlying9
  go_enter Tryz.func90, Tryz.ntmps90
  go_wp2
  go_loopw [0, 3] (fun vn vs wr => GpRel w (grp n) vn vs wr) (fun vn vs wr => (intOf vn).toNat)
  case atStart =>
    exact ⟨n, 8, _, by omega, by omega, rfl, rfl, by simp, rfl, (Below.refl _ _).alloc (Nat.le_refl _) _⟩
  case round =>
    obtain ⟨m, f, l, hm, hf, rfl, rfl, hl, hg, hb⟩ := hrel
    have Hg := Lib.hid hg; have Hm := Lib.hid hm; clear hg
    have hmx : m ≤ 9223372036854775807 := by
      have : (128 : Nat) ^ (f + 1) ≤ 128 ^ 9 := Nat.pow_le_pow_right (by omega) (by omega)
      omega
    clear hm
    by_cases h0 : 128 ≤ m
    · go_wp2
      go_roundw
      case measure => simp [intOf]; omega
      case rel =>
        obtain ⟨g, rfl⟩ : ∃ g, f = g + 1 := ⟨f - 1, by have := Hm.out; rcases f with _ | f <;> simp at this ⊢; omega⟩
        have hm2 : m / 128 < 128 ^ (g + 1) := by have := Hm.out; rw [Nat.pow_succ] at this; omega
        refine ⟨m / 128, g, b8 (m / 128 % 128 + 128) :: l, hm2, by omega, by simp, ?_, by simp; omega, ?_, hb.alloc (by have := hb.size; omega) _⟩
        · simp
        · rw [← Hg.out, low_step g (m / 128) (by omega), List.append_assoc]; rfl
    · go_wp2
      go_ret
      refine ⟨?_, hb⟩
      rw [← Hg.out, show m / 128 = 0 by omega, low_zero]; rfl
end Go.Proofs.YtkmfcnilbmckmaaGreatDoor
/- The document's own Encode, walked. -/
namespace Go.Proofs.YtkmfcnilbmckmaaGreatDoor
open Go.ChangeShapes Go.WideShapes Go.ChangeAt Go.RowKit K O6
set_option linter.unusedVariables false

def enS (s : List UInt8) : List UInt8 := if (arcs s).isSome then eb (arL s) else []
def EnRel (l : List Nat) (w : World) (g : Nat) (v6 v7 : Value) (wr : World) : Prop :=
  ∃ (i : Nat) (o : List UInt8), i + g = l.length ∧ 2 ≤ i ∧ v7 = .int .i64 (i : Nat) ∧ v6 = .string (bs o) ∧ o = ebt l i ∧ o.length ≤ 9 * i ∧ Below w.heap.size w wr
set_option maxRecDepth 100000 in
set_option maxHeartbeats 600000 in
theorem qencode_walk (s : List UInt8) (hs : s.length ≤ 140737488351232) (w : World) :
    Calls Tryz.prog 60 #[.string (bs s)] w fun e w' => e = .returned (.tuple #[.string (bs (enS s)), .int .i64 (arE s : Nat)]) ∧ Below w.heap.size w w' := by
  have HA := Lib.hid (qarcs_walk s hs w)
  unfold ArPost at HA
  cases hx : arcs s with
  | none =>
    have h1 := ar_none hx
    have h2 : enS s = [] := by unfold enS; rw [hx]; rfl
    rw [h1.1, h1.2] at HA
    rw [h1.1, h2]
    clear h1 h2 hx
    go_enter Tryz.func60, Tryz.ntmps60
    go_wp2_with fail
    refine HA.out.mono ?_
    rintro e w1 ⟨va, rfl, hoa, hb1⟩
    go_wp2
    go_ret2
    exact ⟨rfl, hb1⟩
  | some l =>
    have h1 := ar_some hx
    have h2 : enS s = eb l := by unfold enS; rw [hx, h1.2]; rfl
    rw [h1.1, h1.2] at HA
    rw [h1.1, h2]
    have hz := ((arcs_iff s l).1 hx).1
    have hlen := isArcs_len hz
    have HLE := Lib.hid (isArcs_le hz)
    clear h1 h2 hx hz
    go_enter Tryz.func60, Tryz.ntmps60
    go_wp2_with fail
    refine HA.out.mono ?_
    rintro e w1 ⟨va, rfl, hoa, hb1⟩
    obtain ⟨ao, ca, rfl, hra⟩ := RdZ.own hoa
    have HR := Lib.hid hra
    rcases hra with h0 | ⟨bk, off, rfl, hbk, hc⟩
    · omega
    · have c0 := hc 0 (by omega)
      have c1 := hc 1 (by omega)
      have hx0 : l.getD 0 0 ≤ 4294967295 := HLE.out _ (by rw [List.getD, List.getElem?_eq_getElem (by omega : 0 < l.length)]; exact List.getElem_mem _)
      have hx1 : l.getD 1 0 ≤ 4294967295 := HLE.out _ (by rw [List.getD, List.getElem?_eq_getElem (by omega : 1 < l.length)]; exact List.getElem_mem _)
      have H2 := Lib.hid (ebt_two l)
      unfold fz at c0 c1
      rw [Nat.add_zero] at c0
      have hgl := P1.grp_length (40 * l.getD 0 0 + l.getD 1 0)
      have HG := Lib.hid (fun w2 => grp_walk (40 * l.getD 0 0 + l.getD 1 0) (by omega) w2)
      clear hoa hc HA
      generalize l.getD 0 0 = x at *
      generalize l.getD 1 0 = y at *
      have hcx : ((40 * x + y : Nat) : Int) = 40 * (x : Int) + (y : Int) := by omega
      rw [hcx] at HG
      have kw0 : IntKind.i64.wrap (40 * (x : Int)) = 40 * (x : Int) := IntWalk.i64_in _ (by omega)
      have kw1 : IntKind.i64.wrap (40 * (x : Int) + (y : Int)) = 40 * (x : Int) + (y : Int) := IntWalk.i64_in _ (by omega)
      clear hcx
      generalize P1.grp (40 * x + y) = o0 at *
      have hL0 : (0 : Int) < ((l.length : Nat) : Int) := by omega
      have hL1 : (1 : Int) < ((l.length : Nat) : Int) := by omega
      have hL2 : (1 : Int) ≤ ((l.length : Nat) : Int) := by omega
      have hN0 : 0 < l.length := by omega
      have hN1 : 1 < l.length := by omega
      go_wp2_with fail
      go_region_held3 (fun w' => w'.cell? ⟨bk, off, none⟩ = some (.int .i64 (x : Nat)) ∧ w'.cell? ⟨bk, off + 1, none⟩ = some (.int .i64 (y : Nat))) (first | exact ⟨c0, c1⟩ | exact z1)
        (first | (go_at_call 90; refine (HG.out _).mono ?_; rintro e x1 ⟨rfl, k1⟩; have z1 := And.intro ((k1.cell (p := ⟨bk, off, none⟩) hbk).trans c0) ((k1.cell (p := ⟨bk, off + 1, none⟩) hbk).trans c1)))
      have k2 : Below w1.heap.size w1 x1 := ⟨k1.os, k1.tape, k1.output, k1.size, k1.block⟩
      have HR2 := Lib.hid (HR.out.below k2)
      have hb2 := hb1.trans (k2.mono hb1.size)
      have HAll := Lib.hid (ebt_all l)
      clear kw0 kw1 k1 k2 z1 c0 c1 HR HG hb1 hbk
      go_wp2
      go_loopg [6, 7] (l.length - 2) (fun g v6 v7 wr => EnRel l x1 g v6 v7 wr)
      case atStart => exact ⟨2, o0, by omega, by omega, rfl, rfl, H2.out.symm, by omega, Below.refl _ _⟩
      case round =>
        obtain ⟨i, o, hig, hi2, rfl, rfl, ho, hol, hb⟩ := hrel
        cases gk with
        | zero =>
          obtain rfl : i = l.length := by omega
          have HE := Lib.hid (ho.trans HAll.out)
          clear hig ho
          go_wp2
          go_ret2
          rw [← HE.out]
          exact ⟨rfl, hb2.trans (hb.mono hb2.size)⟩
        | succ g =>
          have hil : i < l.length := by omega
          rcases (HR2.out).below hb with h0 | ⟨bk2, off2, he, hbk, hc⟩
          · omega
          · cases he
            have hcell := hc i hil
            have hle : l.getD i 0 ≤ 4294967295 := HLE.out _ (by
              rw [List.getD, List.getElem?_eq_getElem hil]; exact List.getElem_mem hil)
            have HN := Lib.hid (fun w1 => grp_walk (l.getD i 0) (by omega) w1)
            have hnl := P1.grp_length (l.getD i 0)
            have HS := Lib.hid (show o ++ P1.grp (l.getD i 0) = ebt l (i + 1) by rw [ebt_snoc l i hil hi2, ← ho])
            unfold fz at hcell
            clear hc HR2 ho
            generalize l.getD i 0 = c at *
            generalize P1.grp c = X at *
            have hnew : (o ++ X).length ≤ 9 * (i + 1) := by rw [List.length_append]; omega
            go_wp2_with fail
            refine (HN.out _).mono ?_
            rintro e w3 ⟨rfl, d⟩
            have hb3 := hb.trans (d.mono hb.size)
            clear d hcell
            go_wp2
            go_roundg g
            case measure => omega
            case rel => exact ⟨i + 1, o ++ X, by omega, by omega, by simp, by simp, HS.out, hnew, hb3⟩
end Go.Proofs.YtkmfcnilbmckmaaGreatDoor
/- The document's Check, Put, Encode of values, walked. -/
namespace Go.Proofs.YtkmfcnilbmckmaaGreatDoor
open Go.ChangeShapes Go.WideShapes Go.ChangeAt Go.RowKit K P1 B5
set_option linter.unusedVariables false

open V7 in
/-- What is looked at, one after the other, and the answer. -/
inductive Ck : Int → Int → List UInt8 → Nat → Prop
  | i1 {n s} (h1 : s.isEmpty = false) : Ck 2 n s 70
  | i2 {n s} (h1 : s.isEmpty = true) (h2 : n < -2147483648) : Ck 2 n s 70
  | i3 {n s} (h1 : s.isEmpty = true) (h2 : -2147483648 ≤ n) (h3 : decide (n ≤ 2147483647) = false) : Ck 2 n s 70
  | i4 {n s} (h1 : s.isEmpty = true) (h2 : -2147483648 ≤ n) (h3 : n ≤ 2147483647) : Ck 2 n s 0
  | a1 {n s} (h1 : (n == 0) = false) : Ck 4 n s 70
  | a2 {n s} (h1 : (n == 0) = true) (h2 : decide (((s.length : Nat) : Int) ≤ 65535) = false) : Ck 4 n s 70
  | a3 {n s} (h1 : (n == 0) = true) (h2 : ((s.length : Nat) : Int) ≤ 65535) : Ck 4 n s 0
  | b1 {n s} (h1 : (n == 0) = false) : Ck 68 n s 70
  | b2 {n s} (h1 : (n == 0) = true) (h2 : decide (((s.length : Nat) : Int) ≤ 65535) = false) : Ck 68 n s 70
  | b3 {n s} (h1 : (n == 0) = true) (h2 : ((s.length : Nat) : Int) ≤ 65535) : Ck 68 n s 0
  | n1 {n s} (h1 : (n == 0) = false) : Ck 5 n s 70
  | n2 {n s} (h1 : (n == 0) = true) (h2 : s.isEmpty = false) : Ck 5 n s 70
  | n3 {n s} (h1 : (n == 0) = true) (h2 : s.isEmpty = true) : Ck 5 n s 0
  | o1 {n s} (h1 : (n == 0) = false) : Ck 6 n s 70
  | o2 {n s} (h1 : (n == 0) = true) (h2 : (O6.arcs s).isSome = false) : Ck 6 n s 70
  | o3 {n s} (h1 : (n == 0) = true) (h2 : (O6.arcs s).isSome = true) : Ck 6 n s 0
  | d1 {n s} (h1 : (n == 0) = false) : Ck 64 n s 70
  | d2 {n s} (h1 : (n == 0) = true) (h2 : (((s.length : Nat) : Int) == 4) = false) : Ck 64 n s 70
  | d3 {n s} (h1 : (n == 0) = true) (h2 : (((s.length : Nat) : Int) == 4) = true) : Ck 64 n s 0
  | c1 {k n s} (hk : k = 65 ∨ k = 66 ∨ k = 67) (h1 : s.isEmpty = false) : Ck k n s 70
  | c2 {k n s} (hk : k = 65 ∨ k = 66 ∨ k = 67) (h1 : s.isEmpty = true) (h2 : n < 0) : Ck k n s 70
  | c3 {k n s} (hk : k = 65 ∨ k = 66 ∨ k = 67) (h1 : s.isEmpty = true) (h2 : 0 ≤ n) (h3 : decide (n ≤ 4294967295) = false) : Ck k n s 70
  | c4 {k n s} (hk : k = 65 ∨ k = 66 ∨ k = 67) (h1 : s.isEmpty = true) (h2 : 0 ≤ n) (h3 : n ≤ 4294967295) : Ck k n s 0
  | g1 {n s} (h1 : s.isEmpty = false) : Ck 70 n s 70
  | g2 {n s} (h1 : s.isEmpty = true) : Ck 70 n s 0
  | z {k n s} (h1 : (k == 2) = false) (h2 : (k == 4) = false) (h3 : (k == 68) = false) (h4 : (k == 5) = false) (h5 : (k == 6) = false) (h6 : (k == 64) = false) (h7 : (k == 65) = false) (h8 : (k == 66) = false) (h9 : (k == 67) = false) (h10 : (k == 70) = false) : Ck k n s 70
open V7 in
theorem ck_all (k n : Int) (s : List UInt8) : Ck k n s (ckE k n s) := by
  have hlen : ∀ c : Nat, (((s.length : Nat) : Int) ≤ (c : Int)) = (s.length ≤ c) := fun c => propext (by omega)
  by_cases k2 : k = 2
  · subst k2
    cases h1 : s.isEmpty
    · rw [show ckE 2 n s = 70 by simp [ckE, ckV, h1]]; exact .i1 h1
    · by_cases h2 : -2147483648 ≤ n
      · by_cases h3 : n ≤ 2147483647
        · rw [show ckE 2 n s = 0 by simp [ckE, ckV, h1, h2, h3]]; exact .i4 h1 h2 h3
        · rw [show ckE 2 n s = 70 by simp [ckE, ckV, h1, h2, h3]]; exact .i3 h1 h2 (decide_eq_false h3)
      · rw [show ckE 2 n s = 70 by simp [ckE, ckV, h1, h2]]; exact .i2 h1 (by omega)
  by_cases k4 : k = 4
  · subst k4
    cases h1 : (n == 0)
    · rw [show ckE 4 n s = 70 by simp [ckE, ckV, h1]]; exact .a1 h1
    · by_cases h2 : s.length ≤ 65535
      · rw [show ckE 4 n s = 0 by simp [ckE, ckV, h1, h2]]; exact .a3 h1 (by omega)
      · rw [show ckE 4 n s = 70 by simp [ckE, ckV, h1, h2]]; exact .a2 h1 (decide_eq_false (by omega))
  by_cases k68 : k = 68
  · subst k68
    cases h1 : (n == 0)
    · rw [show ckE 68 n s = 70 by simp [ckE, ckV, h1]]; exact .b1 h1
    · by_cases h2 : s.length ≤ 65535
      · rw [show ckE 68 n s = 0 by simp [ckE, ckV, h1, h2]]; exact .b3 h1 (by omega)
      · rw [show ckE 68 n s = 70 by simp [ckE, ckV, h1, h2]]; exact .b2 h1 (decide_eq_false (by omega))
  by_cases k5 : k = 5
  · subst k5
    cases h1 : (n == 0)
    · rw [show ckE 5 n s = 70 by simp [ckE, ckV, h1]]; exact .n1 h1
    · cases h2 : s.isEmpty
      · rw [show ckE 5 n s = 70 by simp [ckE, ckV, h1, h2]]; exact .n2 h1 h2
      · rw [show ckE 5 n s = 0 by simp [ckE, ckV, h1, h2]]; exact .n3 h1 h2
  by_cases k6 : k = 6
  · subst k6
    cases h1 : (n == 0)
    · rw [show ckE 6 n s = 70 by simp [ckE, ckV, h1]]; exact .o1 h1
    · cases h2 : (O6.arcs s).isSome
      · rw [show ckE 6 n s = 70 by simp [ckE, ckV, h1, h2]]; exact .o2 h1 h2
      · rw [show ckE 6 n s = 0 by simp [ckE, ckV, h1, h2]]; exact .o3 h1 h2
  by_cases k64 : k = 64
  · subst k64
    cases h1 : (n == 0)
    · rw [show ckE 64 n s = 70 by simp [ckE, ckV, h1]]; exact .d1 h1
    · by_cases h2 : s.length = 4
      · rw [show ckE 64 n s = 0 by simp [ckE, ckV, h1, h2]]; exact .d3 h1 (by rw [beq_iff_eq]; omega)
      · rw [show ckE 64 n s = 70 by simp [ckE, ckV, h1, h2]]; exact .d2 h1 (by rw [beq_eq_false_iff_ne]; omega)
  by_cases k65 : k = 65 ∨ k = 66 ∨ k = 67
  · have hv : ckV k n s = (s.isEmpty && (decide (0 ≤ n) && decide (n ≤ 4294967295))) := by
      unfold ckV
      rw [if_neg k2, if_neg (by omega), if_neg k5, if_neg k6, if_neg k64, if_pos k65]
    cases h1 : s.isEmpty
    · rw [show ckE k n s = 70 by simp [ckE, hv, h1]]; exact .c1 k65 h1
    · by_cases h2 : 0 ≤ n
      · by_cases h3 : n ≤ 4294967295
        · rw [show ckE k n s = 0 by simp [ckE, hv, h1, h2, h3]]; exact .c4 k65 h1 h2 h3
        · rw [show ckE k n s = 70 by simp [ckE, hv, h1, h2, h3]]; exact .c3 k65 h1 h2 (decide_eq_false h3)
      · rw [show ckE k n s = 70 by simp [ckE, hv, h1, h2]]; exact .c2 k65 h1 (by omega)
  by_cases k70 : k = 70
  · subst k70
    cases h1 : s.isEmpty
    · rw [show ckE 70 n s = 70 by simp [ckE, ckV, h1]]; exact .g1 h1
    · rw [show ckE 70 n s = 0 by simp [ckE, ckV, h1]]; exact .g2 h1
  have hv : ckV k n s = false := by
    unfold ckV
    rw [if_neg k2, if_neg (by omega), if_neg k5, if_neg k6, if_neg k64, if_neg k65, if_neg k70]
  rw [show ckE k n s = 70 by simp [ckE, hv]]
  have e : ∀ c : Int, ¬ k = c → (k == c) = false := fun c h => beq_eq_false_iff_ne.2 h
  exact .z (e _ k2) (e _ k4) (e _ k68) (e _ k5) (e _ k6) (e _ k64) (e _ (by omega)) (e _ (by omega)) (e _ (by omega)) (e _ k70)
theorem qisOid_walk (s : List UInt8) (hs : s.length ≤ 140737488351232) (w : World) :
    Calls Tryz.prog 35 #[.string (bs s)] w fun e w' => e = .returned (.bool (O6.arcs s).isSome) ∧ Below w.heap.size w w' := by
  have HA := Lib.hid (qarcs_walk s hs w)
  unfold ArPost at HA
  have hq : (((arE s : Nat) : Int) == 0) = (O6.arcs s).isSome := by
    cases hx : O6.arcs s with
    | none => rw [(ar_none hx).1]; rfl
    | some l => rw [(ar_some hx).1]; rfl
  generalize arE s = E at *
  go_enter Tryz.func35, Tryz.ntmps35
  go_wp2_with fail
  refine HA.out.mono ?_
  rintro e w1 ⟨va, rfl, hoa, hb1⟩
  go_wp2
  go_ret
  exact ⟨by rw [← hq]; rfl, hb1⟩
set_option maxRecDepth 100000 in
set_option maxHeartbeats 4000000 in
theorem qcheck_walk (k n : Int) (s : List UInt8) (hs : s.length ≤ 140737488351232) (w : World) :
    Calls Tryz.prog 15 #[.agg #[.int .i64 k, .int .i64 n, .string (bs s)]] w fun e w' => e = .returned (.int .i64 (V7.ckE k n s : Nat)) ∧ Below w.heap.size w w' := by
  have h := ck_all k n s
  generalize V7.ckE k n s = c at h ⊢
  have HO := Lib.hid (fun w1 => qisOid_walk s hs w1)
  cases h
  case o2 h1 h2 =>
    rw [h2] at HO
    go_enter Tryz.func15, Tryz.ntmps15
    go_wp2_with fail
    refine (HO.out _).mono ?_
    rintro e w1 ⟨rfl, hb1⟩
    go_wp2
    go_ret
    exact ⟨rfl, ((Below.refl _ _).alloc (Nat.le_refl _) _).trans (hb1.mono (by simp))⟩
  case o3 h1 h2 =>
    rw [h2] at HO
    go_enter Tryz.func15, Tryz.ntmps15
    go_wp2_with fail
    refine (HO.out _).mono ?_
    rintro e w1 ⟨rfl, hb1⟩
    go_wp2
    go_ret
    exact ⟨rfl, ((Below.refl _ _).alloc (Nat.le_refl _) _).trans (hb1.mono (by simp))⟩
  case c1 hk h1 =>
    clear HO
    rcases hk with rfl | rfl | rfl
    all_goals
      go_enter Tryz.func15, Tryz.ntmps15
      go_wp2
      go_ret
      exact ⟨rfl, (Below.refl _ _).alloc (Nat.le_refl _) _⟩
  case c2 hk h1 h2 =>
    clear HO
    rcases hk with rfl | rfl | rfl
    all_goals
      go_enter Tryz.func15, Tryz.ntmps15
      go_wp2
      go_ret
      exact ⟨rfl, (Below.refl _ _).alloc (Nat.le_refl _) _⟩
  case c3 hk h1 h2 h3 =>
    clear HO
    rcases hk with rfl | rfl | rfl
    all_goals
      go_enter Tryz.func15, Tryz.ntmps15
      go_wp2
      go_ret
      exact ⟨rfl, (Below.refl _ _).alloc (Nat.le_refl _) _⟩
  case c4 hk h1 h2 h3 =>
    clear HO
    rcases hk with rfl | rfl | rfl
    all_goals
      go_enter Tryz.func15, Tryz.ntmps15
      go_wp2
      go_ret
      exact ⟨rfl, (Below.refl _ _).alloc (Nat.le_refl _) _⟩
  all_goals
    clear HO
    go_enter Tryz.func15, Tryz.ntmps15
    go_wp2
    go_ret
    exact ⟨rfl, (Below.refl _ _).alloc (Nat.le_refl _) _⟩
end Go.Proofs.YtkmfcnilbmckmaaGreatDoor
