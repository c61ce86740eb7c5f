/- The document's escaped and text, walked. -/
import Derived.Test.YtkobjbmjefkmgaaDoorLexA
import Derived.Test.YtkobjbmjefkmgaaDoorByl
import Derived.Deep.QuietTactic
import Derived.Deep.RegionWith
namespace Go.Proofs.YtkobjbmjefkmgaaDoor
open Go.ChangeShapes Go.WideShapes Go.ChangeAt Go.RowKit K L14
set_option linter.unusedVariables false

/-- What escaped answers. -/
def escB (s : List UInt8) : Int := match esc s with | some (b, _) => (b.toNat : Nat) | none => 0
def escN (s : List UInt8) : Nat := match esc s with | some (_, n) => n | none => 0
theorem nbV_some {n a : Nat} (h : nib n = some a) : nbV n = a ∧ a < 16 := by
  refine ⟨by unfold nbV; rw [h], ?_⟩
  unfold nib dgN at h
  split at h
  · next h1 => injection h with h; simp only [Bool.and_eq_true, decide_eq_true_eq] at h1; omega
  · split at h
    · injection h with h; omega
    · split at h
      · injection h with h; omega
      · cases h
theorem nbV_none {n : Nat} (h : nib n = none) : nbV n = -1 := by unfold nbV; rw [h]
set_option maxRecDepth 100000 in
set_option maxHeartbeats 1000000 in
theorem qescaped_walk (s : List UInt8) (hs : s.length ≤ 1000000) (w : World) : Calls Tryd.prog 61 #[.string (bs s)] w fun e w' => e = .returned (.tuple #[.int .u8 (escB s), .int .i64 (escN s : Nat)]) ∧ ∃ n, w' = w.drewN n := by
  cases s with
  | nil =>
    go_enter Tryd.func61, Tryd.ntmps61
    go_wp2
    go_ret2
    exact ⟨rfl, 0, rfl⟩
  | cons c t =>
    have hby : byt (c :: t) 0 = c.toNat := rfl
    have hne : (c :: t).isEmpty = false := rfl
    have hpos : 0 < (c :: t).length := by simp
    have hfix : ∀ (k : Nat) (b : UInt8) (n : Nat), byt (c :: t) 0 = k → esc (c :: t) = some (b, n) → escB (c :: t) = (b.toNat : Nat) ∧ escN (c :: t) = n := fun k b n _ h => by unfold escB escN; rw [h]; exact ⟨rfl, rfl⟩
    have hno : esc (c :: t) = none → escB (c :: t) = 0 ∧ escN (c :: t) = 0 := fun h => by unfold escB escN; rw [h]; exact ⟨rfl, rfl⟩
    by_cases c1 : c = 34
    · have HX := Lib.hid (show escB (c :: t) = 34 ∧ escN (c :: t) = 1 by subst c1; exact ⟨rfl, rfl⟩)
      have hb : byt (c :: t) 0 = 34 := by rw [hby, c1]; rfl
      clear c1 hby hfix hno
      generalize c :: t = s at *
      go_enter Tryd.func61, Tryd.ntmps61
      go_wp2
      go_ret2
      rw [HX.out.1, HX.out.2]
      exact ⟨rfl, 0, rfl⟩
    by_cases c2 : c = 92
    · have HX := Lib.hid (show escB (c :: t) = 92 ∧ escN (c :: t) = 1 by subst c2; exact ⟨rfl, rfl⟩)
      have hb : byt (c :: t) 0 = 92 := by rw [hby, c2]; rfl
      clear c1 c2 hby hfix hno
      generalize c :: t = s at *
      go_enter Tryd.func61, Tryd.ntmps61
      go_wp2
      go_ret2
      rw [HX.out.1, HX.out.2]
      exact ⟨rfl, 0, rfl⟩
    by_cases c3 : c = 110
    · have HX := Lib.hid (show escB (c :: t) = 10 ∧ escN (c :: t) = 1 by subst c3; exact ⟨rfl, rfl⟩)
      have hb : byt (c :: t) 0 = 110 := by rw [hby, c3]; rfl
      clear c1 c2 c3 hby hfix hno
      generalize c :: t = s at *
      go_enter Tryd.func61, Tryd.ntmps61
      go_wp2
      go_ret2
      rw [HX.out.1, HX.out.2]
      exact ⟨rfl, 0, rfl⟩
    by_cases c4 : c = 116
    · have HX := Lib.hid (show escB (c :: t) = 9 ∧ escN (c :: t) = 1 by subst c4; exact ⟨rfl, rfl⟩)
      have hb : byt (c :: t) 0 = 116 := by rw [hby, c4]; rfl
      clear c1 c2 c3 c4 hby hfix hno
      generalize c :: t = s at *
      go_enter Tryd.func61, Tryd.ntmps61
      go_wp2
      go_ret2
      rw [HX.out.1, HX.out.2]
      exact ⟨rfl, 0, rfl⟩
    by_cases c5 : c = 120
    · have hb : byt (c :: t) 0 = 120 := by rw [hby, c5]; rfl
      match t, hb with
      | [], hb =>
        have HX := Lib.hid (hno (by subst c5; rfl))
        have hl : ¬ (3 : Int) ≤ ((([c] : List UInt8).length : Nat) : Int) := by simp
        clear c1 c2 c3 c4 c5 hby hfix hno
        generalize ([c] : List UInt8) = s at *
        go_enter Tryd.func61, Tryd.ntmps61
        go_wp2
        go_ret2
        rw [HX.out.1, HX.out.2]
        exact ⟨rfl, 0, rfl⟩
      | [h], hb =>
        have HX := Lib.hid (hno (by subst c5; rfl))
        have hl : ¬ (3 : Int) ≤ ((([c, h] : List UInt8).length : Nat) : Int) := by simp
        clear c1 c2 c3 c4 c5 hby hfix hno
        generalize ([c, h] : List UInt8) = s at *
        go_enter Tryd.func61, Tryd.ntmps61
        go_wp2
        go_ret2
        rw [HX.out.1, HX.out.2]
        exact ⟨rfl, 0, rfl⟩
      | h :: l :: q, hb =>
        have hl : (3 : Int) ≤ (((c :: h :: l :: q).length : Nat) : Int) := by simp; omega
        have hl1 : 1 < (c :: h :: l :: q).length := by simp
        have hl2 : 2 < (c :: h :: l :: q).length := by simp
        have hE : esc (c :: h :: l :: q) = (match nib h.toNat, nib l.toNat with | some a, some b => some (UInt8.ofNat (a * 16 + b), 3) | _, _ => none) := by subst c5; rfl
        have HA := Lib.hid (fun w1 => qnibble_walk (byt (c :: h :: l :: q) 1) (byt_lt _ _) w1)
        have HB := Lib.hid (fun w1 => qnibble_walk (byt (c :: h :: l :: q) 2) (byt_lt _ _) w1)
        have e1 : byt (c :: h :: l :: q) 1 = h.toNat := rfl
        have e2 : byt (c :: h :: l :: q) 2 = l.toNat := rfl
        cases ha : nib h.toNat with
        | none =>
          have HX := Lib.hid (hno (by rw [hE, ha]))
          rw [show nbV (byt (c :: h :: l :: q) 1) = -1 by rw [e1]; exact nbV_none ha] at HA
          clear c1 c2 c3 c4 c5 hby hfix hno hE e1 e2 ha HB
          generalize c :: h :: l :: q = s at *
          go_enter Tryd.func61, Tryd.ntmps61
          go_wp2_with fail
          refine (HA.out _).mono ?_
          rintro e w1 ⟨rfl, rfl⟩
          go_wp2
          go_ret2
          rw [HX.out.1, HX.out.2]
          exact ⟨rfl, 0, rfl⟩
        | some a =>
          obtain ⟨va, ha16⟩ := nbV_some ha
          rw [show nbV (byt (c :: h :: l :: q) 1) = (a : Nat) by rw [e1]; exact va] at HA
          have ga : (0 : Int) ≤ ((a : Nat) : Int) := by omega
          cases hb2 : nib l.toNat with
          | none =>
            have HX := Lib.hid (hno (by rw [hE, ha, hb2]))
            rw [show nbV (byt (c :: h :: l :: q) 2) = -1 by rw [e2]; exact nbV_none hb2] at HB
            clear c1 c2 c3 c4 c5 hby hfix hno hE e1 e2 ha hb2 va
            generalize c :: h :: l :: q = s at *
            go_enter Tryd.func61, Tryd.ntmps61
            go_wp2_with fail
            refine (HA.out _).mono ?_
            rintro e w1 ⟨rfl, rfl⟩
            go_wp2_with fail
            refine (HB.out _).mono ?_
            rintro e w1 ⟨rfl, rfl⟩
            go_wp2
            go_ret2
            rw [HX.out.1, HX.out.2]
            exact ⟨rfl, 0, rfl⟩
          | some b =>
            obtain ⟨vb, hb16⟩ := nbV_some hb2
            rw [show nbV (byt (c :: h :: l :: q) 2) = (b : Nat) by rw [e2]; exact vb] at HB
            have gb : (0 : Int) ≤ ((b : Nat) : Int) := by omega
            have HX := Lib.hid (show escB (c :: h :: l :: q) = (a : Nat) * 16 + (b : Nat) ∧ escN (c :: h :: l :: q) = 3 by
              unfold escB escN
              rw [hE, ha, hb2]
              simp only [UInt8.toNat_ofNat']
              exact ⟨by omega, trivial⟩)
            clear c1 c2 c3 c4 c5 hby hfix hno hE e1 e2 ha hb2 va vb
            generalize c :: h :: l :: q = s at *
            go_enter Tryd.func61, Tryd.ntmps61
            go_wp2_with fail
            refine (HA.out _).mono ?_
            rintro e w1 ⟨rfl, rfl⟩
            go_wp2_with fail
            refine (HB.out _).mono ?_
            rintro e w1 ⟨rfl, rfl⟩
            have hw1 : IntKind.i64.wrap (((a : Nat) : Int) * 16) = ((a : Nat) : Int) * 16 := (by rw [IntKind.wrap_i64]; omega)
            have hw2 : IntKind.i64.wrap (((a : Nat) : Int) * 16 + ((b : Nat) : Int)) = ((a : Nat) : Int) * 16 + ((b : Nat) : Int) := (by rw [IntKind.wrap_i64]; omega)
            go_wp2_with fail
            go_quiet (first | (go_at_call 71; with_reducible refine Calls.quiet_mk (HA.out _)) | (go_at_call 71; with_reducible refine Calls.quiet_mk (HB.out _)))
            go_wp2
            go_ret2
            rw [HX.out.1, HX.out.2]
            exact ⟨rfl, _, rfl⟩
    · have hn : ∀ k : Nat, k < 256 → c ≠ UInt8.ofNat k → (((byt (c :: t) 0 : Nat) : Int) == (k : Int)) = false := fun k hk hne => by
        rw [beq_eq_false_iff_ne]
        intro e
        apply hne
        apply UInt8.toNat_inj.1
        rw [UInt8.toNat_ofNat']
        rw [hby] at e
        omega
      have q1 := hn 34 (by decide) c1
      have q2 := hn 92 (by decide) c2
      have q3 := hn 110 (by decide) c3
      have q4 := hn 116 (by decide) c4
      have q5 := hn 120 (by decide) c5
      have HX := Lib.hid (hno (by simp only [esc]; rw [if_neg (by simp [c1, c2]), if_neg c3, if_neg c4, if_neg c5]))
      clear c1 c2 c3 c4 c5 hby hfix hno hn
      generalize c :: t = s at *
      go_enter Tryd.func61, Tryd.ntmps61
      go_wp2
      go_ret2
      rw [HX.out.1, HX.out.2]
      exact ⟨rfl, 0, rfl⟩
end Go.Proofs.YtkobjbmjefkmgaaDoor
