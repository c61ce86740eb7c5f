/- stamp's own reader, walked. -/
import Derived.Test.YtaijekagcmkgjaaDoorRows
import Derived.Test.YtaijekagcmkgjaaDoorStpP
import Derived.ProofKit
import Derived.OpenShut
import Derived.ShutString
import Derived.Deep.RegionHeld3
namespace Go.Proofs.YtaijekagcmkgjaaDoor
open Go.ChangeShapes Go.WideShapes Go.ChangeAt Go.RowKit K S3
set_option linter.unusedVariables false

/-- A reader in block b: what is left of its text, whether something was wrong. -/
def RD (w : World) (b T : Nat) (l : List UInt8) (g : Bool) : Prop := w.heap[b]? = some (.cells #[.string (bs l), .bool g] T (0, 0))
theorem RD.cells {w : World} {b T : Nat} {l : List UInt8} {g : Bool} (h : RD w b T l g) :
    w.cell? ⟨b, 0, none⟩ = some (.string (bs l)) ∧ w.cell? ⟨b, 1, none⟩ = some (.bool g) ∧ w.frozen? ⟨b, 0, none⟩ = false ∧ w.frozen? ⟨b, 1, none⟩ = false :=
  ⟨cellRow h 0, cellRow h 1, freeRow h 0, freeRow h 1⟩
theorem RD.setL {w : World} {b T : Nat} {l : List UInt8} {g : Bool} (h : RD w b T l g) (l' : List UInt8) : RD (w.setCell ⟨b, 0, none⟩ (.string (bs l'))) b T l' g := by
  have := rowSet h 0 (.string (bs l')); simpa [RD] using this
theorem RD.setG {w : World} {b T : Nat} {l : List UInt8} {g : Bool} (h : RD w b T l g) (g' : Bool) : RD (w.setCell ⟨b, 1, none⟩ (.bool g')) b T l g' := by
  have := rowSet h 1 (.bool g'); simpa [RD] using this

theorem isDigit_walk (n : Nat) (w : World) :
    Calls Tryd.prog 35 #[.int .u8 n] w fun e w' => e = .returned (.bool (isDn n)) ∧ w = w' := by
  unfold isDn
  by_cases h0 : 48 ≤ n
  · by_cases h1 : n ≤ 57
    · rw [decide_eq_true h0, decide_eq_true h1]
      go_enter Tryd.func35, Tryd.ntmps35
      go_wp2
      go_ret
      refine ⟨?_, rfl⟩
      show Ending.returned (.bool (decide ((n : Int) ≤ 57))) = _
      rw [decide_eq_true (by omega)]; rfl
    · rw [decide_eq_true h0, decide_eq_false h1]
      go_enter Tryd.func35, Tryd.ntmps35
      go_wp2
      go_ret
      refine ⟨?_, rfl⟩
      show Ending.returned (.bool (decide ((n : Int) ≤ 57))) = _
      rw [decide_eq_false (by omega)]; rfl
  · rw [decide_eq_false h0]
    go_enter Tryd.func35, Tryd.ntmps35
    go_wp2
    go_ret
    exact ⟨rfl, rfl⟩

/-- Whether a text begins with a digit. -/
def swd : List UInt8 → Bool
  | [] => false
  | c :: _ => isD c
theorem swd_walk (l : List UInt8) (hl : l.length ≤ 140737488351232) (w : World) :
    Calls Tryd.prog 47 #[.string (bs l)] w fun e w' => e = .returned (.bool (swd l)) ∧ w = w' := by
  cases l with
  | nil =>
    go_enter Tryd.func47, Tryd.ntmps47
    go_wp2
    go_ret
    exact ⟨rfl, rfl⟩
  | cons c t =>
    have e : swd (c :: t) = isDn (byt (c :: t) 0) := rfl
    rw [e]
    have h := isDigit_walk (byt (c :: t) 0) w
    generalize isDn (byt (c :: t) 0) = g at h ⊢
    clear e
    have hp : 0 < (c :: t).length := by simp
    go_enter Tryd.func47, Tryd.ntmps47
    go_wp2_with fail
    refine h.mono ?_
    rintro e w1 ⟨rfl, rfl⟩
    go_wp2
    go_ret
    exact ⟨rfl, rfl⟩

theorem took_walk (b T : Nat) (l : List UInt8) (g : Bool) (c : Int) (hl : l.length ≤ 140737488351232) (w : World) (hr : RD w b T l g) :
    Calls Tryd.prog 46 #[.pointer (some ⟨b, 0, none⟩), .int .u8 c] w fun e w' => e = .returned (.bool (mkOk c l)) ∧ Kp [b] w w' ∧ RD w' b T (mkL c l) g := by
  obtain ⟨c0, c1, f0, f1⟩ := hr.cells
  have HR := Lib.hid hr; clear hr
  cases l with
  | nil =>
    go_enter Tryd.func46, Tryd.ntmps46
    go_wp2
    go_ret
    exact ⟨rfl, Kp.refl _ _, HR.out⟩
  | cons x t =>
    have hp : 0 < (x :: t).length := by simp
    by_cases h : (x.toNat : Int) = c
    · have e1 : mkOk c (x :: t) = true := by simp [mkOk, h]
      have e2 : mkL c (x :: t) = t := by simp [mkL, h]
      rw [e1, e2]
      have hb : (((byt (x :: t) 0 : Nat) : Int) != c) = false := by simp [byt, h]
      clear e1 e2 h
      go_enter Tryd.func46, Tryd.ntmps46
      go_wp2
      go_ret
      exact ⟨rfl, (Kp.refl _ _).set _ (by simp) _, HR.out.setL _⟩
    · have e1 : mkOk c (x :: t) = false := by simp [mkOk, h]
      have e2 : mkL c (x :: t) = x :: t := by simp [mkL, h]
      rw [e1, e2]
      have hb : (((byt (x :: t) 0 : Nat) : Int) != c) = true := by simp [byt, h]
      clear e1 e2 h
      go_enter Tryd.func46, Tryd.ntmps46
      go_wp2
      go_ret
      exact ⟨rfl, Kp.refl _ _, HR.out⟩

theorem mark_walk (b T : Nat) (l : List UInt8) (g : Bool) (c : Int) (hl : l.length ≤ 140737488351232) (w : World) (hr : RD w b T l g) :
    Calls Tryd.prog 21 #[.pointer (some ⟨b, 0, none⟩), .int .u8 c] w fun e w' => e = .returned (.tuple #[]) ∧ Kp [b] w w' ∧ RD w' b T (mkL c l) (g || !mkOk c l) := by
  have ht := took_walk b T l g c hl w hr
  clear hr
  generalize mkL c l = l' at ht ⊢
  cases hk : mkOk c l
  · rw [hk] at ht
    clear hk
    go_enter Tryd.func21, Tryd.ntmps21
    go_wp2_with fail
    refine ht.mono ?_
    rintro e w1 ⟨rfl, k1, r1⟩
    obtain ⟨c0, c1, f0, f1⟩ := r1.cells
    have R1 := Lib.hid r1; clear r1
    go_wp2
    go_end0
    refine ⟨rfl, k1.set _ (by simp) _, ?_⟩
    have := R1.out.setG true
    simpa using this
  · rw [hk] at ht
    clear hk
    go_enter Tryd.func21, Tryd.ntmps21
    go_wp2_with fail
    refine ht.mono ?_
    rintro e w1 ⟨rfl, k1, r1⟩
    have R1 := Lib.hid r1; clear r1
    go_wp2
    go_end0
    refine ⟨rfl, k1, ?_⟩
    have := R1.out
    simpa using this

theorem done_walk (b T : Nat) (l : List UInt8) (g : Bool) (hl : l.length ≤ 140737488351232) (w : World) (hr : RD w b T l g) :
    Calls Tryd.prog 26 #[.pointer (some ⟨b, 0, none⟩)] w fun e w' => e = .returned (.bool (!g && l.isEmpty)) ∧ w = w' := by
  obtain ⟨c0, c1, f0, f1⟩ := hr.cells
  clear hr
  cases g
  · cases l with
    | nil =>
      go_enter Tryd.func26, Tryd.ntmps26
      go_wp2
      go_ret
      exact ⟨rfl, rfl⟩
    | cons x t =>
      go_enter Tryd.func26, Tryd.ntmps26
      go_wp2
      go_ret
      exact ⟨rfl, rfl⟩
  · go_enter Tryd.func26, Tryd.ntmps26
    go_wp2
    go_ret
    exact ⟨rfl, rfl⟩

/-! ### A number of so many digits -/
/-- What holds in the loop: i digits were read, that spell n; the rest is l'. -/
def NRel (w : World) (b T k : Nat) (l : List UInt8) (g : Bool) (vn vi : Value) (wr : World) : Prop :=
  ∃ (i n : Nat) (l' : List UInt8), i ≤ k ∧ n < 10 ^ i ∧ vn = .int .i64 n ∧ vi = .int .i64 i ∧ Kp [b] w wr ∧ RD wr b T l' g ∧ l'.length ≤ l.length ∧ nGo k 0 l = nGo (k - i) n l'
theorem nGo_step (k n : Nat) (l : List UInt8) (h : swd l = true) : nGo (k + 1) n l = nGo k (10 * n + (byt l 0 - 48)) l.tail ∧ 0 < l.length ∧ 48 ≤ byt l 0 ∧ byt l 0 ≤ 57 := by
  cases l with
  | nil => cases h
  | cons c t =>
    have h' : isD c = true := h
    refine ⟨?_, by simp, (isD_le h').1, (isD_le h').2⟩
    conv => lhs; unfold nGo
    rw [if_pos h']; rfl
theorem nGo_stop (k n : Nat) (l : List UInt8) (h : swd l = false) : nGo (k + 1) n l = (none, l) := by
  cases l with
  | nil => rfl
  | cons c t => have h' : isD c = false := h; conv => lhs; unfold nGo
                simp [h']

set_option maxRecDepth 100000 in
set_option maxHeartbeats 1000000 in
theorem number_walk (b T k : Nat) (kk : Int) (hkk : kk = (k : Nat)) (hk : k ≤ 9) (least most : Int) (h0 : -1000000 ≤ least) (h1 : most ≤ 1000000) (l : List UInt8) (g : Bool) (hl : l.length ≤ 140737488351232) (w : World) (hr : RD w b T l g) :
    Calls Tryd.prog 23 #[.pointer (some ⟨b, 0, none⟩), .int .i64 kk, .int .i64 least, .int .i64 most] w fun e w' => e = .returned (.int .i64 (nV k least most l)) ∧ Kp [b] w w' ∧ RD w' b T (nL k l) (g || !nOk k least most l) := by
  subst hkk
  have HRR := Lib.hid hr; clear hr
  go_enter Tryd.func23, Tryd.ntmps23
  go_wp2
  go_loopw [9, 11] (fun vn vi wr => NRel w b T k l g vn vi wr) (fun vn vi wr => k - (intOf vi).toNat)
  case atStart => exact ⟨0, 0, l, by omega, by simp, rfl, rfl, Kp.refl _ _, HRR.out, Nat.le_refl _, rfl⟩
  case round =>
    clear HRR
    obtain ⟨i, n, l', hi, hn, rfl, rfl, hkp, hr, hle, hg⟩ := hrel
    obtain ⟨c0, c1, f0, f1⟩ := hr.cells
    have HR := Lib.hid hr; have HG := Lib.hid hg; clear hr hg
    have hw := swd_walk l' (by omega) wr
    have hn9 : n < 1000000000 ∨ i = k := by
      by_cases e : i = k
      · exact Or.inr e
      · have : 10 ^ i ≤ 10 ^ 8 := Nat.pow_le_pow_right (by omega) (by omega)
        left; omega
    by_cases hik : i < k
    · have hn9' : n < 1000000000 := by omega
      clear hn9
      cases hs : swd l'
      · rw [hs] at hw
        have e1 : nGo k 0 l = (none, l') := by rw [HG.out, show k - i = (k - i - 1) + 1 by omega]; exact nGo_stop _ _ _ hs
        have e2 : nV k least most l = least := by unfold nV; rw [e1]
        have e3 : nOk k least most l = false := by unfold nOk; rw [e1]
        have e4 : nL k l = l' := by unfold nL; rw [e1]
        have E2 := Lib.hid e2; have E3 := Lib.hid e3; have E4 := Lib.hid e4
        clear e1 e2 e3 e4 hs HG
        go_wp2_with fail
        refine hw.mono ?_
        rintro e w1 ⟨rfl, rfl⟩
        go_wp2
        go_ret
        rw [E2.out, E3.out, E4.out]
        refine ⟨rfl, hkp.set _ (by simp) _, ?_⟩
        have := HR.out.setG true
        simpa using this
      · rw [hs] at hw
        obtain ⟨hst, hpos, hb1, hb2⟩ := nGo_step (k - i - 1) n l' hs
        have HS := Lib.hid hst; clear hst hs
        go_wp2_with fail
        refine hw.mono ?_
        rintro e w1 ⟨rfl, rfl⟩
        go_wp2
        go_roundw
        case measure => simp [intOf]; omega
        case rel =>
          refine ⟨i + 1, 10 * n + (byt l' 0 - 48), l'.tail, by omega, by rw [Nat.pow_succ]; omega, ?_, by simp, hkp.set _ (by simp) _, HR.out.setL _, by simp; omega, ?_⟩
          · congr 1; omega
          · rw [HG.out, show k - i = (k - i - 1) + 1 by omega, HS.out]; congr 1
    · obtain rfl : i = k := by omega
      have e1 : nGo i 0 l = (some n, l') := by rw [HG.out, Nat.sub_self]; rfl
      have e4 : nL i l = l' := by unfold nL; rw [e1]
      have hnk : n ≤ 1000000000 := by
        have : 10 ^ i ≤ 10 ^ 9 := Nat.pow_le_pow_right (by omega) (by omega)
        omega
      have E4 := Lib.hid e4; clear e4
      clear hn9 hn
      by_cases hlo : (n : Int) < least
      · have e2 : nV i least most l = least := by unfold nV; rw [e1]; simp [inR]; intro h; omega
        have e3 : nOk i least most l = false := by unfold nOk; rw [e1]; simp [inR]; intro h; omega
        have E2 := Lib.hid e2; have E3 := Lib.hid e3
        clear e1 e2 e3 HG
        go_wp2
        go_ret
        rw [E2.out, E3.out, E4.out]
        refine ⟨rfl, hkp.set _ (by simp) _, ?_⟩
        have := HR.out.setG true
        simpa using this
      · by_cases hhi : most < (n : Int)
        · have e2 : nV i least most l = least := by unfold nV; rw [e1]; simp [inR]; intro h; omega
          have e3 : nOk i least most l = false := by unfold nOk; rw [e1]; simp [inR]; intro h; omega
          have E2 := Lib.hid e2; have E3 := Lib.hid e3
          clear e1 e2 e3 HG
          go_wp2
          go_ret
          rw [E2.out, E3.out, E4.out]
          refine ⟨rfl, hkp.set _ (by simp) _, ?_⟩
          have := HR.out.setG true
          simpa using this
        · have e2 : nV i least most l = n := by unfold nV; rw [e1]; simp [inR]; intro h; omega
          have e3 : nOk i least most l = true := by unfold nOk; rw [e1]; simp [inR]; omega
          have E2 := Lib.hid e2; have E3 := Lib.hid e3
          clear e1 e2 e3 HG
          have hlo' : least ≤ (n : Int) := by omega
          have hhi' : (n : Int) ≤ most := by omega
          clear hlo hhi
          go_wp2
          go_ret
          rw [E2.out, E3.out, E4.out]
          refine ⟨rfl, hkp, ?_⟩
          have := HR.out
          simpa using this
end Go.Proofs.YtaijekagcmkgjaaDoor
