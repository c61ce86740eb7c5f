/- alike: the same tokens, but for their lines. -/
import Derived.Test.YtkobjbmjefkmgaaDoorLexK
namespace Go.Proofs.YtkobjbmjefkmgaaDoor
open Go.ChangeShapes Go.WideShapes Go.ChangeAt Go.RowKit K L14
set_option linter.unusedVariables false

/-- Tokens without their lines. -/
def kt (l : List Tq) : List (Int × List UInt8) := l.map fun x => (x.k, x.t)
theorem kt_len {l m : List Tq} (h : kt l = kt m) : l.length = m.length := by
  have := congrArg List.length h
  simpa [kt] using this
theorem kt_at {l m : List Tq} (h : kt l = kt m) (i : Nat) (hi : i < l.length) : (l.getD i noQ).k = (m.getD i noQ).k ∧ (l.getD i noQ).t = (m.getD i noQ).t := by
  have hm : i < m.length := by rw [← kt_len h]; exact hi
  have := congrArg (fun x : List (Int × List UInt8) => x[i]?) h
  simp [kt, hi, hm] at this
  simp [List.getD, hi, hm, this.1, this.2]
set_option maxRecDepth 100000 in
set_option maxHeartbeats 1000000 in
theorem alike14_walk (l m : List Tq) (hlm : kt l = kt m) (hl : l.length ≤ 1000000) (ao bo : Option Addr) (ca cb : Nat) (w : World) (ha : RdQ w ao l) (hb : RdQ w bo m) : Calls Tryd.prog 16 #[.slice ao l.length ca, .slice bo m.length cb] w fun e w' => e = .returned (.bool true) ∧ Below w.heap.size w w' := by
  have HA := Lib.hid ha
  have HB := Lib.hid hb
  have hml := kt_len hlm
  have HML := Lib.hid hml
  have HAT := Lib.hid (fun i hi => kt_at hlm i hi)
  rw [← hml]
  clear ha hb hml hlm
  go_enter Tryd.func16, Tryd.ntmps16
  have H0 := Lib.hid (show ∃ i : Nat, i + l.length = l.length ∧ (Value.int .i64 (0 : Int)) = .int .i64 (i : Nat) ∧ Below w.heap.size w w from ⟨0, by omega, rfl, Below.refl _ _⟩)
  go_wp2
  go_loopg [13] l.length (fun g v13 wr => ∃ i : Nat, i + g = l.length ∧ v13 = .int .i64 (i : Nat) ∧ Below w.heap.size w wr)
  case atStart => exact H0.out
  case round =>
    obtain ⟨i, hig, rfl, hbw⟩ := hrel
    clear H0
    by_cases hi : i < l.length
    · obtain ⟨G, rfl⟩ : ∃ G, gk = G + 1 := ⟨gk - 1, by omega⟩
      have hi2 : ((i : Nat) : Int) < ((l.length : Nat) : Int) := by omega
      have HN := Lib.hid (show ∃ j : Nat, j + G = l.length ∧ (Value.int .i64 ((i : Int) + 1)) = .int .i64 (j : Nat) ∧ Below w.heap.size w wr.drew from ⟨i + 1, by omega, rfl, hbw.trans ((show Below wr.heap.size wr wr.drew from ⟨rfl, rfl, rfl, Nat.le_refl _, fun _ _ => rfl⟩).mono hbw.size)⟩)
      obtain ⟨q, o, rfl, hqs, a0, a1, a2⟩ := (HA.out.below hbw).at hi
      obtain ⟨q', o', rfl, hqs', e0, e1, e2⟩ := (HB.out.below hbw).at (by rw [← HML.out]; exact hi)
      obtain ⟨hk, ht⟩ := HAT.out i hi
      rw [← hk] at e0
      rw [← ht] at e1
      obtain ⟨x, hx⟩ : ∃ x, l.getD i noQ = x := ⟨_, rfl⟩
      rw [hx] at a0 a1 e0 e1
      have zS : wr.cell? ⟨q, o + i * 3, none⟩ = some (.int .i64 x.k) ∧ wr.cell? ⟨q, o + i * 3 + 1, none⟩ = some (.string (bs x.t)) ∧ wr.cell? ⟨q', o' + i * 3, none⟩ = some (.int .i64 x.k) ∧ wr.cell? ⟨q', o' + i * 3 + 1, none⟩ = some (.string (bs x.t)) := ⟨a0, a1, e0, e1⟩
      clear hx hig hbw hk ht e2 a2
      go_wp2_with fail
      go_region_held3 (fun y => y.cell? ⟨q, o + i * 3, none⟩ = some (.int .i64 x.k) ∧ y.cell? ⟨q, o + i * 3 + 1, none⟩ = some (.string (bs x.t)) ∧ y.cell? ⟨q', o' + i * 3, none⟩ = some (.int .i64 x.k) ∧ y.cell? ⟨q', o' + i * 3 + 1, none⟩ = some (.string (bs x.t))) (first | exact zS) (fail)
      clear zS a0 a1 e0 e1
      go_wp2
      go_roundg G
      case measure => omega
      case rel => exact HN.out
    · have hi2 : ¬ ((i : Nat) : Int) < ((l.length : Nat) : Int) := by omega
      have HBW := Lib.hid hbw
      go_wp2
      go_ret
      exact ⟨rfl, HBW.out⟩
end Go.Proofs.YtkobjbmjefkmgaaDoor
