/- The laws of tokens, on calls that keep their word: same, works. -/
import Derived.Test.YtkobjbmjefkmgaaDoorLexG
import Derived.Test.YtkobjbmjefkmgaaDoorLxqP
import Derived.Test.YtkobjbmjefkmgaaDoorLexJ
import Derived.Deep.RegionHeld3
import Derived.Deep.RegionWith
namespace Go.Proofs.YtkobjbmjefkmgaaDoor
open Go.ChangeShapes Go.WideShapes Go.ChangeAt Go.RowKit K L14
set_option linter.unusedVariables false

/-- What the program's Split answers: all tokens are looked for first. -/
def PglPost (s : List UInt8) (w : World) (e : Ending) (w' : World) : Prop :=
  Below w.heap.size w w' ∧ ∃ ao cap, e = .returned (.tuple #[.slice ao (pgL s).length cap, .int .i64 (pgN s : Nat), .int .i64 (pgE s : Nat)]) ∧ RdK w' ao (pgL s)
/-- What the program's calls are known to answer, in any world of which I. -/
structure LOk (I : World → Prop) : Prop where
  keepI : ∀ a b, I a → Below a.heap.size a b → I b
  split : ∀ (s : List UInt8) (w : World), s.length ≤ 140737488355327 → I w → Calls Tryd.prog 8 #[.string (bs s)] w (PglPost s w)
  print : ∀ (l : List Tq) (ao : Option Addr) (cap : Nat) (w : World), l.length ≤ 5000 → (∀ i, i < l.length → (l.getD i noQ).t.length ≤ 70000000) → I w → RdQ w ao l → Calls Tryd.prog 11 #[.slice ao l.length cap] w fun e w' => e = .returned (.tuple #[.string (bs (prS l)), .int .i64 (prE l : Nat)]) ∧ Below w.heap.size w w'
  quote : ∀ (s : List UInt8) (w : World), s.length ≤ 1000000 → I w → Calls Tryd.prog 14 #[.string (bs s)] w fun e w' => e = .returned (.string (bs (quo s))) ∧ Below w.heap.size w w'
/-- Tokens as tokens with any numbers. -/
def tq (l : List Tk) : List Tq := l.map fun x => ⟨(x.k : Nat), x.t, (x.l : Nat)⟩
theorem tq_len (l : List Tk) : (tq l).length = l.length := by simp [tq]
theorem RdK.q {w : World} {ao : Option Addr} {l : List Tk} (h : RdK w ao l) : RdQ w ao (tq l) := by
  rcases h with h | ⟨g, o, h1, h2, h3⟩
  · exact .inl (by rw [tq_len]; exact h)
  · refine .inr ⟨g, o, h1, h2, fun i hi j hj => ?_⟩
    rw [tq_len] at hi
    rw [h3 i hi j hj]
    simp [tq, List.getD, hi, tkC, tqC]
def xs14 : List UInt8 := [115, 101, 116, 32, 110, 111, 100, 101, 32, 61, 32, 36, 104, 111, 115, 116, 59, 32, 35, 32, 97, 32, 114, 101, 109, 97, 114, 107]
def xl14 : List Tk := [⟨1, [115, 101, 116], 1⟩, ⟨1, [110, 111, 100, 101], 1⟩, ⟨5, [61], 1⟩, ⟨3, [104, 111, 115, 116], 1⟩, ⟨5, [59], 1⟩]
theorem ex14 : split 4096 1 xs14 = .ok xl14 := by kernel_rfl
set_option maxRecDepth 100000 in
set_option maxHeartbeats 1000000 in
/-- The same tokens. -/
theorem same14_walk (l : List Tq) (hl : l.length ≤ 1000000) (ao bo : Option Addr) (ca cb : Nat) (w : World) (ha : RdQ w ao l) (hb : RdQ w bo l) : Calls Tryd.prog 10 #[.slice ao l.length ca, .slice bo l.length cb] w fun e w' => e = .returned (.bool true) ∧ Below w.heap.size w w' := by
  have HA := Lib.hid ha
  have HB := Lib.hid hb
  clear ha hb
  go_enter Tryd.func10, Tryd.ntmps10
  have H0 := Lib.hid (show ∃ i : Nat, i + l.length = l.length ∧ (Value.int .i64 (0 : Int)) = .int .i64 (i : Nat) ∧ Below w.heap.size w w from ⟨0, by omega, rfl, Below.refl _ _⟩)
  go_wp2
  go_loopg [5] l.length (fun g v5 wr => ∃ i : Nat, i + g = l.length ∧ v5 = .int .i64 (i : Nat) ∧ Below w.heap.size w wr)
  case atStart => exact H0.out
  case round =>
    obtain ⟨i, hig, rfl, hbw⟩ := hrel
    clear H0
    by_cases hi : i < l.length
    · obtain ⟨G, rfl⟩ : ∃ G, gk = G + 1 := ⟨gk - 1, by omega⟩
      have hi2 : ((i : Nat) : Int) < ((l.length : Nat) : Int) := by omega
      have HN := Lib.hid (show ∃ j : Nat, j + G = l.length ∧ (Value.int .i64 ((i : Int) + 1)) = .int .i64 (j : Nat) ∧ Below w.heap.size w wr.drew from ⟨i + 1, by omega, rfl, hbw.trans ((show Below wr.heap.size wr wr.drew from ⟨rfl, rfl, rfl, Nat.le_refl _, fun _ _ => rfl⟩).mono hbw.size)⟩)
      obtain ⟨q, o, rfl, hqs, a0, a1, a2⟩ := (HA.out.below hbw).at hi
      obtain ⟨q', o', rfl, hqs', e0, e1, e2⟩ := (HB.out.below hbw).at hi
      obtain ⟨x, hx⟩ : ∃ x, l.getD i noQ = x := ⟨_, rfl⟩
      rw [hx] at a0 a1 a2 e0 e1 e2
      have zS : wr.cell? ⟨q, o + i * 3, none⟩ = some (.int .i64 x.k) ∧ wr.cell? ⟨q, o + i * 3 + 1, none⟩ = some (.string (bs x.t)) ∧ wr.cell? ⟨q, o + i * 3 + 2, none⟩ = some (.int .i64 x.l) ∧ wr.cell? ⟨q', o' + i * 3, none⟩ = some (.int .i64 x.k) ∧ wr.cell? ⟨q', o' + i * 3 + 1, none⟩ = some (.string (bs x.t)) ∧ wr.cell? ⟨q', o' + i * 3 + 2, none⟩ = some (.int .i64 x.l) := ⟨a0, a1, a2, e0, e1, e2⟩
      clear hx hig hbw
      go_wp2_with fail
      go_region_held3 (fun y => y.cell? ⟨q, o + i * 3, none⟩ = some (.int .i64 x.k) ∧ y.cell? ⟨q, o + i * 3 + 1, none⟩ = some (.string (bs x.t)) ∧ y.cell? ⟨q, o + i * 3 + 2, none⟩ = some (.int .i64 x.l) ∧ y.cell? ⟨q', o' + i * 3, none⟩ = some (.int .i64 x.k) ∧ y.cell? ⟨q', o' + i * 3 + 1, none⟩ = some (.string (bs x.t)) ∧ y.cell? ⟨q', o' + i * 3 + 2, none⟩ = some (.int .i64 x.l)) (first | exact zS) (fail)
      clear zS a0 a1 a2 e0 e1 e2
      go_wp2
      go_roundg G
      case measure => omega
      case rel => exact HN.out
    · have hi2 : ¬ ((i : Nat) : Int) < ((l.length : Nat) : Int) := by omega
      have HBW := Lib.hid hbw
      go_wp2
      go_ret
      exact ⟨rfl, HBW.out⟩
set_option maxRecDepth 100000 in
set_option maxHeartbeats 1000000 in
theorem works14_walk (I : World → Prop) (F : LOk I) (w : World) (hw : I w) : Calls Tryd.prog 7 #[] w fun e w' => e = .returned (.bool true) ∧ Below w.heap.size w w' := by
  have h1 := F.split xs14 w (by decide) hw
  have HX := Lib.hid (pg_ok (by decide) ex14)
  have HC1 : bs xs14 = ({ data := #[115, 101, 116, 32, 110, 111, 100, 101, 32, 61, 32, 36, 104, 111, 115, 116, 59, 32, 35, 32, 97, 32, 114, 101, 109, 97, 114, 107] } : ByteArray) := rfl
  rw [HC1] at h1
  have H1 := Lib.hid h1
  clear h1 HC1 F hw
  go_enter Tryd.func7, Tryd.ntmps7
  go_wp2_with fail
  refine H1.out.mono ?_
  rintro e w1 ⟨b1, ao, cap, rfl, hrd⟩
  rw [HX.out.1, HX.out.2.1, HX.out.2.2]
  rw [HX.out.2.2] at hrd
  have hxl : xl14.length = 5 := rfl
  rw [hxl]
  obtain ⟨q, o, rfl, hqs, a0, a1, a2⟩ := hrd.at (i := 0) (by decide)
  obtain ⟨q', o', hq, -, b0, c1, b2⟩ := hrd.at (i := 1) (by decide)
  obtain ⟨rfl, rfl⟩ : q = q' ∧ o = o' := by simpa using hq
  obtain ⟨q', o', hq2, -, d0, d1, d2⟩ := hrd.at (i := 2) (by decide)
  obtain ⟨rfl, rfl⟩ : q = q' ∧ o = o' := by simpa using hq2
  obtain ⟨q', o', hq3, -, e0, e1, e2⟩ := hrd.at (i := 3) (by decide)
  obtain ⟨rfl, rfl⟩ : q = q' ∧ o = o' := by simpa using hq3
  obtain ⟨q', o', hq4, -, f0, f1, f2⟩ := hrd.at (i := 4) (by decide)
  obtain ⟨rfl, rfl⟩ : q = q' ∧ o = o' := by simpa using hq4
  clear hrd hq hq2 hq3 hq4 hxl
  have bA := (Below.refl w1.heap.size w1).alloc (Nat.le_refl _) (.cells #[.int .i64 1, .int .i64 1, .int .i64 5, .int .i64 3, .int .i64 5] 3)
  have hR := rowNew w1 (.cells #[.int .i64 1, .int .i64 1, .int .i64 5, .int .i64 3, .int .i64 5] 3)
  have HBA := Lib.hid (b1.trans (bA.mono b1.size))
  have A0 := (bA.cell (p := ⟨q, o + 0 * 3, none⟩) hqs).trans a0
  have A2 := (bA.cell (p := ⟨q, o + 0 * 3 + 2, none⟩) hqs).trans a2
  have B0 := (bA.cell (p := ⟨q, o + 1 * 3, none⟩) hqs).trans b0
  have B2 := (bA.cell (p := ⟨q, o + 1 * 3 + 2, none⟩) hqs).trans b2
  have D0 := (bA.cell (p := ⟨q, o + 2 * 3, none⟩) hqs).trans d0
  have D2 := (bA.cell (p := ⟨q, o + 2 * 3 + 2, none⟩) hqs).trans d2
  have E0 := (bA.cell (p := ⟨q, o + 3 * 3, none⟩) hqs).trans e0
  have E1 := (bA.cell (p := ⟨q, o + 3 * 3 + 1, none⟩) hqs).trans e1
  have E2 := (bA.cell (p := ⟨q, o + 3 * 3 + 2, none⟩) hqs).trans e2
  have F0 := (bA.cell (p := ⟨q, o + 4 * 3, none⟩) hqs).trans f0
  have F2 := (bA.cell (p := ⟨q, o + 4 * 3 + 2, none⟩) hqs).trans f2
  simp only [show (xl14.getD 0 noT).k = 1 from rfl, show (xl14.getD 0 noT).l = 1 from rfl, show (xl14.getD 1 noT).k = 1 from rfl, show (xl14.getD 1 noT).l = 1 from rfl, show (xl14.getD 2 noT).k = 5 from rfl, show (xl14.getD 2 noT).l = 1 from rfl, show (xl14.getD 3 noT).k = 3 from rfl, show (xl14.getD 3 noT).l = 1 from rfl, show (xl14.getD 3 noT).t = [104, 111, 115, 116] from rfl, show (xl14.getD 4 noT).k = 5 from rfl, show (xl14.getD 4 noT).l = 1 from rfl, Nat.zero_mul, Nat.one_mul, Nat.add_zero, Nat.reduceMul, Nat.add_assoc, Nat.reduceAdd] at A0 A2 B0 B2 D0 D2 E0 E1 E2 F0 F2
  clear a0 a1 a2 b0 c1 b2 d0 d1 d2 e0 e1 e2 f0 f1 f2 bA b1
  have z0 := cellRow hR 0
  have z1 := cellRow hR 1
  have z2 := cellRow hR 2
  have z3 := cellRow hR 3
  have z4 := cellRow hR 4
  have H0 := Lib.hid (show ∃ i : Nat, i + 5 = 5 ∧ (Value.int .i64 (0 : Int)) = .int .i64 (i : Nat) ∧ w1.alloc (.cells #[.int .i64 1, .int .i64 1, .int .i64 5, .int .i64 3, .int .i64 5] 3) = w1.alloc (.cells #[.int .i64 1, .int .i64 1, .int .i64 5, .int .i64 3, .int .i64 5] 3) from ⟨0, by omega, rfl, rfl⟩)
  go_wp2
  go_loopg [20] 5 (fun g v20 wr => ∃ i : Nat, i + g = 5 ∧ v20 = .int .i64 (i : Nat) ∧ wr = w1.alloc (.cells #[.int .i64 1, .int .i64 1, .int .i64 5, .int .i64 3, .int .i64 5] 3))
  case atStart => exact ⟨0, by omega, rfl, rfl⟩
  case round =>
    obtain ⟨i, hig, rfl, rfl⟩ := hrel
    clear H0
    obtain rfl | rfl | rfl | rfl | rfl | rfl : i = 0 ∨ i = 1 ∨ i = 2 ∨ i = 3 ∨ i = 4 ∨ i = 5 := by omega
    rotate_right
    · go_wp2
      go_ret
      exact ⟨rfl, HBA.out⟩
    all_goals
      obtain ⟨G, rfl⟩ : ∃ G, gk = G + 1 := ⟨gk - 1, by omega⟩
      go_wp2
      go_roundg G
      case measure => omega
    · exact ⟨1, by omega, rfl, rfl⟩
    · exact ⟨2, by omega, rfl, rfl⟩
    · exact ⟨3, by omega, rfl, rfl⟩
    · exact ⟨4, by omega, rfl, rfl⟩
    · exact ⟨5, by omega, rfl, rfl⟩
theorem eq_self (n : Nat) : (((n : Nat) : Int) == ((n : Nat) : Int)) = true := by simp
end Go.Proofs.YtkobjbmjefkmgaaDoor
