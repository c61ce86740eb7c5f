/- Texts on the program and on the document, joined: SyqB. -/
import Derived.Test.YtonippapkmmkeaaDoorShelf
import Derived.Test.YtonippapkmmkeaaDoorMa04
import Derived.Test.YtonippapkmmkeaaDoorMa07
import Derived.Laws.RangeString
import Derived.Lib.IndexMore
import Derived.Lib.IndexAny
/- The program's reader of messages, walked: word, must, small, priority, fractionLong, time, name. -/
namespace Go.Proofs.YtonippapkmmkeaaDoor
open Go.ChangeShapes Go.WideShapes Go.ChangeAt Go.RowKit K
set_option linter.unusedVariables false

/-- The library's variable that a search in a text looks at. -/
def MxL (w : World) : Prop := ∃ m, w.cell? ⟨3, 0, none⟩ = some (.int .i64 m)
theorem MxL.below {w w' : World} (h : MxL w) (k : Below w.heap.size w w') : MxL w' := by
  obtain ⟨m, h⟩ := h
  exact ⟨m, (k.cell (World.block_lt_of_cell? w _ h)).trans h⟩
/-- A reader in block b: what is left, and whether something is wrong. -/
def RY (w : World) (b : Nat) (s : List UInt8) (g : Bool) : Prop := w.heap[b]? = some (.cells #[.string (bs s), .bool g] 40 (0, 0))
theorem RY.cells {w : World} {b : Nat} {s : List UInt8} {g : Bool} (h : RY w b s g) :
    w.cell? ⟨b, 0, none⟩ = some (.string (bs s)) ∧ w.cell? ⟨b, 1, none⟩ = some (.bool g) ∧ w.frozen? ⟨b, 0, none⟩ = false ∧ w.frozen? ⟨b, 1, none⟩ = false :=
  ⟨cellRow h 0, cellRow h 1, freeRow h 0, freeRow h 1⟩
theorem RY.set0 {w : World} {b : Nat} {s : List UInt8} {g : Bool} (h : RY w b s g) (t : List UInt8) : RY (w.setCell ⟨b, 0, none⟩ (.string (bs t))) b t g := by
  have := rowSet h 0 (.string (bs t)); simpa [RY] using this
theorem RY.below {w w' : World} {b : Nat} {s : List UInt8} {g : Bool} (h : RY w b s g) (k : Below w.heap.size w w') : RY w' b s g := (k.block b (lt_of_block h)).trans h
/-- What must, and is. -/
theorem must_walk (b : Nat) (w : World) : Calls Tryd.prog 30 #[.pointer (some ⟨b, 0, none⟩), .bool true] w fun e w' => e = .returned (.tuple #[]) ∧ w = w' := by
  go_enter Tryd.func30, Tryd.ntmps30
  go_wp2
  go_end0
  exact ⟨rfl, rfl⟩
/-- A text cut at the first blank, or point. -/
def CutAt (c : UInt8) (l a r : List UInt8) : Prop := (Lib.cut l [c]).1 = a ∧ (Lib.cut l [c]).2.1 = r
theorem cut_walk11 (c : UInt8) (l a r : List UInt8) (h : CutAt c l a r) (hl : l.length ≤ 100000) (w : World) (hm : MxL w) :
    Calls Tryd.prog 40 #[.string (bs l), .string (bs [c])] w fun e w' => ∃ g n, e = .returned (.tuple #[.string (bs a), .string (bs r), .bool g]) ∧ w' = w.drewN n := by
  obtain ⟨m, hm⟩ := hm
  have hc := Tryd.strings_Cut (bs l) (bs [c]) m w (by rw [bs_size]; omega) hm
  rw [bs_toList, bs_toList, h.1, h.2] at hc
  exact hc.mono fun _ _ ⟨a, n, b⟩ => ⟨_, n, a, b⟩
theorem ysuffix_walk (l u : List UInt8) (hl : l.length ≤ 140737488351232) (w : World) :
    Calls Tryd.prog 28 #[.string (bs l), .string (bs u)] w fun e w' => e = .returned (.tuple #[.string (bs (Lib.trimSuffix l u)), .bool (Lib.hasSuffix l u)]) ∧ w = w' := by
  have h := Tryd.strings_CutSuffix (bs l) (bs u) w (by rw [bs_size]; omega)
  rw [bs_toList, bs_toList] at h
  exact h.mono fun _ _ ⟨a, b⟩ => ⟨a, b.symm⟩
set_option maxRecDepth 100000 in
theorem word_walk (b : Nat) (l a r : List UInt8) (g : Bool) (hc : CutAt 32 l a r) (hl : l.length ≤ 100000) (w : World) (hm : MxL w) (h : RY w b l g) :
    Calls Tryd.prog 27 #[.pointer (some ⟨b, 0, none⟩)] w fun e w' => e = .returned (.string (bs a)) ∧ Kp [b] w w' ∧ RY w' b r g := by
  have HC := Lib.hid (fun w1 (h1 : MxL w1) => cut_walk11 32 l a r hc hl w1 h1)
  obtain ⟨c0, c1, f0, f1⟩ := h.cells
  have H := Lib.hid h
  have HM := Lib.hid hm
  clear h hm hc
  go_enter Tryd.func27, Tryd.ntmps27
  go_wp2_with fail
  refine (HC.out _ HM.out).mono ?_
  rintro e w1 ⟨g1, n, rfl, rfl⟩
  have k1 : Kp [b] w (w.drewN n) := (Kp.refl _ _).drewN n
  have H1 := Lib.hid (show RY (w.drewN n) b l g from H.out)
  have c2 : (w.drewN n).cell? ⟨b, 0, none⟩ = some (.string (bs l)) := c0
  have f2 : (w.drewN n).frozen? ⟨b, 0, none⟩ = false := f0
  clear c0 c1 f0 f1
  generalize w.drewN n = w2 at *
  go_wp2
  go_ret
  exact ⟨rfl, k1.set _ (by simp) _, H1.out.set0 _⟩
set_option maxRecDepth 100000 in
/-- The number of two digits. -/
theorem small_walk11 (w : World) : Calls Tryd.prog 29 #[.string (bs [51, 52])] w fun e w' => e = .returned (.tuple #[.int .i64 34, .bool true]) ∧ w = w' := by
  have hb0 : byt [51, 52] 0 = 51 := rfl
  have hb1 : byt [51, 52] 1 = 52 := rfl
  have hln : ([51, 52] : List UInt8).length = 2 := rfl
  have hne : ([51, 52] : List UInt8).isEmpty = false := rfl
  have hnz : ([51, 52] : List UInt8) ≠ [48] := by decide
  generalize ([51, 52] : List UInt8) = L at *
  go_enter Tryd.func29, Tryd.ntmps29
  go_wp2
  go_loopg [2, 23] 2 (fun g v2 v23 wx => wx = w ∧ ((g = 2 ∧ v2 = .int .i64 0 ∧ v23 = .int .i64 0) ∨ (g = 1 ∧ v2 = .int .i64 3 ∧ v23 = .int .i64 1) ∨ (g = 0 ∧ v2 = .int .i64 34 ∧ v23 = .int .i64 2)))
  case atStart => exact ⟨rfl, .inl ⟨rfl, rfl, rfl⟩⟩
  case round =>
    obtain ⟨rfl, hc⟩ := hrel
    rcases hc with ⟨rfl, rfl, rfl⟩ | ⟨rfl, rfl, rfl⟩ | ⟨rfl, rfl, rfl⟩
    · go_wp2
      go_roundg 1
      case measure => omega
      case rel => exact ⟨rfl, .inr (.inl ⟨rfl, rfl, rfl⟩)⟩
    · go_wp2
      go_roundg 0
      case measure => omega
      case rel => exact ⟨rfl, .inr (.inr ⟨rfl, rfl, rfl⟩)⟩
    · go_wp2
      go_ret2
      exact ⟨rfl, rfl⟩
set_option maxRecDepth 100000 in
/-- The number that the chapter's example begins with. -/
theorem priority_walk (b : Nat) (l r : List UInt8) (hc : CutAt 32 l [60, 51, 52, 62, 49] r) (hl : l.length ≤ 100000) (w : World) (hm : MxL w) (h : RY w b l false) :
    Calls Tryd.prog 15 #[.pointer (some ⟨b, 0, none⟩)] w fun e w' => e = .returned (.int .i64 34) ∧ Kp [b] w w' ∧ RY w' b r false := by
  have HW := Lib.hid (word_walk b l _ r false hc hl w hm h)
  have e1 : Lib.trimPrefix ([60, 51, 52, 62, 49] : List UInt8) [60] = [51, 52, 62, 49] := by decide
  have e2 : Lib.hasPrefix ([60, 51, 52, 62, 49] : List UInt8) [60] = true := by decide
  have e3 : Lib.trimSuffix ([51, 52, 62, 49] : List UInt8) [62, 49] = [51, 52] := by decide
  have e4 : Lib.hasSuffix ([51, 52, 62, 49] : List UInt8) [62, 49] = true := by decide
  have h1 := fun w1 => cutp_walk [60, 51, 52, 62, 49] [60] w1
  have h2 := fun w1 => ysuffix_walk [51, 52, 62, 49] [62, 49] (by decide) w1
  rw [e1, e2] at h1
  rw [e3, e4] at h2
  have H1 := Lib.hid h1
  have H2 := Lib.hid h2
  have H3 := Lib.hid small_walk11
  have H4 := Lib.hid (must_walk b)
  clear h1 h2 e1 e2 e3 e4 hc h hm
  generalize ([60, 51, 52, 62, 49] : List UInt8) = L1 at *
  generalize ([51, 52, 62, 49] : List UInt8) = L2 at *
  generalize ([51, 52] : List UInt8) = L3 at *
  go_enter Tryd.func15, Tryd.ntmps15
  go_wp2_with fail
  refine HW.out.mono ?_
  rintro e w1 ⟨rfl, k1, r1⟩
  go_wp2_with fail
  refine (H1.out _).mono ?_
  rintro e w2 ⟨rfl, rfl⟩
  go_wp2_with fail
  refine (H2.out _).mono ?_
  rintro e w2 ⟨rfl, rfl⟩
  go_wp2_with fail
  refine (H3.out _).mono ?_
  rintro e w2 ⟨rfl, rfl⟩
  go_wp2_with fail
  refine (H4.out _).mono ?_
  rintro e w2 ⟨rfl, rfl⟩
  go_wp2
  go_ret
  exact ⟨rfl, k1, r1⟩
/-- How many digits stand behind the point of the example's stamp. -/
def STL : List UInt8 := [50, 48, 48, 51, 45, 49, 48, 45, 49, 49, 84, 50, 50, 58, 49, 52, 58, 49, 53, 46, 48, 48, 51, 90]
theorem iter_below (w : World) (s : ByteArray) (n : Nat) : Below w.heap.size w (w.iter s n) := (Below.refl _ _).alloc (Nat.le_refl _) _
set_option maxRecDepth 100000 in
theorem fraction_walk (w : World) (hm : MxL w) :
    Calls Tryd.prog 32 #[.string (bs STL)] w fun e w' => e = .returned (.int .i64 3) ∧ Below w.heap.size w w' := by
  have hc : CutAt 46 STL [50, 48, 48, 51, 45, 49, 48, 45, 49, 49, 84, 50, 50, 58, 49, 52, 58, 49, 53] [48, 48, 51, 90] := ⟨by decide +kernel, by decide +kernel⟩
  have HC := Lib.hid (cut_walk11 46 STL _ _ hc (by decide) w hm)
  have h2 := fun w1 => Tryd.strings_IndexAny_short (bs [48, 48, 51, 90]) (bs [90, 43, 45]) w1 (by decide) (by decide) (by
    intro j b hj
    have hm : b ∈ ([48, 48, 51, 90] : List UInt8) := List.mem_of_getElem? hj
    simp at hm
    rcases hm with rfl | rfl | rfl <;> decide)
  rw [bs_toList, bs_toList, show Lib.indexAny [48, 48, 51, 90] [90, 43, 45] = 3 by decide] at h2
  have H2 := Lib.hid h2
  clear h2 hc
  generalize STL = L at *
  generalize ([48, 48, 51, 90] : List UInt8) = L2 at *
  generalize ([50, 48, 48, 51, 45, 49, 48, 45, 49, 49, 84, 50, 50, 58, 49, 52, 58, 49, 53] : List UInt8) = L3 at *
  go_enter Tryd.func32, Tryd.ntmps32
  go_wp2_with fail
  refine HC.out.mono ?_
  rintro e w1 ⟨g1, n, rfl, rfl⟩
  have b1 : Below w.heap.size w (w.drewN n) := Dr.below ⟨n, rfl⟩
  generalize w.drewN n = w2 at *
  go_wp2_with fail
  refine (H2.out _).mono ?_
  rintro e w3 ⟨rfl, p, rfl⟩
  go_wp2
  go_ret
  exact ⟨rfl, b1.trans ((iter_below _ _ _).mono b1.size)⟩
end Go.Proofs.YtonippapkmmkeaaDoor
