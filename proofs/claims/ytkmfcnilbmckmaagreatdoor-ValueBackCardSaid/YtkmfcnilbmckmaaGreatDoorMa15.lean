/- Texts on the program and on the document, joined: OidA, Ints. -/
import Derived.Test.YtkmfcnilbmckmaaGreatDoorRows
import Derived.Test.YtkmfcnilbmckmaaGreatDoorMa11
import Derived.Test.YtkmfcnilbmckmaaGreatDoorMa14
import Derived.ProofKit
import Derived.IntWalk
import Derived.Deep.LoopGhost
import Derived.Test.YtkmfcnilbmckmaaGreatDoorMa01
import Derived.BigQuiet
import Derived.Deep.QuietTactic
/- The document's own numbers and texts of arcs, walked. -/
namespace Go.Proofs.YtkmfcnilbmckmaaGreatDoor
open Go.ChangeShapes Go.WideShapes Go.ChangeAt Go.RowKit K O6
set_option linter.unusedVariables false

/-- The state of Number's loop: what is left, and the digits that stand. -/
def NuRel (w : World) (n g : Nat) (v0 v3 : Value) (wr : World) : Prop :=
  ∃ m tl, v0 = .int .i64 (m : Nat) ∧ m < 10 ^ (g + 1) ∧ m ≤ 9223372036854775807 ∧ v3 = .string (bs (b8 (48 + m % 10) :: tl)) ∧ dg (g + 1) m ++ tl = nm n ∧ g + tl.length ≤ 19 ∧ Below w.heap.size w wr
set_option maxRecDepth 100000 in
set_option maxHeartbeats 1000000 in
theorem qnumber_walk (n : Nat) (hn : n ≤ 9223372036854775807) (w : World) :
    Calls Tryz.prog 83 #[.int .i64 n] w fun e w' => e = .returned (.string (bs (nm n))) ∧ Below w.heap.size w w' := by
  have hcv := run_conv_one (P := Tryz.prog) 53 5 9 Tryz.underlying53 Tryz.underlying5 Tryz.underlying9
  have HR0 := Lib.hid (show n < 10 ^ (19 + 1) ∧ dg (19 + 1) n ++ [] = nm n from ⟨by omega, by rw [List.append_nil]; rfl⟩)
  go_enter Tryz.func83, Tryz.ntmps83
  go_wp2
  go_loopg [0, 3] 19 (fun g v0 v3 wr => NuRel w n g v0 v3 wr)
  case atStart =>
    exact ⟨n, [], rfl, HR0.out.1, hn, by simp, HR0.out.2, by simp, (Below.refl _ _).alloc (Nat.le_refl _) _⟩
  case round =>
    clear HR0
    obtain ⟨m, tl, rfl, hm, hm2, rfl, hd, htl, hb⟩ := hrel
    by_cases h10 : m < 10
    · have hfin : b8 (48 + m % 10) :: tl = nm n := by
        rw [dg_small _ m h10] at hd
        rw [← hd, Nat.mod_eq_of_lt h10]; rfl
      have HF := Lib.hid hfin
      clear hd hfin hm
      go_wp2
      go_ret
      rw [← HF.out]
      exact ⟨rfl, hb⟩
    · have h10' : 10 ≤ m := by omega
      rw [dg_big _ m h10'] at hd
      cases gk with
      | zero => simp at hm; omega
      | succ g =>
        have hm3 : m / 10 < 10 ^ (g + 1) := by rw [Nat.pow_succ] at hm; omega
        have HM := Lib.hid hm3
        have HD := Lib.hid hd
        have htl2 : tl.length ≤ 19 := by omega
        clear hd hm hm3 h10
        go_wp2
        go_roundg g
        case measure => omega
        case rel =>
          refine ⟨m / 10, b8 (48 + m % 10) :: tl, by simp, HM.out, by omega, ?_, ?_, by rw [List.length_cons]; omega, hb.alloc hb.size _⟩
          · congr 2
          · rw [← HD.out, List.append_assoc]; rfl

/-- A slice that reads as these numbers. -/
def RdZ (w : World) (ao : Option Addr) (n : Nat) (f : Nat → Int) : Prop :=
  n = 0 ∨ ∃ b off, ao = some ⟨b, off, none⟩ ∧ b < w.heap.size ∧ ∀ i, i < n → w.cell? ⟨b, off + i, none⟩ = some (.int .i64 (f i))
theorem RdZ.below {w w' : World} {ao : Option Addr} {n : Nat} {f : Nat → Int} (h : RdZ w ao n f) (k : Below w.heap.size w w') : RdZ w' ao n f := by
  rcases h with h0 | ⟨b, off, ha, hb, hc⟩
  · exact .inl h0
  · exact .inr ⟨b, off, ha, Nat.lt_of_lt_of_le hb k.size, fun i hi => (k.cell (p := ⟨b, off + i, none⟩) hb).trans (hc i hi)⟩
def inR (x : Int) : Bool := decide (0 ≤ x) && decide (x ≤ 4294967295)
def isZ (n : Nat) (f : Nat → Int) : Bool :=
  decide (2 ≤ n) && (decide (n ≤ 128) && ((List.range n).all (fun i => inR (f i)) && ((decide (f 0 < 2) && decide (f 1 ≤ 39)) || (f 0 == 2 && decide (f 1 ≤ 4294967215)))))
def IsRel (n : Nat) (f : Nat → Int) (w : World) (g : Nat) (v3 : Value) (wr : World) : Prop :=
  ∃ i, i + g = n ∧ v3 = .int .i64 (i : Nat) ∧ (∀ j, j < i → inR (f j) = true) ∧ wr = w
theorem isZ_no {n : Nat} {f : Nat → Int} {i : Nat} (hi : i < n) (h : inR (f i) = false) : isZ n f = false := by
  have : (List.range n).all (fun i => inR (f i)) = false := by
    rw [List.all_eq_false]
    exact ⟨i, List.mem_range.2 hi, by rw [h]; simp⟩
  unfold isZ; rw [this, Bool.false_and, Bool.and_false, Bool.and_false]
set_option maxRecDepth 100000 in
set_option maxHeartbeats 1000000 in
theorem qis_walk (ao : Option Addr) (n cap : Nat) (f : Nat → Int) (hn : n ≤ 140737488351232) (w : World) (h : RdZ w ao n f) :
    Calls Tryz.prog 51 #[.slice ao n cap] w fun e w' => e = .returned (.bool (isZ n f)) ∧ w = w' := by
  by_cases hl : n < 2 ∨ (2 ≤ n ∧ 128 < n)
  · have e : isZ n f = false := by
      unfold isZ
      rcases hl with h1 | ⟨_, h1⟩
      · rw [decide_eq_false (by omega), Bool.false_and]
      · rw [decide_eq_false (by omega : ¬ n ≤ 128), Bool.false_and, Bool.and_false]
    rw [e]
    clear e
    rcases hl with h1 | ⟨h0, h1⟩
    · have h1' : (n : Int) < 2 := by omega
      clear h h1
      go_enter Tryz.func51, Tryz.ntmps51
      go_wp2
      go_ret
      exact ⟨rfl, rfl⟩
    · have h1' : (128 : Int) < n := by omega
      have h0' : (2 : Int) ≤ n := by omega
      clear h h1 h0
      go_enter Tryz.func51, Tryz.ntmps51
      go_wp2
      go_ret
      exact ⟨rfl, rfl⟩
  · have hn2 : 2 ≤ n := by omega
    have hn3 : n ≤ 128 := by omega
    have hn2' : (2 : Int) ≤ n := by omega
    have hn3' : (n : Int) ≤ 128 := by omega
    rcases h with h | ⟨b, off, rfl, hbk, hc⟩
    · omega
    · have HC := Lib.hid hc
      clear hl hc
      go_enter Tryz.func51, Tryz.ntmps51
      go_wp2
      go_loopg [3] n (fun g v3 wr => IsRel n f w g v3 wr)
      case atStart => exact ⟨0, by omega, rfl, fun j hj => by omega, rfl⟩
      case round =>
        obtain ⟨i, hig, rfl, hall, rfl⟩ := hrel
        cases gk with
        | succ g =>
          have hin : i < n := by omega
          have hcell := HC.out i hin
          have HAL := Lib.hid hall
          have HNO := Lib.hid (fun h => @isZ_no n f i hin h)
          clear hall
          have hcs : (0 ≤ f i ∧ f i ≤ 4294967295) ∨ f i ≤ -1 ∨ (0 ≤ f i ∧ 4294967296 ≤ f i) := by omega
          generalize hx : f i = x at *
          have HX := Lib.hid hx
          clear hx
          rcases hcs with ⟨c0, c1⟩ | c0 | ⟨c0, c1⟩
          · go_wp2
            go_roundg g
            case measure => omega
            case rel =>
              refine ⟨i + 1, by omega, by simp, fun j hj => ?_, rfl⟩
              rcases Nat.lt_or_ge j i with h1 | h1
              · exact HAL.out j h1
              · obtain rfl : j = i := by omega
                rw [HX.out]; unfold inR; rw [decide_eq_true c0, decide_eq_true c1]; rfl
          · have HF := Lib.hid (show isZ n f = false from HNO.out (by unfold inR; rw [decide_eq_false (by omega), Bool.false_and]))
            go_wp2
            go_ret
            rw [HF.out]
            exact ⟨rfl, rfl⟩
          · have HF := Lib.hid (show isZ n f = false from HNO.out (by unfold inR; rw [decide_eq_false (by omega : ¬ x ≤ 4294967295), Bool.and_false]))
            go_wp2
            go_ret
            rw [HF.out]
            exact ⟨rfl, rfl⟩
        | zero =>
          obtain rfl : i = n := by omega
          have c0 := HC.out 0 (by omega)
          have c1 := HC.out 1 (by omega)
          rw [Nat.add_zero] at c0
          have hb0 := hall 0 (by omega)
          have hb1 := hall 1 (by omega)
          have e : isZ i f = ((decide (f 0 < 2) && decide (f 1 ≤ 39)) || (f 0 == 2 && decide (f 1 ≤ 4294967215))) := by
            have : (List.range i).all (fun i => inR (f i)) = true := by
              rw [List.all_eq_true]
              intro j hj
              exact hall j (List.mem_range.1 hj)
            unfold isZ; rw [this, decide_eq_true hn2, decide_eq_true hn3]; simp
          have HE := Lib.hid e
          unfold inR at hb0 hb1
          simp only [Bool.and_eq_true, decide_eq_true_eq] at hb0 hb1
          clear e hall hig HC
          generalize f 0 = x at *
          generalize f 1 = y at *
          obtain ⟨x0, x1⟩ := hb0
          obtain ⟨y0, y1⟩ := hb1
          have hcs : (x < 2 ∧ y ≤ 39) ∨ (x < 2 ∧ 39 < y ∧ (x == 2) = false) ∨ (2 ≤ x ∧ (x == 2) = true ∧ y ≤ 4294967215) ∨ (2 ≤ x ∧ (x == 2) = true ∧ 4294967215 < y) ∨ (2 ≤ x ∧ (x == 2) = false) := by
            by_cases a1 : x < 2
            · by_cases a2 : y ≤ 39
              · exact .inl ⟨a1, a2⟩
              · exact .inr (.inl ⟨a1, by omega, by rw [beq_eq_false_iff_ne]; omega⟩)
            · by_cases a3 : x = 2
              · by_cases a2 : y ≤ 4294967215
                · exact .inr (.inr (.inl ⟨by omega, by rw [beq_iff_eq]; exact a3, a2⟩))
                · exact .inr (.inr (.inr (.inl ⟨by omega, by rw [beq_iff_eq]; exact a3, by omega⟩)))
              · exact .inr (.inr (.inr (.inr ⟨by omega, by rw [beq_eq_false_iff_ne]; exact a3⟩)))
          rcases hcs with ⟨d0, d1⟩ | ⟨d0, d1, d2⟩ | ⟨d0, d1, d2⟩ | ⟨d0, d1, d2⟩ | ⟨d0, d1⟩
          · have HF := Lib.hid (show isZ i f = true by rw [HE.out, decide_eq_true d0, decide_eq_true d1]; rfl)
            go_wp2
            go_ret
            rw [HF.out]
            exact ⟨rfl, rfl⟩
          · have HF := Lib.hid (show isZ i f = decide (y ≤ 39) by rw [HE.out, decide_eq_true d0, d2]; simp)
            go_wp2
            go_ret
            rw [HF.out]
            exact ⟨rfl, rfl⟩
          · have HF := Lib.hid (show isZ i f = true by rw [HE.out, decide_eq_false (by omega : ¬ x < 2), d1, decide_eq_true d2]; rfl)
            go_wp2
            go_ret
            rw [HF.out]
            exact ⟨rfl, rfl⟩
          · have HF := Lib.hid (show isZ i f = decide (y ≤ 4294967215) by rw [HE.out, decide_eq_false (by omega : ¬ x < 2), d1]; simp)
            go_wp2
            go_ret
            rw [HF.out]
            exact ⟨rfl, rfl⟩
          · have HF := Lib.hid (show isZ i f = false by rw [HE.out, decide_eq_false (by omega : ¬ x < 2), d1]; rfl)
            go_wp2
            go_ret
            rw [HF.out]
            exact ⟨rfl, rfl⟩
/-- A list of numbers, read so. -/
def fz (cs : List Nat) (i : Nat) : Int := ((cs.getD i 0 : Nat) : Int)
theorem put_snoc (cs : List Nat) (i : Nat) (hi : i < cs.length) (h0 : 0 < i) : put (cs.take (i + 1)) = put (cs.take i) ++ [46] ++ nm (cs.getD i 0) := by
  have hne : cs.take i ≠ [] := by
    intro e
    have := congrArg List.length e
    rw [List.length_take, List.length_nil] at this
    omega
  rw [List.take_succ_eq_append_getElem hi, put_app _ _ [] hne]
  show _ ++ (46 :: nm cs[i]) = _
  simp [List.getD, List.getElem?_eq_getElem hi]
theorem put_first (cs : List Nat) (hi : 0 < cs.length) : put (cs.take 1) = nm (cs.getD 0 0) := by
  cases cs with
  | nil => simp at hi
  | cons a r => rfl
def PuRel (cs : List Nat) (w : World) (g : Nat) (v3 v4 : Value) (wr : World) : Prop :=
  ∃ i, i + g = cs.length ∧ v4 = .int .i64 (i : Nat) ∧ v3 = .string (bs (put (cs.take i))) ∧ (put (cs.take i)).length ≤ 11 * i ∧ Below w.heap.size w wr
set_option maxRecDepth 100000 in
set_option maxHeartbeats 1000000 in
theorem qputs_walk (cs : List Nat) (hcs : ∀ a ∈ cs, a ≤ 4294967295) (hn : cs.length ≤ 2000) (ao : Option Addr) (cap : Nat) (w : World) (h : RdZ w ao cs.length (fz cs)) :
    Calls Tryz.prog 52 #[.slice ao cs.length cap] w fun e w' => e = .returned (.string (bs (put cs))) ∧ Below w.heap.size w w' := by
  have HH := Lib.hid h
  have HCS := Lib.hid hcs
  clear h hcs
  go_enter Tryz.func52, Tryz.ntmps52
  go_wp2
  go_loopg [3, 4] cs.length (fun g v3 v4 wr => PuRel cs w g v3 v4 wr)
  case atStart => exact ⟨0, by omega, rfl, rfl, by simp [put], Below.refl _ _⟩
  case round =>
    obtain ⟨i, hig, rfl, rfl, hpl, hb⟩ := hrel
    cases gk with
    | zero =>
      obtain rfl : i = cs.length := by omega
      have HT := Lib.hid (show put (cs.take cs.length) = put cs by rw [List.take_length])
      clear hig
      go_wp2
      go_ret
      rw [HT.out]
      exact ⟨rfl, hb⟩
    | succ g =>
      have hil : i < cs.length := by omega
      rcases (HH.out).below hb with h0 | ⟨bk, off, rfl, _, hc⟩
      · omega
      · have hcell := hc i hil
        have hle : cs.getD i 0 ≤ 4294967295 := HCS.out _ (by
          rw [List.getD, List.getElem?_eq_getElem hil]; exact List.getElem_mem hil)
        have HN := Lib.hid (fun w1 => qnumber_walk (cs.getD i 0) (by omega) w1)
        have hnl := nm_len (cs.getD i 0) (by omega)
        unfold fz at hcell
        by_cases hi0 : 0 < i
        · have HS := Lib.hid (put_snoc cs i hil hi0)
          clear hc HH
          generalize cs.getD i 0 = c at *
          generalize nm c = X at *
          generalize put (cs.take i) = S at *
          have hlit : bs S ++ ({ data := #[46] } : ByteArray) = bs (S ++ [46]) := bs_append S [46]
          have hsl : (S ++ [46]).length ≤ 30000 := by rw [List.length_append]; simp; omega
          have hnew : (S ++ [46] ++ X).length ≤ 11 * (i + 1) := by rw [List.length_append, List.length_append]; simp; omega
          have hi0' : (0 : Int) < (i : Nat) := by omega
          go_wp2_with fail
          refine (HN.out _).mono ?_
          rintro e w1 ⟨rfl, d⟩
          have hb2 := hb.trans (d.mono hb.size)
          clear d hcell
          go_wp2
          go_roundg g
          case measure => omega
          case rel => exact ⟨i + 1, by omega, by simp, by rw [HS.out]; simp, by rw [HS.out]; exact hnew, hb2⟩
        · obtain rfl : i = 0 := by omega
          rw [Nat.add_zero] at hcell
          have HS := Lib.hid (put_first cs hil)
          have HE := Lib.hid (show put (cs.take 0) = [] from rfl)
          clear hc HH hi0
          generalize cs.getD 0 0 = c at *
          generalize nm c = X at *
          rw [HE.out]
          go_wp2_with fail
          refine (HN.out _).mono ?_
          rintro e w1 ⟨rfl, d⟩
          have hb2 := hb.trans (d.mono hb.size)
          clear d hcell
          go_wp2
          go_roundg g
          case measure => omega
          case rel => exact ⟨0 + 1, by omega, by simp, by first | rw [HS.out] | (rw [HS.out]; simp), by rw [HS.out]; omega, hb2⟩
end Go.Proofs.YtkmfcnilbmckmaaGreatDoor
/- gongbook: SameInts and SpoilInts at lists that the call made itself. -/
namespace Go.Proofs.YtkmfcnilbmckmaaGreatDoor
open Go.ChangeShapes Go.WideShapes Go.ChangeAt Go.RowKit K
set_option linter.unusedVariables false

/-- A slice that reads as these numbers. -/
def RdI (w : World) (v : Value) (cs : List Nat) : Prop :=
  ∃ ao cap, v = .slice ao cs.length cap ∧ (cs.length = 0 ∨ ∃ g, ao = some ⟨g, 0, none⟩ ∧ g < w.heap.size ∧ ∀ i, i < cs.length → w.cell? ⟨g, i, none⟩ = some (.int .i64 ((cs.getD i 0 : Nat) : Int)))
theorem RdI.of {w : World} {B : Nat} {T : TypeId} {v : Value} {cs : List Nat} (h : OwnI w B T v cs) : RdI w v cs := by
  obtain ⟨ao, cap, hv, hc⟩ := h.form
  refine ⟨ao, cap, hv, ?_⟩
  rcases hc with h0 | ⟨g, ha, _, hg, hcell⟩
  · exact .inl h0
  · exact .inr ⟨g, ha, hg, fun i hi => (hcell i hi).1⟩
theorem RdI.below {w w' : World} {v : Value} {cs : List Nat} (h : RdI w v cs) (k : Below w.heap.size w w') : RdI w' v cs := by
  obtain ⟨ao, cap, hv, hc⟩ := h
  refine ⟨ao, cap, hv, ?_⟩
  rcases hc with h0 | ⟨g, ha, hg, hcell⟩
  · exact .inl h0
  · exact .inr ⟨g, ha, Nat.lt_of_lt_of_le hg k.size, fun i hi => (k.cell (p := ⟨g, i, none⟩) hg).trans (hcell i hi)⟩
def SmRel (w : World) (n g : Nat) (v5 v6 : Value) (wr : World) : Prop :=
  ∃ i, i + g = n ∧ v5 = .bool true ∧ v6 = .int .i64 (i : Nat) ∧ ∃ m, wr = w.drewN m
/-- A block of its own, behind B, that has so many cells. -/
def Room (w : World) (B : Nat) (T : TypeId) (ao : Option Addr) (n : Nat) : Prop := n = 0 ∨ ∃ g C, ao = some ⟨g, 0, none⟩ ∧ B ≤ g ∧ w.heap[g]? = some (.cells C T (0, 0)) ∧ n ≤ C.size
theorem Room.of {w : World} {B : Nat} {T : TypeId} {v : Value} {cs : List Nat} (h : OwnI w B T v cs) : ∃ ao cap, v = .slice ao cs.length cap ∧ Room w B T ao cs.length := by
  rcases h.2 with ⟨hv, h0⟩ | ⟨g, cap, cur, hv, hB, hh, hle, hm, hs, ht⟩
  · exact ⟨none, 0, by rw [hv, h0], .inl h0⟩
  · exact ⟨some ⟨g, 0, none⟩, cap, hv, .inr ⟨g, cur, rfl, hB, hh, by omega⟩⟩
def SpRel (w : World) (B : Nat) (T : TypeId) (ao : Option Addr) (n g : Nat) (v2 : Value) (wr : World) : Prop :=
  ∃ i, i + g = n ∧ v2 = .int .i64 (i : Nat) ∧ Room wr B T ao n ∧ Below B w wr
end Go.Proofs.YtkmfcnilbmckmaaGreatDoor
