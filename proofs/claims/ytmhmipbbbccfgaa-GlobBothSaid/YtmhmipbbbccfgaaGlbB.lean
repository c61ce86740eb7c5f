/- GlobBoth, walked on calls that keep their word. -/
import Derived.Test.YtmhmipbbbccfgaaGlbW
namespace Go.Proofs.Ytmhmipbbbccfgaa
open Go.ChangeShapes Go.WideShapes Go.ChangeAt Go.RowKit K G13
set_option linter.unusedVariables false

/-- Whether a text is cut in two at one of its first n places. -/
def cutR (l k : List Pc) (s : List UInt8) : Nat → Bool
  | 0 => false
  | n + 1 => cutR l k s n || (mt l (s.take n) && mt k (s.drop n))
theorem cutR_iff (l k : List Pc) (s : List UInt8) : ∀ n, cutR l k s n = true ↔ ∃ i, i < n ∧ mt l (s.take i) = true ∧ mt k (s.drop i) = true
  | 0 => ⟨fun h => (by cases h), fun ⟨i, h, _⟩ => (by omega)⟩
  | n + 1 => by
    rw [cutR, Bool.or_eq_true, cutR_iff l k s n, Bool.and_eq_true]
    constructor
    · rintro (⟨i, h1, h2⟩ | h)
      · exact ⟨i, by omega, h2⟩
      · exact ⟨n, by omega, h⟩
    · rintro ⟨i, h1, h2⟩
      rcases Nat.lt_or_ge i n with h | h
      · exact .inl ⟨i, h, h2⟩
      · obtain rfl : i = n := by omega
        exact .inr h2
theorem mt_both (l k : List Pc) (s : List UInt8) : mt (l ++ k) s = cutR l k s (s.length + 1) := by
  rw [Bool.eq_iff_iff, mt_app, cutR_iff]
  exact ⟨fun ⟨i, h, h2⟩ => ⟨i, by omega, h2⟩, fun ⟨i, h, h2⟩ => ⟨i, by omega, h2⟩⟩
theorem eG_both {p q : List UInt8} (hl : p.length + q.length ≤ 256) (hp : eG p = 0) (hq : eG q = 0) : eG (p ++ q) = 0 ∧ lG (p ++ q) = lG p ++ lG q := by
  unfold eG at hp hq
  rw [if_neg (by omega)] at hp hq
  cases h1 : pieces p with
  | none => rw [h1] at hp; cases hp
  | some l =>
    cases h2 : pieces q with
    | none => rw [h2] at hq; cases hq
    | some k =>
      have h := pieces_app h1 h2
      unfold eG lG
      rw [h, h1, h2, if_neg (by rw [List.length_append]; omega)]
      exact ⟨rfl, rfl⟩
def GbRel (l k : List Pc) (s : List UInt8) (w : World) (g : Nat) (v13 v14 : Value) (wr : World) : Prop :=
  ∃ i, i + g = s.length + 1 ∧ .bool (cutR l k s i) = v13 ∧ .int .i64 (i : Nat) = v14 ∧ Below w.heap.size w wr
set_option maxRecDepth 100000 in
set_option maxHeartbeats 1000000 in
theorem globBoth_walk (I : World → Prop) (PR : World → Nat → List UInt8 → Prop) (F : GOk I PR) (p q s : List UInt8) (hp : p.length ≤ 140737488351232) (hq : q.length ≤ 140737488351232) (hs : s.length ≤ 140737488351232) (w : World) (hw : I w) :
    Calls Try.prog 5 #[.string (bs p), .string (bs q), .string (bs s)] w fun e w' => e = .returned (.bool true) ∧ Below w.heap.size w w' := by
  have HW := Lib.hid (works13_walk I PR F w hw)
  have HI := Lib.hid (fun wx (b : Below w.heap.size w wx) => F.keepI w wx hw b)
  have HF := Lib.hid F
  clear F
  have hsum : IntKind.i64.wrap (((p.length : Nat) : Int) + ((q.length : Nat) : Int)) = ((p.length : Nat) : Int) + ((q.length : Nat) : Int) := IntWalk.i64_in _ (by omega)
  by_cases h1 : 100 < s.length
  · have e1 : (100 : Int) < ((s.length : Nat) : Int) := by omega
    clear h1
    go_enter Try.func5, Try.ntmps5
    go_wp2_with fail
    refine HW.out.mono ?_
    rintro e w1 ⟨rfl, b1⟩
    go_wp2
    go_ret
    exact ⟨rfl, b1⟩
  have e1 : ¬ (100 : Int) < ((s.length : Nat) : Int) := by omega
  by_cases h2 : 256 < p.length + q.length
  · have e2 : (256 : Int) < ((p.length : Nat) : Int) + ((q.length : Nat) : Int) := by omega
    clear h1 h2
    go_enter Try.func5, Try.ntmps5
    go_wp2_with fail
    refine HW.out.mono ?_
    rintro e w1 ⟨rfl, b1⟩
    go_wp2
    go_ret
    exact ⟨rfl, b1⟩
  have e2 : ¬ (256 : Int) < ((p.length : Nat) : Int) + ((q.length : Nat) : Int) := by omega
  have h2' : p.length + q.length ≤ 256 := by omega
  have HP := Lib.hid (fun wx (b : Below w.heap.size w wx) => HF.out.parse p wx (by omega) (HI.out wx b))
  have HQ := Lib.hid (fun wx (b : Below w.heap.size w wx) => HF.out.parse q wx (by omega) (HI.out wx b))
  have hR := fun wx (b : Below w.heap.size w wx) => HF.out.parse (p ++ q) wx (by rw [List.length_append]; omega) (HI.out wx b)
  by_cases hpe : eG p ≠ 0
  · have e3 : ¬ ((eG p : Nat) : Int) = 0 := by omega
    have hqq : eG q = 0 ∨ eG q ≠ 0 := by omega
    clear hR h1 h2 h2'
    go_enter Try.func5, Try.ntmps5
    go_wp2_with fail
    refine HW.out.mono ?_
    rintro e w1 ⟨rfl, b1⟩
    go_wp2_with fail
    refine (HP.out _ b1).mono ?_
    rintro e w2 ⟨d2, (⟨h, -⟩ | ⟨-, rfl⟩)⟩
    · exact absurd h hpe
    have b2 := b1.trans (d2.mono b1.size)
    clear d2
    go_wp2_with fail
    refine (HQ.out _ b2).mono ?_
    rintro e w3 ⟨d3, (⟨-, bq, rfl, h3⟩ | ⟨-, rfl⟩)⟩
    · have b3 := b2.trans (d3.mono b2.size)
      clear d3 h3
      go_wp2
      go_ret
      exact ⟨rfl, b3⟩
    · have b3 := b2.trans (d3.mono b2.size)
      clear d3
      go_wp2
      go_ret
      exact ⟨rfl, b3⟩
  have hp0 : eG p = 0 := by omega
  by_cases hqe : eG q ≠ 0
  · have e3 : ¬ ((eG q : Nat) : Int) = 0 := by omega
    clear hR h1 h2 h2'
    go_enter Try.func5, Try.ntmps5
    go_wp2_with fail
    refine HW.out.mono ?_
    rintro e w1 ⟨rfl, b1⟩
    go_wp2_with fail
    refine (HP.out _ b1).mono ?_
    rintro e w2 ⟨d2, (⟨-, bp, rfl, h3⟩ | ⟨h, -⟩)⟩
    rotate_left
    · exact absurd hp0 h
    have b2 := b1.trans (d2.mono b1.size)
    clear d2 h3
    go_wp2_with fail
    refine (HQ.out _ b2).mono ?_
    rintro e w3 ⟨d3, (⟨h, -⟩ | ⟨-, rfl⟩)⟩
    · exact absurd h hqe
    have b3 := b2.trans (d3.mono b2.size)
    clear d3
    go_wp2
    go_ret
    exact ⟨rfl, b3⟩
  have hq0 : eG q = 0 := by omega
  obtain ⟨hr0, hrl⟩ := eG_both h2' hp0 hq0
  have HM := Lib.hid (mt_both (lG p) (lG q) s)
  rw [← hrl] at HM
  have HR := Lib.hid hR
  have HZ := Lib.hid (And.intro hp0 (And.intro hq0 hr0))
  have HMA := Lib.hid (fun wx (b : Below w.heap.size w wx) ba (h : PR wx ba p) i => HF.out.matches2 wx ba p (s.take i) (HI.out wx b) h (by rw [List.length_take]; omega))
  have HMB := Lib.hid (fun wx (b : Below w.heap.size w wx) ba (h : PR wx ba q) i => HF.out.matches2 wx ba q (s.drop i) (HI.out wx b) h (by rw [List.length_drop]; omega))
  have HMC := Lib.hid (fun wx (b : Below w.heap.size w wx) ba (h : PR wx ba (p ++ q)) => HF.out.matches2 wx ba (p ++ q) s (HI.out wx b) h (by omega))
  have hs1 : s.length ≤ 100 := by omega
  clear hR h1 h2 h2' hpe hqe hp0 hq0 hr0 hrl
  go_enter Try.func5, Try.ntmps5
  go_wp2_with fail
  refine HW.out.mono ?_
  rintro e w1 ⟨rfl, b1⟩
  go_wp2_with fail
  refine (HP.out _ b1).mono ?_
  rintro e w2 ⟨d2, (⟨-, bp, rfl, ha⟩ | ⟨h, -⟩)⟩
  rotate_left
  · exact absurd HZ.out.1 h
  have b2 := b1.trans (d2.mono b1.size)
  clear d2
  go_wp2_with fail
  refine (HQ.out _ b2).mono ?_
  rintro e w3 ⟨d3, (⟨-, bq, rfl, hb⟩ | ⟨h, -⟩)⟩
  rotate_left
  · exact absurd HZ.out.2.1 h
  have ha := HF.out.keep ha d3
  have b3 := b2.trans (d3.mono b2.size)
  clear d3
  go_wp2_with fail
  refine (HR.out _ b3).mono ?_
  rintro e w4 ⟨d4, (⟨-, br, rfl, hc⟩ | ⟨h, -⟩)⟩
  rotate_left
  · exact absurd HZ.out.2.2 h
  have HA := Lib.hid (HF.out.keep ha d4)
  have HB := Lib.hid (HF.out.keep hb d4)
  have HC := Lib.hid hc
  have b4 := b3.trans (d4.mono b3.size)
  clear d4 ha hb hc
  go_wp2_with fail
  go_loopg [13, 14] (s.length + 1) (fun g v13 v14 wr => GbRel (lG p) (lG q) s w4 g v13 v14 wr)
  case atStart => exact ⟨0, by omega, rfl, rfl, Below.refl _ _⟩
  case round =>
    obtain ⟨i, hg, rfl, rfl, h4⟩ := hrel
    have bb := b4.trans (h4.mono b4.size)
    by_cases hil : s.length < i
    · obtain rfl : i = s.length + 1 := by omega
      have e4 : ¬ (((s.length + 1 : Nat)) : Int) ≤ ((s.length : Nat) : Int) := by omega
      have HX := Lib.hid (HMC.out wr bb br (HF.out.keep HC.out h4))
      have HM2 := Lib.hid HM.out
      generalize cutR (lG p) (lG q) s (s.length + 1) = V at *
      clear h4 hil
      go_wp2_with fail
      refine HX.out.mono ?_
      rintro e w5 ⟨rfl, d5⟩
      have b5 := bb.trans (d5.mono bb.size)
      have hv := HM2.out
      rw [hv]
      cases V
      · go_wp2
        go_ret
        exact ⟨rfl, b5⟩
      · go_wp2
        go_ret
        exact ⟨rfl, b5⟩
    obtain ⟨g, rfl⟩ : ∃ g, gk = g + 1 := ⟨gk - 1, by omega⟩
    have e4 : ((i : Nat) : Int) ≤ ((s.length : Nat) : Int) := by omega
    have HX := Lib.hid (HMA.out wr bb bp (HF.out.keep HA.out h4) i)
    have HY := Lib.hid (fun wx (h : Below w4.heap.size w4 wx) => HMB.out wx (b4.trans (h.mono b4.size)) bq (HF.out.keep HB.out h) i)
    have HS := Lib.hid (show cutR (lG p) (lG q) s (i + 1) = (cutR (lG p) (lG q) s i || (mt (lG p) (s.take i) && mt (lG q) (s.drop i))) from rfl)
    have H4 := Lib.hid h4
    generalize cutR (lG p) (lG q) s i = V at *
    generalize mt (lG p) (s.take i) = X at *
    generalize mt (lG q) (s.drop i) = Y at *
    clear h4 bb
    cases V
    · go_wp2_with fail
      refine HX.out.mono ?_
      rintro e w5 ⟨rfl, d5⟩
      have H5 := Lib.hid (H4.out.trans (d5.mono H4.out.size))
      clear d5
      cases X
      · go_wp2
        go_roundg g
        case measure => omega
        case rel => exact ⟨i + 1, by omega, by rw [HS.out]; rfl, by simp, H5.out⟩
      · go_wp2_with fail
        refine (HY.out _ H5.out).mono ?_
        rintro e w6 ⟨rfl, d6⟩
        have H6 := Lib.hid (H5.out.trans (d6.mono H5.out.size))
        clear d6
        go_wp2
        go_roundg g
        case measure => omega
        case rel => exact ⟨i + 1, by omega, by rw [HS.out]; simp, by simp, H6.out⟩
    · go_wp2
      go_roundg g
      case measure => omega
      case rel => exact ⟨i + 1, by omega, by rw [HS.out]; rfl, by simp, H4.out⟩
end Go.Proofs.Ytmhmipbbbccfgaa
