/- The program's text, walked. -/
import Derived.Test.YtkobjbmjefkmgaaDoorLxqE
import Derived.Test.YtkobjbmjefkmgaaDoorBld
namespace Go.Proofs.YtkobjbmjefkmgaaDoor
open Go.ChangeShapes Go.WideShapes Go.ChangeAt Go.RowKit K L14
set_option linter.unusedVariables false

/-- What stands in quotes, and what stands behind. -/
def tP (s : List UInt8) : Option (List UInt8 × List UInt8) := (L14.text s).map fun y => (y.1, s.drop y.2)
theorem tP_nil : tP [] = none := rfl
theorem tP_end (t : List UInt8) : tP (34 :: t) = some ([], t) := by
  unfold tP L14.text
  simp [txt]
theorem tP_low {c : UInt8} {t : List UInt8} (h : ¬ c = 34) (h2 : c.toNat < 32) : tP (c :: t) = none := by
  unfold tP L14.text
  simp only [List.length_cons, txt, if_neg h, if_pos h2]; rfl
theorem tP_esc (t : List UInt8) : tP (92 :: t) = match escP t with | none => none | some (b, r) => (tP r).map fun y => (b :: y.1, y.2) := by
  unfold tP L14.text escP
  simp only [List.length_cons, txt]
  rw [if_neg (by decide), if_neg (by decide), if_pos trivial]
  cases he : esc t with
  | none => rfl
  | some y =>
    obtain ⟨b, n⟩ := y
    have hn := esc_n he
    simp only [Option.map_some]
    rw [txt_more (t.length + 1) ((t.drop n).length + 1) (t.drop n) (by rw [List.length_drop]; omega) (by omega)]
    cases hx : txt ((t.drop n).length + 1) (t.drop n) with
    | none => rfl
    | some z =>
      simp only [Option.map_some]
      rw [show z.2 + 1 + n = (n + z.2) + 1 by omega, List.drop_succ_cons, ← List.drop_drop]
theorem tP_go {c : UInt8} {t : List UInt8} (h : ¬ c = 34) (h2 : ¬ c.toNat < 32) (h3 : ¬ c = 92) : tP (c :: t) = (tP t).map fun y => (c :: y.1, y.2) := by
  unfold tP L14.text
  simp only [List.length_cons, txt, if_neg h, if_neg h2, if_neg h3]
  cases hx : txt (t.length + 1) t with
  | none => rfl
  | some z => simp
/-- A text that is read, as a token. -/
def txP (s : List UInt8) : Option ((Nat × List UInt8) × List UInt8) := (tP s).map fun y => ((4, y.1), y.2)
theorem Bld.newL (w : World) : Bld w.heap.size w.heap.size [] (w.alloc (.cells #[.pointer none, .slice none 0 0] 58)) :=
  .inl ⟨Nat.le_refl _, _, rowNew w _, World.ownsRow_nil _ _ _ _, by simp [Value.ownBlock]⟩
/-- The rounds. -/
def LtRel (s : List UInt8) (B : Nat) (W : World) (g : Nat) (v0 v4 : Value) (wr : World) : Prop :=
  ∃ r o q, r.length ≤ g ∧ o.length + r.length ≤ s.length ∧ v0 = .string (bs r) ∧ v4 = .bool q ∧ tP s = (tP r).map (fun y => (o ++ y.1, y.2)) ∧ Bld B B o wr ∧ Below B W wr
theorem txP_none {s r o : List UInt8} (h : tP s = (tP r).map fun y => (o ++ y.1, y.2)) (hr : tP r = none) : txP s = none := by
  unfold txP; rw [h, hr]; rfl
theorem txP_end {s r o : List UInt8} (h : tP s = (tP (34 :: r)).map fun y => (o ++ y.1, y.2)) : txP s = some ((4, o), r) := by
  unfold txP; rw [h, tP_end]; simp
theorem tx_more {s r o t : List UInt8} {b : UInt8} (h : tP s = (tP r).map fun y => (o ++ y.1, y.2)) (hr : tP r = (tP t).map fun y => (b :: y.1, y.2)) : tP s = (tP t).map fun y => ((o ++ [b]) ++ y.1, y.2) := by
  rw [h, hr]
  cases tP t <;> simp
theorem escP_len {t r : List UInt8} {b : UInt8} (h : escP t = some (b, r)) : r.length + 1 ≤ t.length := by
  unfold escP at h
  obtain ⟨y, hy, h⟩ := Option.map_eq_some_iff.1 h
  obtain ⟨c, n⟩ := y
  have := esc_n hy
  injection h with _ h
  subst h
  simp only [List.length_drop]; omega
set_option maxRecDepth 100000 in
set_option maxHeartbeats 2000000 in
theorem ltext_walk (s : List UInt8) (hs : s.length ≤ 140737488351232) (w : World) (T : LxI w) : Calls Tryd.prog 42 #[.string (bs s)] w (TkPost (txP s) w) := by
  have hW1 : ∃ W1, W1 = w.alloc (.cells #[.int .i64 0, .string { data := #[] }, .int .i64 0] 33) := ⟨_, rfl⟩
  have hbf := Bld.newL (w.alloc (.cells #[.int .i64 0, .string { data := #[] }, .int .i64 0] 33))
  have hba : Below (w.alloc (.cells #[.int .i64 0, .string { data := #[] }, .int .i64 0] 33)).heap.size (w.alloc (.cells #[.int .i64 0, .string { data := #[] }, .int .i64 0] 33)) ((w.alloc (.cells #[.int .i64 0, .string { data := #[] }, .int .i64 0] 33)).alloc (.cells #[.pointer none, .slice none 0 0] 58)) := (Below.refl _ _).alloc (Nat.le_refl _) _
  have H0 := Lib.hid (show LtRel s (w.heap.size + 1) (w.alloc (.cells #[.int .i64 0, .string { data := #[] }, .int .i64 0] 33)) s.length (.string (bs s)) (.bool false) ((w.alloc (.cells #[.int .i64 0, .string { data := #[] }, .int .i64 0] 33)).alloc (.cells #[.pointer none, .slice none 0 0] 58)) from
    ⟨s, [], false, Nat.le_refl _, by simp, rfl, rfl, by cases tP s <;> simp, by simpa using hbf, by simpa using hba⟩)
  clear hbf hba hW1
  have HT := Lib.hid T
  clear T
  go_enter Tryd.func42, Tryd.ntmps42
  go_wp2
  go_loopg [0, 4] s.length (fun g v0 v4 wr => LtRel s (w.heap.size + 1) (w.alloc (.cells #[.int .i64 0, .string { data := #[] }, .int .i64 0] 33)) g v0 v4 wr)
  case atStart => exact H0.out
  case round =>
    obtain ⟨r, o, q, hrg, hol, rfl, rfl, htp, hB, hb⟩ := hrel
    clear H0
    have hbs : w.heap.size + 1 ≤ wr.heap.size := by have := hb.size; simpa using this
    have hbw : Below w.heap.size w wr := ((Below.refl w.heap.size w).alloc (Nat.le_refl _) (.cells #[.int .i64 0, .string { data := #[] }, .int .i64 0] 33)).trans (hb.mono (Nat.le_succ _))
    have hQ : wr.heap[w.heap.size]? = some (.cells #[.int .i64 0, .string { data := #[] }, .int .i64 0] 33 (0, 0)) := (hb.block w.heap.size (Nat.lt_succ_self _)).trans (rowNew w _)
    have z0 := cellRow hQ 0
    have z1 := cellRow hQ 1
    have z2 := cellRow hQ 2
    have f0 := freeRow hQ 0
    have f1 := freeRow hQ 1
    have f2 := freeRow hQ 2
    have HQ := Lib.hid hQ
    have HB := Lib.hid hB
    have HBB := Lib.hid hb
    have HBW := Lib.hid hbw
    have HTP := Lib.hid htp
    clear hQ hB hb hbw htp
    cases r with
    | nil =>
      have HX := Lib.hid (txP_none HTP.out tP_nil)
      go_wp2
      refine bodyPost_ret (results_cell_row3x rfl _ _ w.heap.size _ _ _ _ rfl (three_sets HQ.out _ _ _) Tryd.underlying33 rfl (by kernel_rfl)) rfl ?_
      unfold TkPost
      rw [HX.out]
      exact ⟨rfl, below3 HBW.out (Nat.le_refl _) _ _ _⟩
    | cons c t =>
      have hby : byt (c :: t) 0 = c.toNat := rfl
      have hne : (c :: t).isEmpty = false := rfl
      have hpos : 0 < (c :: t).length := by simp
      have hpos1 : 1 ≤ (c :: t).length := by simp
      have HDR := Lib.hid (show (c :: t).tail = t from rfl)
      have hlen : (c :: t).length = t.length + 1 := rfl
      have hol2 : o.length + 1 ≤ 140737488351232 := by omega
      have hget : (c :: t).getD 0 0 = c := rfl
      have hc256 := c.toNat_lt
      by_cases c1 : c = 34
      · have HX := Lib.hid (txP_end (r := t) (by rw [← c1]; exact HTP.out))
        have hb : byt (c :: t) 0 = 34 := by rw [hby, c1]; rfl
        have HS := Lib.hid (bstr _ _ _ _ HB.out hbs)
        clear c1 hby hget hlen hrg hol
        generalize c :: t = S at *
        go_wp2_with fail
        refine HS.out.mono ?_
        rintro e w1 ⟨rfl, b1⟩
        have HQ1 := Lib.hid ((b1.block w.heap.size (Nat.lt_succ_self _)).trans HQ.out)
        have y0 := cellRow HQ1.out 0
        have y1 := cellRow HQ1.out 1
        have y2 := cellRow HQ1.out 2
        have g0 := freeRow HQ1.out 0
        have g1 := freeRow HQ1.out 1
        have g2 := freeRow HQ1.out 2
        have HB1 := Lib.hid (HBW.out.trans (b1.mono (Nat.le_succ _)))
        clear b1 z0 z1 z2 f0 f1 f2
        go_wp2
        refine bodyPost_ret (results_cell_row3x rfl _ _ w.heap.size _ _ _ _ rfl (three_sets HQ1.out _ _ _) Tryd.underlying33 rfl (by kernel_rfl)) rfl ?_
        unfold TkPost
        rw [HX.out, ← HDR.out]
        exact ⟨rfl, below3 HB1.out (Nat.le_refl _) _ _ _⟩
      have e1 : (((byt (c :: t) 0 : Nat) : Int) == 34) = false := by rw [hby]; exact byte_ne (n := 34) (by decide) c1
      by_cases c2 : c.toNat < 32
      · have HX := Lib.hid (txP_none HTP.out (tP_low c1 c2))
        have e2 : ((byt (c :: t) 0 : Nat) : Int) < 32 := by rw [hby]; omega
        clear c1 c2 hby hget hlen hrg hol
        generalize c :: t = S at *
        go_wp2
        refine bodyPost_ret (results_cell_row3x rfl _ _ w.heap.size _ _ _ _ rfl (three_sets HQ.out _ _ _) Tryd.underlying33 rfl (by kernel_rfl)) rfl ?_
        unfold TkPost
        rw [HX.out]
        exact ⟨rfl, below3 HBW.out (Nat.le_refl _) _ _ _⟩
      have e2 : ¬ ((byt (c :: t) 0 : Nat) : Int) < 32 := by rw [hby]; omega
      obtain ⟨G, rfl⟩ : ∃ G, gk = G + 1 := ⟨gk - 1, by omega⟩
      by_cases c3 : c = 92
      · have hb : byt (c :: t) 0 = 92 := by rw [hby, c3]; rfl
        have hTE := tP_esc t
        rw [← c3] at hTE
        have hEW := escaped_walk14 t (by omega) wr (HT.out.below HBW.out)
        unfold HbPost at hEW
        cases hx : escP t with
        | none =>
          rw [hx] at hTE hEW
          have HX := Lib.hid (txP_none HTP.out hTE)
          have HE := Lib.hid hEW
          clear c1 c2 c3 hby hget hlen hrg hol hTE hEW hx e1 e2
          generalize c :: t = S at *
          go_wp2_with fail
          rw [HDR.out]
          refine HE.out.mono ?_
          rintro e w1 ⟨rfl, b1⟩
          have HQ1 := Lib.hid ((b1.block w.heap.size (by omega)).trans HQ.out)
          have y0 := cellRow HQ1.out 0
          have y1 := cellRow HQ1.out 1
          have y2 := cellRow HQ1.out 2
          have g0 := freeRow HQ1.out 0
          have g1 := freeRow HQ1.out 1
          have g2 := freeRow HQ1.out 2
          have HB1 := Lib.hid (HBW.out.trans (b1.mono (by omega)))
          clear b1 z0 z1 z2 f0 f1 f2
          go_wp2
          refine bodyPost_ret (results_cell_row3x rfl _ _ w.heap.size _ _ _ _ rfl (three_sets HQ1.out _ _ _) Tryd.underlying33 rfl (by kernel_rfl)) rfl ?_
          unfold TkPost
          rw [HX.out]
          exact ⟨rfl, below3 HB1.out (Nat.le_refl _) _ _ _⟩
        | some y =>
          obtain ⟨b, r2⟩ := y
          have hr2 := escP_len hx
          rw [hx] at hTE hEW
          have HTN := Lib.hid (tx_more HTP.out hTE)
          have HE := Lib.hid hEW
          have HN := Lib.hid (show r2.length ≤ G ∧ (o ++ [b]).length + r2.length ≤ s.length by simp at hrg hol ⊢; omega)
          clear c1 c2 c3 hby hget hlen hrg hol hTE hEW hx e1 e2 hr2
          generalize c :: t = S at *
          go_wp2_with fail
          rw [HDR.out]
          refine HE.out.mono ?_
          rintro e w1 ⟨rfl, b1⟩
          have HBD := Lib.hid (bld_below HB.out b1)
          have HB1 := Lib.hid (HBB.out.trans (b1.mono hbs))
          have hw1 : w.heap.size + 1 ≤ w1.heap.size := Nat.le_trans hbs b1.size
          clear b1 z0 z1 z2 f0 f1 f2
          go_wp2_with fail
          refine (wbyte _ _ o b _ HBD.out (by omega) hw1).mono ?_
          rintro e w2 ⟨rfl, hB2, b2⟩
          have HX := Lib.hid (show LtRel s (w.heap.size + 1) (w.alloc (.cells #[.int .i64 0, .string { data := #[] }, .int .i64 0] 33)) G (.string (bs r2)) (.bool true) w2 from ⟨r2, o ++ [b], true, HN.out.1, HN.out.2, rfl, rfl, HTN.out, hB2, HB1.out.trans b2⟩)
          clear hB2 b2
          go_wp2
          go_roundg G
          case measure => omega
          case rel => exact HX.out
      · have e3 : (((byt (c :: t) 0 : Nat) : Int) == 92) = false := by rw [hby]; exact byte_ne (n := 92) (by decide) c3
        have HTN := Lib.hid (tx_more HTP.out (tP_go c1 c2 c3))
        have HN := Lib.hid (show t.length ≤ G ∧ (o ++ [c]).length + t.length ≤ s.length by simp at hrg hol ⊢; omega)
        have HWB := wbyte _ _ o c _ HB.out (by omega) hbs
        rw [← hby] at HWB
        have HW := Lib.hid HWB
        clear c1 c2 c3 hby hget hlen hrg hol HWB
        generalize c :: t = S at *
        go_wp2_with fail
        refine HW.out.mono ?_
        rintro e w2 ⟨rfl, hB2, b2⟩
        have HX := Lib.hid (show LtRel s (w.heap.size + 1) (w.alloc (.cells #[.int .i64 0, .string { data := #[] }, .int .i64 0] 33)) G (.string (bs S.tail)) (.bool q) w2 from ⟨t, o ++ [c], q, HN.out.1, HN.out.2, by rw [HDR.out], rfl, HTN.out, hB2, HBB.out.trans b2⟩)
        clear hB2 b2
        go_wp2
        go_roundg G
        case measure => omega
        case rel => exact HX.out
end Go.Proofs.YtkobjbmjefkmgaaDoor
