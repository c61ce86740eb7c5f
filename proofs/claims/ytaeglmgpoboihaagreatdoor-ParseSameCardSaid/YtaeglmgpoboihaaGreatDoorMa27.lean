/- Texts on the program and on the document, joined: Bld, LxqF, LxqG. -/
import Derived.Test.YtaeglmgpoboihaaGreatDoorMa26
import Derived.Test.YtaeglmgpoboihaaGreatDoorMa04
/- strings.Builder's WriteByte, walked at this translation. -/
namespace Go.Proofs.YtaeglmgpoboihaaGreatDoor
open Go.ChangeShapes Go.WideShapes Go.ChangeAt Go.RowKit K
set_option linter.unusedVariables false

set_option maxHeartbeats 2000000 in
set_option maxRecDepth 100000 in
theorem wbyte (B b : Nat) (l : List UInt8) (c : UInt8) (w : World) (h : Bld B b l w) (hlen : l.length + 1 ≤ 140737488355328) (hBw : B ≤ w.heap.size) :
    Calls Tryz.prog 72 #[.pointer (some ⟨b, 0, none⟩), .int .u8 (c.toNat : Nat)] w fun e w' => e = .returned .nilIface ∧ (Bld B b (l ++ [c]) w' ∧ Below B w w') := by
  unfold Bld at h
  have hlc := cells_len l
  obtain ⟨i0, hi, hz0, hz1, hz2⟩ := info_parts info_u
  have hcells : Lib.byteCells (l ++ [c]) = Lib.byteCells l ++ [.int .u8 (c.toNat : Nat)] := by rw [cells_app]; rfl
  have HCL := Lib.hid hcells
  have HB := Lib.hid (show ∀ w', Bld B b (l ++ [c]) w' = Lib.IsBuilder 121 5 B b (Lib.byteCells (l ++ [c])) w' from fun _ => rfl)
  generalize Lib.byteCells l = cs at *
  have hl2 : cs.length + 1 ≤ 140737488355328 := by omega
  clear hcells hlc
  generalize Lib.byteCells (l ++ [c]) = ds at *
  have hc0 : (0 : Int) ≤ (c.toNat : Nat) := by omega
  generalize ((c.toNat : Nat) : Int) = z at *
  go_enter Tryz.func72, Tryz.ntmps72
  go_wp2_with (go_at_call 88; refine (check_any B b cs _ h).mono ?_)
  rintro e w1 ⟨rfl, h1, hb1, -⟩
  obtain ⟨hB, v, hbk, hown, hne⟩ := h1
  have c0 : w1.cell? ⟨b, 0, none⟩ = some (.pointer (some ⟨b, 0, none⟩)) := by rw [Lib.cell_of_heap hbk]; rfl
  have c1 : w1.cell? ⟨b, 1, none⟩ = some v := by rw [Lib.cell_of_heap hbk]; rfl
  go_wp2_with (at_builtin; refine wpList_append_own _ rfl _ _ 119 rfl B 5 i0 (.int .u8 0) 1 1 Tryz.underlying119 hi hz0 hz1 hz2 rfl (by decide) _ _ _ rfl (hown.alloc _) ⟨w1.heap.size, 0, none⟩ 1 1 [.int .u8 z] rfl rfl ?c1 ?c2 ?c3 ?c4 ?c5 ?_)
  case c1 =>
    intro j u hj
    match j, hj with
    | 0, hj => simp at hj; subst hj; simp [Addr.add]
  case c2 => intro u hu; simp at hu; subst hu; rfl
  case c3 => unfold maxLen; omega
  case c4 => omega
  case c5 => have := hb1.size; simp; omega
  intro v' w2 hown' hgrow _
  have hlt : b < w1.heap.size := lt_of_block hbk
  have hb2 : w2.heap[b]? = some (.cells #[.pointer (some ⟨b, 0, none⟩), v] 121 (0, 0)) := by
    rw [hgrow.block b (by simp; omega) (fun e => hne e.symm), Lib.alloc_old w1 _ b hlt]
    exact hbk
  have d0 : w2.cell? ⟨b, 0, none⟩ = some (.pointer (some ⟨b, 0, none⟩)) := by rw [Lib.cell_of_heap hb2]; rfl
  have d1 : w2.cell? ⟨b, 1, none⟩ = some v := by rw [Lib.cell_of_heap hb2]; rfl
  have f1 : w2.frozen? ⟨b, 1, none⟩ = false := Lib.frozen_of_heap hb2 1
  obtain ⟨g, cap, rfl⟩ : ∃ g cap, v' = .slice (some ⟨g, 0, none⟩) (cs.length + 1) cap := by
    rcases hown'.2 with ⟨_, h0⟩ | ⟨g, cap, cur, hv, _⟩
    · omega
    · exact ⟨g, cap, hv⟩
  go_wp2
  go_ret
  refine ⟨rfl, ?_, ?_⟩
  · rw [HB.out, HCL.out]
    exact .inr (Lib.BuilderAt.put (T := 121) (e := 5) hB hb2 (bs' := cs ++ [.int .u8 z]) (by simpa using hown') (by decide))
  · exact ((hb1.alloc (by have := hb1.size; omega) _).grown hgrow (by have := hb1.size; simp; omega) (fun k hk => (hown.lt k hk).1)).setCell (p := ⟨b, 1, none⟩) hB _
end Go.Proofs.YtaeglmgpoboihaaGreatDoor
/- The program's text, walked. -/
namespace Go.Proofs.YtaeglmgpoboihaaGreatDoor
open Go.ChangeShapes Go.WideShapes Go.ChangeAt Go.RowKit K L14
set_option linter.unusedVariables false

/-- What stands in quotes, and what stands behind. -/
def tP (s : List UInt8) : Option (List UInt8 × List UInt8) := (L14.text s).map fun y => (y.1, s.drop y.2)
theorem tP_nil : tP [] = none := rfl
theorem tP_end (t : List UInt8) : tP (34 :: t) = some ([], t) := by
  unfold tP L14.text
  simp [txt]
theorem tP_low {c : UInt8} {t : List UInt8} (h : ¬ c = 34) (h2 : c.toNat < 32) : tP (c :: t) = none := by
  unfold tP L14.text
  simp only [List.length_cons, txt, if_neg h, if_pos h2]; rfl
theorem tP_esc (t : List UInt8) : tP (92 :: t) = match escP t with | none => none | some (b, r) => (tP r).map fun y => (b :: y.1, y.2) := by
  unfold tP L14.text escP
  simp only [List.length_cons, txt]
  rw [if_neg (by decide), if_neg (by decide), if_pos trivial]
  cases he : esc t with
  | none => rfl
  | some y =>
    obtain ⟨b, n⟩ := y
    have hn := esc_n he
    simp only [Option.map_some]
    rw [txt_more (t.length + 1) ((t.drop n).length + 1) (t.drop n) (by rw [List.length_drop]; omega) (by omega)]
    cases hx : txt ((t.drop n).length + 1) (t.drop n) with
    | none => rfl
    | some z =>
      simp only [Option.map_some]
      rw [show z.2 + 1 + n = (n + z.2) + 1 by omega, List.drop_succ_cons, ← List.drop_drop]
theorem tP_go {c : UInt8} {t : List UInt8} (h : ¬ c = 34) (h2 : ¬ c.toNat < 32) (h3 : ¬ c = 92) : tP (c :: t) = (tP t).map fun y => (c :: y.1, y.2) := by
  unfold tP L14.text
  simp only [List.length_cons, txt, if_neg h, if_neg h2, if_neg h3]
  cases hx : txt (t.length + 1) t with
  | none => rfl
  | some z => simp
/-- A text that is read, as a token. -/
def txP (s : List UInt8) : Option ((Nat × List UInt8) × List UInt8) := (tP s).map fun y => ((4, y.1), y.2)
theorem Bld.newL (w : World) : Bld w.heap.size w.heap.size [] (w.alloc (.cells #[.pointer none, .slice none 0 0] 121)) :=
  .inl ⟨Nat.le_refl _, _, rowNew w _, World.ownsRow_nil _ _ _ _, by simp [Value.ownBlock]⟩
/-- The rounds. -/
def LtRel (s : List UInt8) (B : Nat) (W : World) (g : Nat) (v0 v4 : Value) (wr : World) : Prop :=
  ∃ r o q, r.length ≤ g ∧ o.length + r.length ≤ s.length ∧ v0 = .string (bs r) ∧ v4 = .bool q ∧ tP s = (tP r).map (fun y => (o ++ y.1, y.2)) ∧ Bld B B o wr ∧ Below B W wr
theorem txP_none {s r o : List UInt8} (h : tP s = (tP r).map fun y => (o ++ y.1, y.2)) (hr : tP r = none) : txP s = none := by
  unfold txP; rw [h, hr]; rfl
theorem txP_end {s r o : List UInt8} (h : tP s = (tP (34 :: r)).map fun y => (o ++ y.1, y.2)) : txP s = some ((4, o), r) := by
  unfold txP; rw [h, tP_end]; simp
theorem tx_more {s r o t : List UInt8} {b : UInt8} (h : tP s = (tP r).map fun y => (o ++ y.1, y.2)) (hr : tP r = (tP t).map fun y => (b :: y.1, y.2)) : tP s = (tP t).map fun y => ((o ++ [b]) ++ y.1, y.2) := by
  rw [h, hr]
  cases tP t <;> simp
theorem escP_len {t r : List UInt8} {b : UInt8} (h : escP t = some (b, r)) : r.length + 1 ≤ t.length := by
  unfold escP at h
  obtain ⟨y, hy, h⟩ := Option.map_eq_some_iff.1 h
  obtain ⟨c, n⟩ := y
  have := esc_n hy
  injection h with _ h
  subst h
  simp only [List.length_drop]; omega
set_option maxRecDepth 100000 in
set_option maxHeartbeats 2000000 in
theorem ltext_walk (s : List UInt8) (hs : s.length ≤ 140737488351232) (w : World) (T : LxI w) : Calls Tryz.prog 40 #[.string (bs s)] w (TkPost (txP s) w) := by
  have hW1 : ∃ W1, W1 = w.alloc (.cells #[.int .i64 0, .string { data := #[] }, .int .i64 0] 72) := ⟨_, rfl⟩
  have hbf := Bld.newL (w.alloc (.cells #[.int .i64 0, .string { data := #[] }, .int .i64 0] 72))
  have hba : Below (w.alloc (.cells #[.int .i64 0, .string { data := #[] }, .int .i64 0] 72)).heap.size (w.alloc (.cells #[.int .i64 0, .string { data := #[] }, .int .i64 0] 72)) ((w.alloc (.cells #[.int .i64 0, .string { data := #[] }, .int .i64 0] 72)).alloc (.cells #[.pointer none, .slice none 0 0] 121)) := (Below.refl _ _).alloc (Nat.le_refl _) _
  have H0 := Lib.hid (show LtRel s (w.heap.size + 1) (w.alloc (.cells #[.int .i64 0, .string { data := #[] }, .int .i64 0] 72)) s.length (.string (bs s)) (.bool false) ((w.alloc (.cells #[.int .i64 0, .string { data := #[] }, .int .i64 0] 72)).alloc (.cells #[.pointer none, .slice none 0 0] 121)) from
    ⟨s, [], false, Nat.le_refl _, by simp, rfl, rfl, by cases tP s <;> simp, by simpa using hbf, by simpa using hba⟩)
  clear hbf hba hW1
  have HT := Lib.hid T
  clear T
  go_enter Tryz.func40, Tryz.ntmps40
  go_wp2
  go_loopg [0, 4] s.length (fun g v0 v4 wr => LtRel s (w.heap.size + 1) (w.alloc (.cells #[.int .i64 0, .string { data := #[] }, .int .i64 0] 72)) g v0 v4 wr)
  case atStart => exact H0.out
  case round =>
    obtain ⟨r, o, q, hrg, hol, rfl, rfl, htp, hB, hb⟩ := hrel
    clear H0
    have hbs : w.heap.size + 1 ≤ wr.heap.size := by have := hb.size; simpa using this
    have hbw : Below w.heap.size w wr := ((Below.refl w.heap.size w).alloc (Nat.le_refl _) (.cells #[.int .i64 0, .string { data := #[] }, .int .i64 0] 72)).trans (hb.mono (Nat.le_succ _))
    have hQ : wr.heap[w.heap.size]? = some (.cells #[.int .i64 0, .string { data := #[] }, .int .i64 0] 72 (0, 0)) := (hb.block w.heap.size (Nat.lt_succ_self _)).trans (rowNew w _)
    have z0 := cellRow hQ 0
    have z1 := cellRow hQ 1
    have z2 := cellRow hQ 2
    have f0 := freeRow hQ 0
    have f1 := freeRow hQ 1
    have f2 := freeRow hQ 2
    have HQ := Lib.hid hQ
    have HB := Lib.hid hB
    have HBB := Lib.hid hb
    have HBW := Lib.hid hbw
    have HTP := Lib.hid htp
    clear hQ hB hb hbw htp
    cases r with
    | nil =>
      have HX := Lib.hid (txP_none HTP.out tP_nil)
      go_wp2
      refine bodyPost_ret (results_cell_row3x rfl _ _ w.heap.size _ _ _ _ rfl (three_sets HQ.out _ _ _) Tryz.underlying72 rfl (by kernel_rfl)) rfl ?_
      unfold TkPost
      rw [HX.out]
      exact ⟨rfl, below3 HBW.out (Nat.le_refl _) _ _ _⟩
    | cons c t =>
      have hby : byt (c :: t) 0 = c.toNat := rfl
      have hne : (c :: t).isEmpty = false := rfl
      have hpos : 0 < (c :: t).length := by simp
      have hpos1 : 1 ≤ (c :: t).length := by simp
      have HDR := Lib.hid (show (c :: t).tail = t from rfl)
      have hlen : (c :: t).length = t.length + 1 := rfl
      have hol2 : o.length + 1 ≤ 140737488351232 := by omega
      have hget : (c :: t).getD 0 0 = c := rfl
      have hc256 := c.toNat_lt
      by_cases c1 : c = 34
      · have HX := Lib.hid (txP_end (r := t) (by rw [← c1]; exact HTP.out))
        have hb : byt (c :: t) 0 = 34 := by rw [hby, c1]; rfl
        have HS := Lib.hid (bstr _ _ _ _ HB.out hbs)
        clear c1 hby hget hlen hrg hol
        generalize c :: t = S at *
        go_wp2_with fail
        refine HS.out.mono ?_
        rintro e w1 ⟨rfl, b1⟩
        have HQ1 := Lib.hid ((b1.block w.heap.size (Nat.lt_succ_self _)).trans HQ.out)
        have y0 := cellRow HQ1.out 0
        have y1 := cellRow HQ1.out 1
        have y2 := cellRow HQ1.out 2
        have g0 := freeRow HQ1.out 0
        have g1 := freeRow HQ1.out 1
        have g2 := freeRow HQ1.out 2
        have HB1 := Lib.hid (HBW.out.trans (b1.mono (Nat.le_succ _)))
        clear b1 z0 z1 z2 f0 f1 f2
        go_wp2
        refine bodyPost_ret (results_cell_row3x rfl _ _ w.heap.size _ _ _ _ rfl (three_sets HQ1.out _ _ _) Tryz.underlying72 rfl (by kernel_rfl)) rfl ?_
        unfold TkPost
        rw [HX.out, ← HDR.out]
        exact ⟨rfl, below3 HB1.out (Nat.le_refl _) _ _ _⟩
      have e1 : (((byt (c :: t) 0 : Nat) : Int) == 34) = false := by rw [hby]; exact byte_ne (n := 34) (by decide) c1
      by_cases c2 : c.toNat < 32
      · have HX := Lib.hid (txP_none HTP.out (tP_low c1 c2))
        have e2 : ((byt (c :: t) 0 : Nat) : Int) < 32 := by rw [hby]; omega
        clear c1 c2 hby hget hlen hrg hol
        generalize c :: t = S at *
        go_wp2
        refine bodyPost_ret (results_cell_row3x rfl _ _ w.heap.size _ _ _ _ rfl (three_sets HQ.out _ _ _) Tryz.underlying72 rfl (by kernel_rfl)) rfl ?_
        unfold TkPost
        rw [HX.out]
        exact ⟨rfl, below3 HBW.out (Nat.le_refl _) _ _ _⟩
      have e2 : ¬ ((byt (c :: t) 0 : Nat) : Int) < 32 := by rw [hby]; omega
      obtain ⟨G, rfl⟩ : ∃ G, gk = G + 1 := ⟨gk - 1, by omega⟩
      by_cases c3 : c = 92
      · have hb : byt (c :: t) 0 = 92 := by rw [hby, c3]; rfl
        have hTE := tP_esc t
        rw [← c3] at hTE
        have hEW := escaped_walk14 t (by omega) wr (HT.out.below HBW.out)
        unfold HbPost at hEW
        cases hx : escP t with
        | none =>
          rw [hx] at hTE hEW
          have HX := Lib.hid (txP_none HTP.out hTE)
          have HE := Lib.hid hEW
          clear c1 c2 c3 hby hget hlen hrg hol hTE hEW hx e1 e2
          generalize c :: t = S at *
          go_wp2_with fail
          rw [HDR.out]
          refine HE.out.mono ?_
          rintro e w1 ⟨rfl, b1⟩
          have HQ1 := Lib.hid ((b1.block w.heap.size (by omega)).trans HQ.out)
          have y0 := cellRow HQ1.out 0
          have y1 := cellRow HQ1.out 1
          have y2 := cellRow HQ1.out 2
          have g0 := freeRow HQ1.out 0
          have g1 := freeRow HQ1.out 1
          have g2 := freeRow HQ1.out 2
          have HB1 := Lib.hid (HBW.out.trans (b1.mono (by omega)))
          clear b1 z0 z1 z2 f0 f1 f2
          go_wp2
          refine bodyPost_ret (results_cell_row3x rfl _ _ w.heap.size _ _ _ _ rfl (three_sets HQ1.out _ _ _) Tryz.underlying72 rfl (by kernel_rfl)) rfl ?_
          unfold TkPost
          rw [HX.out]
          exact ⟨rfl, below3 HB1.out (Nat.le_refl _) _ _ _⟩
        | some y =>
          obtain ⟨b, r2⟩ := y
          have hr2 := escP_len hx
          rw [hx] at hTE hEW
          have HTN := Lib.hid (tx_more HTP.out hTE)
          have HE := Lib.hid hEW
          have HN := Lib.hid (show r2.length ≤ G ∧ (o ++ [b]).length + r2.length ≤ s.length by simp at hrg hol ⊢; omega)
          clear c1 c2 c3 hby hget hlen hrg hol hTE hEW hx e1 e2 hr2
          generalize c :: t = S at *
          go_wp2_with fail
          rw [HDR.out]
          refine HE.out.mono ?_
          rintro e w1 ⟨rfl, b1⟩
          have HBD := Lib.hid (bld_below HB.out b1)
          have HB1 := Lib.hid (HBB.out.trans (b1.mono hbs))
          have hw1 : w.heap.size + 1 ≤ w1.heap.size := Nat.le_trans hbs b1.size
          clear b1 z0 z1 z2 f0 f1 f2
          go_wp2_with fail
          refine (wbyte _ _ o b _ HBD.out (by omega) hw1).mono ?_
          rintro e w2 ⟨rfl, hB2, b2⟩
          have HX := Lib.hid (show LtRel s (w.heap.size + 1) (w.alloc (.cells #[.int .i64 0, .string { data := #[] }, .int .i64 0] 72)) G (.string (bs r2)) (.bool true) w2 from ⟨r2, o ++ [b], true, HN.out.1, HN.out.2, rfl, rfl, HTN.out, hB2, HB1.out.trans b2⟩)
          clear hB2 b2
          go_wp2
          go_roundg G
          case measure => omega
          case rel => exact HX.out
      · have e3 : (((byt (c :: t) 0 : Nat) : Int) == 92) = false := by rw [hby]; exact byte_ne (n := 92) (by decide) c3
        have HTN := Lib.hid (tx_more HTP.out (tP_go c1 c2 c3))
        have HN := Lib.hid (show t.length ≤ G ∧ (o ++ [c]).length + t.length ≤ s.length by simp at hrg hol ⊢; omega)
        have HWB := wbyte _ _ o c _ HB.out (by omega) hbs
        rw [← hby] at HWB
        have HW := Lib.hid HWB
        clear c1 c2 c3 hby hget hlen hrg hol HWB
        generalize c :: t = S at *
        go_wp2_with fail
        refine HW.out.mono ?_
        rintro e w2 ⟨rfl, hB2, b2⟩
        have HX := Lib.hid (show LtRel s (w.heap.size + 1) (w.alloc (.cells #[.int .i64 0, .string { data := #[] }, .int .i64 0] 72)) G (.string (bs S.tail)) (.bool q) w2 from ⟨t, o ++ [c], q, HN.out.1, HN.out.2, by rw [HDR.out], rfl, HTN.out, hB2, HBB.out.trans b2⟩)
        clear hB2 b2
        go_wp2
        go_roundg G
        case measure => omega
        case rel => exact HX.out
end Go.Proofs.YtaeglmgpoboihaaGreatDoor
/- The program's next, walked. gen_lxqg.py writes it. -/
namespace Go.Proofs.YtaeglmgpoboihaaGreatDoor
open Go.ChangeShapes Go.WideShapes Go.ChangeAt Go.RowKit K L14
set_option linter.unusedVariables false

/-- What next answers: the token, and what stands behind it. -/
def nxP (s : List UInt8) : Option ((Nat × List UInt8) × List UInt8) := (nxt s).map fun y => (y.1, s.drop y.2)
theorem rnP_pos {k : Nat} {c : UInt8} {t : List UInt8} (h : goN k c.toNat = true) : rnP k (c :: t) = some ((k, (c :: t).take (L14.run k (c :: t))), (c :: t).drop (L14.run k (c :: t))) := by
  unfold rnP
  rw [if_neg (by rw [run_pos h]; omega)]
theorem nxP_lt {c : UInt8} {t : List UInt8} (h : ltN c.toNat = true) : nxP (c :: t) = rnP 1 (c :: t) := by
  obtain ⟨h0, _, _⟩ := lt_not h
  rw [rnP_pos (lt_go h)]
  unfold nxP
  simp only [nxt]
  rw [if_neg (by rw [h0]; decide), if_pos h]; rfl
theorem nxP_dg {c : UInt8} {t : List UInt8} (h : dgN c.toNat = true) : nxP (c :: t) = rnP 2 (c :: t) := by
  obtain ⟨h0, h1, _, _⟩ := dg_not h
  rw [rnP_pos (dg_go h)]
  unfold nxP
  simp only [nxt]
  rw [if_neg (by rw [h0]; decide), if_neg (by rw [h1]; decide), if_pos h]; rfl
theorem nxP_fd (t : List UInt8) : nxP (36 :: t) = rnP 3 t := by
  unfold nxP rnP
  simp only [nxt]
  rw [if_neg (by decide), if_neg (by decide), if_neg (by decide), if_pos trivial]
  split
  · rfl
  · rfl
theorem nxP_tx (t : List UInt8) : nxP (34 :: t) = txP t := by
  unfold nxP txP tP
  simp only [nxt]
  rw [if_neg (by decide), if_neg (by decide), if_neg (by decide), if_neg (by decide), if_pos trivial]
  cases L14.text t <;> rfl
theorem nxP_sg {c : UInt8} {t : List UInt8} (h : sgN c.toNat = true) : nxP (c :: t) = some ((5, [c]), t) := by
  unfold nxP
  simp only [nxt]
  rw [if_pos h]; rfl
theorem nxP_no {c : UInt8} {t : List UInt8} (h0 : sgN c.toNat = false) (h1 : ltN c.toNat = false) (h2 : dgN c.toNat = false) (h3 : ¬ c = 36) (h4 : ¬ c = 34) : nxP (c :: t) = none := by
  unfold nxP
  simp only [nxt]
  rw [if_neg (by rw [h0]; decide), if_neg (by rw [h1]; decide), if_neg (by rw [h2]; decide), if_neg h3, if_neg h4]; rfl
/-- What is made behind a new block lies behind it. -/
theorem below_in (w : World) (X : Obj) : ∀ w2, Below (w.alloc X).heap.size (w.alloc X) w2 → Below w.heap.size w w2 := fun w2 b => ((Below.refl w.heap.size w).alloc (Nat.le_refl _) X).trans (b.mono (by simp))
theorem sg_has : ∀ n : Fin 256, ([123, 125, 40, 41, 59, 61, 43, 44] : List UInt8).contains (UInt8.ofNat n.val) = sgN n.val := by decide +kernel
set_option maxRecDepth 100000 in
set_option maxHeartbeats 2000000 in
theorem lnext_walk (c : UInt8) (t : List UInt8) (hs : (c :: t).length ≤ 140737488351232) (w : World) (T : LxI w) : Calls Tryz.prog 22 #[.string (bs (c :: t))] w (TkPost (nxP (c :: t)) w) := by
  have hb0 := (Below.refl w.heap.size w).alloc (Nat.le_refl _) (.cells #[.int .i64 0, .string { data := #[] }, .int .i64 0] 72)
  have HT := Lib.hid (T.below hb0)
  have HB0 := Lib.hid (fun X => (Below.refl w.heap.size w).alloc (Nat.le_refl _) X)
  have hR0 := rowNew w (.cells #[.int .i64 0, .string { data := #[] }, .int .i64 0] 72)
  have z0 := cellRow hR0 0
  have z1 := cellRow hR0 1
  have z2 := cellRow hR0 2
  have f0 := freeRow hR0 0
  have f1 := freeRow hR0 1
  have f2 := freeRow hR0 2
  have HR0 := Lib.hid hR0
  have HL := Lib.hid (fun w1 => lletter_walk (byt (c :: t) 0) (byt_lt _ _) w1)
  have HD := Lib.hid (fun w1 => ldigit_walk (byt (c :: t) 0) (byt_lt _ _) w1)
  have HO := Lib.hid (fun w1 => lone_walk (byt (c :: t) 0) [123, 125, 40, 41, 59, 61, 43, 44] w1)
  have hby : byt (c :: t) 0 = c.toNat := rfl
  have hne : (c :: t).isEmpty = false := rfl
  have hpos : 0 < (c :: t).length := by simp
  have hpos1 : 1 ≤ (c :: t).length := by simp
  have HDR := Lib.hid (show (c :: t).tail = t from rfl)
  have HTK := Lib.hid (show (c :: t).take 1 = [c] from rfl)
  have hlen : (c :: t).length = t.length + 1 := rfl
  have hsg := sg_has ⟨byt (c :: t) 0, byt_lt _ _⟩
  simp only at hsg
  rw [hsg] at HO
  have HBI := Lib.hid (below_in w (.cells #[.int .i64 0, .string { data := #[] }, .int .i64 0] 72))
  clear hb0 hR0 T hsg
  cases h1 : ltN c.toNat
  rotate_left
  · rw [hby, h1, ← hby] at HL
    have HX := Lib.hid (nxP_lt (t := t) h1)
    have HC := Lib.hid (fun w1 (_ : LxI w1) => lrun_walk 1 (.inl rfl) (c :: t) hs w1)
    unfold TkPost at HC
    clear hby hlen h1
    generalize c :: t = S at *
    go_enter Tryz.func22, Tryz.ntmps22
    go_wp2_with fail
    refine (HL.out _).mono ?_
    rintro e w1 ⟨rfl, rfl⟩
    go_wp2_with fail
    refine (HC.out _ HT.out).mono ?_
    rintro e w2 ⟨rfl, b2⟩
    have HQ1 := Lib.hid ((b2.block w.heap.size (by simp)).trans HR0.out)
    have y0 := cellRow HQ1.out 0
    have y1 := cellRow HQ1.out 1
    have y2 := cellRow HQ1.out 2
    have g0 := freeRow HQ1.out 0
    have g1 := freeRow HQ1.out 1
    have g2 := freeRow HQ1.out 2
    have HB1 := Lib.hid (HBI.out _ b2)
    clear b2 z0 z1 z2 f0 f1 f2
    generalize rnP 1 S = O at *
    rcases O with _ | ⟨⟨k, tt⟩, rr⟩
    · go_wp2
      refine bodyPost_ret (results_cell_row3x rfl _ _ w.heap.size _ _ _ _ rfl (three_sets HQ1.out _ _ _) Tryz.underlying72 rfl (by kernel_rfl)) rfl ?_
      unfold TkPost
      rw [HX.out]
      exact ⟨rfl, below3 HB1.out (Nat.le_refl _) _ _ _⟩
    · go_wp2
      refine bodyPost_ret (results_cell_row3x rfl _ _ w.heap.size _ _ _ _ rfl (three_sets HQ1.out _ _ _) Tryz.underlying72 rfl (by kernel_rfl)) rfl ?_
      unfold TkPost
      rw [HX.out]
      exact ⟨rfl, below3 HB1.out (Nat.le_refl _) _ _ _⟩
  rw [hby, h1, ← hby] at HL
  cases h2 : dgN c.toNat
  rotate_left
  · rw [hby, h2, ← hby] at HD
    have HX := Lib.hid (nxP_dg (t := t) h2)
    have HC := Lib.hid (fun w1 (_ : LxI w1) => lrun_walk 2 (.inr (.inl rfl)) (c :: t) hs w1)
    unfold TkPost at HC
    clear hby hlen h1 h2
    generalize c :: t = S at *
    go_enter Tryz.func22, Tryz.ntmps22
    go_wp2_with fail
    refine (HL.out _).mono ?_
    rintro e w1 ⟨rfl, rfl⟩
    go_wp2_with fail
    refine (HD.out _).mono ?_
    rintro e w1 ⟨rfl, rfl⟩
    go_wp2_with fail
    refine (HC.out _ HT.out).mono ?_
    rintro e w2 ⟨rfl, b2⟩
    have HQ1 := Lib.hid ((b2.block w.heap.size (by simp)).trans HR0.out)
    have y0 := cellRow HQ1.out 0
    have y1 := cellRow HQ1.out 1
    have y2 := cellRow HQ1.out 2
    have g0 := freeRow HQ1.out 0
    have g1 := freeRow HQ1.out 1
    have g2 := freeRow HQ1.out 2
    have HB1 := Lib.hid (HBI.out _ b2)
    clear b2 z0 z1 z2 f0 f1 f2
    generalize rnP 2 S = O at *
    rcases O with _ | ⟨⟨k, tt⟩, rr⟩
    · go_wp2
      refine bodyPost_ret (results_cell_row3x rfl _ _ w.heap.size _ _ _ _ rfl (three_sets HQ1.out _ _ _) Tryz.underlying72 rfl (by kernel_rfl)) rfl ?_
      unfold TkPost
      rw [HX.out]
      exact ⟨rfl, below3 HB1.out (Nat.le_refl _) _ _ _⟩
    · go_wp2
      refine bodyPost_ret (results_cell_row3x rfl _ _ w.heap.size _ _ _ _ rfl (three_sets HQ1.out _ _ _) Tryz.underlying72 rfl (by kernel_rfl)) rfl ?_
      unfold TkPost
      rw [HX.out]
      exact ⟨rfl, below3 HB1.out (Nat.le_refl _) _ _ _⟩
  rw [hby, h2, ← hby] at HD
  by_cases h3 : c = 36
  · have hb : byt (c :: t) 0 = 36 := by rw [hby, h3]; rfl
    rw [hb] at HL HD
    have HX := Lib.hid (show nxP (c :: t) = rnP 3 t by rw [h3]; exact nxP_fd t)
    have HC := Lib.hid (fun w1 (_ : LxI w1) => lrun_walk 3 (.inr (.inr rfl)) t (by simp at hs; omega) w1)
    unfold TkPost at HC
    clear hby hlen h1 h2 h3
    generalize c :: t = S at *
    go_enter Tryz.func22, Tryz.ntmps22
    go_wp2_with fail
    refine (HL.out _).mono ?_
    rintro e w1 ⟨rfl, rfl⟩
    go_wp2_with fail
    refine (HD.out _).mono ?_
    rintro e w1 ⟨rfl, rfl⟩
    go_wp2_with fail
    rw [HDR.out]
    refine (HC.out _ HT.out).mono ?_
    rintro e w2 ⟨rfl, b2⟩
    have HQ1 := Lib.hid ((b2.block w.heap.size (by simp)).trans HR0.out)
    have y0 := cellRow HQ1.out 0
    have y1 := cellRow HQ1.out 1
    have y2 := cellRow HQ1.out 2
    have g0 := freeRow HQ1.out 0
    have g1 := freeRow HQ1.out 1
    have g2 := freeRow HQ1.out 2
    have HB1 := Lib.hid (HBI.out _ b2)
    clear b2 z0 z1 z2 f0 f1 f2
    generalize rnP 3 t = O at *
    rcases O with _ | ⟨⟨k, tt⟩, rr⟩
    · go_wp2
      refine bodyPost_ret (results_cell_row3x rfl _ _ w.heap.size _ _ _ _ rfl (three_sets HQ1.out _ _ _) Tryz.underlying72 rfl (by kernel_rfl)) rfl ?_
      unfold TkPost
      rw [HX.out]
      exact ⟨rfl, below3 HB1.out (Nat.le_refl _) _ _ _⟩
    · go_wp2
      refine bodyPost_ret (results_cell_row3x rfl _ _ w.heap.size _ _ _ _ rfl (three_sets HQ1.out _ _ _) Tryz.underlying72 rfl (by kernel_rfl)) rfl ?_
      unfold TkPost
      rw [HX.out]
      exact ⟨rfl, below3 HB1.out (Nat.le_refl _) _ _ _⟩
  have e3 : (((byt (c :: t) 0 : Nat) : Int) == 36) = false := by rw [hby]; exact byte_ne (n := 36) (by decide) h3
  have e3b : (((byt (c :: t) 0 : Nat) : Int) == (((({ data := #[36] } : ByteArray)[0]'(by decide)).toNat : Nat) : Int)) = false := e3
  by_cases h4 : c = 34
  · have hb : byt (c :: t) 0 = 34 := by rw [hby, h4]; rfl
    rw [hb] at HL HD
    have HX := Lib.hid (show nxP (c :: t) = txP t by rw [h4]; exact nxP_tx t)
    have HC := Lib.hid (fun w1 (T1 : LxI w1) => ltext_walk t (by simp at hs; omega) w1 T1)
    unfold TkPost at HC
    clear hby hlen h1 h2 h3 h4 e3
    generalize c :: t = S at *
    go_enter Tryz.func22, Tryz.ntmps22
    go_wp2_with fail
    refine (HL.out _).mono ?_
    rintro e w1 ⟨rfl, rfl⟩
    go_wp2_with fail
    refine (HD.out _).mono ?_
    rintro e w1 ⟨rfl, rfl⟩
    go_wp2_with fail
    rw [HDR.out]
    refine (HC.out _ HT.out).mono ?_
    rintro e w2 ⟨rfl, b2⟩
    have HQ1 := Lib.hid ((b2.block w.heap.size (by simp)).trans HR0.out)
    have y0 := cellRow HQ1.out 0
    have y1 := cellRow HQ1.out 1
    have y2 := cellRow HQ1.out 2
    have g0 := freeRow HQ1.out 0
    have g1 := freeRow HQ1.out 1
    have g2 := freeRow HQ1.out 2
    have HB1 := Lib.hid (HBI.out _ b2)
    clear b2 z0 z1 z2 f0 f1 f2
    generalize txP t = O at *
    rcases O with _ | ⟨⟨k, tt⟩, rr⟩
    · go_wp2
      refine bodyPost_ret (results_cell_row3x rfl _ _ w.heap.size _ _ _ _ rfl (three_sets HQ1.out _ _ _) Tryz.underlying72 rfl (by kernel_rfl)) rfl ?_
      unfold TkPost
      rw [HX.out]
      exact ⟨rfl, below3 HB1.out (Nat.le_refl _) _ _ _⟩
    · go_wp2
      refine bodyPost_ret (results_cell_row3x rfl _ _ w.heap.size _ _ _ _ rfl (three_sets HQ1.out _ _ _) Tryz.underlying72 rfl (by kernel_rfl)) rfl ?_
      unfold TkPost
      rw [HX.out]
      exact ⟨rfl, below3 HB1.out (Nat.le_refl _) _ _ _⟩
  have e4 : (((byt (c :: t) 0 : Nat) : Int) == 34) = false := by rw [hby]; exact byte_ne (n := 34) (by decide) h4
  cases h5 : sgN c.toNat
  · rw [hby, h5, ← hby] at HO
    have HX := Lib.hid (nxP_no (t := t) h5 h1 h2 h3 h4)
    clear hby hlen h1 h2 h3 h4 h5
    generalize c :: t = S at *
    go_enter Tryz.func22, Tryz.ntmps22
    go_wp2_with fail
    refine (HL.out _).mono ?_
    rintro e w1 ⟨rfl, rfl⟩
    go_wp2_with fail
    refine (HD.out _).mono ?_
    rintro e w1 ⟨rfl, rfl⟩
    go_wp2_with fail
    refine (HO.out _).mono ?_
    rintro e w1 ⟨rfl, rfl⟩
    go_wp2_with fail
    refine bodyPost_ret (results_cell_row3x rfl _ _ w.heap.size _ _ _ _ rfl (rowNew w _) Tryz.underlying72 rfl (by kernel_rfl)) rfl ?_
    unfold TkPost
    rw [HX.out]
    exact ⟨rfl, HB0.out _⟩
  · rw [hby, h5, ← hby] at HO
    have HX := Lib.hid (nxP_sg (t := t) h5)
    clear hby hlen h1 h2 h3 h4 h5
    generalize c :: t = S at *
    go_enter Tryz.func22, Tryz.ntmps22
    go_wp2_with fail
    refine (HL.out _).mono ?_
    rintro e w1 ⟨rfl, rfl⟩
    go_wp2_with fail
    refine (HD.out _).mono ?_
    rintro e w1 ⟨rfl, rfl⟩
    go_wp2_with fail
    refine (HO.out _).mono ?_
    rintro e w1 ⟨rfl, rfl⟩
    go_wp2_with fail
    go_region
    go_wp2_with fail
    refine bodyPost_ret (results_cell_row3x rfl _ _ w.heap.size _ _ _ _ rfl (rowNew w _) Tryz.underlying72 rfl (by kernel_rfl)) rfl ?_
    unfold TkPost
    rw [HX.out, ← HDR.out, ← HTK.out]
    exact ⟨rfl, (HB0.out _).drew⟩
end Go.Proofs.YtaeglmgpoboihaaGreatDoor
