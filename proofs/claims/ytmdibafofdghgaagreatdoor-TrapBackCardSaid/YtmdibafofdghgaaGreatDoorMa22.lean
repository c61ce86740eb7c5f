/- Texts on the program and on the document, joined: Bpn. -/
import Derived.Test.YtmdibafofdghgaaGreatDoorMa21
/- The document's Next and Parts, walked. -/
namespace Go.Proofs.YtmdibafofdghgaaGreatDoor
open Go.ChangeShapes Go.WideShapes Go.ChangeAt Go.RowKit K P1 B5
set_option linter.unusedVariables false

theorem Prt.newZero (w : World) (T : Nat) : Prt (w.alloc (.cells #[.int .i64 0, .string { data := #[] }] T)) w.heap.size T 0 [] := rowNew w _
theorem isTi_byt {n : Nat} (h : n < 256) : isTi ((n : Nat) : Int) = isTag n := by
  unfold isTi
  rw [decide_eq_true (by omega : (0 : Int) ≤ ((n : Nat) : Int)), decide_eq_true (by omega : ((n : Nat) : Int) ≤ 255), Bool.true_and, Bool.true_and, Int.toNat_natCast]
/-- Where an element's reading may end. -/
inductive Nq (s : List UInt8) : Prop
  | no0 (h : s = []) (e : nxOk s = false)
  | no1 (h : s ≠ []) (ht : isTag (byt s 0) = false) (e : nxOk s = false)
  | no2 (h : s ≠ []) (ht : isTag (byt s 0) = true) (hl : lOk (s.drop 1) = false) (e : nxOk s = false)
  | no3 (h : s ≠ []) (ht : isTag (byt s 0) = true) (hl : lOk (s.drop 1) = true) (hn : ((s.length : Nat) : Int) - 1 - ((lK (s.drop 1) : Nat) : Int) < ((lV (s.drop 1) : Nat) : Int)) (e : nxOk s = false)
  | yes (h : s ≠ []) (ht : isTag (byt s 0) = true) (hl : lOk (s.drop 1) = true) (hn : 1 + lK (s.drop 1) + lV (s.drop 1) ≤ s.length) (e : nxOk s = true)
theorem nq_all (s : List UInt8) : Nq s := by
  by_cases h : s = []
  · exact .no0 h (by subst h; rfl)
  have hne : s.isEmpty = false := List.isEmpty_eq_false_iff.2 h
  cases ht : isTag (byt s 0)
  · exact .no1 h ht (by unfold nxOk; rw [hne, ht]; rfl)
  cases hl : lOk (s.drop 1)
  · exact .no2 h ht hl (by unfold nxOk; rw [hne, ht, hl]; rfl)
  by_cases hn : 1 + lK (s.drop 1) + lV (s.drop 1) ≤ s.length
  · exact .yes h ht hl hn (by unfold nxOk; rw [hne, ht, hl, decide_eq_true hn]; rfl)
  · exact .no3 h ht hl (by omega) (by unfold nxOk; rw [hne, ht, hl, decide_eq_false hn]; rfl)
set_option maxRecDepth 100000 in
set_option maxHeartbeats 2000000 in
theorem qnext_walk (s : List UInt8) (hs : s.length ≤ 140737488351232) (w : World) :
    Calls Tryz.prog 48 #[.string (bs s)] w fun e w' => e = .returned (.tuple #[.agg #[.int .i64 ((nxQ s).1 : Nat), .string (bs (nxQ s).2.1)], .string (bs (nxQ s).2.2), .int .i64 (nxE s : Nat)]) ∧ Below w.heap.size w w' := by
  have P0 := Prt.newZero w 57
  have bw : Below w.heap.size w (w.alloc (.cells #[.int .i64 0, .string { data := #[] }] 57)) := (Below.refl _ _).alloc (Nat.le_refl _) _
  have hb := byt_lt s 0
  have HI := Lib.hid (fun w1 => qistag_walk ((byt s 0 : Nat) : Int) w1)
  rw [isTi_byt hb] at HI
  have HL := Lib.hid (fun w1 => qlen_walk (s.drop 1) (by rw [List.length_drop]; omega) w1)
  rcases nq_all s with ⟨h, e⟩ | ⟨h, ht, e⟩ | ⟨h, ht, hl, e⟩ | ⟨h, ht, hl, hn, e⟩ | ⟨h, ht, hl, hn, e⟩
  · rw [(nxQ_no e).1, (nxQ_no e).2]
    subst h
    have PE := P0
    obtain ⟨c0, c1, f0, f1⟩ := P0.cells
    clear e HI HL
    go_enter Tryz.func48, Tryz.ntmps48
    go_wp2
    refine bodyPost_ret (results_cell_row3 rfl _ _ w.heap.size _ _ _ _ rfl PE Tryz.underlying57 rfl (by kernel_rfl)) rfl ?_
    exact ⟨rfl, bw⟩
  · rw [(nxQ_no e).1, (nxQ_no e).2]
    rw [ht] at HI
    have hne : s.isEmpty = false := List.isEmpty_eq_false_iff.2 h
    have hp := List.length_pos_iff.2 h
    have PE := P0
    obtain ⟨c0, c1, f0, f1⟩ := P0.cells
    clear e HL ht
    go_enter Tryz.func48, Tryz.ntmps48
    go_wp2_with fail
    refine (HI.out _).mono ?_
    rintro e w1 ⟨rfl, rfl⟩
    go_wp2
    refine bodyPost_ret (results_cell_row3 rfl _ _ w.heap.size _ _ _ _ rfl PE Tryz.underlying57 rfl (by kernel_rfl)) rfl ?_
    exact ⟨rfl, bw⟩
  · rw [(nxQ_no e).1, (nxQ_no e).2]
    rw [ht] at HI
    rw [hl] at HL
    rw [if_neg (by decide), if_neg (by decide)] at HL
    have hne : s.isEmpty = false := List.isEmpty_eq_false_iff.2 h
    have hp := List.length_pos_iff.2 h
    rw [List.drop_one] at HL
    clear e ht hl
    go_enter Tryz.func48, Tryz.ntmps48
    go_wp2_with fail
    refine (HI.out _).mono ?_
    rintro e w1 ⟨rfl, rfl⟩
    go_wp2_with fail
    generalize w.alloc (.cells #[.int .i64 0, .string { data := #[] }] 57) = w0 at *
    refine (HL.out _).mono ?_
    rintro e w1 ⟨rfl, m, rfl⟩
    replace bw := Below_drewNa bw m
    have P1 : Prt (w0.drewN m) w.heap.size 57 0 [] := P0
    generalize w0.drewN m = w1 at *
    have PE := (P1.setT 0).setB []
    obtain ⟨c0, c1, f0, f1⟩ := P1.cells
    clear P0 HI HL
    go_wp2
    refine bodyPost_ret (results_cell_row3 rfl _ _ w.heap.size _ _ _ _ rfl PE Tryz.underlying57 rfl (by kernel_rfl)) rfl ?_
    exact ⟨rfl, (bw.setCell (p := ⟨w.heap.size, 0, none⟩) (Nat.le_refl _) _).setCell (p := ⟨w.heap.size, 1, none⟩) (Nat.le_refl _) _⟩
  · rw [(nxQ_no e).1, (nxQ_no e).2]
    rw [ht] at HI
    rw [hl] at HL
    obtain ⟨g1, g2, g3, g4, g5⟩ := len_of hl
    rw [if_pos rfl, if_pos rfl] at HL
    have hne : s.isEmpty = false := List.isEmpty_eq_false_iff.2 h
    have hp := List.length_pos_iff.2 h
    generalize lK (s.drop 1) = k at *
    generalize lV (s.drop 1) = n at *
    have w1' : IntKind.i64.wrap (((s.length : Nat) : Int) - 1) = ((s.length : Nat) : Int) - 1 := IntWalk.i64_in _ (by omega)
    have w2' : IntKind.i64.wrap (((s.length : Nat) : Int) - 1 - ((k : Nat) : Int)) = ((s.length : Nat) : Int) - 1 - ((k : Nat) : Int) := IntWalk.i64_in _ (by omega)
    clear g2
    rw [List.drop_one] at HL
    clear e ht hl
    go_enter Tryz.func48, Tryz.ntmps48
    go_wp2_with fail
    refine (HI.out _).mono ?_
    rintro e w1 ⟨rfl, rfl⟩
    go_wp2_with fail
    generalize w.alloc (.cells #[.int .i64 0, .string { data := #[] }] 57) = w0 at *
    refine (HL.out _).mono ?_
    rintro e w1 ⟨rfl, m, rfl⟩
    replace bw := Below_drewNa bw m
    have P1 : Prt (w0.drewN m) w.heap.size 57 0 [] := P0
    generalize w0.drewN m = w1 at *
    have PE := (P1.setT 0).setB []
    obtain ⟨c0, c1, f0, f1⟩ := P1.cells
    clear P0 HI HL
    go_wp2
    refine bodyPost_ret (results_cell_row3 rfl _ _ w.heap.size _ _ _ _ rfl PE Tryz.underlying57 rfl (by kernel_rfl)) rfl ?_
    exact ⟨rfl, (bw.setCell (p := ⟨w.heap.size, 0, none⟩) (Nat.le_refl _) _).setCell (p := ⟨w.heap.size, 1, none⟩) (Nat.le_refl _) _⟩
  · rw [(nxQ_ok e).1, (nxQ_ok e).2]
    rw [ht] at HI
    rw [hl] at HL
    rw [if_pos rfl, if_pos rfl] at HL
    have hne : s.isEmpty = false := List.isEmpty_eq_false_iff.2 h
    have hp := List.length_pos_iff.2 h
    have eT : nxT s = byt s 0 := rfl
    have eB : nxB s = (s.drop (1 + lK (s.drop 1))).take (lV (s.drop 1)) := rfl
    have eR : nxR s = s.drop (1 + lK (s.drop 1) + lV (s.drop 1)) := rfl
    rw [eT, eB, eR]
    generalize lK (s.drop 1) = k at *
    generalize lV (s.drop 1) = n at *
    have w1' : IntKind.i64.wrap (((s.length : Nat) : Int) - 1) = ((s.length : Nat) : Int) - 1 := IntWalk.i64_in _ (by omega)
    have w2' : IntKind.i64.wrap (((s.length : Nat) : Int) - 1 - ((k : Nat) : Int)) = ((s.length : Nat) : Int) - 1 - ((k : Nat) : Int) := IntWalk.i64_in _ (by omega)
    have w3' : IntKind.i64.wrap (1 + ((k : Nat) : Int)) = 1 + ((k : Nat) : Int) := IntWalk.i64_in _ (by omega)
    have w4' : IntKind.i64.wrap (1 + ((k : Nat) : Int) + ((n : Nat) : Int)) = 1 + ((k : Nat) : Int) + ((n : Nat) : Int) := IntWalk.i64_in _ (by omega)
    have w5' : IntKind.i64.wrap ((byt s 0 : Nat) : Int) = ((byt s 0 : Nat) : Int) := IntWalk.i64_in _ (by omega)
    have q1 : (1 + ((k : Nat) : Int)).toNat = 1 + k := by omega
    have q2 : (1 + ((k : Nat) : Int) + ((n : Nat) : Int)).toNat = 1 + k + n := by omega
    have q3 : 1 + ((k : Nat) : Int) + ((n : Nat) : Int) ≤ ((s.length : Nat) : Int) := by omega
    have q4 : 1 + ((k : Nat) : Int) ≤ 1 + ((k : Nat) : Int) + ((n : Nat) : Int) := by omega
    have q5 : 0 ≤ 1 + ((k : Nat) : Int) := by omega
    have q6 : 0 ≤ 1 + ((k : Nat) : Int) + ((n : Nat) : Int) := by omega
    have hle : ((n : Nat) : Int) ≤ ((s.length : Nat) : Int) - 1 - ((k : Nat) : Int) := by omega
    rw [List.drop_one] at HL
    clear e ht hl eT eB eR
    go_enter Tryz.func48, Tryz.ntmps48
    go_wp2_with fail
    refine (HI.out _).mono ?_
    rintro e w1 ⟨rfl, rfl⟩
    go_wp2_with fail
    generalize w.alloc (.cells #[.int .i64 0, .string { data := #[] }] 57) = w0 at *
    refine (HL.out _).mono ?_
    rintro e w1 ⟨rfl, m, rfl⟩
    replace bw := Below_drewNa bw m
    have P1 : Prt (w0.drewN m) w.heap.size 57 0 [] := P0
    generalize w0.drewN m = w1 at *
    obtain ⟨c0, c1, f0, f1⟩ := P1.cells
    clear P0 HI HL
    go_wp2_with fail
    go_region_with (fail)
    all_goals
      have bb := (bw.setCell (p := ⟨w.heap.size, 0, none⟩) (Nat.le_refl _) (.int .i64 ((byt s 0 : Nat) : Int))).setCell (p := ⟨w.heap.size, 1, none⟩) (Nat.le_refl _) (.string (bs ((s.drop (1 + k)).take n)))
      have PX := (P1.setT ((byt s 0 : Nat) : Int)).setB ((s.drop (1 + k)).take n)
      go_wp2
      refine bodyPost_ret (results_cell_row3 rfl _ _ w.heap.size _ #[.int .i64 ((byt s 0 : Nat) : Int), .string (bs ((s.drop (1 + k)).take n))] _ _ rfl PX Tryz.underlying57 rfl (by kernel_rfl)) rfl ?_
      exact ⟨rfl, ⟨bb.os, bb.tape, bb.output, bb.size, bb.block⟩⟩
def QaPost (l : List UInt8) (w : World) (e : Ending) (w' : World) : Prop :=
  (∃ c : Nat, prt 0 l = .error c ∧ e = .returned (.tuple #[.slice none 0 0, .int .i64 (c : Nat)]) ∧ Below w.heap.size w w') ∨
  (∃ ps v, prt 0 l = .ok ps ∧ e = .returned (.tuple #[v, .int .i64 0]) ∧ OwnP w' w.heap.size 57 v ps ∧ Below w.heap.size w w')
theorem part_infoQ : (Tryz.prog.info? 57).map (fun i => (i.zero, i.size, i.bytes)) = some (some (.agg #[.int .i64 0, .string .empty]), 2, 24) := by kernel_rfl
def QaRel (l : List UInt8) (w : World) (g : Nat) (v0 v4 : Value) (wr : World) : Prop :=
  ∃ s ps, s.length ≤ g ∧ s.length ≤ l.length ∧ v0 = .string (bs s) ∧ OwnP wr w.heap.size 57 v4 ps ∧ ps.length ≤ 4096 ∧ prt 0 l = ahd ps (prt ps.length s) ∧ Below w.heap.size w wr
theorem qnext_ok (s : List UInt8) (hs : s.length ≤ 140737488351232) (h : nxOk s = true) (w : World) :
    Calls Tryz.prog 48 #[.string (bs s)] w fun e w' => e = .returned (.tuple #[.agg #[.int .i64 (nxT s : Nat), .string (bs (nxB s))], .string (bs (nxR s)), .int .i64 0]) ∧ Below w.heap.size w w' := by
  have := qnext_walk s hs w
  rw [(nxQ_ok h).1, (nxQ_ok h).2] at this
  exact this
theorem qnext_no (s : List UInt8) (hs : s.length ≤ 140737488351232) (h : nxOk s = false) (w : World) :
    Calls Tryz.prog 48 #[.string (bs s)] w fun e w' => e = .returned (.tuple #[.agg #[.int .i64 0, .string (bs [])], .string (bs []), .int .i64 50]) ∧ Below w.heap.size w w' := by
  have := qnext_walk s hs w
  rw [(nxQ_no h).1, (nxQ_no h).2] at this
  exact this
set_option maxRecDepth 100000 in
set_option maxHeartbeats 2000000 in
theorem qparts_walk (l : List UInt8) (hl : l.length ≤ 140737488351232) (w : World) :
    Calls Tryz.prog 49 #[.string (bs l)] w (QaPost l w) := by
  obtain ⟨i0, hi, hz0, hz1, hz2⟩ := (show ∃ i, Tryz.prog.info? 57 = some i ∧ i.zero = some (.agg #[.int .i64 0, .string .empty]) ∧ i.size = 2 ∧ i.bytes = 24 by
    obtain ⟨i, h1, h2⟩ := Option.map_eq_some_iff.1 part_infoQ
    simp only [Prod.mk.injEq] at h2
    exact ⟨i, h1, h2.1, h2.2.1, h2.2.2⟩)
  go_enter Tryz.func49, Tryz.ntmps49
  go_wp2
  go_loopg [0, 4] l.length (fun g v0 v4 wr => QaRel l w g v0 v4 wr)
  case atStart => exact ⟨l, [], Nat.le_refl _, Nat.le_refl _, rfl, OwnP.nil _ _ _, by simp, (ahd_nil _).symm, Below.refl _ _⟩
  case round =>
    obtain ⟨s, ps, hg, hsl, rfl, ho, hp, hE, hb⟩ := hrel
    by_cases hs : s = []
    · subst hs
      have hE2 : prt 0 l = .ok ps := by rw [hE]; show ahd ps (.ok []) = _; simp [ahd]
      have HE := Lib.hid hE2
      clear hE hE2 hg hsl
      go_wp2
      go_ret2
      exact .inr ⟨ps, _, HE.out, rfl, ho, hb⟩
    · have hne : s.isEmpty = false := List.isEmpty_eq_false_iff.2 hs
      cases hx : nxOk s
      · have HF := Lib.hid (qnext_no s (by omega) hx wr)
        have HE := Lib.hid (hE.trans (ahd_bad ps hs hx))
        clear hE hx hs hg ho
        go_wp2_with fail
        refine HF.out.mono ?_
        rintro e w1 ⟨rfl, d1⟩
        have hb1 := hb.trans (d1.mono hb.size)
        clear d1 hb
        go_wp2
        go_ret2
        exact .inl ⟨50, HE.out, rfl, hb1.alloc hb1.size _⟩
      · have HF := Lib.hid (qnext_ok s (by omega) hx wr)
        obtain ⟨_, _, _, _, h5⟩ := nx_of hx
        obtain ⟨ao, cap, rfl, hf⟩ := ho.form
        clear hf
        by_cases hc : ps.length = 4096
        · have HE := Lib.hid (hE.trans (ahd_many ps hx hc))
          clear hE hx hs hg ho
          go_wp2_with fail
          refine HF.out.mono ?_
          rintro e w1 ⟨rfl, d1⟩
          have hb1 := hb.trans (d1.mono hb.size)
          clear d1 hb
          rw [hc]
          go_wp2
          go_ret2
          exact .inl ⟨2, HE.out, rfl, hb1.alloc hb1.size _⟩
        · have HE := Lib.hid (hE.trans (ahd_one ps hx hc))
          have hcc : ((ps.length : Nat) : Int) < 4096 := by omega
          have hlt : ps.length < 4096 := by omega
          have HH := Lib.hid h5
          have HG := Lib.hid hg
          have HSL := Lib.hid hsl
          generalize nxT s = T at *
          generalize nxB s = BD at *
          generalize nxR s = RS at *
          clear hE hx hs hc h5 hg hsl
          go_wp2_with fail
          refine HF.out.mono ?_
          rintro e w3 ⟨rfl, d1⟩
          have ho3 := ho.below d1
          have hb3 := hb.trans (d1.mono hb.size)
          clear d1 hb ho
          go_wp2_with (at_builtin; refine wpList_append_own _ rfl _ _ 53 rfl w.heap.size 57 i0 (.agg #[.int .i64 0, .string .empty]) 2 24 Tryz.underlying53 hi hz0 hz1 hz2 rfl (by decide) _ _ _ rfl (World.ownsRow.alloc (World.ownsRow.alloc ho3 _) _) _ 1 1 [.int .i64 (T : Nat), .string (bs BD)] rfl rfl ?c1 ?c2 ?c3 ?c4 ?c5 ?_)
          case c1 =>
            have hrn := rowNew (w3.alloc (.cells #[.int .i64 (T : Nat), .string (bs BD)] 57)) (.cells #[.int .i64 (T : Nat), .string (bs BD)] 57)
            rw [show (w3.alloc (.cells #[.int .i64 (T : Nat), .string (bs BD)] 57)).heap.size = w3.heap.size + 1 by simp] at hrn
            intro j u hj
            match j, hj with
            | 0, hj => simp at hj; subst hj; exact cellRow hrn 0
            | 1, hj => simp at hj; subst hj; exact cellRow hrn 1
            | j + 2, hj => simp at hj
          case c2 =>
            intro u hu
            simp at hu
            rcases hu with rfl | rfl
            · rfl
            · rfl
          case c3 => unfold maxLen; omega
          case c4 => omega
          case c5 => have := hb3.size; simp; omega
          intro v' w4 hown' hgrow _
          have hb4 := ((hb3.alloc (by have := hb3.size; omega) (.cells #[.int .i64 (T : Nat), .string (bs BD)] 57)).alloc (by have := hb3.size; simp; omega) (.cells #[.int .i64 (T : Nat), .string (bs BD)] 57)).grown hgrow (by have := hb3.size; simp; omega) (fun k hk => (World.ownsRow.lt ho3 k hk).1)
          have ho4 : OwnP w4 w.heap.size 57 v' (ps ++ [(T, BD)]) := OwnP.put hown'
          clear hown' hgrow ho3 hb3
          go_wp2
          go_roundg RS.length
          case measure => have := HG.out; have := HH.out; omega
          case rel => exact ⟨RS, ps ++ [(T, BD)], Nat.le_refl _, by have := HSL.out; have := HH.out; omega, rfl, ho4, by rw [List.length_append]; exact hlt, HE.out, hb4⟩
end Go.Proofs.YtmdibafofdghgaaGreatDoor
