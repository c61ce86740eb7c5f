/- Texts on the program and on the document, joined: BerI. -/
import Derived.Test.YtlpknkfidcojeaaGreatDoorMa21
import Derived.Test.YtlpknkfidcojeaaGreatDoorMa29
/- ber.Deep, walked. -/
namespace Go.Proofs.YtlpknkfidcojeaaGreatDoor
open Go.ChangeShapes Go.WideShapes Go.ChangeAt Go.RowKit K P1 B5
set_option linter.unusedVariables false

theorem stk_else {w : World} {B : Nat} {T : TypeId} {g cap : Nat} {ss : List (List UInt8)} (h : StkAt w B T g cap ss) (k i : Nat) (hk : g ≠ k) (u : Value) : StkAt (w.setCell ⟨k, i, none⟩ u) B T g cap ss := by
  obtain ⟨h1, h2, h3, C, hC, h4⟩ := h
  exact ⟨h1, h2, h3, C, (Below.heap_setCell _ _ _ _ hk).trans hC, h4⟩
theorem Prt.setElse {w : World} {b T : Nat} {t : Int} {s : List UInt8} (h : Prt w b T t s) (g i : Nat) (hg : b ≠ g) (u : Value) : Prt (w.setCell ⟨g, i, none⟩ u) b T t s :=
  (Below.heap_setCell _ _ _ _ hg).trans h
theorem Prt.below {w w' : World} {b T : Nat} {t : Int} {s : List UInt8} (h : Prt w b T t s) (k : Below w.heap.size w w') : Prt w' b T t s := (k.block b (lt_of_block h)).trans h
theorem str_infoI : (Tryz.prog.info? 9).map (fun i => (i.zero, i.size, i.bytes)) = some (some (.string .empty), 1, 16) := by kernel_rfl
/-- The open elements st, the innermost first, in v; the variable p in block pb. -/
def DSt (l : List UInt8) (w : World) (pb : Nat) (st : List (List UInt8)) (d : Nat) (v : Value) (wr : World) : Prop :=
  (∃ gb cap, v = .slice (some ⟨gb, 0, none⟩) st.length cap ∧ StkAt wr (pb + 1) 9 gb cap st.reverse) ∧ (∃ t b, Prt wr pb 30 t b) ∧
  run st d = run [pts l] 1 ∧ st.length ≤ d ∧ d ≤ 32 ∧ left st ≤ l.length + 1 ∧ Below w.heap.size w wr
def DoRel (l : List UInt8) (w : World) (pb g : Nat) (v7 v8 : Value) (wr : World) : Prop := ∃ st d, st ≠ [] ∧ left st ≤ g ∧ v8 = .int .i64 (d : Nat) ∧ DSt l w pb st d v7 wr
def DiRel (l : List UInt8) (w : World) (pb G d g : Nat) (v7 : Value) (wr : World) : Prop := ∃ st, st ≠ [] ∧ left st ≤ G ∧ st.length ≤ g ∧ DSt l w pb st d v7 wr
theorem pts_le {l : List UInt8} (h : nxOk l = true) : (pts l).length ≤ l.length := by
  obtain ⟨_, _, _, _, h5⟩ := nx_of h
  unfold pts
  by_cases hm : isMade (nxT l) = true
  · rw [if_pos hm]; omega
  · rw [if_neg hm]; simp
theorem part_of (l : List UInt8) (h : nxOk l = true) (w : World) :
    Calls Tryz.prog 77 #[.agg #[.int .i64 (nxT l : Nat), .string (bs (nxB l))]] w fun e w' => e = .returned (.string (bs (pts l))) ∧ Below w.heap.size w w' :=
  parts_walk (nxT l) (nx_of h).2.1 (nxB l) w
set_option maxRecDepth 100000 in
set_option maxHeartbeats 4000000 in
theorem deep_walk (l : List UInt8) (hl : l.length ≤ 100000000) (w : World) :
    Calls Tryz.prog 50 #[.string (bs l)] w fun e w' => e = .returned (.tuple #[.int .i64 (whD l : Nat), .int .i64 (whE l : Nat)]) ∧ Below w.heap.size w w' := by
  cases hx : nxOk l
  · rw [(deep_no hx).1, (deep_no hx).2]
    have HF := Lib.hid (next_no l (by omega) hx w)
    clear hx
    go_enter Tryz.func50, Tryz.ntmps50
    go_wp2
    go_step3
    go_wp2_with fail
    refine HF.out.mono ?_
    rintro e w1 ⟨rfl, d1⟩
    go_wp2
    rw [Exit.noGoto_ret]
    go_ret2
    exact ⟨rfl, d1.alloc d1.size _⟩
  · obtain ⟨i0, hi, hz0, hz1, hz2⟩ := (show ∃ i, Tryz.prog.info? 9 = some i ∧ i.zero = some (.string .empty) ∧ i.size = 1 ∧ i.bytes = 16 by
      obtain ⟨i, h1, h2⟩ := Option.map_eq_some_iff.1 str_infoI
      simp only [Prod.mk.injEq] at h2
      exact ⟨i, h1, h2.1, h2.2.1, h2.2.2⟩)
    have HF := Lib.hid (next_ok l (by omega) hx w)
    have HP := Lib.hid (fun w1 => part_of l hx w1)
    have HE1 := Lib.hid (fun e (h : run [pts l] 1 = .error e) => deep_err hx h)
    have HE2 := Lib.hid (fun d (h : run [pts l] 1 = .ok d) => deep_ok hx h)
    have hpl := pts_le hx
    generalize nxT l = T at *
    generalize nxB l = BD at *
    generalize nxR l = RS at *
    clear hx
    go_enter Tryz.func50, Tryz.ntmps50
    go_wp2
    go_step3
    go_wp2_with fail
    refine HF.out.mono ?_
    rintro e w1 ⟨rfl, d1⟩
    go_wp2_with fail
    refine (HP.out _).mono ?_
    rintro e w2 ⟨rfl, d2⟩
    have P2 := (Prt.new w1 30 (T : Nat) BD).below d2
    have bB := (d1.alloc d1.size (.cells #[.int .i64 (T : Nat), .string (bs BD)] 30)).trans (d2.mono (by have := d1.size; simp; omega))
    have hs2 : w1.heap.size + 1 ≤ w2.heap.size := by have := d2.size; simp at this; omega
    have hs1 := d1.size
    generalize w1.heap.size = pb at *
    clear d1 d2
    have P3 := P2.below ((Below.refl w2.heap.size w2).alloc (Nat.le_refl _) (.cells #[.string (bs (pts l))] 9))
    have bC := bB.alloc (by omega) (.cells #[.string (bs (pts l))] 9)
    have hSN := StkAt.new w2 (pb + 1) 9 (pts l) hs2
    have hrel0 : DoRel l w pb (left [pts l]) (.slice (some ⟨w2.heap.size, 0, none⟩) 1 1) (.int .i64 ((1 : Nat) : Int)) (w2.alloc (.cells #[.string (bs (pts l))] 9)) :=
      ⟨[pts l], 1, by simp, Nat.le_refl _, rfl, ⟨_, _, rfl, hSN⟩, ⟨_, _, P3⟩, rfl, Nat.le_refl _, by omega, by simp only [left]; omega, bC⟩
    have HR0 := Lib.hid hrel0
    clear P2 P3 bB bC hSN hrel0 hs2
    go_wp2
    go_step3
    go_wp2
    go_loopg [7, 8] (left [pts l]) (fun g v7 v8 wr => DoRel l w pb g v7 v8 wr)
    case atStart => exact HR0.out
    case round =>
      clear HR0
      obtain ⟨st, d, hne, hg, rfl, hD⟩ := hrel
      cases gk with
      | zero => exact absurd hg (by cases st with
          | nil => exact absurd rfl hne
          | cons x r => simp only [left]; omega)
      | succ G =>
      have hD0 : DiRel l w pb (G + 1) d st.length _ wr := ⟨st, hne, hg, Nat.le_refl _, hD⟩
      have HD0 := Lib.hid hD0
      clear hD hD0 hg
      go_wp2
      go_loopg [7] st.length (fun g v7 wr => DiRel l w pb (G + 1) d g v7 wr)
      case atStart => exact HD0.out
      case round =>
        clear HD0 hne
        obtain ⟨st2, hne, hG, hg2, ⟨gb, cap, rfl, hS⟩, ⟨t0, b0, hP⟩, hrun, hsd, hd, hleft, hb⟩ := hrel
        cases st2 with
        | nil => exact absurd rfl hne
        | cons x r =>
          have hlen : (x :: r).length = r.length + 1 := rfl
          rw [hlen] at hsd hg2 ⊢
          have hxl : x.length ≤ l.length := by simp only [left] at hleft; omega
          have hSr := hS
          rw [List.reverse_cons] at hSr
          have hrl : r.reverse.length = r.length := List.length_reverse
          have c1 := hSr.cell r.length (by simp)
          rw [show (r.reverse ++ [x]).getD r.length [] = x by simp [List.getD]] at c1
          have hfr := hSr.free r.length
          by_cases hx : x = []
          · subst hx
            rw [run_pop r d (by omega)] at hrun
            have hS1 := hSr.cut
            cases r with
            | nil =>
              have hE := HE2.out d hrun.symm
              by_cases hR : RS = []
              · have HV := Lib.hid (hE.1 hR)
                subst hR
                clear hE HE1 HE2 HP HF hrun hS hSr hS1 hP
                simp only [List.length_nil] at *
                go_wp2
                try rw [Exit.noGoto_ret]
                go_ret2
                rw [HV.out.1, HV.out.2]
                exact ⟨rfl, hb⟩
              · have hRe : RS.isEmpty = false := List.isEmpty_eq_false_iff.2 hR
                have HV := Lib.hid (hE.2 hR)
                clear hE HE1 HE2 HP HF hrun hS hSr hS1 hP hR
                simp only [List.length_nil] at *
                go_wp2
                try rw [Exit.noGoto_ret]
                go_ret2
                rw [HV.out.1, HV.out.2]
                exact ⟨rfl, hb⟩
            | cons y r =>
              have hcap : r.length + 1 ≤ cap := by have := hS1.2.1; simp at this; omega
              have hcap2 : cap ≤ maxLen := hS1.2.2.1
              have hlen2 : (y :: r).length = r.length + 1 := rfl
              cases gk with
              | zero => omega
              | succ g2 =>
              have hnew : DiRel l w pb (G + 1) d g2 (.slice (some ⟨gb, 0, none⟩) (r.length + 1) cap) wr :=
                ⟨y :: r, by simp, by simp only [left] at hG ⊢; omega, by rw [hlen2] at hg2 ⊢; omega, ⟨gb, cap, rfl, hS1⟩, ⟨t0, b0, hP⟩, hrun, by rw [hlen2] at hsd ⊢; omega, hd, by simp only [left] at hleft ⊢; omega, hb⟩
              have HN := Lib.hid hnew
              rw [hlen2] at c1 hfr hsd ⊢
              have hml : maxLen ≤ 9223372036854775807 := by unfold maxLen; omega
              have hlr : r.length ≤ 31 := by omega
              clear hnew hrun hS hSr hS1 hP hleft hG hg2 HE1 HE2 HP HF hrl hlen hlen2 hne hxl
              generalize r.length = m at *
              go_wp2
              go_roundg g2
              case measure => omega
              case rel => exact HN.out
          · have hxe : x.isEmpty = false := List.isEmpty_eq_false_iff.2 hx
            have hcap : r.length + 1 ≤ cap := by have := hSr.2.1; simp at this; omega
            have hml : maxLen ≤ 9223372036854775807 := by unfold maxLen; omega
            have hcap2 : cap ≤ maxLen := hSr.2.2.1
            have hgp : pb + 1 ≤ gb := hSr.1
            have hlr : r.length ≤ 31 := by omega
            have hset := fun y => show (r.reverse ++ [x]).set r.length y = r.reverse ++ [y] by simp
            cases hn : nxOk x
            · have hE := HE1.out 50 (hrun.symm.trans (run_bad x r d hx hn))
              have HE := Lib.hid hE
              have HNx := Lib.hid (next_no x (by omega) hn wr)
              have HS := Lib.hid hSr
              have HPh := Lib.hid hP
              clear hE hrun hx hn HE1 HE2 HP HF hS hSr hP hne hlen hrl hG hleft hset
              generalize r.length = m at *
              go_wp2_with fail
              refine HNx.out.mono ?_
              rintro e w3 ⟨rfl, d3⟩
              have hS3 := HS.out.below d3
              have hP3 := HPh.out.below d3
              obtain ⟨q0, q1, f0, f1⟩ := hP3.cells
              have hb3 := hb.trans (d3.mono hb.size)
              have hf3 := hS3.free m
              have c3 := (d3.cell (p := ⟨gb, m, none⟩) (HS.out.lt)).trans c1
              have hgn : gb ≠ pb := by omega
              have hgn2 : pb ≠ gb := by omega
              clear c1 hfr
              go_wp2
              try rw [Exit.noGoto_ret]
              go_ret2
              rw [HE.out.1, HE.out.2]
              exact ⟨rfl, ((hb3.setCell (p := ⟨pb, 0, none⟩) hs1 _).setCell (p := ⟨pb, 1, none⟩) hs1 _).setCell (p := ⟨gb, m, none⟩) (show w.heap.size ≤ gb by omega) _⟩
            · have HNx := Lib.hid (next_ok x (by omega) hn wr)
              have HS := Lib.hid hSr
              have HPh := Lib.hid hP
              have hgn : gb ≠ pb := by omega
              have hgn2 : pb ≠ gb := by omega
              by_cases hr31 : 31 ≤ r.length
              · have hE := HE1.out 51 (hrun.symm.trans (run_deep x r d hn hr31))
                have HE := Lib.hid hE
                have h32 : r.length = 31 := by omega
                generalize nxT x = T2 at *
                generalize nxB x = B2 at *
                generalize nxR x = R2 at *
                clear hE hrun hx hn HE1 HE2 HP HF hS hSr hP hne hlen hrl hG hleft hset
                rw [h32] at c1 hfr hcap hsd hg2 ⊢
                go_wp2_with fail
                refine HNx.out.mono ?_
                rintro e w3 ⟨rfl, d3⟩
                have hS3 := HS.out.below d3
                have hP3 := HPh.out.below d3
                obtain ⟨q0, q1, f0, f1⟩ := hP3.cells
                have hb3 := hb.trans (d3.mono hb.size)
                have hf3 := hS3.free 31
                have c3 := (d3.cell (p := ⟨gb, 31, none⟩) (HS.out.lt)).trans c1
                clear c1 hfr
                go_wp2
                try rw [Exit.noGoto_ret]
                go_ret2
                rw [HE.out.1, HE.out.2]
                exact ⟨rfl, ((hb3.setCell (p := ⟨pb, 0, none⟩) hs1 _).setCell (p := ⟨pb, 1, none⟩) hs1 _).setCell (p := ⟨gb, 31, none⟩) (show w.heap.size ≤ gb by omega) _⟩
              · have HPP := Lib.hid (fun w1 => part_of x hn w1)
                have HRP := Lib.hid (hrun.symm.trans (run_push x r d hn (by omega)))
                have HLP := Lib.hid (left_push x r hn)
                have HSET := Lib.hid hset
                have hptl := pts_le hn
                obtain ⟨_, _, _, _, hnx5⟩ := nx_of hn
                generalize nxT x = T2 at *
                generalize nxB x = B2 at *
                generalize nxR x = R2 at *
                generalize pts x = PX at *
                have hrr : ((r.length : Nat) : Int) < 31 := by omega
                have hrr2 : (((r.length : Nat) : Int) + 1 == 32) = false := by rw [beq_eq_false_iff_ne]; omega
                have HLEN := Lib.hid (show r.length = r.length from rfl)
                clear hrun hx hn HE1 HE2 HP HF hS hSr hP hne hlen hrl hset hr31
                go_wp2_with fail
                refine HNx.out.mono ?_
                rintro e w3 ⟨rfl, d3⟩
                have hS3 := HS.out.below d3
                have hP3 := HPh.out.below d3
                obtain ⟨q0, q1, f0, f1⟩ := hP3.cells
                have hb3 := hb.trans (d3.mono hb.size)
                have hf3 := hS3.free r.length
                have c3 := (d3.cell (p := ⟨gb, r.length, none⟩) (HS.out.lt)).trans c1
                clear c1 hfr
                go_wp2_with fail
                have P4 := ((hP3.setT (T2 : Nat)).setB B2).setElse gb r.length hgn2 (.string (bs R2))
                have S4 := (stk_else (stk_else hS3 pb 0 hgn (.int .i64 (T2 : Nat))) pb 1 hgn (.string (bs B2))).set r.length R2
                have b4 := ((hb3.setCell (p := ⟨pb, 0, none⟩) hs1 (.int .i64 (T2 : Nat))).setCell (p := ⟨pb, 1, none⟩) hs1 (.string (bs B2))).setCell (p := ⟨gb, r.length, none⟩) (show w.heap.size ≤ gb by omega) (.string (bs R2))
                rw [HSET.out] at S4
                generalize ((w3.setCell ⟨pb, 0, none⟩ (.int .i64 (T2 : Nat))).setCell ⟨pb, 1, none⟩ (.string (bs B2))).setCell ⟨gb, r.length, none⟩ (.string (bs R2)) = w4 at *
                clear q0 q1 f0 f1 hS3 hP3 hb3 hf3 c3 d3 HS HPh HNx HSET
                refine (HPP.out w4).mono ?_
                rintro e w5 ⟨rfl, d5⟩
                have P5 := P4.below d5
                have S5 := S4.below d5
                have b5 := b4.trans (d5.mono b4.size)
                have hp5 : pb < w5.heap.size := lt_of_block P5
                have hown : w5.ownsRow (pb + 1) 9 1 (.slice (some ⟨gb, 0, none⟩) (r.length + 1) cap) (r.length + 1) (strs (r.reverse ++ [R2])) := by
                  have := S5.own
                  simpa using this
                clear P4 S4 b4 d5 S5 HPP
                generalize hstr : strs (r.reverse ++ [R2]) = SS at *
                have HSTR := Lib.hid hstr
                have HP5 := Lib.hid P5
                clear hstr P5
                go_wp2_with (at_builtin; refine wpList_append_own _ rfl _ _ 124 rfl (pb + 1) 9 i0 (.string .empty) 1 16 Tryz.underlying124 hi hz0 hz1 hz2 rfl (by decide) _ _ _ rfl (World.ownsRow.alloc hown _) ⟨w5.heap.size, 0, none⟩ 1 1 [.string (bs PX)] rfl rfl ?c1 ?c2 ?c3 ?c4 ?c5 ?_)
                case c1 =>
                  intro j u hj
                  match j, hj with
                  | 0, hj => simp at hj; subst hj; simp [Addr.add]
                case c2 => intro u hu; simp at hu; subst hu; rfl
                case c3 => unfold maxLen; omega
                case c4 => omega
                case c5 => simp; omega
                intro v' w6 hown' hgrow _
                have b6 := (b5.alloc (by have := b5.size; omega) (.cells #[.string (bs PX)] 9)).grown hgrow (by have := b5.size; simp; omega) (fun k hk => by have := (World.ownsRow.lt hown k hk).1; omega)
                have k6 := ((Below.refl (pb + 1) w5).alloc (by omega) (.cells #[.string (bs PX)] 9)).grown hgrow (by simp; omega) (fun k hk => (World.ownsRow.lt hown k hk).1)
                have P6 : Prt w6 pb 30 (T2 : Nat) B2 := (k6.block pb (Nat.lt_succ_self pb)).trans HP5.out
                have hown2 : w6.ownsRow (pb + 1) 9 1 v' (r.length + 1 + 1) (strs (r.reverse ++ [R2] ++ [PX])) := by
                  rw [strs_app, HSTR.out]; exact hown'
                obtain ⟨g2, cap2, rfl, S6⟩ := StkAt.ofOwn (ss := r.reverse ++ [R2] ++ [PX]) (by simp) (by simp) hown2
                have hnew : DoRel l w pb G (.slice (some ⟨g2, 0, none⟩) (r.length + 1 + 1) cap2) (.int .i64 ((max d (r.length + 2) : Nat) : Int)) w6 :=
                  ⟨PX :: R2 :: r, max d (r.length + 2), by simp, by have := HLP.out; omega, rfl, ⟨g2, cap2, rfl, by simpa using S6⟩, ⟨_, _, P6⟩, HRP.out.symm, by simp; omega, by omega, by have := HLP.out; omega, b6⟩
                have HN := Lib.hid hnew
                have hlen3 : (r.reverse ++ [R2] ++ [PX]).length = r.length + 1 + 1 := by simp
                rw [hlen3]
                clear hown' hown2 hgrow hown b5 b6 k6 P6 S6 hnew HP5 HSTR hlen3 HRP HLP hnx5 hptl
                have HMR := Lib.hid (show ((r.length : Nat) : Int) + 1 + 1 = ((r.length + 2 : Nat) : Int) by omega)
                go_wp2
                all_goals
                  go_roundg G
                  case measure => omega
                  case rel => first | (have h := HN.out; rw [Nat.max_eq_left (by omega)] at h; exact h) | (have h := HN.out; rw [Nat.max_eq_right (by omega)] at h; rw [HMR.out]; exact h) | (have h := HN.out; rw [show ((max d (r.length + 2) : Nat) : Int) = max ((d : Nat) : Int) ((r.length + 2 : Nat) : Int) from by omega] at h; exact h)
end Go.Proofs.YtlpknkfidcojeaaGreatDoor
