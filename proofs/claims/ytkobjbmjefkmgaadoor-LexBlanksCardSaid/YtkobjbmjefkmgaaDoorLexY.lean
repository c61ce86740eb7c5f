/- LexBlanks, walked. gen_lexy.py writes it. -/
import Derived.Test.YtkobjbmjefkmgaaDoorLexX
namespace Go.Proofs.YtkobjbmjefkmgaaDoor
open Go.ChangeShapes Go.WideShapes Go.ChangeAt Go.RowKit K L14
set_option linter.unusedVariables false

theorem rdk_line {w x : World} {g o i : Nat} {l : List Tk} (hc : ∀ i, i < l.length → ∀ j, j < 3 → w.cell? ⟨g, o + i * 3 + j, none⟩ = (tkC (l.getD i noT))[j]?) (hg : g < w.heap.size) (k : Below w.drew.heap.size w.drew x) (hi : i < l.length) : x.cell? ⟨g, o + i * 3 + 2, none⟩ = some (.int .i64 ((l.getD i noT).l : Nat)) := by
  rw [k.cell (p := ⟨g, o + i * 3 + 2, none⟩) hg]
  exact (hc i hi 2 (by omega)).trans rfl
theorem rdk_kind {w x : World} {g o i : Nat} {l : List Tk} (hc : ∀ i, i < l.length → ∀ j, j < 3 → w.cell? ⟨g, o + i * 3 + j, none⟩ = (tkC (l.getD i noT))[j]?) (hg : g < w.heap.size) (k : Below w.drew.heap.size w.drew x) (hi : i < l.length) : x.drew.cell? ⟨g, o + i * 3, none⟩ = some (.int .i64 ((l.getD i noT).k : Nat)) := by
  refine (k.cell (p := ⟨g, o + i * 3, none⟩) hg).trans ?_
  exact (hc i hi 0 (by omega)).trans rfl
theorem rdk_text {w x : World} {g o i : Nat} {l : List Tk} (hc : ∀ i, i < l.length → ∀ j, j < 3 → w.cell? ⟨g, o + i * 3 + j, none⟩ = (tkC (l.getD i noT))[j]?) (hg : g < w.heap.size) (k : Below w.drew.heap.size w.drew x) (hi : i < l.length) : x.drew.cell? ⟨g, o + i * 3 + 1, none⟩ = some (.string (bs (l.getD i noT).t)) := by
  refine (k.cell (p := ⟨g, o + i * 3 + 1, none⟩) hg).trans ?_
  exact (hc i hi 1 (by omega)).trans rfl
set_option maxRecDepth 100000 in
set_option maxHeartbeats 1000000 in
theorem lexBlanks_walk (I : World → Prop) (F : LOk I) (FC : HCnt14 I) (ls : List (List UInt8)) (hl : ls.length ≤ 140737488351232) (hlt : ∀ x ∈ ls, x.length ≤ 140737488351232) (ao : Option Addr) (cap : Nat) (n : Nat) (ns : Nat → Int) (bo : Option Addr) (cb : Nat) (w : World) (hw : I w) (h : RdS w ao ls) (hN : Nums .i64 w bo n ns) :
    Calls Tryd.prog 6 #[.slice ao ls.length cap, .slice bo n cb] w fun e w' => e = .returned (.bool true) ∧ Below w.heap.size w w' := by
  have HW := Lib.hid (works14_walk I F w hw)
  have HI := Lib.hid (fun w1 (b : Below w.heap.size w w1) => F.keepI w w1 hw b)
  have HRS := Lib.hid h
  have HF := Lib.hid F
  have HFC := Lib.hid FC
  have HLT := Lib.hid hlt
  have HNN := Lib.hid hN
  have hnl := hN.1
  clear h F FC hw hlt hN
  by_cases c1 : 100 < ls.length
  · have g1 : (100 : Int) < ((ls.length : Nat) : Int) := by omega
    clear c1
    go_enter Tryd.func6, Tryd.ntmps6
    go_wp2_with fail
    refine HW.out.mono ?_
    rintro e w1 ⟨rfl, b1⟩
    go_wp2
    go_ret
    exact ⟨rfl, b1⟩
  · have g1 : ¬ (100 : Int) < ((ls.length : Nat) : Int) := by omega
    have hl2 : ls.length ≤ 100 := by omega
    clear c1 hl
    go_enter Tryd.func6, Tryd.ntmps6
    go_wp2_with fail
    refine HW.out.mono ?_
    rintro e w1 ⟨rfl, b1⟩
    have HB1 := Lib.hid b1
    have hR := rowNew w1 (.cells #[.string { data := #[32] }, .string { data := #[10] }, .string { data := #[9, 13, 10, 32] }, .string { data := #[32, 35, 32, 114, 101, 109, 97, 114, 107, 32, 34, 32, 123, 32, 10] }, .string { data := #[35, 10, 35, 10] }] 9)
    have hbd := (b1.alloc b1.size (.cells #[.string { data := #[32] }, .string { data := #[10] }, .string { data := #[9, 13, 10, 32] }, .string { data := #[32, 35, 32, 114, 101, 109, 97, 114, 107, 32, 34, 32, 123, 32, 10] }, .string { data := #[35, 10, 35, 10] }] 9))
    have HB2 := Lib.hid (hbd.trans ((show Below (w1.alloc (.cells #[.string { data := #[32] }, .string { data := #[10] }, .string { data := #[9, 13, 10, 32] }, .string { data := #[32, 35, 32, 114, 101, 109, 97, 114, 107, 32, 34, 32, 123, 32, 10] }, .string { data := #[35, 10, 35, 10] }] 9)).heap.size (w1.alloc (.cells #[.string { data := #[32] }, .string { data := #[10] }, .string { data := #[9, 13, 10, 32] }, .string { data := #[32, 35, 32, 114, 101, 109, 97, 114, 107, 32, 34, 32, 123, 32, 10] }, .string { data := #[35, 10, 35, 10] }] 9)) (w1.alloc (.cells #[.string { data := #[32] }, .string { data := #[10] }, .string { data := #[9, 13, 10, 32] }, .string { data := #[32, 35, 32, 114, 101, 109, 97, 114, 107, 32, 34, 32, 123, 32, 10] }, .string { data := #[35, 10, 35, 10] }] 9)).drew from ⟨rfl, rfl, rfl, Nat.le_refl _, fun _ _ => rfl⟩).mono hbd.size))
    clear hbd
    have HBL := Lib.hid (show ∀ y, Below (w1.alloc (.cells #[.string { data := #[32] }, .string { data := #[10] }, .string { data := #[9, 13, 10, 32] }, .string { data := #[32, 35, 32, 114, 101, 109, 97, 114, 107, 32, 34, 32, 123, 32, 10] }, .string { data := #[35, 10, 35, 10] }] 9)).drew.heap.size (w1.alloc (.cells #[.string { data := #[32] }, .string { data := #[10] }, .string { data := #[9, 13, 10, 32] }, .string { data := #[32, 35, 32, 114, 101, 109, 97, 114, 107, 32, 34, 32, 123, 32, 10] }, .string { data := #[35, 10, 35, 10] }] 9)).drew y → ∀ k, k < 5 → y.cell? ⟨w1.heap.size, k, none⟩ = some (.string (bs (bnk k))) from fun y b k hk => by
      have hb : w1.heap.size < (w1.alloc (.cells #[.string { data := #[32] }, .string { data := #[10] }, .string { data := #[9, 13, 10, 32] }, .string { data := #[32, 35, 32, 114, 101, 109, 97, 114, 107, 32, 34, 32, 123, 32, 10] }, .string { data := #[35, 10, 35, 10] }] 9)).drew.heap.size := lt_of_block hR
      rw [b.cell (p := ⟨w1.heap.size, k, none⟩) hb]
      refine (cellRow hR k).trans ?_
      obtain rfl | rfl | rfl | rfl | rfl : k = 0 ∨ k = 1 ∨ k = 2 ∨ k = 3 ∨ k = 4 := by omega
      all_goals rfl)
    have H0 := Lib.hid (show BkRel ls n ns (w1.alloc (.cells #[.string { data := #[32] }, .string { data := #[10] }, .string { data := #[9, 13, 10, 32] }, .string { data := #[32, 35, 32, 114, 101, 109, 97, 114, 107, 32, 34, 32, 123, 32, 10] }, .string { data := #[35, 10, 35, 10] }] 9)).drew ls.length (.string (bs [])) (.string (bs (bnk 4))) (.int .i64 (0 : Nat)) (w1.alloc (.cells #[.string { data := #[32] }, .string { data := #[10] }, .string { data := #[9, 13, 10, 32] }, .string { data := #[32, 35, 32, 114, 101, 109, 97, 114, 107, 32, 34, 32, 123, 32, 10] }, .string { data := #[35, 10, 35, 10] }] 9)).drew from ⟨0, by omega, rfl, rfl, rfl, by simp [itA, blk], by simp [itB, blk, bnk], Below.refl _ _⟩)
    have z4 : (w1.alloc (.cells #[.string { data := #[32] }, .string { data := #[10] }, .string { data := #[9, 13, 10, 32] }, .string { data := #[32, 35, 32, 114, 101, 109, 97, 114, 107, 32, 34, 32, 123, 32, 10] }, .string { data := #[35, 10, 35, 10] }] 9)).cell? ⟨w1.heap.size, 4, none⟩ = some (.string { data := #[35, 10, 35, 10] }) := cellRow hR 4
    clear b1 hR
    go_wp2_with fail
    go_region_held3 (fun y => y.cell? ⟨w1.heap.size, 4, none⟩ = some (.string { data := #[35, 10, 35, 10] })) (first | exact z4) (fail)
    clear z4
    obtain ⟨w2, hw2⟩ : ∃ w2, (w1.alloc (.cells #[.string { data := #[32] }, .string { data := #[10] }, .string { data := #[9, 13, 10, 32] }, .string { data := #[32, 35, 32, 114, 101, 109, 97, 114, 107, 32, 34, 32, 123, 32, 10] }, .string { data := #[35, 10, 35, 10] }] 9)).drew = w2 := ⟨_, rfl⟩
    rw [hw2] at H0 HB2 HBL ⊢
    clear hw2
    go_wp2
    go_loopg [6, 7, 30] ls.length (fun g v6 v7 v30 wr => BkRel ls n ns w2 g v6 v7 v30 wr)
    case atStart => exact H0.out
    case round =>
      obtain ⟨i, hig, rfl, rfl, rfl, hna, hnb, hb⟩ := hrel
      clear H0
      have HB := Lib.hid hb
      have HBW := Lib.hid (HB2.out.trans (hb.mono HB2.out.size))
      by_cases hi : i < ls.length
      · obtain ⟨G, rfl⟩ : ∃ G, gk = G + 1 := ⟨gk - 1, by omega⟩
        have hi2 : ((i : Nat) : Int) < ((ls.length : Nat) : Int) := by omega
        obtain ⟨t, ht⟩ : ∃ t, ls.getD i [] = t := ⟨_, rfl⟩
        obtain ⟨q, o, rfl, hqs, a0⟩ := (HRS.out.below HBW.out).at hi ht
        have htl : t.length ≤ 140737488351232 := by
          rw [← ht, show ls.getD i [] = ls[i] by simp [List.getD, hi]]
          exact HLT.out _ (List.getElem_mem hi)
        have HCU := Lib.hid (fun w1 => cut_walk t 50 htl (by omega) w1)
        have hc5 : (t.take 50).length ≤ 50 := by rw [List.length_take]; omega
        have HQU := Lib.hid (fun w1 h => HF.out.quote (t.take 50) w1 (by omega) h)
        have hql := quo_len (t.take 50) hc5
        have hia := itA_next ls i
        have hib : bnk 4 ++ blk (itB ls n ns (i + 1)) = (bnk 4 ++ blk (itB ls n ns i)) ++ (quo ((ls.getD i []).take 50) ++ (bnk (bnN n ns i) ++ (59 :: bnk (bnN n ns i)))) := by rw [itB_next, List.append_assoc]
        rw [ht] at hia hib
        have HIA := Lib.hid hia
        have HIB := Lib.hid hib
        have HIG := Lib.hid hig
        have hbk := bnN_lt n ns i
        have hbl := bnk_len (bnN n ns i)
        clear hia hib hig ht htl hb hc5
        generalize quo (t.take 50) = QT at *
        generalize blk (itA ls i) = A at *
        generalize bnk 4 ++ blk (itB ls n ns i) = B at *
        go_wp2_with fail
        refine (HCU.out _).mono ?_
        rintro e w3 ⟨rfl, rfl⟩
        go_wp2_with fail
        refine (HQU.out _ (HI.out _ HBW.out)).mono ?_
        rintro e w4 ⟨rfl, b4⟩
        have HB4 := Lib.hid (HB.out.trans (b4.mono HB.out.size))
        have HBW4 := Lib.hid (HBW.out.trans (b4.mono HBW.out.size))
        clear b4 a0 hqs
        have hkz : bnk (bnN n ns i) = bnk (bnN n ns i) := rfl
        obtain ⟨Z, hZ⟩ : ∃ Z, bnk (bnN n ns i) = Z := ⟨_, rfl⟩
        rw [hZ] at hbl HIB
        by_cases hin : i < n
        · have hkk : belowN (ns i) 5 = ((bnN n ns i : Nat) : Int) := by
            unfold bnN
            rw [if_pos hin]
            have := belowN_bounds (ns i) 5 (by omega)
            omega
          obtain ⟨_, h0 | ⟨bb, bof, rfl, hrow⟩, hwf⟩ := HNN.out
          · omega
          have hw9 := hwf i
          have hq : -9223372036854775808 ≤ ns i ∧ ns i ≤ 9223372036854775807 := by
            simp [Lit.wf, IntKind.min, IntKind.max, IntKind.bits, IntKind.signed] at hw9; omega
          have HBE := Lib.hid (fun w1 => below_walk (ns i) 5 hq.1 hq.2 (by omega) (by omega) w1)
          rw [hkk] at HBE
          have e0 := (HBW4.out.cell (p := ⟨bb, bof + i, none⟩) hrow.1).trans (hrow.2 i hin)
          have hin2 : ((i : Nat) : Int) < ((n : Nat) : Int) := by omega
          clear hw9 hq hkk hwf hrow hkz
          generalize bnN n ns i = kk at *
          have HZ := Lib.hid hZ
          clear hZ
          go_wp2_with fail
          refine (HBE.out _).mono ?_
          rintro e w5 ⟨rfl, rfl⟩
          clear e0
          have z1 := HBL.out _ HB4.out kk hbk
          rw [HZ.out] at z1
          go_wp2_with fail
          obtain ⟨w9, hw9⟩ : ∃ x, x = w4 := ⟨_, rfl⟩
          rw [← hw9]
          have z2 : w9.drew.cell? ⟨w1.heap.size, kk, none⟩ = some (.string (bs Z)) := by rw [hw9]; exact z1
          have HBZ := Lib.hid (show Below w.heap.size w w9 by rw [hw9]; exact HBW4.out)
          have HBY := Lib.hid (show Below w2.heap.size w2 w9.drew by rw [hw9]; exact ⟨HB4.out.os, HB4.out.tape, HB4.out.output, HB4.out.size, HB4.out.block⟩)
          have HO := Lib.hid (lka_obl w1.heap.size kk B QT Z w9.drew hbk z2 (by omega) (by omega) (by omega))
          have HON := Lib.hid (lka_on w1.heap.size kk B QT Z)
          clear z1 z2 hw9
          go_wp2_with fail
          refine wp_region_fut (oL := { dst := some 7, op := .assign (.tmp 64), type := _, pos := _, after := _, guard := none }) (fun x => x = w9.drew) LKAL _ _ LKAK (by kernel_rfl) ?_ (by kernel_rfl) (by decide) lkak_lt rfl HON.out (HO.out _ _ rfl rfl rfl rfl) rfl rfl (by kernel_rfl) ?_
          · exact ⟨⟨_, rfl, rfl, rfl, rfl, by kernel_rfl⟩, ⟨⟨_, rfl, rfl, rfl, rfl, by kernel_rfl⟩, ⟨⟨_, rfl, rfl, rfl, rfl, by kernel_rfl⟩, ⟨⟨_, rfl, rfl, rfl, rfl, by kernel_rfl⟩, ⟨⟨_, rfl, rfl, rfl, rfl, by kernel_rfl⟩, ⟨⟨_, rfl, rfl, rfl, rfl, by kernel_rfl⟩, ⟨⟨_, rfl, rfl, rfl, rfl, by kernel_rfl⟩, ⟨⟨_, rfl, rfl, rfl, rfl, by kernel_rfl⟩, ⟨⟨_, rfl, rfl, rfl, rfl, by kernel_rfl⟩, ⟨⟨_, rfl, rfl, rfl, rfl, by kernel_rfl⟩, ⟨⟨_, rfl, rfl, rfl, rfl, by kernel_rfl⟩, ⟨⟨_, rfl, rfl, rfl, rfl, by kernel_rfl⟩, ⟨⟨_, rfl, rfl, rfl, rfl, by kernel_rfl⟩, ⟨⟨_, rfl, rfl, rfl, rfl, by kernel_rfl⟩, rfl⟩⟩⟩⟩⟩⟩⟩⟩⟩⟩⟩⟩⟩⟩
          · rintro a w' rfl hF hV
            have v64 : slot a 64 = .string (bs (B ++ (QT ++ Z ++ [59] ++ Z))) := hV 13 (by decide) rfl
            refine op_move (.inr rfl) ?_
            rw [show a.eval (.tmp 64) = .string (bs (B ++ (QT ++ Z ++ [59] ++ Z))) from (eval_slot _ _).trans v64]
            rw [hF.eq]
            simp only [puts, LKAK, List.foldl, Act.put, List.setIfInBounds_toArray, List.set_cons_succ, List.set_cons_zero]
            generalize w9.drew = w8 at *
            go_wp2
            go_roundg G
            case measure => omega
            case rel =>
              refine ⟨i + 1, by have := HIG.out; omega, by simp, ?_, ?_, ?_, ?_, HBY.out⟩
              · rw [HIA.out]; rfl
              · rw [HIB.out]; simp
              · rw [HIA.out, List.length_append, List.length_append]; simp only [List.length_cons, List.length_nil]; omega
              · rw [HIB.out]; simp only [List.length_append, List.length_cons]; omega
        · have hkk : bnN n ns i = 0 := by unfold bnN; rw [if_neg hin]
          have hin2 : ¬ ((i : Nat) : Int) < ((n : Nat) : Int) := by omega
          rw [hkk] at hbk hZ
          have z1 := HBL.out _ HB4.out 0 hbk
          rw [hZ] at z1
          clear hkz hkk hZ
          go_wp2_with fail
          obtain ⟨w9, hw9⟩ : ∃ x, x = w4 := ⟨_, rfl⟩
          rw [← hw9]
          have z2 : w9.drew.cell? ⟨w1.heap.size, 0, none⟩ = some (.string (bs Z)) := by rw [hw9]; exact z1
          have HBZ := Lib.hid (show Below w.heap.size w w9 by rw [hw9]; exact HBW4.out)
          have HBY := Lib.hid (show Below w2.heap.size w2 w9.drew by rw [hw9]; exact ⟨HB4.out.os, HB4.out.tape, HB4.out.output, HB4.out.size, HB4.out.block⟩)
          have HO := Lib.hid (lka_obl w1.heap.size 0 B QT Z w9.drew hbk z2 (by omega) (by omega) (by omega))
          have HON := Lib.hid (lka_on w1.heap.size 0 B QT Z)
          clear z1 z2 hw9
          go_wp2_with fail
          refine wp_region_fut (oL := { dst := some 7, op := .assign (.tmp 64), type := _, pos := _, after := _, guard := none }) (fun x => x = w9.drew) LKAL _ _ LKAK (by kernel_rfl) ?_ (by kernel_rfl) (by decide) lkak_lt rfl HON.out (HO.out _ _ rfl rfl rfl rfl) rfl rfl (by kernel_rfl) ?_
          · exact ⟨⟨_, rfl, rfl, rfl, rfl, by kernel_rfl⟩, ⟨⟨_, rfl, rfl, rfl, rfl, by kernel_rfl⟩, ⟨⟨_, rfl, rfl, rfl, rfl, by kernel_rfl⟩, ⟨⟨_, rfl, rfl, rfl, rfl, by kernel_rfl⟩, ⟨⟨_, rfl, rfl, rfl, rfl, by kernel_rfl⟩, ⟨⟨_, rfl, rfl, rfl, rfl, by kernel_rfl⟩, ⟨⟨_, rfl, rfl, rfl, rfl, by kernel_rfl⟩, ⟨⟨_, rfl, rfl, rfl, rfl, by kernel_rfl⟩, ⟨⟨_, rfl, rfl, rfl, rfl, by kernel_rfl⟩, ⟨⟨_, rfl, rfl, rfl, rfl, by kernel_rfl⟩, ⟨⟨_, rfl, rfl, rfl, rfl, by kernel_rfl⟩, ⟨⟨_, rfl, rfl, rfl, rfl, by kernel_rfl⟩, ⟨⟨_, rfl, rfl, rfl, rfl, by kernel_rfl⟩, ⟨⟨_, rfl, rfl, rfl, rfl, by kernel_rfl⟩, rfl⟩⟩⟩⟩⟩⟩⟩⟩⟩⟩⟩⟩⟩⟩
          · rintro a w' rfl hF hV
            have v64 : slot a 64 = .string (bs (B ++ (QT ++ Z ++ [59] ++ Z))) := hV 13 (by decide) rfl
            refine op_move (.inr rfl) ?_
            rw [show a.eval (.tmp 64) = .string (bs (B ++ (QT ++ Z ++ [59] ++ Z))) from (eval_slot _ _).trans v64]
            rw [hF.eq]
            simp only [puts, LKAK, List.foldl, Act.put, List.setIfInBounds_toArray, List.set_cons_succ, List.set_cons_zero]
            generalize w9.drew = w8 at *
            go_wp2
            go_roundg G
            case measure => omega
            case rel =>
              refine ⟨i + 1, by have := HIG.out; omega, by simp, ?_, ?_, ?_, ?_, HBY.out⟩
              · rw [HIA.out]; rfl
              · rw [HIB.out]; simp
              · rw [HIA.out, List.length_append, List.length_append]; simp only [List.length_cons, List.length_nil]; omega
              · rw [HIB.out]; simp only [List.length_append, List.length_cons]; omega
      · have hie : i = ls.length := by omega
        have hgt : ¬ ((i : Nat) : Int) < ((ls.length : Nat) : Int) := by omega
        have hA := hna
        have hBl := hnb
        rw [hie] at hA hBl ⊢
        obtain ⟨sa, sb⟩ := bk_split ls n ns hl2
        obtain ⟨f1, f2, f3, f4, f5, f6, f7⟩ := bk_facts ls n ns
        obtain ⟨pa1, pa2, pa3⟩ := pg_ok (by omega) sa
        obtain ⟨pb1, pb2, pb3⟩ := pg_ok (by omega) sb
        have HSA := Lib.hid (fun w1 h => HF.out.split (blk (itA ls ls.length)) w1 (by omega) h)
        have HSB := Lib.hid (fun w1 h => HF.out.split (bnk 4 ++ blk (itB ls n ns ls.length)) w1 (by omega) h)
        have HCT := Lib.hid (fun w1 h => HFC.out (bnk 4 ++ blk (itB ls n ns ls.length)) w1 (by omega) h)
        unfold PglPost at HSA HSB
        rw [pa1, pa2, pa3] at HSA
        rw [pb1, pb2, pb3] at HSB
        have hnl9 := nls_le (bnk 4 ++ blk (itB ls n ns ls.length))
        have hcc : nls (bnk 4 ++ blk (itB ls n ns ls.length)) ≤ 100000000 := by omega
        have H3 := Lib.hid f3
        have H4 := Lib.hid f4
        have H5 := Lib.hid f5
        have H6 := Lib.hid f6
        have H7 := Lib.hid f7
        have H1 := Lib.hid f1
        have H2 := Lib.hid f2
        have HCC := Lib.hid hcc
        clear sa sb pa1 pa2 pa3 pb1 pb2 pb3 f3 f4 f5 f6 f7 hA hBl hnb hna hnl9 hcc f1 f2 hie hi hb hig HB
        generalize blk (itA ls ls.length) = A at *
        generalize bnk 4 ++ blk (itB ls n ns ls.length) = B at *
        generalize blT 1 (itA ls ls.length) = LA at *
        generalize blT 3 (itB ls n ns ls.length) = LB at *
        generalize nls B = nc at *
        go_wp2_with fail
        refine (HSA.out _ (HI.out _ HBW.out)).mono ?_
        rintro e w3 ⟨b3, aa, ca, rfl, ra⟩
        have B3 := HBW.out.trans (b3.mono HBW.out.size)
        have HB3 := Lib.hid B3
        have HRA := Lib.hid (fun wx (b : Below w3.heap.size w3 wx) => ra.below b)
        clear b3 B3 ra
        go_wp2_with fail
        refine (HSB.out _ (HI.out _ HB3.out)).mono ?_
        rintro e w4 ⟨b4, ab, cb2, rfl, rb⟩
        have HB4 := Lib.hid (HB3.out.trans (b4.mono HB3.out.size))
        have ra4 := HRA.out _ b4
        have HAL := Lib.hid (alike14_walk (tq LA) (tq LB) H3.out (by rw [tq_len, H1.out]; omega) aa ab ca cb2 w4 ra4.q rb.q)
        rw [tq_len, tq_len] at HAL
        have HRA4 := Lib.hid (fun wx (b : Below w4.heap.size w4 wx) => ra4.below b)
        have HRB4 := Lib.hid (fun wx (b : Below w4.heap.size w4 wx) => rb.below b)
        clear b4 ra4 rb HSA HSB HRA
        rw [H1.out, H2.out] at HAL ⊢
        have z2 : IntKind.i64.wrap (2 * ((ls.length : Nat) : Int)) = 2 * ((ls.length : Nat) : Int) := IntWalk.i64_in _ (by omega)
        go_wp2_with fail
        refine HAL.out.mono ?_
        rintro e w5 ⟨rfl, b5⟩
        have HB5 := Lib.hid (HB4.out.trans (b5.mono HB4.out.size))
        have HRA5 := Lib.hid (HRA4.out _ b5)
        have HRB5 := Lib.hid (HRB4.out _ b5)
        clear b5 HRA4 HRB4 HAL
        go_wp2_with fail
        go_loopg [100] (2 * ls.length) (fun g v100 wr => ∃ i : Nat, i + g = 2 * ls.length ∧ v100 = .int .i64 (i : Nat) ∧ Below w5.heap.size w5 wr)
        case atStart => exact ⟨0, by omega, rfl, Below.refl _ _⟩
        case round =>
          obtain ⟨i2, hi2, rfl, hb2⟩ := hrel
          have HBR := Lib.hid hb2
          have HBW6 := Lib.hid (HB5.out.trans (hb2.mono HB5.out.size))
          clear hb2
          cases gk with
          | zero =>
            have hge : ¬ ((i2 : Nat) : Int) < 2 * ((ls.length : Nat) : Int) := by omega
            go_wp2
            go_ret
            exact ⟨rfl, HBW6.out⟩
          | succ G2 =>
            have hlt : ((i2 : Nat) : Int) < 2 * ((ls.length : Nat) : Int) := by omega
            have hltn : i2 < 2 * ls.length := by omega
            have hpos : 0 < 2 * ls.length := by omega
            rcases HRA5.out.below HBR.out with h0 | ⟨ga, oa, rfl, hga, hca⟩
            · have := H1.out; omega
            rcases HRB5.out.below HBR.out with h0 | ⟨gb, ob, rfl, hgb, hcb⟩
            · have := H2.out; omega
            have hn1 : 2 * ls.length ≤ 10000 := by omega
            have HGA := Lib.hid hga
            have HCA := Lib.hid hca
            have cA := fun (x : World) (k : Below wr.drew.heap.size wr.drew x) => rdk_line hca hga k (by rw [H1.out]; exact hltn)
            have cB := fun (x : World) (k : Below wr.drew.heap.size wr.drew x) => rdk_line hcb hgb k (by rw [H2.out]; exact hltn)
            rw [H4.out i2 hltn] at cA
            obtain ⟨hy3, hyc⟩ := H5.out i2 hltn
            have hC := fun (x : World) (k : Below wr.drew.heap.size wr.drew x) => HCT.out x (HI.out x (HBW6.out.trans ((show Below wr.heap.size wr x from ⟨k.os, k.tape, k.output, k.size, k.block⟩).mono HBW6.out.size)))
            by_cases hz : i2 = 0
            · subst hz
              rw [Nat.zero_mul, Nat.add_zero] at cA cB
              have HO := Lib.hid (lkd_obl ga oa ca gb ob cb2 (2 * ls.length) 0 (LB.getD 0 noT).l 0 nc B wr.drew cA cB hpos hn1 hy3 hyc HCC.out hC)
              have HON := Lib.hid (lkd_on ga oa ca gb ob cb2 (2 * ls.length) 0 (LB.getD 0 noT).l 0 nc B)
              clear cA cB hC hcb hgb hca hga hy3 hyc
              go_wp2_with fail
              refine wp_region_fun (fun x => Below wr.drew.heap.size wr.drew x) LKDL _ _ LKDK (by kernel_rfl) ?_ (by kernel_rfl) (by decide) lkdk_lt (Below.refl _ _) HON.out (HO.out _ _ rfl rfl rfl rfl) ?_
              · exact ⟨⟨_, rfl, rfl, rfl, rfl, by kernel_rfl⟩, ⟨⟨_, rfl, rfl, rfl, rfl, by kernel_rfl⟩, ⟨⟨_, rfl, rfl, rfl, rfl, by kernel_rfl⟩, ⟨⟨_, rfl, rfl, rfl, rfl, by kernel_rfl⟩, ⟨⟨_, rfl, rfl, rfl, rfl, by kernel_rfl⟩, ⟨⟨_, rfl, rfl, rfl, rfl, by kernel_rfl⟩, ⟨⟨_, rfl, rfl, rfl, rfl, by kernel_rfl⟩, ⟨⟨_, rfl, rfl, rfl, rfl, by kernel_rfl⟩, ⟨⟨_, rfl, rfl, rfl, rfl, by kernel_rfl⟩, ⟨⟨_, rfl, rfl, rfl, rfl, by kernel_rfl⟩, ⟨⟨_, rfl, rfl, rfl, rfl, by kernel_rfl⟩, ⟨⟨_, rfl, rfl, rfl, rfl, by kernel_rfl⟩, ⟨⟨_, rfl, rfl, rfl, rfl, by kernel_rfl⟩, ⟨⟨_, rfl, rfl, rfl, rfl, by kernel_rfl⟩, ⟨⟨_, rfl, rfl, rfl, rfl, by kernel_rfl⟩, ⟨⟨_, rfl, rfl, rfl, rfl, by kernel_rfl⟩, ⟨⟨_, rfl, rfl, rfl, rfl, by kernel_rfl⟩, ⟨⟨_, rfl, rfl, rfl, rfl, by kernel_rfl⟩, ⟨⟨_, rfl, rfl, rfl, rfl, by kernel_rfl⟩, ⟨⟨_, rfl, rfl, rfl, rfl, by kernel_rfl⟩, ⟨⟨_, rfl, rfl, rfl, rfl, by kernel_rfl⟩, ⟨⟨_, rfl, rfl, rfl, rfl, by kernel_rfl⟩, ⟨⟨_, rfl, rfl, rfl, rfl, by kernel_rfl⟩, ⟨⟨_, rfl, rfl, rfl, rfl, by kernel_rfl⟩, ⟨⟨_, rfl, rfl, rfl, rfl, by kernel_rfl⟩, ⟨⟨_, rfl, rfl, rfl, rfl, by kernel_rfl⟩, ⟨⟨_, rfl, rfl, rfl, rfl, by kernel_rfl⟩, ⟨⟨_, rfl, rfl, rfl, rfl, by kernel_rfl⟩, ⟨⟨_, rfl, rfl, rfl, rfl, by kernel_rfl⟩, ⟨⟨_, rfl, rfl, rfl, rfl, by kernel_rfl⟩, ⟨⟨_, rfl, rfl, rfl, rfl, by kernel_rfl⟩, ⟨⟨_, rfl, rfl, rfl, rfl, by kernel_rfl⟩, ⟨⟨_, rfl, rfl, rfl, rfl, by kernel_rfl⟩, ⟨⟨_, rfl, rfl, rfl, rfl, by kernel_rfl⟩, ⟨⟨_, rfl, rfl, rfl, rfl, by kernel_rfl⟩, ⟨⟨_, rfl, rfl, rfl, rfl, by kernel_rfl⟩, ⟨⟨_, rfl, rfl, rfl, rfl, by kernel_rfl⟩, ⟨⟨_, rfl, rfl, rfl, rfl, by kernel_rfl⟩, ⟨⟨_, rfl, rfl, rfl, rfl, by kernel_rfl⟩, ⟨⟨_, rfl, rfl, rfl, rfl, by kernel_rfl⟩, ⟨⟨_, rfl, rfl, rfl, rfl, by kernel_rfl⟩, ⟨⟨_, rfl, rfl, rfl, rfl, by kernel_rfl⟩, ⟨⟨_, rfl, rfl, rfl, rfl, by kernel_rfl⟩, rfl⟩⟩⟩⟩⟩⟩⟩⟩⟩⟩⟩⟩⟩⟩⟩⟩⟩⟩⟩⟩⟩⟩⟩⟩⟩⟩⟩⟩⟩⟩⟩⟩⟩⟩⟩⟩⟩⟩⟩⟩⟩⟩⟩
              · intro a x2 hJ hF hV
                have v145 : slot a 145 = .bool false := hV 42 (by decide) rfl
                rw [hF.eq]
                simp only [puts, LKDK, List.foldl, Act.put, List.setIfInBounds_toArray, List.set_cons_succ, List.set_cons_zero]
                rw [v145]
                clear hF hV HO HON v145
                have hjl : 0 < ls.length := by omega
                have hj2 : 2 * 0 < 2 * ls.length := by omega
                obtain ⟨t, ht⟩ : ∃ t, ls.getD 0 [] = t := ⟨_, rfl⟩
                have htl : t.length ≤ 140737488351232 := by
                  rw [← ht, show ls.getD 0 [] = ls[0] by simp [List.getD, hjl]]
                  exact HLT.out _ (List.getElem_mem hjl)
                have HBX := HBW6.out.trans ((show Below wr.heap.size wr x2.drew from ⟨hJ.os, hJ.tape, hJ.output, hJ.size, hJ.block⟩).mono HBW6.out.size)
                obtain ⟨gw, ow, rfl, -, cw0⟩ := (HRS.out.below HBX).at hjl ht
                obtain ⟨hk4, hkt⟩ := H7.out 0 hjl
                have c0 := rdk_kind HCA.out HGA.out hJ (i := 2 * 0) (by rw [H1.out]; exact hj2)
                have c1 := rdk_text HCA.out HGA.out hJ (i := 2 * 0) (by rw [H1.out]; exact hj2)
                rw [hk4] at c0
                rw [hkt, ht] at c1
                have HO2 := Lib.hid (lke_obl ga oa ca (2 * ls.length) gw ow cap ls.length 0 t x2.drew hj2 hjl hn1 (by omega) c0 c1 cw0 (fun x => cut_walk t 50 htl (by omega) x))
                have HON := Lib.hid (lke_on ga oa ca (2 * ls.length) gw ow cap ls.length 0 t)
                clear HBX cw0 c0 c1 hk4 hkt ht htl
                go_wp2_with fail
                refine wp_region_fun (fun x => x = x2.drew) LKEL _ _ LKEK (by kernel_rfl) ?_ (by kernel_rfl) (by decide) lkek_lt rfl HON.out (HO2.out _ _ rfl rfl (by show Value.int .i64 0 = _; simp)) ?_
                · exact ⟨⟨_, rfl, rfl, rfl, rfl, by kernel_rfl⟩, ⟨⟨_, rfl, rfl, rfl, rfl, by kernel_rfl⟩, ⟨⟨_, rfl, rfl, rfl, rfl, by kernel_rfl⟩, ⟨⟨_, rfl, rfl, rfl, rfl, by kernel_rfl⟩, ⟨⟨_, rfl, rfl, rfl, rfl, by kernel_rfl⟩, ⟨⟨_, rfl, rfl, rfl, rfl, by kernel_rfl⟩, ⟨⟨_, rfl, rfl, rfl, rfl, by kernel_rfl⟩, ⟨⟨_, rfl, rfl, rfl, rfl, by kernel_rfl⟩, ⟨⟨_, rfl, rfl, rfl, rfl, by kernel_rfl⟩, ⟨⟨_, rfl, rfl, rfl, rfl, by kernel_rfl⟩, ⟨⟨_, rfl, rfl, rfl, rfl, by kernel_rfl⟩, ⟨⟨_, rfl, rfl, rfl, rfl, by kernel_rfl⟩, ⟨⟨_, rfl, rfl, rfl, rfl, by kernel_rfl⟩, ⟨⟨_, rfl, rfl, rfl, rfl, by kernel_rfl⟩, ⟨⟨_, rfl, rfl, rfl, rfl, by kernel_rfl⟩, ⟨⟨_, rfl, rfl, rfl, rfl, by kernel_rfl⟩, ⟨⟨_, rfl, rfl, rfl, rfl, by kernel_rfl⟩, ⟨⟨_, rfl, rfl, rfl, rfl, by kernel_rfl⟩, ⟨⟨_, rfl, rfl, rfl, rfl, by kernel_rfl⟩, ⟨⟨_, rfl, rfl, rfl, rfl, by kernel_rfl⟩, ⟨⟨_, rfl, rfl, rfl, rfl, by kernel_rfl⟩, ⟨⟨_, rfl, rfl, rfl, rfl, by kernel_rfl⟩, ⟨⟨_, rfl, rfl, rfl, rfl, by kernel_rfl⟩, ⟨⟨_, rfl, rfl, rfl, rfl, by kernel_rfl⟩, ⟨⟨_, rfl, rfl, rfl, rfl, by kernel_rfl⟩, rfl⟩⟩⟩⟩⟩⟩⟩⟩⟩⟩⟩⟩⟩⟩⟩⟩⟩⟩⟩⟩⟩⟩⟩⟩⟩
                · rintro a2 w' rfl hF2 hV2
                  have v170 : slot a2 170 = .bool false := hV2 24 (by decide) rfl
                  rw [hF2.eq]
                  simp only [puts, LKEK, List.foldl, Act.put, List.setIfInBounds_toArray, List.set_cons_succ, List.set_cons_zero]
                  rw [v170]
                  have HB8 := Lib.hid (HBR.out.trans ((show Below wr.heap.size wr x2.drew from ⟨hJ.os, hJ.tape, hJ.output, hJ.size, hJ.block⟩).mono HBR.out.size))
                  clear hJ hF2 hV2
                  generalize x2.drew = x3 at *
                  go_wp2
                  go_roundg G2
                  case measure => omega
                  case rel => exact ⟨1, by omega, by simp, HB8.out⟩
            · have hi0 : 0 < i2 := by omega
              have cB1 := fun (x : World) (k : Below wr.drew.heap.size wr.drew x) => rdk_line (i := i2 - 1) hcb hgb k (by rw [H2.out]; omega)
              have hyy := H6.out (i2 - 1) (by omega)
              rw [show i2 - 1 + 1 = i2 by omega] at hyy
              have HO := Lib.hid (lkb_obl ga oa ca gb ob cb2 (2 * ls.length) i2 (LB.getD i2 noT).l (LB.getD (i2 - 1) noT).l nc B wr.drew cA cB cB1 hi0 hltn hn1 hy3 hyy hyc HCC.out hC)
              have HON := Lib.hid (lkb_on ga oa ca gb ob cb2 (2 * ls.length) i2 (LB.getD i2 noT).l (LB.getD (i2 - 1) noT).l nc B)
              clear cA cB cB1 hC hcb hgb hca hga hy3 hyc hyy
              go_wp2_with fail
              refine wp_region_fun (fun x => Below wr.drew.heap.size wr.drew x) LKBL _ _ LKBK (by kernel_rfl) ?_ (by kernel_rfl) (by decide) lkbk_lt (Below.refl _ _) HON.out (HO.out _ _ rfl rfl rfl rfl) ?_
              · exact ⟨⟨_, rfl, rfl, rfl, rfl, by kernel_rfl⟩, ⟨⟨_, rfl, rfl, rfl, rfl, by kernel_rfl⟩, ⟨⟨_, rfl, rfl, rfl, rfl, by kernel_rfl⟩, ⟨⟨_, rfl, rfl, rfl, rfl, by kernel_rfl⟩, ⟨⟨_, rfl, rfl, rfl, rfl, by kernel_rfl⟩, ⟨⟨_, rfl, rfl, rfl, rfl, by kernel_rfl⟩, ⟨⟨_, rfl, rfl, rfl, rfl, by kernel_rfl⟩, ⟨⟨_, rfl, rfl, rfl, rfl, by kernel_rfl⟩, ⟨⟨_, rfl, rfl, rfl, rfl, by kernel_rfl⟩, ⟨⟨_, rfl, rfl, rfl, rfl, by kernel_rfl⟩, ⟨⟨_, rfl, rfl, rfl, rfl, by kernel_rfl⟩, ⟨⟨_, rfl, rfl, rfl, rfl, by kernel_rfl⟩, ⟨⟨_, rfl, rfl, rfl, rfl, by kernel_rfl⟩, ⟨⟨_, rfl, rfl, rfl, rfl, by kernel_rfl⟩, ⟨⟨_, rfl, rfl, rfl, rfl, by kernel_rfl⟩, ⟨⟨_, rfl, rfl, rfl, rfl, by kernel_rfl⟩, ⟨⟨_, rfl, rfl, rfl, rfl, by kernel_rfl⟩, ⟨⟨_, rfl, rfl, rfl, rfl, by kernel_rfl⟩, ⟨⟨_, rfl, rfl, rfl, rfl, by kernel_rfl⟩, ⟨⟨_, rfl, rfl, rfl, rfl, by kernel_rfl⟩, ⟨⟨_, rfl, rfl, rfl, rfl, by kernel_rfl⟩, ⟨⟨_, rfl, rfl, rfl, rfl, by kernel_rfl⟩, ⟨⟨_, rfl, rfl, rfl, rfl, by kernel_rfl⟩, ⟨⟨_, rfl, rfl, rfl, rfl, by kernel_rfl⟩, ⟨⟨_, rfl, rfl, rfl, rfl, by kernel_rfl⟩, ⟨⟨_, rfl, rfl, rfl, rfl, by kernel_rfl⟩, ⟨⟨_, rfl, rfl, rfl, rfl, by kernel_rfl⟩, ⟨⟨_, rfl, rfl, rfl, rfl, by kernel_rfl⟩, ⟨⟨_, rfl, rfl, rfl, rfl, by kernel_rfl⟩, ⟨⟨_, rfl, rfl, rfl, rfl, by kernel_rfl⟩, ⟨⟨_, rfl, rfl, rfl, rfl, by kernel_rfl⟩, ⟨⟨_, rfl, rfl, rfl, rfl, by kernel_rfl⟩, ⟨⟨_, rfl, rfl, rfl, rfl, by kernel_rfl⟩, ⟨⟨_, rfl, rfl, rfl, rfl, by kernel_rfl⟩, ⟨⟨_, rfl, rfl, rfl, rfl, by kernel_rfl⟩, ⟨⟨_, rfl, rfl, rfl, rfl, by kernel_rfl⟩, ⟨⟨_, rfl, rfl, rfl, rfl, by kernel_rfl⟩, ⟨⟨_, rfl, rfl, rfl, rfl, by kernel_rfl⟩, ⟨⟨_, rfl, rfl, rfl, rfl, by kernel_rfl⟩, ⟨⟨_, rfl, rfl, rfl, rfl, by kernel_rfl⟩, ⟨⟨_, rfl, rfl, rfl, rfl, by kernel_rfl⟩, ⟨⟨_, rfl, rfl, rfl, rfl, by kernel_rfl⟩, ⟨⟨_, rfl, rfl, rfl, rfl, by kernel_rfl⟩, rfl⟩⟩⟩⟩⟩⟩⟩⟩⟩⟩⟩⟩⟩⟩⟩⟩⟩⟩⟩⟩⟩⟩⟩⟩⟩⟩⟩⟩⟩⟩⟩⟩⟩⟩⟩⟩⟩⟩⟩⟩⟩⟩⟩
              · intro a x2 hJ hF hV
                have v145 : slot a 145 = .bool false := hV 42 (by decide) rfl
                rw [hF.eq]
                simp only [puts, LKBK, List.foldl, Act.put, List.setIfInBounds_toArray, List.set_cons_succ, List.set_cons_zero]
                rw [v145]
                clear hF hV HO HON v145
                by_cases hpar : i2 % 2 = 0
                · obtain ⟨j, hj⟩ : ∃ j, i2 = 2 * j := ⟨i2 / 2, by omega⟩
                  subst hj
                  have hjl : j < ls.length := by omega
                  have hj2 : 2 * j < 2 * ls.length := by omega
                  obtain ⟨t, ht⟩ : ∃ t, ls.getD j [] = t := ⟨_, rfl⟩
                  have htl : t.length ≤ 140737488351232 := by
                    rw [← ht, show ls.getD j [] = ls[j] by simp [List.getD, hjl]]
                    exact HLT.out _ (List.getElem_mem hjl)
                  have HBX := HBW6.out.trans ((show Below wr.heap.size wr x2.drew from ⟨hJ.os, hJ.tape, hJ.output, hJ.size, hJ.block⟩).mono HBW6.out.size)
                  obtain ⟨gw, ow, rfl, -, cw0⟩ := (HRS.out.below HBX).at hjl ht
                  obtain ⟨hk4, hkt⟩ := H7.out j hjl
                  have c0 := rdk_kind HCA.out HGA.out hJ (i := 2 * j) (by rw [H1.out]; exact hj2)
                  have c1 := rdk_text HCA.out HGA.out hJ (i := 2 * j) (by rw [H1.out]; exact hj2)
                  rw [hk4] at c0
                  rw [hkt, ht] at c1
                  have HO2 := Lib.hid (lke_obl ga oa ca (2 * ls.length) gw ow cap ls.length j t x2.drew hj2 hjl hn1 (by omega) c0 c1 cw0 (fun x => cut_walk t 50 htl (by omega) x))
                  have HON := Lib.hid (lke_on ga oa ca (2 * ls.length) gw ow cap ls.length j t)
                  clear HBX cw0 c0 c1 hk4 hkt ht htl
                  go_wp2_with fail
                  refine wp_region_fun (fun x => x = x2.drew) LKEL _ _ LKEK (by kernel_rfl) ?_ (by kernel_rfl) (by decide) lkek_lt rfl HON.out (HO2.out _ _ rfl rfl rfl) ?_
                  · exact ⟨⟨_, rfl, rfl, rfl, rfl, by kernel_rfl⟩, ⟨⟨_, rfl, rfl, rfl, rfl, by kernel_rfl⟩, ⟨⟨_, rfl, rfl, rfl, rfl, by kernel_rfl⟩, ⟨⟨_, rfl, rfl, rfl, rfl, by kernel_rfl⟩, ⟨⟨_, rfl, rfl, rfl, rfl, by kernel_rfl⟩, ⟨⟨_, rfl, rfl, rfl, rfl, by kernel_rfl⟩, ⟨⟨_, rfl, rfl, rfl, rfl, by kernel_rfl⟩, ⟨⟨_, rfl, rfl, rfl, rfl, by kernel_rfl⟩, ⟨⟨_, rfl, rfl, rfl, rfl, by kernel_rfl⟩, ⟨⟨_, rfl, rfl, rfl, rfl, by kernel_rfl⟩, ⟨⟨_, rfl, rfl, rfl, rfl, by kernel_rfl⟩, ⟨⟨_, rfl, rfl, rfl, rfl, by kernel_rfl⟩, ⟨⟨_, rfl, rfl, rfl, rfl, by kernel_rfl⟩, ⟨⟨_, rfl, rfl, rfl, rfl, by kernel_rfl⟩, ⟨⟨_, rfl, rfl, rfl, rfl, by kernel_rfl⟩, ⟨⟨_, rfl, rfl, rfl, rfl, by kernel_rfl⟩, ⟨⟨_, rfl, rfl, rfl, rfl, by kernel_rfl⟩, ⟨⟨_, rfl, rfl, rfl, rfl, by kernel_rfl⟩, ⟨⟨_, rfl, rfl, rfl, rfl, by kernel_rfl⟩, ⟨⟨_, rfl, rfl, rfl, rfl, by kernel_rfl⟩, ⟨⟨_, rfl, rfl, rfl, rfl, by kernel_rfl⟩, ⟨⟨_, rfl, rfl, rfl, rfl, by kernel_rfl⟩, ⟨⟨_, rfl, rfl, rfl, rfl, by kernel_rfl⟩, ⟨⟨_, rfl, rfl, rfl, rfl, by kernel_rfl⟩, ⟨⟨_, rfl, rfl, rfl, rfl, by kernel_rfl⟩, rfl⟩⟩⟩⟩⟩⟩⟩⟩⟩⟩⟩⟩⟩⟩⟩⟩⟩⟩⟩⟩⟩⟩⟩⟩⟩
                  · rintro a2 w' rfl hF2 hV2
                    have v170 : slot a2 170 = .bool false := hV2 24 (by decide) rfl
                    rw [hF2.eq]
                    simp only [puts, LKEK, List.foldl, Act.put, List.setIfInBounds_toArray, List.set_cons_succ, List.set_cons_zero]
                    rw [v170]
                    have HB8 := Lib.hid (HBR.out.trans ((show Below wr.heap.size wr x2.drew from ⟨hJ.os, hJ.tape, hJ.output, hJ.size, hJ.block⟩).mono HBR.out.size))
                    clear hJ hF2 hV2
                    generalize x2.drew = x3 at *
                    go_wp2
                    go_roundg G2
                    case measure => omega
                    case rel => exact ⟨2 * j + 1, by omega, by simp, HB8.out⟩
                · obtain ⟨j, hj⟩ : ∃ j, i2 = 2 * j + 1 := ⟨i2 / 2, by omega⟩
                  subst hj
                  have hjl : j < ls.length := by omega
                  obtain ⟨gw, ow, rfl, -, -⟩ := HRS.out.at hjl rfl
                  have HO2 := Lib.hid (lkf_obl ga oa ca (2 * ls.length) gw ow cap ls.length j [] x2.drew (by omega) (by omega) hn1 (by omega))
                  have HON := Lib.hid (lkf_on ga oa ca (2 * ls.length) gw ow cap ls.length j [])
                  go_wp2_with fail
                  refine wp_region_fun (fun x => x = x2.drew) LKFL _ _ LKFK (by kernel_rfl) ?_ (by kernel_rfl) (by decide) lkfk_lt rfl HON.out (HO2.out _ _ rfl rfl rfl) ?_
                  · exact ⟨⟨_, rfl, rfl, rfl, rfl, by kernel_rfl⟩, ⟨⟨_, rfl, rfl, rfl, rfl, by kernel_rfl⟩, ⟨⟨_, rfl, rfl, rfl, rfl, by kernel_rfl⟩, ⟨⟨_, rfl, rfl, rfl, rfl, by kernel_rfl⟩, ⟨⟨_, rfl, rfl, rfl, rfl, by kernel_rfl⟩, ⟨⟨_, rfl, rfl, rfl, rfl, by kernel_rfl⟩, ⟨⟨_, rfl, rfl, rfl, rfl, by kernel_rfl⟩, ⟨⟨_, rfl, rfl, rfl, rfl, by kernel_rfl⟩, ⟨⟨_, rfl, rfl, rfl, rfl, by kernel_rfl⟩, ⟨⟨_, rfl, rfl, rfl, rfl, by kernel_rfl⟩, ⟨⟨_, rfl, rfl, rfl, rfl, by kernel_rfl⟩, ⟨⟨_, rfl, rfl, rfl, rfl, by kernel_rfl⟩, ⟨⟨_, rfl, rfl, rfl, rfl, by kernel_rfl⟩, ⟨⟨_, rfl, rfl, rfl, rfl, by kernel_rfl⟩, ⟨⟨_, rfl, rfl, rfl, rfl, by kernel_rfl⟩, ⟨⟨_, rfl, rfl, rfl, rfl, by kernel_rfl⟩, ⟨⟨_, rfl, rfl, rfl, rfl, by kernel_rfl⟩, ⟨⟨_, rfl, rfl, rfl, rfl, by kernel_rfl⟩, ⟨⟨_, rfl, rfl, rfl, rfl, by kernel_rfl⟩, ⟨⟨_, rfl, rfl, rfl, rfl, by kernel_rfl⟩, ⟨⟨_, rfl, rfl, rfl, rfl, by kernel_rfl⟩, ⟨⟨_, rfl, rfl, rfl, rfl, by kernel_rfl⟩, ⟨⟨_, rfl, rfl, rfl, rfl, by kernel_rfl⟩, ⟨⟨_, rfl, rfl, rfl, rfl, by kernel_rfl⟩, ⟨⟨_, rfl, rfl, rfl, rfl, by kernel_rfl⟩, rfl⟩⟩⟩⟩⟩⟩⟩⟩⟩⟩⟩⟩⟩⟩⟩⟩⟩⟩⟩⟩⟩⟩⟩⟩⟩
                  · rintro a2 w' rfl hF2 hV2
                    have v170 : slot a2 170 = .bool false := hV2 24 (by decide) rfl
                    rw [hF2.eq]
                    simp only [puts, LKFK, List.foldl, Act.put, List.setIfInBounds_toArray, List.set_cons_succ, List.set_cons_zero]
                    rw [v170]
                    have HB8 := Lib.hid (HBR.out.trans ((show Below wr.heap.size wr x2.drew from ⟨hJ.os, hJ.tape, hJ.output, hJ.size, hJ.block⟩).mono HBR.out.size))
                    clear hJ hF2 hV2
                    generalize x2.drew = x3 at *
                    go_wp2
                    go_roundg G2
                    case measure => omega
                    case rel => exact ⟨2 * j + 1 + 1, by omega, by simp, HB8.out⟩
end Go.Proofs.YtkobjbmjefkmgaaDoor
