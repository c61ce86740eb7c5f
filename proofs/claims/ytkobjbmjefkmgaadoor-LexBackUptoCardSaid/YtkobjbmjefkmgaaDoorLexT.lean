/- LexBack, walked on calls that keep their word. -/
import Derived.Test.YtkobjbmjefkmgaaDoorLexS
namespace Go.Proofs.YtkobjbmjefkmgaaDoor
open Go.ChangeShapes Go.WideShapes Go.ChangeAt Go.RowKit K L14
set_option linter.unusedVariables false

/-- Print answers something, whatever it is asked. -/
def HAny14 (I : World → Prop) : Prop := ∀ (l : List Tq) (ao : Option Addr) (cap : Nat) (w : World), l.length ≤ 5000 → (∀ i, i < l.length → (l.getD i noQ).t.length ≤ 70000000) → I w → RdQ w ao l → Calls Tryd.prog 11 #[.slice ao l.length cap] w fun e w' => (∃ t c, e = .returned (.tuple #[.string t, .int .i64 c])) ∧ Below w.heap.size w w'
/-- The library counts lines. -/
def HCnt14 (I : World → Prop) : Prop := ∀ (s : List UInt8) (w : World), s.length ≤ 1000000 → I w → Calls Tryd.prog 17 #[.string (bs s), .string { data := #[10] }] w fun e w' => e = .returned (.int .i64 (nls s : Nat)) ∧ Below w.heap.size w w'
/-- The bytes of all texts, of each at most 100000. -/
def totM (l : List Tq) : Nat := (l.map fun x => min x.t.length 100000).sum
theorem totM_at (l : List Tq) (i : Nat) (h : i < l.length) : totM (l.take (i + 1)) = totM (l.take i) + min (l.getD i noQ).t.length 100000 := by
  unfold totM
  rw [List.take_succ_eq_append_getElem h, List.map_append, List.sum_append]
  simp [List.getD, h]
theorem totM_le (l : List Tq) : totM l ≤ 100000 * l.length := by
  unfold totM
  induction l with
  | nil => simp
  | cons x l ih => simp only [List.map_cons, List.sum_cons, List.length_cons]; omega
theorem totM_tot : ∀ l : List Tq, totM l < 5000 → totM l = tot l ∧ ∀ i, i < l.length → (l.getD i noQ).t.length ≤ 5000
  | [], _ => ⟨rfl, fun i hi => by simp at hi⟩
  | x :: l, h => by
    have h0 : totM (x :: l) = min x.t.length 100000 + totM l := by simp [totM]
    have h1 : tot (x :: l) = x.t.length + tot l := by simp [tot]
    rw [h0] at h
    obtain ⟨h2, h3⟩ := totM_tot l (by omega)
    refine ⟨by rw [h0, h1]; omega, fun i hi => ?_⟩
    cases i with
    | zero => show x.t.length ≤ 5000; omega
    | succ i => exact h3 i (by simpa using hi)
theorem tq_short {k : List Tk} (h : ∀ x ∈ k, x.t.length ≤ 65536) : ∀ i, i < (tq k).length → ((tq k).getD i noQ).t.length ≤ 70000000 := by
  intro i hi
  rw [tq_len] at hi
  have := h _ (List.getElem_mem hi)
  simp [tq, List.getD, hi]
  omega
theorem tot_le {B : Nat} : ∀ {l : List Tq}, (∀ x ∈ l, x.t.length ≤ B) → tot l ≤ B * l.length
  | [], _ => by simp [tot]
  | x :: l, h => by
    have h1 := h x (List.mem_cons_self ..)
    have h2 := tot_le (B := B) (l := l) (fun y hy => h y (List.mem_cons_of_mem _ hy))
    have h3 : tot (x :: l) = x.t.length + tot l := by simp [tot]
    rw [h3, List.length_cons, Nat.mul_succ]; omega
theorem prS_short (s : List UInt8) : (prS (tq (pgL s))).length ≤ 140737488355327 := by
  obtain ⟨h1, h2, h3⟩ := pgL_is s
  have h4 := file_tot (tq (pgL s))
  have h5 : tot (tq (pgL s)) ≤ 65536 * (tq (pgL s)).length := tot_le (fun x hx => by
    obtain ⟨y, hy, rfl⟩ := List.mem_map.1 hx
    exact h3 y hy)
  rw [tq_len] at h4 h5
  unfold prS
  split
  · omega
  · simp
def TmRel (l : List Tq) (w : World) (g : Nat) (vn vi : Value) (wr : World) : Prop := ∃ i : Nat, i + g = l.length ∧ vi = .int .i64 (i : Nat) ∧ vn = .int .i64 (totM (l.take i) : Nat) ∧ Below w.heap.size w wr
set_option maxRecDepth 100000 in
set_option maxHeartbeats 1000000 in
theorem lexBack_walk (I : World → Prop) (F : LOk I) (FA : HAny14 I) (FC : HCnt14 I) (l : List Tq) (hl : l.length ≤ 140737488351232) (hlt : ∀ i, i < l.length → (l.getD i noQ).t.length ≤ 70000000) (ao : Option Addr) (cap : Nat) (s : List UInt8) (hs : s.length ≤ 140737488351232) (w : World) (hw : I w) (h : RdQ w ao l) :
    Calls Tryd.prog 5 #[.slice ao l.length cap, .string (bs s)] w fun e w' => e = .returned (.bool true) ∧ Below w.heap.size w w' := by
  have HW := Lib.hid (works14_walk I F w hw)
  have HI := Lib.hid (fun w1 (b : Below w.heap.size w w1) => F.keepI w w1 hw b)
  have HRQ := Lib.hid h
  have HF := Lib.hid F
  have HFA := Lib.hid FA
  have HFC := Lib.hid FC
  have HLT := Lib.hid hlt
  clear h F FA FC hw hlt
  by_cases c1 : 200 < l.length ∨ 5000 < s.length
  · have hg : (200 : Int) < ((l.length : Nat) : Int) ∨ (¬ (200 : Int) < ((l.length : Nat) : Int) ∧ (5000 : Int) < ((s.length : Nat) : Int)) := by omega
    clear c1
    rcases hg with g1 | ⟨g1, g2⟩
    all_goals
      go_enter Tryd.func5, Tryd.ntmps5
      go_wp2_with fail
      refine HW.out.mono ?_
      rintro e w1 ⟨rfl, b1⟩
      go_wp2
      go_ret
      exact ⟨rfl, b1⟩
  · have g1 : ¬ (200 : Int) < ((l.length : Nat) : Int) := by omega
    have g2 : ¬ (5000 : Int) < ((s.length : Nat) : Int) := by omega
    have hl2 : l.length ≤ 200 := by omega
    have hs2 : s.length ≤ 5000 := by omega
    clear c1 hl hs
    go_enter Tryd.func5, Tryd.ntmps5
    go_wp2_with fail
    refine HW.out.mono ?_
    rintro e w1 ⟨rfl, b1⟩
    have HB1 := Lib.hid b1
    clear b1
    go_wp2
    have H0 := Lib.hid (show TmRel l w l.length (.int .i64 (0 : Nat)) (.int .i64 (0 : Nat)) w1 from ⟨0, by omega, rfl, by simp [totM], HB1.out⟩)
    go_loopg [5, 35] l.length (fun g v5 v35 wr => TmRel l w g v5 v35 wr)
    case atStart => exact H0.out
    case round =>
      obtain ⟨i, hig, rfl, rfl, hb⟩ := hrel
      clear H0
      have HB := Lib.hid hb
      have hBs := hb.size
      have htm := totM_le (l.take i)
      have hti : (l.take i).length ≤ 200 := by rw [List.length_take]; omega
      have hmn : totM (l.take i) ≤ 700000000 := by omega
      by_cases hi : i < l.length
      · obtain ⟨G, rfl⟩ : ∃ G, gk = G + 1 := ⟨gk - 1, by omega⟩
        have hi2 : ((i : Nat) : Int) < ((l.length : Nat) : Int) := by omega
        obtain ⟨q, o, rfl, hqs, a0, a1, a2⟩ := (HRQ.out.below hb).at hi
        have hat := totM_at l i hi
        obtain ⟨x, hx⟩ : ∃ x, l.getD i noQ = x := ⟨_, rfl⟩
        rw [hx] at a0 a1 a2 hat
        have HAT := Lib.hid hat
        have HIG := Lib.hid hig
        clear hb hx hat htm hti hig
        generalize totM (l.take i) = N at *
        have hmono : ∀ z : Int, z = ((N + min x.t.length 100000 : Nat) : Int) → TmRel l w G (.int .i64 z) (.int .i64 ((i : Int) + 1)) (wr.alloc (.cells #[.int .i64 x.k, .string (bs x.t), .int .i64 x.l] 33)) := fun z hz => ⟨i + 1, by have := HIG.out; omega, rfl, by rw [HAT.out, hz], HB.out.alloc hBs _⟩
        have HMO := Lib.hid hmono
        clear hmono
        go_wp2
        all_goals
          go_roundg G
          case measure => omega
          case rel => exact HMO.out _ (by omega)
      · have hi2 : ¬ ((i : Nat) : Int) < ((l.length : Nat) : Int) := by omega
        rw [List.take_of_length_le (by omega)] at hmn ⊢
        clear htm hti hb
        have HSP := Lib.hid (fun w1 h => HF.out.split s w1 (by omega) h)
        by_cases hn : totM l < 5000
        · have hn2 : ((totM l : Nat) : Int) < 5000 := by omega
          obtain ⟨ht1, ht2⟩ := totM_tot l hn
          have HPR := Lib.hid (fun w1 (h : I w1) ao ca hr => HF.out.print l ao ca w1 (by omega) (fun i hi => Nat.le_trans (ht2 i hi) (by omega)) h hr)
          by_cases hE : allT (bq l) = true
          · have hpe : prE l = 0 ∧ prS l = file (bq l) := by unfold prE prS; rw [hE]; exact ⟨rfl, rfl⟩
            have hfl : (file (bq l)).length ≤ 65536 := by have := file_tot l; omega
            obtain ⟨k1, k2, k3⟩ := back_k hE (by omega) hfl
            rw [hpe.1, hpe.2] at HPR
            have HSK := Lib.hid (fun w1 h => HF.out.split (file (bq l)) w1 (by omega) h)
            have HAL := Lib.hid (fun w1 ao bo ca cb h1 h2 => alike14_walk (tq (pgL (file (bq l)))) l k3 (by rw [kt_len k3]; omega) ao bo ca cb w1 h1 h2)
            have HKK := Lib.hid (And.intro k1 k2)
            have hkl : (pgL (file (bq l))).length = (tq (pgL (file (bq l)))).length := (tq_len _).symm
            have HKLL := Lib.hid hkl
            clear hpe hfl k1 k2 k3 hE ht1 ht2 hn hkl
            generalize file (bq l) = FL at *
            generalize totM l = N at *
            go_wp2_with fail
            refine (HPR.out _ (HI.out _ HB.out) _ _ (HRQ.out.below HB.out)).mono ?_
            rintro e w2 ⟨rfl, b2⟩
            have HB2 := Lib.hid (HB.out.trans (b2.mono hBs))
            clear b2
            go_wp2_with fail
            refine (HSK.out _ (HI.out _ HB2.out)).mono ?_
            rintro e w3 ⟨b3, qo, qc, rfl, hr3⟩
            have HB3 := Lib.hid (HB2.out.trans (b3.mono HB2.out.size))
            have HQ3 := Lib.hid hr3.q
            rw [HKK.out.1, HKK.out.2, HKLL.out]
            clear b3 hr3
            go_wp2_with fail
            refine (HAL.out _ _ _ _ _ HQ3.out (HRQ.out.below HB3.out)).mono ?_
            rintro e w9 ⟨rfl, b9⟩
            have HBX := Lib.hid (HB3.out.trans (b9.mono HB3.out.size))
            clear b9
            go_wp2_with fail
            refine (HSP.out _ (HI.out _ HBX.out)).mono ?_
            rintro e w4 ⟨b4, ko, kc, rfl, hr4⟩
            have HB4 := Lib.hid (HBX.out.trans (b4.mono HBX.out.size))
            have HK4 := Lib.hid hr4.q
            clear b4 hr4
            by_cases he : pgE s = 0
            · have h0 : ((pgE s : Nat) : Int) = 0 := by omega
              have HPK := Lib.hid (fun w1 (h : I w1) ao ca hr => HF.out.print (tq (pgL s)) ao ca w1 (by rw [tq_len]; have := (pgL_is s).2.1; omega) (tq_short (pgL_is s).2.2) h hr)
              have HBS := Lib.hid (back_s s)
              have hbm := back_m s
              have hpl := prS_short s
              rw [(back_s s).2.1] at HPK
              have hkl : (pgL s).length = (tq (pgL s)).length := (tq_len _).symm
              rw [hkl]
              have HTC := Lib.hid (fun w1 h => HF.out.split (prS (tq (pgL s))) w1 hpl h)
              have HBM := Lib.hid hbm
              have HKL := Lib.hid (show (tq (pgL s)).length ≤ 1000000 by rw [tq_len]; have := (pgL_is s).2.1; omega)
              clear hkl hbm hpl he
              generalize tq (pgL s) = K at *
              generalize prS K = T at *
              go_wp2_with fail
              refine (HPK.out _ (HI.out _ HB4.out) _ _ HK4.out).mono ?_
              rintro e w5 ⟨rfl, b5⟩
              have HB5 := Lib.hid (HB4.out.trans (b5.mono HB4.out.size))
              have HK5 := Lib.hid (HK4.out.below b5)
              clear b5
              go_wp2_with fail
              refine (HTC.out _ (HI.out _ HB5.out)).mono ?_
              rintro e w6 ⟨b6, mo, mc, rfl, hr6⟩
              have HB6 := Lib.hid (HB5.out.trans (b6.mono HB5.out.size))
              have HK6 := Lib.hid (HK5.out.below b6)
              have HM6 := Lib.hid hr6.q
              clear b6 hr6
              have HPM := Lib.hid (fun w1 (h : I w1) ao ca hr => HF.out.print (tq (pgL T)) ao ca w1 (by rw [tq_len]; have := (pgL_is T).2.1; omega) (tq_short (pgL_is T).2.2) h hr)
              have hml : (pgL T).length = (tq (pgL T)).length := (tq_len _).symm
              rw [hml]
              clear hml
              rcases HBM.out with ⟨m1, m2⟩ | ⟨m1, m2, m3, m4⟩
              · rw [m1]
                generalize tq (pgL T) = M at *
                generalize prE M = PE at *
                generalize prS M = PS at *
                clear m1 m2
                go_wp2_with fail
                refine (HPM.out _ (HI.out _ HB6.out) _ _ HM6.out).mono ?_
                rintro e w7 ⟨rfl, b7⟩
                have HB7 := Lib.hid (HB6.out.trans (b7.mono HB6.out.size))
                clear b7
                go_wp2
                go_ret
                exact ⟨rfl, HB7.out⟩
              · rw [m1]
                have HAL := Lib.hid (fun w1 ao bo ca cb h1 h2 => alike14_walk K (tq (pgL T)) m2.symm HKL.out ao bo ca cb w1 h1 h2)
                rw [m3, m4] at HPM
                clear m1 m2 m3 m4
                generalize tq (pgL T) = M at *
                go_wp2_with fail
                refine (HPM.out _ (HI.out _ HB6.out) _ _ HM6.out).mono ?_
                rintro e w7 ⟨rfl, b7⟩
                have HB7 := Lib.hid (HB6.out.trans (b7.mono HB6.out.size))
                have HK7 := Lib.hid (HK6.out.below b7)
                have HM7 := Lib.hid (HM6.out.below b7)
                clear b7
                go_wp2_with fail
                refine (HAL.out _ _ _ _ _ HK7.out HM7.out).mono ?_
                rintro e w8 ⟨rfl, b8⟩
                have HB8 := Lib.hid (HB7.out.trans (b8.mono HB7.out.size))
                clear b8
                go_wp2
                go_ret
                exact ⟨rfl, HB8.out⟩
            · have h0 : (((pgE s : Nat) : Int) != 0) = true := by rw [bne_iff_ne]; omega
              have h00 : ¬ ((pgE s : Nat) : Int) = 0 := by omega
              obtain ⟨x1, x2⟩ := pgE_er he
              obtain ⟨x2, x3⟩ := x2 (by omega)
              rw [x1]
              have hli : (0 : Int) < ((pgN s : Nat) : Int) := by omega
              have hlj : ((pgN s : Nat) : Int) ≤ 1 + ((nls s : Nat) : Int) := by omega
              have hnl : ((nls s : Nat) : Int) ≤ 5000 := by have := List.countP_le_length (p := (· == (10 : UInt8))) (l := s); unfold nls; omega
              have HCT := Lib.hid (fun w1 h => HFC.out s w1 (by omega) h)
              clear x1 x2 x3 he
              generalize pgE s = E at *
              generalize pgN s = LN at *
              generalize nls s = NL at *
              go_wp2_with fail
              refine (HCT.out _ (HI.out _ HB4.out)).mono ?_
              rintro e w5 ⟨rfl, b5⟩
              have HB5 := Lib.hid (HB4.out.trans (b5.mono HB4.out.size))
              clear b5
              go_wp2
              go_ret
              exact ⟨rfl, HB5.out⟩
          · have hpe : prE l = 140 := by unfold prE; rw [if_neg hE]
            rw [hpe] at HPR
            clear hpe hE ht1 ht2 hn
            generalize prS l = S0 at *
            generalize totM l = N at *
            go_wp2_with fail
            refine (HPR.out _ (HI.out _ HB.out) _ _ (HRQ.out.below HB.out)).mono ?_
            rintro e w2 ⟨rfl, b2⟩
            have HBX := Lib.hid (HB.out.trans (b2.mono hBs))
            clear b2
            go_wp2_with fail
            refine (HSP.out _ (HI.out _ HBX.out)).mono ?_
            rintro e w4 ⟨b4, ko, kc, rfl, hr4⟩
            have HB4 := Lib.hid (HBX.out.trans (b4.mono HBX.out.size))
            have HK4 := Lib.hid hr4.q
            clear b4 hr4
            by_cases he : pgE s = 0
            · have h0 : ((pgE s : Nat) : Int) = 0 := by omega
              have HPK := Lib.hid (fun w1 (h : I w1) ao ca hr => HF.out.print (tq (pgL s)) ao ca w1 (by rw [tq_len]; have := (pgL_is s).2.1; omega) (tq_short (pgL_is s).2.2) h hr)
              have HBS := Lib.hid (back_s s)
              have hbm := back_m s
              have hpl := prS_short s
              rw [(back_s s).2.1] at HPK
              have hkl : (pgL s).length = (tq (pgL s)).length := (tq_len _).symm
              rw [hkl]
              have HTC := Lib.hid (fun w1 h => HF.out.split (prS (tq (pgL s))) w1 hpl h)
              have HBM := Lib.hid hbm
              have HKL := Lib.hid (show (tq (pgL s)).length ≤ 1000000 by rw [tq_len]; have := (pgL_is s).2.1; omega)
              clear hkl hbm hpl he
              generalize tq (pgL s) = K at *
              generalize prS K = T at *
              go_wp2_with fail
              refine (HPK.out _ (HI.out _ HB4.out) _ _ HK4.out).mono ?_
              rintro e w5 ⟨rfl, b5⟩
              have HB5 := Lib.hid (HB4.out.trans (b5.mono HB4.out.size))
              have HK5 := Lib.hid (HK4.out.below b5)
              clear b5
              go_wp2_with fail
              refine (HTC.out _ (HI.out _ HB5.out)).mono ?_
              rintro e w6 ⟨b6, mo, mc, rfl, hr6⟩
              have HB6 := Lib.hid (HB5.out.trans (b6.mono HB5.out.size))
              have HK6 := Lib.hid (HK5.out.below b6)
              have HM6 := Lib.hid hr6.q
              clear b6 hr6
              have HPM := Lib.hid (fun w1 (h : I w1) ao ca hr => HF.out.print (tq (pgL T)) ao ca w1 (by rw [tq_len]; have := (pgL_is T).2.1; omega) (tq_short (pgL_is T).2.2) h hr)
              have hml : (pgL T).length = (tq (pgL T)).length := (tq_len _).symm
              rw [hml]
              clear hml
              rcases HBM.out with ⟨m1, m2⟩ | ⟨m1, m2, m3, m4⟩
              · rw [m1]
                generalize tq (pgL T) = M at *
                generalize prE M = PE at *
                generalize prS M = PS at *
                clear m1 m2
                go_wp2_with fail
                refine (HPM.out _ (HI.out _ HB6.out) _ _ HM6.out).mono ?_
                rintro e w7 ⟨rfl, b7⟩
                have HB7 := Lib.hid (HB6.out.trans (b7.mono HB6.out.size))
                clear b7
                go_wp2
                go_ret
                exact ⟨rfl, HB7.out⟩
              · rw [m1]
                have HAL := Lib.hid (fun w1 ao bo ca cb h1 h2 => alike14_walk K (tq (pgL T)) m2.symm HKL.out ao bo ca cb w1 h1 h2)
                rw [m3, m4] at HPM
                clear m1 m2 m3 m4
                generalize tq (pgL T) = M at *
                go_wp2_with fail
                refine (HPM.out _ (HI.out _ HB6.out) _ _ HM6.out).mono ?_
                rintro e w7 ⟨rfl, b7⟩
                have HB7 := Lib.hid (HB6.out.trans (b7.mono HB6.out.size))
                have HK7 := Lib.hid (HK6.out.below b7)
                have HM7 := Lib.hid (HM6.out.below b7)
                clear b7
                go_wp2_with fail
                refine (HAL.out _ _ _ _ _ HK7.out HM7.out).mono ?_
                rintro e w8 ⟨rfl, b8⟩
                have HB8 := Lib.hid (HB7.out.trans (b8.mono HB7.out.size))
                clear b8
                go_wp2
                go_ret
                exact ⟨rfl, HB8.out⟩
            · have h0 : (((pgE s : Nat) : Int) != 0) = true := by rw [bne_iff_ne]; omega
              have h00 : ¬ ((pgE s : Nat) : Int) = 0 := by omega
              obtain ⟨x1, x2⟩ := pgE_er he
              obtain ⟨x2, x3⟩ := x2 (by omega)
              rw [x1]
              have hli : (0 : Int) < ((pgN s : Nat) : Int) := by omega
              have hlj : ((pgN s : Nat) : Int) ≤ 1 + ((nls s : Nat) : Int) := by omega
              have hnl : ((nls s : Nat) : Int) ≤ 5000 := by have := List.countP_le_length (p := (· == (10 : UInt8))) (l := s); unfold nls; omega
              have HCT := Lib.hid (fun w1 h => HFC.out s w1 (by omega) h)
              clear x1 x2 x3 he
              generalize pgE s = E at *
              generalize pgN s = LN at *
              generalize nls s = NL at *
              go_wp2_with fail
              refine (HCT.out _ (HI.out _ HB4.out)).mono ?_
              rintro e w5 ⟨rfl, b5⟩
              have HB5 := Lib.hid (HB4.out.trans (b5.mono HB4.out.size))
              clear b5
              go_wp2
              go_ret
              exact ⟨rfl, HB5.out⟩
        · have hn2 : ¬ ((totM l : Nat) : Int) < 5000 := by omega
          have HPR := Lib.hid (fun w1 (h : I w1) ao ca hr => HFA.out l ao ca w1 (by omega) HLT.out h hr)
          clear hn
          generalize totM l = N at *
          go_wp2_with fail
          refine (HPR.out _ (HI.out _ HB.out) _ _ (HRQ.out.below HB.out)).mono ?_
          rintro e w2 ⟨⟨t0, c0, rfl⟩, b2⟩
          have HBX := Lib.hid (HB.out.trans (b2.mono hBs))
          clear b2
          by_cases hc0 : c0 = 0
          · subst hc0
            go_wp2_with fail
            refine (HSP.out _ (HI.out _ HBX.out)).mono ?_
            rintro e w4 ⟨b4, ko, kc, rfl, hr4⟩
            have HB4 := Lib.hid (HBX.out.trans (b4.mono HBX.out.size))
            have HK4 := Lib.hid hr4.q
            clear b4 hr4
            by_cases he : pgE s = 0
            · have h0 : ((pgE s : Nat) : Int) = 0 := by omega
              have HPK := Lib.hid (fun w1 (h : I w1) ao ca hr => HF.out.print (tq (pgL s)) ao ca w1 (by rw [tq_len]; have := (pgL_is s).2.1; omega) (tq_short (pgL_is s).2.2) h hr)
              have HBS := Lib.hid (back_s s)
              have hbm := back_m s
              have hpl := prS_short s
              rw [(back_s s).2.1] at HPK
              have hkl : (pgL s).length = (tq (pgL s)).length := (tq_len _).symm
              rw [hkl]
              have HTC := Lib.hid (fun w1 h => HF.out.split (prS (tq (pgL s))) w1 hpl h)
              have HBM := Lib.hid hbm
              have HKL := Lib.hid (show (tq (pgL s)).length ≤ 1000000 by rw [tq_len]; have := (pgL_is s).2.1; omega)
              clear hkl hbm hpl he
              generalize tq (pgL s) = K at *
              generalize prS K = T at *
              go_wp2_with fail
              refine (HPK.out _ (HI.out _ HB4.out) _ _ HK4.out).mono ?_
              rintro e w5 ⟨rfl, b5⟩
              have HB5 := Lib.hid (HB4.out.trans (b5.mono HB4.out.size))
              have HK5 := Lib.hid (HK4.out.below b5)
              clear b5
              go_wp2_with fail
              refine (HTC.out _ (HI.out _ HB5.out)).mono ?_
              rintro e w6 ⟨b6, mo, mc, rfl, hr6⟩
              have HB6 := Lib.hid (HB5.out.trans (b6.mono HB5.out.size))
              have HK6 := Lib.hid (HK5.out.below b6)
              have HM6 := Lib.hid hr6.q
              clear b6 hr6
              have HPM := Lib.hid (fun w1 (h : I w1) ao ca hr => HF.out.print (tq (pgL T)) ao ca w1 (by rw [tq_len]; have := (pgL_is T).2.1; omega) (tq_short (pgL_is T).2.2) h hr)
              have hml : (pgL T).length = (tq (pgL T)).length := (tq_len _).symm
              rw [hml]
              clear hml
              rcases HBM.out with ⟨m1, m2⟩ | ⟨m1, m2, m3, m4⟩
              · rw [m1]
                generalize tq (pgL T) = M at *
                generalize prE M = PE at *
                generalize prS M = PS at *
                clear m1 m2
                go_wp2_with fail
                refine (HPM.out _ (HI.out _ HB6.out) _ _ HM6.out).mono ?_
                rintro e w7 ⟨rfl, b7⟩
                have HB7 := Lib.hid (HB6.out.trans (b7.mono HB6.out.size))
                clear b7
                go_wp2
                go_ret
                exact ⟨rfl, HB7.out⟩
              · rw [m1]
                have HAL := Lib.hid (fun w1 ao bo ca cb h1 h2 => alike14_walk K (tq (pgL T)) m2.symm HKL.out ao bo ca cb w1 h1 h2)
                rw [m3, m4] at HPM
                clear m1 m2 m3 m4
                generalize tq (pgL T) = M at *
                go_wp2_with fail
                refine (HPM.out _ (HI.out _ HB6.out) _ _ HM6.out).mono ?_
                rintro e w7 ⟨rfl, b7⟩
                have HB7 := Lib.hid (HB6.out.trans (b7.mono HB6.out.size))
                have HK7 := Lib.hid (HK6.out.below b7)
                have HM7 := Lib.hid (HM6.out.below b7)
                clear b7
                go_wp2_with fail
                refine (HAL.out _ _ _ _ _ HK7.out HM7.out).mono ?_
                rintro e w8 ⟨rfl, b8⟩
                have HB8 := Lib.hid (HB7.out.trans (b8.mono HB7.out.size))
                clear b8
                go_wp2
                go_ret
                exact ⟨rfl, HB8.out⟩
            · have h0 : (((pgE s : Nat) : Int) != 0) = true := by rw [bne_iff_ne]; omega
              have h00 : ¬ ((pgE s : Nat) : Int) = 0 := by omega
              obtain ⟨x1, x2⟩ := pgE_er he
              obtain ⟨x2, x3⟩ := x2 (by omega)
              rw [x1]
              have hli : (0 : Int) < ((pgN s : Nat) : Int) := by omega
              have hlj : ((pgN s : Nat) : Int) ≤ 1 + ((nls s : Nat) : Int) := by omega
              have hnl : ((nls s : Nat) : Int) ≤ 5000 := by have := List.countP_le_length (p := (· == (10 : UInt8))) (l := s); unfold nls; omega
              have HCT := Lib.hid (fun w1 h => HFC.out s w1 (by omega) h)
              clear x1 x2 x3 he
              generalize pgE s = E at *
              generalize pgN s = LN at *
              generalize nls s = NL at *
              go_wp2_with fail
              refine (HCT.out _ (HI.out _ HB4.out)).mono ?_
              rintro e w5 ⟨rfl, b5⟩
              have HB5 := Lib.hid (HB4.out.trans (b5.mono HB4.out.size))
              clear b5
              go_wp2
              go_ret
              exact ⟨rfl, HB5.out⟩
          · have hc1 : (c0 == 0) = false := beq_eq_false_iff_ne.2 hc0
            go_wp2_with fail
            refine (HSP.out _ (HI.out _ HBX.out)).mono ?_
            rintro e w4 ⟨b4, ko, kc, rfl, hr4⟩
            have HB4 := Lib.hid (HBX.out.trans (b4.mono HBX.out.size))
            have HK4 := Lib.hid hr4.q
            clear b4 hr4
            by_cases he : pgE s = 0
            · have h0 : ((pgE s : Nat) : Int) = 0 := by omega
              have HPK := Lib.hid (fun w1 (h : I w1) ao ca hr => HF.out.print (tq (pgL s)) ao ca w1 (by rw [tq_len]; have := (pgL_is s).2.1; omega) (tq_short (pgL_is s).2.2) h hr)
              have HBS := Lib.hid (back_s s)
              have hbm := back_m s
              have hpl := prS_short s
              rw [(back_s s).2.1] at HPK
              have hkl : (pgL s).length = (tq (pgL s)).length := (tq_len _).symm
              rw [hkl]
              have HTC := Lib.hid (fun w1 h => HF.out.split (prS (tq (pgL s))) w1 hpl h)
              have HBM := Lib.hid hbm
              have HKL := Lib.hid (show (tq (pgL s)).length ≤ 1000000 by rw [tq_len]; have := (pgL_is s).2.1; omega)
              clear hkl hbm hpl he
              generalize tq (pgL s) = K at *
              generalize prS K = T at *
              go_wp2_with fail
              refine (HPK.out _ (HI.out _ HB4.out) _ _ HK4.out).mono ?_
              rintro e w5 ⟨rfl, b5⟩
              have HB5 := Lib.hid (HB4.out.trans (b5.mono HB4.out.size))
              have HK5 := Lib.hid (HK4.out.below b5)
              clear b5
              go_wp2_with fail
              refine (HTC.out _ (HI.out _ HB5.out)).mono ?_
              rintro e w6 ⟨b6, mo, mc, rfl, hr6⟩
              have HB6 := Lib.hid (HB5.out.trans (b6.mono HB5.out.size))
              have HK6 := Lib.hid (HK5.out.below b6)
              have HM6 := Lib.hid hr6.q
              clear b6 hr6
              have HPM := Lib.hid (fun w1 (h : I w1) ao ca hr => HF.out.print (tq (pgL T)) ao ca w1 (by rw [tq_len]; have := (pgL_is T).2.1; omega) (tq_short (pgL_is T).2.2) h hr)
              have hml : (pgL T).length = (tq (pgL T)).length := (tq_len _).symm
              rw [hml]
              clear hml
              rcases HBM.out with ⟨m1, m2⟩ | ⟨m1, m2, m3, m4⟩
              · rw [m1]
                generalize tq (pgL T) = M at *
                generalize prE M = PE at *
                generalize prS M = PS at *
                clear m1 m2
                go_wp2_with fail
                refine (HPM.out _ (HI.out _ HB6.out) _ _ HM6.out).mono ?_
                rintro e w7 ⟨rfl, b7⟩
                have HB7 := Lib.hid (HB6.out.trans (b7.mono HB6.out.size))
                clear b7
                go_wp2
                go_ret
                exact ⟨rfl, HB7.out⟩
              · rw [m1]
                have HAL := Lib.hid (fun w1 ao bo ca cb h1 h2 => alike14_walk K (tq (pgL T)) m2.symm HKL.out ao bo ca cb w1 h1 h2)
                rw [m3, m4] at HPM
                clear m1 m2 m3 m4
                generalize tq (pgL T) = M at *
                go_wp2_with fail
                refine (HPM.out _ (HI.out _ HB6.out) _ _ HM6.out).mono ?_
                rintro e w7 ⟨rfl, b7⟩
                have HB7 := Lib.hid (HB6.out.trans (b7.mono HB6.out.size))
                have HK7 := Lib.hid (HK6.out.below b7)
                have HM7 := Lib.hid (HM6.out.below b7)
                clear b7
                go_wp2_with fail
                refine (HAL.out _ _ _ _ _ HK7.out HM7.out).mono ?_
                rintro e w8 ⟨rfl, b8⟩
                have HB8 := Lib.hid (HB7.out.trans (b8.mono HB7.out.size))
                clear b8
                go_wp2
                go_ret
                exact ⟨rfl, HB8.out⟩
            · have h0 : (((pgE s : Nat) : Int) != 0) = true := by rw [bne_iff_ne]; omega
              have h00 : ¬ ((pgE s : Nat) : Int) = 0 := by omega
              obtain ⟨x1, x2⟩ := pgE_er he
              obtain ⟨x2, x3⟩ := x2 (by omega)
              rw [x1]
              have hli : (0 : Int) < ((pgN s : Nat) : Int) := by omega
              have hlj : ((pgN s : Nat) : Int) ≤ 1 + ((nls s : Nat) : Int) := by omega
              have hnl : ((nls s : Nat) : Int) ≤ 5000 := by have := List.countP_le_length (p := (· == (10 : UInt8))) (l := s); unfold nls; omega
              have HCT := Lib.hid (fun w1 h => HFC.out s w1 (by omega) h)
              clear x1 x2 x3 he
              generalize pgE s = E at *
              generalize pgN s = LN at *
              generalize nls s = NL at *
              go_wp2_with fail
              refine (HCT.out _ (HI.out _ HB4.out)).mono ?_
              rintro e w5 ⟨rfl, b5⟩
              have HB5 := Lib.hid (HB4.out.trans (b5.mono HB4.out.size))
              clear b5
              go_wp2
              go_ret
              exact ⟨rfl, HB5.out⟩
end Go.Proofs.YtkobjbmjefkmgaaDoor
