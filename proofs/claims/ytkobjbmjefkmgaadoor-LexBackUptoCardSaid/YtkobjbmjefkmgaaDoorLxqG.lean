/- The program's next, walked. gen_lxqg.py writes it. -/
import Derived.Test.YtkobjbmjefkmgaaDoorLxqF
import Derived.Test.YtkobjbmjefkmgaaDoorLexQ
namespace Go.Proofs.YtkobjbmjefkmgaaDoor
open Go.ChangeShapes Go.WideShapes Go.ChangeAt Go.RowKit K L14
set_option linter.unusedVariables false

/-- What next answers: the token, and what stands behind it. -/
def nxP (s : List UInt8) : Option ((Nat × List UInt8) × List UInt8) := (nxt s).map fun y => (y.1, s.drop y.2)
theorem rnP_pos {k : Nat} {c : UInt8} {t : List UInt8} (h : goN k c.toNat = true) : rnP k (c :: t) = some ((k, (c :: t).take (L14.run k (c :: t))), (c :: t).drop (L14.run k (c :: t))) := by
  unfold rnP
  rw [if_neg (by rw [run_pos h]; omega)]
theorem nxP_lt {c : UInt8} {t : List UInt8} (h : ltN c.toNat = true) : nxP (c :: t) = rnP 1 (c :: t) := by
  obtain ⟨h0, _, _⟩ := lt_not h
  rw [rnP_pos (lt_go h)]
  unfold nxP
  simp only [nxt]
  rw [if_neg (by rw [h0]; decide), if_pos h]; rfl
theorem nxP_dg {c : UInt8} {t : List UInt8} (h : dgN c.toNat = true) : nxP (c :: t) = rnP 2 (c :: t) := by
  obtain ⟨h0, h1, _, _⟩ := dg_not h
  rw [rnP_pos (dg_go h)]
  unfold nxP
  simp only [nxt]
  rw [if_neg (by rw [h0]; decide), if_neg (by rw [h1]; decide), if_pos h]; rfl
theorem nxP_fd (t : List UInt8) : nxP (36 :: t) = rnP 3 t := by
  unfold nxP rnP
  simp only [nxt]
  rw [if_neg (by decide), if_neg (by decide), if_neg (by decide), if_pos trivial]
  split
  · rfl
  · rfl
theorem nxP_tx (t : List UInt8) : nxP (34 :: t) = txP t := by
  unfold nxP txP tP
  simp only [nxt]
  rw [if_neg (by decide), if_neg (by decide), if_neg (by decide), if_neg (by decide), if_pos trivial]
  cases L14.text t <;> rfl
theorem nxP_sg {c : UInt8} {t : List UInt8} (h : sgN c.toNat = true) : nxP (c :: t) = some ((5, [c]), t) := by
  unfold nxP
  simp only [nxt]
  rw [if_pos h]; rfl
theorem nxP_no {c : UInt8} {t : List UInt8} (h0 : sgN c.toNat = false) (h1 : ltN c.toNat = false) (h2 : dgN c.toNat = false) (h3 : ¬ c = 36) (h4 : ¬ c = 34) : nxP (c :: t) = none := by
  unfold nxP
  simp only [nxt]
  rw [if_neg (by rw [h0]; decide), if_neg (by rw [h1]; decide), if_neg (by rw [h2]; decide), if_neg h3, if_neg h4]; rfl
/-- What is made behind a new block lies behind it. -/
theorem below_in (w : World) (X : Obj) : ∀ w2, Below (w.alloc X).heap.size (w.alloc X) w2 → Below w.heap.size w w2 := fun w2 b => ((Below.refl w.heap.size w).alloc (Nat.le_refl _) X).trans (b.mono (by simp))
theorem sg_has : ∀ n : Fin 256, ([123, 125, 40, 41, 59, 61, 43, 44] : List UInt8).contains (UInt8.ofNat n.val) = sgN n.val := by decide +kernel
set_option maxRecDepth 100000 in
set_option maxHeartbeats 2000000 in
theorem lnext_walk (c : UInt8) (t : List UInt8) (hs : (c :: t).length ≤ 140737488351232) (w : World) (T : LxI w) : Calls Tryd.prog 21 #[.string (bs (c :: t))] w (TkPost (nxP (c :: t)) w) := by
  have hb0 := (Below.refl w.heap.size w).alloc (Nat.le_refl _) (.cells #[.int .i64 0, .string { data := #[] }, .int .i64 0] 33)
  have HT := Lib.hid (T.below hb0)
  have HB0 := Lib.hid (fun X => (Below.refl w.heap.size w).alloc (Nat.le_refl _) X)
  have hR0 := rowNew w (.cells #[.int .i64 0, .string { data := #[] }, .int .i64 0] 33)
  have z0 := cellRow hR0 0
  have z1 := cellRow hR0 1
  have z2 := cellRow hR0 2
  have f0 := freeRow hR0 0
  have f1 := freeRow hR0 1
  have f2 := freeRow hR0 2
  have HR0 := Lib.hid hR0
  have HL := Lib.hid (fun w1 => lletter_walk (byt (c :: t) 0) (byt_lt _ _) w1)
  have HD := Lib.hid (fun w1 => ldigit_walk (byt (c :: t) 0) (byt_lt _ _) w1)
  have HO := Lib.hid (fun w1 => lone_walk (byt (c :: t) 0) [123, 125, 40, 41, 59, 61, 43, 44] w1)
  have hby : byt (c :: t) 0 = c.toNat := rfl
  have hne : (c :: t).isEmpty = false := rfl
  have hpos : 0 < (c :: t).length := by simp
  have hpos1 : 1 ≤ (c :: t).length := by simp
  have HDR := Lib.hid (show (c :: t).tail = t from rfl)
  have HTK := Lib.hid (show (c :: t).take 1 = [c] from rfl)
  have hlen : (c :: t).length = t.length + 1 := rfl
  have hsg := sg_has ⟨byt (c :: t) 0, byt_lt _ _⟩
  simp only at hsg
  rw [hsg] at HO
  have HBI := Lib.hid (below_in w (.cells #[.int .i64 0, .string { data := #[] }, .int .i64 0] 33))
  clear hb0 hR0 T hsg
  cases h1 : ltN c.toNat
  rotate_left
  · rw [hby, h1, ← hby] at HL
    have HX := Lib.hid (nxP_lt (t := t) h1)
    have HC := Lib.hid (fun w1 (_ : LxI w1) => lrun_walk 1 (.inl rfl) (c :: t) hs w1)
    unfold TkPost at HC
    clear hby hlen h1
    generalize c :: t = S at *
    go_enter Tryd.func21, Tryd.ntmps21
    go_wp2_with fail
    refine (HL.out _).mono ?_
    rintro e w1 ⟨rfl, rfl⟩
    go_wp2_with fail
    refine (HC.out _ HT.out).mono ?_
    rintro e w2 ⟨rfl, b2⟩
    have HQ1 := Lib.hid ((b2.block w.heap.size (by simp)).trans HR0.out)
    have y0 := cellRow HQ1.out 0
    have y1 := cellRow HQ1.out 1
    have y2 := cellRow HQ1.out 2
    have g0 := freeRow HQ1.out 0
    have g1 := freeRow HQ1.out 1
    have g2 := freeRow HQ1.out 2
    have HB1 := Lib.hid (HBI.out _ b2)
    clear b2 z0 z1 z2 f0 f1 f2
    generalize rnP 1 S = O at *
    rcases O with _ | ⟨⟨k, tt⟩, rr⟩
    · go_wp2
      refine bodyPost_ret (results_cell_row3x rfl _ _ w.heap.size _ _ _ _ rfl (three_sets HQ1.out _ _ _) Tryd.underlying33 rfl (by kernel_rfl)) rfl ?_
      unfold TkPost
      rw [HX.out]
      exact ⟨rfl, below3 HB1.out (Nat.le_refl _) _ _ _⟩
    · go_wp2
      refine bodyPost_ret (results_cell_row3x rfl _ _ w.heap.size _ _ _ _ rfl (three_sets HQ1.out _ _ _) Tryd.underlying33 rfl (by kernel_rfl)) rfl ?_
      unfold TkPost
      rw [HX.out]
      exact ⟨rfl, below3 HB1.out (Nat.le_refl _) _ _ _⟩
  rw [hby, h1, ← hby] at HL
  cases h2 : dgN c.toNat
  rotate_left
  · rw [hby, h2, ← hby] at HD
    have HX := Lib.hid (nxP_dg (t := t) h2)
    have HC := Lib.hid (fun w1 (_ : LxI w1) => lrun_walk 2 (.inr (.inl rfl)) (c :: t) hs w1)
    unfold TkPost at HC
    clear hby hlen h1 h2
    generalize c :: t = S at *
    go_enter Tryd.func21, Tryd.ntmps21
    go_wp2_with fail
    refine (HL.out _).mono ?_
    rintro e w1 ⟨rfl, rfl⟩
    go_wp2_with fail
    refine (HD.out _).mono ?_
    rintro e w1 ⟨rfl, rfl⟩
    go_wp2_with fail
    refine (HC.out _ HT.out).mono ?_
    rintro e w2 ⟨rfl, b2⟩
    have HQ1 := Lib.hid ((b2.block w.heap.size (by simp)).trans HR0.out)
    have y0 := cellRow HQ1.out 0
    have y1 := cellRow HQ1.out 1
    have y2 := cellRow HQ1.out 2
    have g0 := freeRow HQ1.out 0
    have g1 := freeRow HQ1.out 1
    have g2 := freeRow HQ1.out 2
    have HB1 := Lib.hid (HBI.out _ b2)
    clear b2 z0 z1 z2 f0 f1 f2
    generalize rnP 2 S = O at *
    rcases O with _ | ⟨⟨k, tt⟩, rr⟩
    · go_wp2
      refine bodyPost_ret (results_cell_row3x rfl _ _ w.heap.size _ _ _ _ rfl (three_sets HQ1.out _ _ _) Tryd.underlying33 rfl (by kernel_rfl)) rfl ?_
      unfold TkPost
      rw [HX.out]
      exact ⟨rfl, below3 HB1.out (Nat.le_refl _) _ _ _⟩
    · go_wp2
      refine bodyPost_ret (results_cell_row3x rfl _ _ w.heap.size _ _ _ _ rfl (three_sets HQ1.out _ _ _) Tryd.underlying33 rfl (by kernel_rfl)) rfl ?_
      unfold TkPost
      rw [HX.out]
      exact ⟨rfl, below3 HB1.out (Nat.le_refl _) _ _ _⟩
  rw [hby, h2, ← hby] at HD
  by_cases h3 : c = 36
  · have hb : byt (c :: t) 0 = 36 := by rw [hby, h3]; rfl
    rw [hb] at HL HD
    have HX := Lib.hid (show nxP (c :: t) = rnP 3 t by rw [h3]; exact nxP_fd t)
    have HC := Lib.hid (fun w1 (_ : LxI w1) => lrun_walk 3 (.inr (.inr rfl)) t (by simp at hs; omega) w1)
    unfold TkPost at HC
    clear hby hlen h1 h2 h3
    generalize c :: t = S at *
    go_enter Tryd.func21, Tryd.ntmps21
    go_wp2_with fail
    refine (HL.out _).mono ?_
    rintro e w1 ⟨rfl, rfl⟩
    go_wp2_with fail
    refine (HD.out _).mono ?_
    rintro e w1 ⟨rfl, rfl⟩
    go_wp2_with fail
    rw [HDR.out]
    refine (HC.out _ HT.out).mono ?_
    rintro e w2 ⟨rfl, b2⟩
    have HQ1 := Lib.hid ((b2.block w.heap.size (by simp)).trans HR0.out)
    have y0 := cellRow HQ1.out 0
    have y1 := cellRow HQ1.out 1
    have y2 := cellRow HQ1.out 2
    have g0 := freeRow HQ1.out 0
    have g1 := freeRow HQ1.out 1
    have g2 := freeRow HQ1.out 2
    have HB1 := Lib.hid (HBI.out _ b2)
    clear b2 z0 z1 z2 f0 f1 f2
    generalize rnP 3 t = O at *
    rcases O with _ | ⟨⟨k, tt⟩, rr⟩
    · go_wp2
      refine bodyPost_ret (results_cell_row3x rfl _ _ w.heap.size _ _ _ _ rfl (three_sets HQ1.out _ _ _) Tryd.underlying33 rfl (by kernel_rfl)) rfl ?_
      unfold TkPost
      rw [HX.out]
      exact ⟨rfl, below3 HB1.out (Nat.le_refl _) _ _ _⟩
    · go_wp2
      refine bodyPost_ret (results_cell_row3x rfl _ _ w.heap.size _ _ _ _ rfl (three_sets HQ1.out _ _ _) Tryd.underlying33 rfl (by kernel_rfl)) rfl ?_
      unfold TkPost
      rw [HX.out]
      exact ⟨rfl, below3 HB1.out (Nat.le_refl _) _ _ _⟩
  have e3 : (((byt (c :: t) 0 : Nat) : Int) == 36) = false := by rw [hby]; exact byte_ne (n := 36) (by decide) h3
  have e3b : (((byt (c :: t) 0 : Nat) : Int) == (((({ data := #[36] } : ByteArray)[0]'(by decide)).toNat : Nat) : Int)) = false := e3
  by_cases h4 : c = 34
  · have hb : byt (c :: t) 0 = 34 := by rw [hby, h4]; rfl
    rw [hb] at HL HD
    have HX := Lib.hid (show nxP (c :: t) = txP t by rw [h4]; exact nxP_tx t)
    have HC := Lib.hid (fun w1 (T1 : LxI w1) => ltext_walk t (by simp at hs; omega) w1 T1)
    unfold TkPost at HC
    clear hby hlen h1 h2 h3 h4 e3
    generalize c :: t = S at *
    go_enter Tryd.func21, Tryd.ntmps21
    go_wp2_with fail
    refine (HL.out _).mono ?_
    rintro e w1 ⟨rfl, rfl⟩
    go_wp2_with fail
    refine (HD.out _).mono ?_
    rintro e w1 ⟨rfl, rfl⟩
    go_wp2_with fail
    rw [HDR.out]
    refine (HC.out _ HT.out).mono ?_
    rintro e w2 ⟨rfl, b2⟩
    have HQ1 := Lib.hid ((b2.block w.heap.size (by simp)).trans HR0.out)
    have y0 := cellRow HQ1.out 0
    have y1 := cellRow HQ1.out 1
    have y2 := cellRow HQ1.out 2
    have g0 := freeRow HQ1.out 0
    have g1 := freeRow HQ1.out 1
    have g2 := freeRow HQ1.out 2
    have HB1 := Lib.hid (HBI.out _ b2)
    clear b2 z0 z1 z2 f0 f1 f2
    generalize txP t = O at *
    rcases O with _ | ⟨⟨k, tt⟩, rr⟩
    · go_wp2
      refine bodyPost_ret (results_cell_row3x rfl _ _ w.heap.size _ _ _ _ rfl (three_sets HQ1.out _ _ _) Tryd.underlying33 rfl (by kernel_rfl)) rfl ?_
      unfold TkPost
      rw [HX.out]
      exact ⟨rfl, below3 HB1.out (Nat.le_refl _) _ _ _⟩
    · go_wp2
      refine bodyPost_ret (results_cell_row3x rfl _ _ w.heap.size _ _ _ _ rfl (three_sets HQ1.out _ _ _) Tryd.underlying33 rfl (by kernel_rfl)) rfl ?_
      unfold TkPost
      rw [HX.out]
      exact ⟨rfl, below3 HB1.out (Nat.le_refl _) _ _ _⟩
  have e4 : (((byt (c :: t) 0 : Nat) : Int) == 34) = false := by rw [hby]; exact byte_ne (n := 34) (by decide) h4
  cases h5 : sgN c.toNat
  · rw [hby, h5, ← hby] at HO
    have HX := Lib.hid (nxP_no (t := t) h5 h1 h2 h3 h4)
    clear hby hlen h1 h2 h3 h4 h5
    generalize c :: t = S at *
    go_enter Tryd.func21, Tryd.ntmps21
    go_wp2_with fail
    refine (HL.out _).mono ?_
    rintro e w1 ⟨rfl, rfl⟩
    go_wp2_with fail
    refine (HD.out _).mono ?_
    rintro e w1 ⟨rfl, rfl⟩
    go_wp2_with fail
    refine (HO.out _).mono ?_
    rintro e w1 ⟨rfl, rfl⟩
    go_wp2_with fail
    refine bodyPost_ret (results_cell_row3x rfl _ _ w.heap.size _ _ _ _ rfl (rowNew w _) Tryd.underlying33 rfl (by kernel_rfl)) rfl ?_
    unfold TkPost
    rw [HX.out]
    exact ⟨rfl, HB0.out _⟩
  · rw [hby, h5, ← hby] at HO
    have HX := Lib.hid (nxP_sg (t := t) h5)
    clear hby hlen h1 h2 h3 h4 h5
    generalize c :: t = S at *
    go_enter Tryd.func21, Tryd.ntmps21
    go_wp2_with fail
    refine (HL.out _).mono ?_
    rintro e w1 ⟨rfl, rfl⟩
    go_wp2_with fail
    refine (HD.out _).mono ?_
    rintro e w1 ⟨rfl, rfl⟩
    go_wp2_with fail
    refine (HO.out _).mono ?_
    rintro e w1 ⟨rfl, rfl⟩
    go_wp2_with fail
    go_region
    go_wp2_with fail
    refine bodyPost_ret (results_cell_row3x rfl _ _ w.heap.size _ _ _ _ rfl (rowNew w _) Tryd.underlying33 rfl (by kernel_rfl)) rfl ?_
    unfold TkPost
    rw [HX.out, ← HDR.out, ← HTK.out]
    exact ⟨rfl, (HB0.out _).drew⟩
end Go.Proofs.YtkobjbmjefkmgaaDoor
