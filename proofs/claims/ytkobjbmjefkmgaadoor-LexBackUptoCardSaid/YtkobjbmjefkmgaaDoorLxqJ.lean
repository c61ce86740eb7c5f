/- The program's quote and Quote, walked. -/
import Derived.Test.YtkobjbmjefkmgaaDoorLexH
import Derived.Test.YtkobjbmjefkmgaaDoorBld
import Derived.Test.YtkobjbmjefkmgaaDoorLxqF
namespace Go.Proofs.YtkobjbmjefkmgaaDoor
open Go.ChangeShapes Go.WideShapes Go.ChangeAt Go.RowKit K L14
set_option linter.unusedVariables false

theorem hx_get (n : Nat) (h : n < 16) : ({ data := #[48, 49, 50, 51, 52, 53, 54, 55, 56, 57, 97, 98, 99, 100, 101, 102] } : ByteArray)[n]'(by exact h) = hxd n := by
  obtain rfl | rfl | rfl | rfl | rfl | rfl | rfl | rfl | rfl | rfl | rfl | rfl | rfl | rfl | rfl | rfl : n = 0 ∨ n = 1 ∨ n = 2 ∨ n = 3 ∨ n = 4 ∨ n = 5 ∨ n = 6 ∨ n = 7 ∨ n = 8 ∨ n = 9 ∨ n = 10 ∨ n = 11 ∨ n = 12 ∨ n = 13 ∨ n = 14 ∨ n = 15 := by omega
  all_goals rfl
def QbPost (B b : Nat) (l : List UInt8) (w : World) (e : Ending) (w' : World) : Prop := e = .returned (.tuple #[]) ∧ Bld B b l w' ∧ Below B w w'
set_option maxRecDepth 100000 in
set_option maxHeartbeats 1000000 in
theorem lquote_walk (B b : Nat) (l : List UInt8) (c : UInt8) (w : World) (h : Bld B b l w) (hl : l.length + 4 ≤ 140737488355328) (hB : B ≤ w.heap.size) :
    Calls Tryd.prog 31 #[.pointer (some ⟨b, 0, none⟩), .int .u8 (c.toNat : Nat)] w (QbPost B b (l ++ qb c) w) := by
  have HW := Lib.hid (fun (x : UInt8) l1 w1 (h1 : Bld B b l1 w1) hl1 hB1 => wbyte B b l1 x w1 h1 hl1 hB1)
  have HS := Lib.hid (fun (x : List UInt8) l1 w1 (h1 : Bld B b l1 w1) hl1 hB1 => wstrB B b l1 x w1 h1 hl1 hB1)
  have H := Lib.hid h
  have hc := c.toNat_lt
  clear h
  by_cases c1 : c = 34 ∨ c = 92
  · have HQ := Lib.hid (show qb c = [92, c] by unfold qb; rw [if_pos c1])
    have hbb : (((c.toNat : Nat) : Int) == 34) = true ∨ ((((c.toNat : Nat) : Int) == 34) = false ∧ (((c.toNat : Nat) : Int) == 92) = true) := by
      rcases c1 with rfl | rfl
      · exact .inl rfl
      · exact .inr ⟨rfl, rfl⟩
    clear c1
    rcases hbb with g1 | ⟨g1, g2⟩
    all_goals
      go_enter Tryd.func31, Tryd.ntmps31
      go_wp2_with fail
      refine (HW.out 92 l _ H.out (by omega) hB).mono ?_
      rintro e w1 ⟨rfl, h1, b1⟩
      have H1 := Lib.hid h1
      have hB1 := Nat.le_trans hB b1.size
      have B1 := Lib.hid b1
      clear h1 b1
      go_wp2_with fail
      refine (HW.out c (l ++ [92]) _ H1.out (by rw [List.length_append]; simp; omega) hB1).mono ?_
      rintro e w2 ⟨rfl, h2, b2⟩
      have H2 := Lib.hid (show QbPost B b (l ++ qb c) w (.returned (.tuple #[])) w2 from ⟨rfl, by rw [HQ.out]; simpa using h2, B1.out.trans b2⟩)
      clear h2 b2
      go_wp2
      go_end0
      exact H2.out
  have d1 : (((c.toNat : Nat) : Int) == 34) = false := byte_ne (n := 34) (by decide) (fun e => c1 (.inl e))
  have d2 : (((c.toNat : Nat) : Int) == 92) = false := byte_ne (n := 92) (by decide) (fun e => c1 (.inr e))
  by_cases c2 : c = 10
  · have HQ := Lib.hid (show qb c = [92, 110] by rw [c2]; rfl)
    have d3 : (((c.toNat : Nat) : Int) == 10) = true := by rw [c2]; rfl
    clear c1 c2
    go_enter Tryd.func31, Tryd.ntmps31
    go_wp2_with fail
    refine (HS.out [92, 110] l _ H.out (by simp; omega) hB).mono ?_
    rintro e w1 ⟨rfl, h1, b1⟩
    have H2 := Lib.hid (show QbPost B b (l ++ qb c) w (.returned (.tuple #[])) w1 from ⟨rfl, by rw [HQ.out]; exact h1, b1⟩)
    clear h1 b1
    go_wp2
    go_end0
    exact H2.out
  have d3 : (((c.toNat : Nat) : Int) == 10) = false := byte_ne (n := 10) (by decide) c2
  by_cases c3 : c = 9
  · have HQ := Lib.hid (show qb c = [92, 116] by rw [c3]; rfl)
    have d4 : (((c.toNat : Nat) : Int) == 9) = true := by rw [c3]; rfl
    clear c1 c2 c3
    go_enter Tryd.func31, Tryd.ntmps31
    go_wp2_with fail
    refine (HS.out [92, 116] l _ H.out (by simp; omega) hB).mono ?_
    rintro e w1 ⟨rfl, h1, b1⟩
    have H2 := Lib.hid (show QbPost B b (l ++ qb c) w (.returned (.tuple #[])) w1 from ⟨rfl, by rw [HQ.out]; exact h1, b1⟩)
    clear h1 b1
    go_wp2
    go_end0
    exact H2.out
  have d4 : (((c.toNat : Nat) : Int) == 9) = false := byte_ne (n := 9) (by decide) c3
  by_cases c4 : c.toNat < 32 ∨ 127 ≤ c.toNat
  · have HQ := Lib.hid (show qb c = [92, 120, hxd (c.toNat / 16), hxd (c.toNat % 16)] by unfold qb; rw [if_neg c1, if_neg c2, if_neg c3, if_pos c4])
    have d5 : ((c.toNat : Nat) : Int) < 32 ∨ (¬ ((c.toNat : Nat) : Int) < 32 ∧ (126 : Int) < ((c.toNat : Nat) : Int)) := by omega
    clear c1 c2 c3 c4
    rcases d5 with d5 | ⟨d5, d6⟩
    all_goals
      go_enter Tryd.func31, Tryd.ntmps31
      go_wp2_with fail
      refine (HS.out [92, 120] l _ H.out (by simp; omega) hB).mono ?_
      rintro e w1 ⟨rfl, h1, b1⟩
      have H1 := Lib.hid h1
      have hB1 := Nat.le_trans hB b1.size
      have B1 := Lib.hid b1
      clear h1 b1
      go_wp2_with fail
      refine (HW.out _ (l ++ [92, 120]) _ H1.out (by rw [List.length_append]; simp; omega) hB1).mono ?_
      rintro e w2 ⟨rfl, h2, b2⟩
      rw [hx_get (c.toNat / 16) (by omega)] at h2
      have H2 := Lib.hid h2
      have hB2 := Nat.le_trans hB1 b2.size
      have B2 := Lib.hid (B1.out.trans b2)
      clear h2 b2
      go_wp2_with fail
      refine (HW.out _ (l ++ [92, 120] ++ [hxd (c.toNat / 16)]) _ H2.out (by simp only [List.length_append, List.length_cons, List.length_nil]; omega) hB2).mono ?_
      rintro e w3 ⟨rfl, h3, b3⟩
      rw [hx_get (c.toNat % 16) (by omega)] at h3
      have H3 := Lib.hid (show QbPost B b (l ++ qb c) w (.returned (.tuple #[])) w3 from ⟨rfl, by rw [HQ.out]; simpa using h3, B2.out.trans b3⟩)
      clear h3 b3
      go_wp2
      go_end0
      exact H3.out
  · have HQ := Lib.hid (show qb c = [c] by unfold qb; rw [if_neg c1, if_neg c2, if_neg c3, if_neg c4])
    have d5 : ¬ ((c.toNat : Nat) : Int) < 32 := by omega
    have d6 : ¬ (126 : Int) < ((c.toNat : Nat) : Int) := by omega
    clear c1 c2 c3 c4
    go_enter Tryd.func31, Tryd.ntmps31
    go_wp2_with fail
    refine (HW.out c l _ H.out (by omega) hB).mono ?_
    rintro e w1 ⟨rfl, h1, b1⟩
    have H2 := Lib.hid (show QbPost B b (l ++ qb c) w (.returned (.tuple #[])) w1 from ⟨rfl, by rw [HQ.out]; exact h1, b1⟩)
    clear h1 b1
    go_wp2
    go_end0
    exact H2.out
def QtRel (s : List UInt8) (w : World) (g : Nat) (v : Value) (wr : World) : Prop :=
  ∃ i, i + g = s.length ∧ v = .int .i64 (i : Nat) ∧ Bld w.heap.size w.heap.size (34 :: qbd (s.take i)) wr ∧ Below w.heap.size w wr
theorem lqbd_take (s : List UInt8) (i : Nat) (h : i < s.length) : qbd (s.take (i + 1)) = qbd (s.take i) ++ qb (s.getD i 0) := by
  rw [List.take_succ_eq_append_getElem h, qbd_app]
  simp [qbd, List.getD, h]
theorem lbyt_getD (s : List UInt8) (i : Nat) : byt s i = (s.getD i 0).toNat := by simp [byt, List.getD]
set_option maxRecDepth 100000 in
set_option maxHeartbeats 1000000 in
theorem lQuote_walk (s : List UInt8) (hs : s.length ≤ 1000000000) (w : World) : Calls Tryd.prog 14 #[.string (bs s)] w fun e w' => e = .returned (.string (bs (quo s))) ∧ Below w.heap.size w w' := by
  have hbf := Bld.newL w
  have hba : Below w.heap.size w (w.alloc (.cells #[.pointer none, .slice none 0 0] 58)) := (Below.refl _ _).alloc (Nat.le_refl _) _
  have H0 := Lib.hid (wbyte w.heap.size w.heap.size [] 34 _ hbf (by simp) hba.size)
  have HB0 := Lib.hid hba
  clear hbf hba
  go_enter Tryd.func14, Tryd.ntmps14
  go_wp2_with fail
  refine H0.out.mono ?_
  rintro e w1 ⟨rfl, h1, b1⟩
  have H1 := Lib.hid (show QtRel s w s.length (.int .i64 (0 : Nat)) w1 from ⟨0, by omega, rfl, h1, HB0.out.trans b1⟩)
  clear h1 b1
  go_wp2_with fail
  go_loopg [8] s.length (fun g v wr => QtRel s w g v wr)
  case atStart => exact H1.out
  case round =>
    obtain ⟨i, hig, rfl, hB, hb⟩ := hrel
    clear H1 H0
    have hql := (qbd_len (s.take i)).2
    have hqt : (s.take i).length ≤ i := by rw [List.length_take]; omega
    have HB := Lib.hid hb
    have hBs := hb.size
    cases gk with
    | zero =>
      obtain rfl : i = s.length := by omega
      rw [List.take_length] at hB hql
      have HW := Lib.hid (wbyte w.heap.size w.heap.size _ 34 _ hB (by simp only [List.length_cons]; omega) hBs)
      clear hB hb hql hqt
      go_wp2_with fail
      refine HW.out.mono ?_
      rintro e w2 ⟨rfl, h2, b2⟩
      have HS := Lib.hid (bstr _ _ _ _ h2 (Nat.le_trans hBs b2.size))
      have HB2 := Lib.hid (HB.out.trans b2)
      clear h2 b2
      go_wp2_with fail
      refine HS.out.mono ?_
      rintro e w3 ⟨rfl, b3⟩
      have HB3 := Lib.hid (HB2.out.trans b3)
      clear b3
      go_wp2
      go_ret
      exact ⟨rfl, HB3.out⟩
    | succ g =>
      have hi : i < s.length := by omega
      have HQ := lquote_walk w.heap.size w.heap.size _ (s.getD i 0) _ hB (by simp only [List.length_cons]; omega) hBs
      rw [← lbyt_getD] at HQ
      unfold QbPost at HQ
      have HC := Lib.hid HQ
      have HT := Lib.hid (lqbd_take s i hi)
      have HN := Lib.hid (fun w2 (h2 : Bld w.heap.size w.heap.size (34 :: qbd (s.take i) ++ qb (s.getD i 0)) w2) (b2 : Below w.heap.size w w2) => (show QtRel s w g (.int .i64 ((i : Int) + 1)) w2 from ⟨i + 1, by omega, rfl, by rw [HT.out]; exact h2, b2⟩))
      clear hB hb HQ hql hqt
      go_wp2_with fail
      refine HC.out.mono ?_
      rintro e w2 ⟨rfl, h2, b2⟩
      have HX := Lib.hid (HN.out _ h2 (HB.out.trans b2))
      clear h2 b2
      go_wp2
      go_roundg g
      case measure => omega
      case rel => exact HX.out
end Go.Proofs.YtkobjbmjefkmgaaDoor
