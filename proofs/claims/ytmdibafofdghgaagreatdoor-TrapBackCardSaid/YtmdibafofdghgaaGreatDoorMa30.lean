/- Texts on the program and on the document, joined: PduN, PduV. -/
import Derived.Test.YtmdibafofdghgaaGreatDoorMa26
import Derived.Test.YtmdibafofdghgaaGreatDoorMa29
import Derived.Test.YtmdibafofdghgaaGreatDoorMa16
/- pdu's readNumbers, walked. -/
namespace Go.Proofs.YtmdibafofdghgaaGreatDoor
open Go.ChangeShapes Go.WideShapes Go.ChangeAt Go.RowKit K P1 B5
open D8 (Bd Un lst deB deL deU)
set_option linter.unusedVariables false

abbrev Pt := Nat × List UInt8
def rnO (p1 p2 p3 : Pt) : Bool := (decide (p1.1 = 2) && nOk p1.2) && ((decide (p2.1 = 2) && nOk p2.2) && (decide (p3.1 = 2) && nOk p3.2))
def rnV (p1 p2 p3 p : Pt) : Int := if rnO p1 p2 p3 then nv p.2 else 0
theorem rn_no {p1 p2 p3 : Pt} (h : rnO p1 p2 p3 = false) : rnO p1 p2 p3 = false ∧ rnV p1 p2 p3 p1 = 0 ∧ rnV p1 p2 p3 p2 = 0 ∧ rnV p1 p2 p3 p3 = 0 := by
  unfold rnV; rw [h]; exact ⟨rfl, rfl, rfl, rfl⟩
theorem rn_yes {p1 p2 p3 : Pt} (h1 : p1.1 = 2 ∧ nOk p1.2 = true) (h2 : p2.1 = 2 ∧ nOk p2.2 = true) (h3 : p3.1 = 2 ∧ nOk p3.2 = true) : rnO p1 p2 p3 = true ∧ rnV p1 p2 p3 p1 = nuV p1.2 ∧ rnV p1 p2 p3 p2 = nuV p2.2 ∧ rnV p1 p2 p3 p3 = nuV p3.2 := by
  have h : rnO p1 p2 p3 = true := by unfold rnO; rw [h1.1, h1.2, h2.1, h2.2, h3.1, h3.2]; rfl
  unfold rnV
  rw [h, (nu_yes h1.2).1, (nu_yes h2.2).1, (nu_yes h3.2).1]
  exact ⟨rfl, rfl, rfl, rfl⟩
/-- Three numbers in a block. -/
def Nm (w : World) (b : Nat) (r a i : Int) : Prop := w.heap[b]? = some (.cells #[.int .i64 r, .int .i64 a, .int .i64 i] 81 (0, 0))
theorem Nm.cells {w : World} {b : Nat} {r a i : Int} (h : Nm w b r a i) : w.cell? ⟨b, 0, none⟩ = some (.int .i64 r) ∧ w.cell? ⟨b, 1, none⟩ = some (.int .i64 a) ∧ w.cell? ⟨b, 2, none⟩ = some (.int .i64 i) := ⟨cellRow h 0, cellRow h 1, cellRow h 2⟩
theorem Nm.free {w : World} {b : Nat} {r a i : Int} (h : Nm w b r a i) : w.frozen? ⟨b, 0, none⟩ = false ∧ w.frozen? ⟨b, 1, none⟩ = false ∧ w.frozen? ⟨b, 2, none⟩ = false := ⟨freeRow h 0, freeRow h 1, freeRow h 2⟩
theorem Nm.below {w w' : World} {b : Nat} {r a i : Int} (h : Nm w b r a i) (k : Below w.heap.size w w') : Nm w' b r a i := (k.block b (lt_of_block h)).trans h
theorem Nm.new (w : World) (r a i : Int) : Nm (w.alloc (.cells #[.int .i64 r, .int .i64 a, .int .i64 i] 81)) w.heap.size r a i := rowNew w _
theorem Nm.set0 {w : World} {b : Nat} {r a i : Int} (h : Nm w b r a i) (n : Int) : Nm (w.setCell ⟨b, 0, none⟩ (.int .i64 n)) b n a i := by
  have := rowSet h 0 (.int .i64 n); simpa [Nm] using this
theorem Nm.set1 {w : World} {b : Nat} {r a i : Int} (h : Nm w b r a i) (n : Int) : Nm (w.setCell ⟨b, 1, none⟩ (.int .i64 n)) b r n i := by
  have := rowSet h 1 (.int .i64 n); simpa [Nm] using this
theorem Nm.set2 {w : World} {b : Nat} {r a i : Int} (h : Nm w b r a i) (n : Int) : Nm (w.setCell ⟨b, 2, none⟩ (.int .i64 n)) b r a n := by
  have := rowSet h 2 (.int .i64 n); simpa [Nm] using this
theorem Nm.set {w : World} {b : Nat} {r a i : Int} (h : Nm w b r a i) (x y z : Int) : Nm (((w.setCell ⟨b, 0, none⟩ (.int .i64 x)).setCell ⟨b, 1, none⟩ (.int .i64 y)).setCell ⟨b, 2, none⟩ (.int .i64 z)) b x y z := ((h.set0 x).set1 y).set2 z
theorem _root_.Go.Proofs.YtmdibafofdghgaaGreatDoor.K.OwnP.setNm {w : World} {B : Nat} {v : Value} {ps : List Pt} (h : OwnP w B 72 v ps) {b : Nat} {r a i : Int} (hn : Nm w b r a i) (k : Nat) (u : Value) : OwnP (w.setCell ⟨b, k, none⟩ u) B 72 v ps := own_set h hn (by decide) k u
def RnRel (p1 p2 p3 p4 : Pt) (v : Value) (B : Nat) (w : World) (g : Nat) (vi : Value) (wr : World) : Prop :=
  ∃ k : Nat, k + g = 3 ∧ vi = .int .i64 (k : Nat) ∧
    ((k = 0 ∧ Nm wr w.heap.size 0 0 0) ∨ (k = 1 ∧ (p1.1 = 2 ∧ nOk p1.2 = true) ∧ Nm wr w.heap.size (nuV p1.2) 0 0) ∨ (k = 2 ∧ (p1.1 = 2 ∧ nOk p1.2 = true) ∧ (p2.1 = 2 ∧ nOk p2.2 = true) ∧ Nm wr w.heap.size (nuV p1.2) (nuV p2.2) 0) ∨
     (k = 3 ∧ (p1.1 = 2 ∧ nOk p1.2 = true) ∧ (p2.1 = 2 ∧ nOk p2.2 = true) ∧ (p3.1 = 2 ∧ nOk p3.2 = true) ∧ Nm wr w.heap.size (nuV p1.2) (nuV p2.2) (nuV p3.2))) ∧
    OwnP wr B 72 v [p1, p2, p3, p4] ∧ Below w.heap.size w wr
set_option maxRecDepth 100000 in
set_option maxHeartbeats 2000000 in
theorem readnumbers_walk (p1 p2 p3 p4 : Pt) (v : Value) (B : Nat) (w : World) (hok : OwnP w B 72 v [p1, p2, p3, p4]) (m1 : p1.2.length ≤ 140737488351232) (m2 : p2.2.length ≤ 140737488351232) (m3 : p3.2.length ≤ 140737488351232) :
    Calls Tryz.prog 69 #[v] w fun e w' => e = .returned (.tuple #[.agg #[.int .i64 (rnV p1 p2 p3 p1), .int .i64 (rnV p1 p2 p3 p2), .int .i64 (rnV p1 p2 p3 p3)], .bool (rnO p1 p2 p3)]) ∧ Below w.heap.size w w' := by
  have HN1 := Lib.hid (fun w1 => number_walk p1.2 m1 w1)
  have HN2 := Lib.hid (fun w1 => number_walk p2.2 m2 w1)
  have HN3 := Lib.hid (fun w1 => number_walk p3.2 m3 w1)
  have ba := alloc_in w (.cells #[.int .i64 0, .int .i64 0, .int .i64 0] 81)
  have HST := Lib.hid (show RnRel p1 p2 p3 p4 v B w 3 (.int .i64 (0 : Nat)) (w.alloc (.cells #[.int .i64 0, .int .i64 0, .int .i64 0] 81)) from ⟨0, by omega, rfl, .inl ⟨rfl, Nm.new w 0 0 0⟩, hok.below ba, ba⟩)
  obtain ⟨ao, cap, rfl, hf0⟩ := hok.form
  clear ba hok hf0
  go_enter Tryz.func69, Tryz.ntmps69
  go_wp2_with fail
  go_loopg [7] 3 (fun g vi wr => RnRel p1 p2 p3 p4 (.slice ao 4 cap) B w g vi wr)
  case atStart => exact HST.out
  case round =>
    clear HST
    obtain ⟨k, hk, rfl, hway, hok, hb⟩ := hrel
    obtain ⟨ao2, cap2, hv2, hf⟩ := hok.form
    simp only [Value.slice.injEq] at hv2
    obtain ⟨rfl, _, rfl⟩ := hv2
    rcases hf with h0 | ⟨g0', rfl, _, hgl, hgc⟩
    · simp at h0
    obtain ⟨g0, g1⟩ := hgc 0 (by simp)
    obtain ⟨g2, g3⟩ := hgc 1 (by simp)
    obtain ⟨g4, g5⟩ := hgc 2 (by simp)
    simp only [List.getD_cons_zero, List.getD_cons_succ, Nat.zero_mul, Nat.one_mul, Nat.reduceMul, Nat.reduceAdd, Nat.zero_add] at g0 g1 g2 g3 g4 g5
    clear hgc
    cases gk with
    | zero =>
      obtain ⟨rfl, o1, o2, o3, hN⟩ : k = 3 ∧ (p1.1 = 2 ∧ nOk p1.2 = true) ∧ (p2.1 = 2 ∧ nOk p2.2 = true) ∧ (p3.1 = 2 ∧ nOk p3.2 = true) ∧ Nm wr w.heap.size (nuV p1.2) (nuV p2.2) (nuV p3.2) := by
        rcases hway with ⟨h, _⟩ | ⟨h, _⟩ | ⟨h, _⟩ | h
        · omega
        · omega
        · omega
        · exact h
      have HE := Lib.hid (rn_yes o1 o2 o3)
      obtain ⟨y0, y1, y2⟩ := hN.cells
      obtain ⟨f0, f1, f2⟩ := hN.free
      have PX := hN.set (nuV p1.2) (nuV p2.2) (nuV p3.2)
      have bb := ((hb.setCell (p := ⟨w.heap.size, 0, none⟩) (Nat.le_refl _) (.int .i64 (nuV p1.2))).setCell (p := ⟨w.heap.size, 1, none⟩) (Nat.le_refl _) (.int .i64 (nuV p2.2))).setCell (p := ⟨w.heap.size, 2, none⟩) (Nat.le_refl _) (.int .i64 (nuV p3.2))
      clear o1 o2 o3 hN hway hok g0 g1 g2 g3 g4 g5 hb
      go_wp2
      refine bodyPost_ret (results_cell_row2 rfl _ _ w.heap.size _ _ _ _ rfl PX Tryz.underlying81 rfl (by kernel_rfl)) rfl ?_
      exact ⟨by rw [HE.out.1, HE.out.2.1, HE.out.2.2.1, HE.out.2.2.2]; rfl, bb⟩
    | succ g =>
      rcases hway with ⟨rfl, hN⟩ | ⟨rfl, o1, hN⟩ | ⟨rfl, o1, o2, hN⟩ | ⟨rfl, _⟩
      · -- number 1
        obtain ⟨y0, y1, y2⟩ := hN.cells
        obtain ⟨f0, f1, f2⟩ := hN.free
        by_cases ht : p1.1 = 2
        · cases ho1 : nOk p1.2
          · have ne : (((nuE p1.2 : Nat) : Int) != 0) = true := by rw [(nu_no ho1).2]; rfl
            have HE := Lib.hid (rn_no (p1 := p1) (p2 := p2) (p3 := p3) (by unfold rnO; rw [ho1]; simp))
            have te : (((p1.1 : Nat) : Int) != 2) = false := by rw [ht]; rfl
            clear ho1 ht
            generalize nuE p1.2 = EE at *
            go_wp2_with fail
            refine (HN1.out _).mono ?_
            rintro e w5 ⟨rfl, d5⟩
            replace hN := hN.below d5
            have hb5 := hb.trans (d5.mono hb.size)
            have t5 := cell_below g0 d5
            obtain ⟨y0, y1, y2⟩ := hN.cells
            obtain ⟨f0, f1, f2⟩ := hN.free
            have PX := hN.set 0 0 0
            have bb := ((hb5.setCell (p := ⟨w.heap.size, 0, none⟩) (Nat.le_refl _) (.int .i64 0)).setCell (p := ⟨w.heap.size, 1, none⟩) (Nat.le_refl _) (.int .i64 0)).setCell (p := ⟨w.heap.size, 2, none⟩) (Nat.le_refl _) (.int .i64 0)
            clear hN hb hb5 d5 hok
            go_wp2
            refine bodyPost_ret (results_cell_row2 rfl _ _ w.heap.size _ _ _ _ rfl PX Tryz.underlying81 rfl (by kernel_rfl)) rfl ?_
            exact ⟨by rw [HE.out.1, HE.out.2.1, HE.out.2.2.1, HE.out.2.2.2]; rfl, bb⟩
          · have e0 : nuE p1.2 = 0 := (nu_yes ho1).2
            have te : (((p1.1 : Nat) : Int) != 2) = false := by rw [ht]; rfl
            have HH := Lib.hid (And.intro ht ho1)
            have HN0 := HN1.out
            rw [e0] at HN0
            have HN9 := Lib.hid HN0
            clear ho1 ht e0 HN0
            go_wp2_with fail
            refine (HN9.out _).mono ?_
            rintro e w5 ⟨rfl, d5⟩
            replace hN := hN.below d5
            have hb5 := hb.trans (d5.mono hb.size)
            have t5 := cell_below g0 d5
            have hok5 := hok.below d5
            obtain ⟨y0, y1, y2⟩ := hN.cells
            obtain ⟨f0, f1, f2⟩ := hN.free
            have HN5 := Lib.hid (hN.set0 (nuV p1.2))
            have bb := hb5.setCell (p := ⟨w.heap.size, 0, none⟩) (Nat.le_refl _) (.int .i64 (nuV p1.2))
            have HOK5 := Lib.hid (hok5.setNm hN 0 (.int .i64 (nuV p1.2)))
            clear hN hb hb5 d5 hok hok5
            go_wp2
            go_roundg g
            case measure => omega
            case rel => exact ⟨1, by omega, by simp, .inr (.inl ⟨rfl, HH.out, HN5.out⟩), HOK5.out, bb⟩
        · have te : (((p1.1 : Nat) : Int) != 2) = true := by rw [bne_iff_ne]; omega
          have HE := Lib.hid (rn_no (p1 := p1) (p2 := p2) (p3 := p3) (by unfold rnO; simp [ht]))
          clear ht
          go_wp2_with fail
          refine (HN1.out _).mono ?_
          rintro e w5 ⟨rfl, d5⟩
          replace hN := hN.below d5
          have hb5 := hb.trans (d5.mono hb.size)
          have t5 := cell_below g0 d5
          obtain ⟨y0, y1, y2⟩ := hN.cells
          obtain ⟨f0, f1, f2⟩ := hN.free
          have PX := hN.set 0 0 0
          have bb := ((hb5.setCell (p := ⟨w.heap.size, 0, none⟩) (Nat.le_refl _) (.int .i64 0)).setCell (p := ⟨w.heap.size, 1, none⟩) (Nat.le_refl _) (.int .i64 0)).setCell (p := ⟨w.heap.size, 2, none⟩) (Nat.le_refl _) (.int .i64 0)
          clear hN hb hb5 d5 hok
          go_wp2
          refine bodyPost_ret (results_cell_row2 rfl _ _ w.heap.size _ _ _ _ rfl PX Tryz.underlying81 rfl (by kernel_rfl)) rfl ?_
          exact ⟨by rw [HE.out.1, HE.out.2.1, HE.out.2.2.1, HE.out.2.2.2]; rfl, bb⟩
      · -- number 2
        obtain ⟨y0, y1, y2⟩ := hN.cells
        obtain ⟨f0, f1, f2⟩ := hN.free
        by_cases ht : p2.1 = 2
        · cases ho2 : nOk p2.2
          · have ne : (((nuE p2.2 : Nat) : Int) != 0) = true := by rw [(nu_no ho2).2]; rfl
            have HE := Lib.hid (rn_no (p1 := p1) (p2 := p2) (p3 := p3) (by unfold rnO; rw [ho2]; simp))
            have te : (((p2.1 : Nat) : Int) != 2) = false := by rw [ht]; rfl
            clear ho2 ht
            generalize nuE p2.2 = EE at *
            go_wp2_with fail
            refine (HN2.out _).mono ?_
            rintro e w5 ⟨rfl, d5⟩
            replace hN := hN.below d5
            have hb5 := hb.trans (d5.mono hb.size)
            have t5 := cell_below g2 d5
            obtain ⟨y0, y1, y2⟩ := hN.cells
            obtain ⟨f0, f1, f2⟩ := hN.free
            have PX := hN.set 0 0 0
            have bb := ((hb5.setCell (p := ⟨w.heap.size, 0, none⟩) (Nat.le_refl _) (.int .i64 0)).setCell (p := ⟨w.heap.size, 1, none⟩) (Nat.le_refl _) (.int .i64 0)).setCell (p := ⟨w.heap.size, 2, none⟩) (Nat.le_refl _) (.int .i64 0)
            clear hN hb hb5 d5 hok
            go_wp2
            refine bodyPost_ret (results_cell_row2 rfl _ _ w.heap.size _ _ _ _ rfl PX Tryz.underlying81 rfl (by kernel_rfl)) rfl ?_
            exact ⟨by rw [HE.out.1, HE.out.2.1, HE.out.2.2.1, HE.out.2.2.2]; rfl, bb⟩
          · have e0 : nuE p2.2 = 0 := (nu_yes ho2).2
            have te : (((p2.1 : Nat) : Int) != 2) = false := by rw [ht]; rfl
            have HH := Lib.hid (And.intro ht ho2)
            have HN0 := HN2.out
            rw [e0] at HN0
            have HN9 := Lib.hid HN0
            clear ho2 ht e0 HN0
            go_wp2_with fail
            refine (HN9.out _).mono ?_
            rintro e w5 ⟨rfl, d5⟩
            replace hN := hN.below d5
            have hb5 := hb.trans (d5.mono hb.size)
            have t5 := cell_below g2 d5
            have hok5 := hok.below d5
            obtain ⟨y0, y1, y2⟩ := hN.cells
            obtain ⟨f0, f1, f2⟩ := hN.free
            have HN5 := Lib.hid (hN.set1 (nuV p2.2))
            have bb := hb5.setCell (p := ⟨w.heap.size, 1, none⟩) (Nat.le_refl _) (.int .i64 (nuV p2.2))
            have HOK5 := Lib.hid (hok5.setNm hN 1 (.int .i64 (nuV p2.2)))
            clear hN hb hb5 d5 hok hok5
            go_wp2
            go_roundg g
            case measure => omega
            case rel => exact ⟨2, by omega, by simp, .inr (.inr (.inl ⟨rfl, o1, HH.out, HN5.out⟩)), HOK5.out, bb⟩
        · have te : (((p2.1 : Nat) : Int) != 2) = true := by rw [bne_iff_ne]; omega
          have HE := Lib.hid (rn_no (p1 := p1) (p2 := p2) (p3 := p3) (by unfold rnO; simp [ht]))
          clear ht
          go_wp2_with fail
          refine (HN2.out _).mono ?_
          rintro e w5 ⟨rfl, d5⟩
          replace hN := hN.below d5
          have hb5 := hb.trans (d5.mono hb.size)
          have t5 := cell_below g2 d5
          obtain ⟨y0, y1, y2⟩ := hN.cells
          obtain ⟨f0, f1, f2⟩ := hN.free
          have PX := hN.set 0 0 0
          have bb := ((hb5.setCell (p := ⟨w.heap.size, 0, none⟩) (Nat.le_refl _) (.int .i64 0)).setCell (p := ⟨w.heap.size, 1, none⟩) (Nat.le_refl _) (.int .i64 0)).setCell (p := ⟨w.heap.size, 2, none⟩) (Nat.le_refl _) (.int .i64 0)
          clear hN hb hb5 d5 hok
          go_wp2
          refine bodyPost_ret (results_cell_row2 rfl _ _ w.heap.size _ _ _ _ rfl PX Tryz.underlying81 rfl (by kernel_rfl)) rfl ?_
          exact ⟨by rw [HE.out.1, HE.out.2.1, HE.out.2.2.1, HE.out.2.2.2]; rfl, bb⟩
      · -- number 3
        obtain ⟨y0, y1, y2⟩ := hN.cells
        obtain ⟨f0, f1, f2⟩ := hN.free
        by_cases ht : p3.1 = 2
        · cases ho3 : nOk p3.2
          · have ne : (((nuE p3.2 : Nat) : Int) != 0) = true := by rw [(nu_no ho3).2]; rfl
            have HE := Lib.hid (rn_no (p1 := p1) (p2 := p2) (p3 := p3) (by unfold rnO; rw [ho3]; simp))
            have te : (((p3.1 : Nat) : Int) != 2) = false := by rw [ht]; rfl
            clear ho3 ht
            generalize nuE p3.2 = EE at *
            go_wp2_with fail
            refine (HN3.out _).mono ?_
            rintro e w5 ⟨rfl, d5⟩
            replace hN := hN.below d5
            have hb5 := hb.trans (d5.mono hb.size)
            have t5 := cell_below g4 d5
            obtain ⟨y0, y1, y2⟩ := hN.cells
            obtain ⟨f0, f1, f2⟩ := hN.free
            have PX := hN.set 0 0 0
            have bb := ((hb5.setCell (p := ⟨w.heap.size, 0, none⟩) (Nat.le_refl _) (.int .i64 0)).setCell (p := ⟨w.heap.size, 1, none⟩) (Nat.le_refl _) (.int .i64 0)).setCell (p := ⟨w.heap.size, 2, none⟩) (Nat.le_refl _) (.int .i64 0)
            clear hN hb hb5 d5 hok
            go_wp2
            refine bodyPost_ret (results_cell_row2 rfl _ _ w.heap.size _ _ _ _ rfl PX Tryz.underlying81 rfl (by kernel_rfl)) rfl ?_
            exact ⟨by rw [HE.out.1, HE.out.2.1, HE.out.2.2.1, HE.out.2.2.2]; rfl, bb⟩
          · have e0 : nuE p3.2 = 0 := (nu_yes ho3).2
            have te : (((p3.1 : Nat) : Int) != 2) = false := by rw [ht]; rfl
            have HH := Lib.hid (And.intro ht ho3)
            have HN0 := HN3.out
            rw [e0] at HN0
            have HN9 := Lib.hid HN0
            clear ho3 ht e0 HN0
            go_wp2_with fail
            refine (HN9.out _).mono ?_
            rintro e w5 ⟨rfl, d5⟩
            replace hN := hN.below d5
            have hb5 := hb.trans (d5.mono hb.size)
            have t5 := cell_below g4 d5
            have hok5 := hok.below d5
            obtain ⟨y0, y1, y2⟩ := hN.cells
            obtain ⟨f0, f1, f2⟩ := hN.free
            have HN5 := Lib.hid (hN.set2 (nuV p3.2))
            have bb := hb5.setCell (p := ⟨w.heap.size, 2, none⟩) (Nat.le_refl _) (.int .i64 (nuV p3.2))
            have HOK5 := Lib.hid (hok5.setNm hN 2 (.int .i64 (nuV p3.2)))
            clear hN hb hb5 d5 hok hok5
            go_wp2
            go_roundg g
            case measure => omega
            case rel => exact ⟨3, by omega, by simp, .inr (.inr (.inr ⟨rfl, o1, o2, HH.out, HN5.out⟩)), HOK5.out, bb⟩
        · have te : (((p3.1 : Nat) : Int) != 2) = true := by rw [bne_iff_ne]; omega
          have HE := Lib.hid (rn_no (p1 := p1) (p2 := p2) (p3 := p3) (by unfold rnO; simp [ht]))
          clear ht
          go_wp2_with fail
          refine (HN3.out _).mono ?_
          rintro e w5 ⟨rfl, d5⟩
          replace hN := hN.below d5
          have hb5 := hb.trans (d5.mono hb.size)
          have t5 := cell_below g4 d5
          obtain ⟨y0, y1, y2⟩ := hN.cells
          obtain ⟨f0, f1, f2⟩ := hN.free
          have PX := hN.set 0 0 0
          have bb := ((hb5.setCell (p := ⟨w.heap.size, 0, none⟩) (Nat.le_refl _) (.int .i64 0)).setCell (p := ⟨w.heap.size, 1, none⟩) (Nat.le_refl _) (.int .i64 0)).setCell (p := ⟨w.heap.size, 2, none⟩) (Nat.le_refl _) (.int .i64 0)
          clear hN hb hb5 d5 hok
          go_wp2
          refine bodyPost_ret (results_cell_row2 rfl _ _ w.heap.size _ _ _ _ rfl PX Tryz.underlying81 rfl (by kernel_rfl)) rfl ?_
          exact ⟨by rw [HE.out.1, HE.out.2.1, HE.out.2.2.1, HE.out.2.2.2]; rfl, bb⟩
      · omega
end Go.Proofs.YtmdibafofdghgaaGreatDoor
/- pdu's readBinds, walked. -/
namespace Go.Proofs.YtmdibafofdghgaaGreatDoor
open Go.ChangeShapes Go.WideShapes Go.ChangeAt Go.RowKit K P1 B5
open D8 (Bd Un lst deB deL deU)
set_option linter.unusedVariables false

/-- A list of n binds in a block of its own, of which the first are these. -/
def Bk (w : World) (g n : Nat) (xs : List Bd) : Prop := ∃ C : Array Value, w.heap[g]? = some (.cells C 48 (0, 0)) ∧ C.size = n * 4 ∧ ∀ i, i < xs.length → C[i * 4]? = some (.string (bs (xs.getD i nob).o)) ∧ C[i * 4 + 1]? = some (.int .i64 (xs.getD i nob).k) ∧ C[i * 4 + 2]? = some (.int .i64 (xs.getD i nob).n) ∧ C[i * 4 + 3]? = some (.string (bs (xs.getD i nob).s))
theorem Bk.lt {w : World} {g n : Nat} {xs : List Bd} (h : Bk w g n xs) : g < w.heap.size := by obtain ⟨C, h1, _⟩ := h; exact lt_of_block h1
theorem Bk.below {w w' : World} {g n : Nat} {xs : List Bd} (h : Bk w g n xs) (k : Below w.heap.size w w') : Bk w' g n xs := by
  obtain ⟨C, h1, h2, h3⟩ := h
  exact ⟨C, (k.block g (lt_of_block h1)).trans h1, h2, h3⟩
theorem Bk.free {w : World} {g n : Nat} {xs : List Bd} (h : Bk w g n xs) (i : Nat) : w.frozen? ⟨g, i, none⟩ = false := by
  obtain ⟨C, h1, _⟩ := h
  exact freeRow h1 i
theorem Bk.has {w : World} {g n : Nat} {xs : List Bd} (h : Bk w g n xs) {i : Nat} (hi : i < n * 4) : ∃ v, w.cell? ⟨g, i, none⟩ = some v := by
  obtain ⟨C, h1, h2, _⟩ := h
  exact ⟨C[i]'(by omega), by rw [cellRow h1]; simp [h2, hi]⟩
theorem Bk.put {w : World} {g n : Nat} {xs : List Bd} (h : Bk w g n xs) (hn : xs.length < n) (x : Bd) : Bk ((((w.setCell ⟨g, xs.length * 4, none⟩ (.string (bs x.o))).setCell ⟨g, xs.length * 4 + 1, none⟩ (.int .i64 x.k)).setCell ⟨g, xs.length * 4 + 2, none⟩ (.int .i64 x.n)).setCell ⟨g, xs.length * 4 + 3, none⟩ (.string (bs x.s))) g n (xs ++ [x]) := by
  obtain ⟨C, h1, h2, h3⟩ := h
  have hr := rowSet (rowSet (rowSet (rowSet h1 (xs.length * 4) (.string (bs x.o))) (xs.length * 4 + 1) (.int .i64 x.k)) (xs.length * 4 + 2) (.int .i64 x.n)) (xs.length * 4 + 3) (.string (bs x.s))
  refine ⟨_, hr, by simp [h2], fun i hi => ?_⟩
  rw [List.length_append] at hi
  by_cases hx : i < xs.length
  · obtain ⟨c0, c1, c2, c3⟩ := h3 i hx
    rw [List.getD_eq_getElem?_getD, List.getElem?_append_left hx, ← List.getD_eq_getElem?_getD]
    refine ⟨?_, ?_, ?_, ?_⟩
    · rw [Array.getElem?_setIfInBounds_ne (by omega), Array.getElem?_setIfInBounds_ne (by omega), Array.getElem?_setIfInBounds_ne (by omega), Array.getElem?_setIfInBounds_ne (by omega)]; exact c0
    · rw [Array.getElem?_setIfInBounds_ne (by omega), Array.getElem?_setIfInBounds_ne (by omega), Array.getElem?_setIfInBounds_ne (by omega), Array.getElem?_setIfInBounds_ne (by omega)]; exact c1
    · rw [Array.getElem?_setIfInBounds_ne (by omega), Array.getElem?_setIfInBounds_ne (by omega), Array.getElem?_setIfInBounds_ne (by omega), Array.getElem?_setIfInBounds_ne (by omega)]; exact c2
    · rw [Array.getElem?_setIfInBounds_ne (by omega), Array.getElem?_setIfInBounds_ne (by omega), Array.getElem?_setIfInBounds_ne (by omega), Array.getElem?_setIfInBounds_ne (by omega)]; exact c3
  · obtain rfl : i = xs.length := by simp at hi; omega
    have hg : (xs ++ [x]).getD xs.length nob = x := by simp [List.getD]
    rw [hg]
    refine ⟨?_, ?_, ?_, ?_⟩
    · rw [Array.getElem?_setIfInBounds_ne (by omega), Array.getElem?_setIfInBounds_ne (by omega), Array.getElem?_setIfInBounds_ne (by omega), Array.getElem?_setIfInBounds_self_of_lt (by rw [h2]; omega)]
    · rw [Array.getElem?_setIfInBounds_ne (by omega), Array.getElem?_setIfInBounds_ne (by omega), Array.getElem?_setIfInBounds_self_of_lt (by simp; rw [h2]; omega)]
    · rw [Array.getElem?_setIfInBounds_ne (by omega), Array.getElem?_setIfInBounds_self_of_lt (by simp; rw [h2]; omega)]
    · rw [Array.getElem?_setIfInBounds_self_of_lt (by simp; rw [h2]; omega)]
theorem Bk.read {w : World} {g : Nat} {xs : List Bd} (h : Bk w g xs.length xs) : RdB w (some ⟨g, 0, none⟩) xs := by
  obtain ⟨C, h1, _, h3⟩ := h
  refine .inr ⟨g, 0, rfl, lt_of_block h1, fun i hi => ?_⟩
  obtain ⟨c0, c1, c2, c3⟩ := h3 i hi
  simp only [Nat.zero_add]
  exact ⟨(cellRow h1 _).trans c0, (cellRow h1 _).trans c1, (cellRow h1 _).trans c2, (cellRow h1 _).trans c3⟩
theorem make_binds (n : Nat) (hn : n ≤ 1000000) (w : World) : ∃ C : Array Value, C.size = n * 4 ∧ (Instr.makeSlice 25 (.int .i64 (n : Nat)) (.int .i64 (n : Nat))).run Tryz.prog w = .ok (.slice (some ⟨w.heap.size, 0, none⟩) n n) (w.alloc (.cells C 48)) := by
  obtain ⟨i0, hi, hz0, hz1, hz2⟩ := bind_parts
  have h := Go.run_make (P := Tryz.prog) w 25 48 i0 _ Tryz.underlying25 hi hz0 .i64 .i64 (n : Nat) (n : Nat) (by omega) (by omega) (by rw [hz2]; omega) (by omega)
  rw [hz1] at h
  exact ⟨_, by rw [size_madeCells]; simp, h⟩
/-- What a unit's binds' element tells. -/
def rbL (t : Nat) (b : List UInt8) : Option (List Bd) := if t = 48 then (match prt 0 b with | .ok ps => deL ps | .error _ => none) else none
def RbPost (t : Nat) (b : List UInt8) (w : World) (e : Ending) (w' : World) : Prop :=
  (rbL t b = none ∧ e = .returned (.tuple #[.slice none 0 0, .bool false]) ∧ Below w.heap.size w w') ∨
  (∃ xs ao cap, rbL t b = some xs ∧ e = .returned (.tuple #[.slice ao xs.length cap, .bool true]) ∧ RdB w' ao xs ∧ (∀ a, ao = some a → w.heap.size ≤ a.block) ∧ (xs.length ≤ cap ∧ ∃ a, ao = some a) ∧ Below w.heap.size w w')
theorem own_set4at {w : World} {B : Nat} {e : TypeId} {n : Nat} {v : Value} {m : Nat} {zs : List Value} (h : w.ownsRow B e n v m zs) {k N : Nat} {xs : List Bd} (hk : Bk w k N xs) (hT : 48 ≠ e) (o0 o1 o2 o3 : Nat) (v0 v1 v2 v3 : Value) :
    ((((w.setCell ⟨k, o0, none⟩ v0).setCell ⟨k, o1, none⟩ v1).setCell ⟨k, o2, none⟩ v2).setCell ⟨k, o3, none⟩ v3).ownsRow B e n v m zs := by
  obtain ⟨C, hk, _⟩ := hk
  exact own_set (own_set (own_set (own_set h hk hT o0 v0) (rowSet hk o0 v0) hT o1 v1) (rowSet (rowSet hk o0 v0) o1 v1) hT o2 v2) (rowSet (rowSet (rowSet hk o0 v0) o1 v1) o2 v2) hT o3 v3
def RbRel (qs : List Pt) (vk : Value) (gb : Nat) (w : World) (g : Nat) (v : Value) (wr : World) : Prop :=
  ∃ j : Nat, j + g = qs.length ∧ v = .int .i64 (j : Nat) ∧ ∃ xs, deL (qs.take j) = some xs ∧ Bk wr gb qs.length xs ∧ OwnP wr w.heap.size 72 vk qs ∧ Below w.heap.size w wr
set_option maxRecDepth 100000 in
set_option maxHeartbeats 2000000 in
theorem readbinds_walk (t : Nat) (b : List UInt8) (hp : b.length ≤ 1000000) (w : World) (T : Tabs w) :
    Calls Tryz.prog 70 #[.agg #[.int .i64 (t : Nat), .string (bs b)]] w (RbPost t b w) := by
  have HQ := Lib.hid (fun w1 => partsof_walk (t : Nat) b (by omega) w1)
  unfold PoPost at HQ
  have hpt := Prt.new w 72 (t : Nat) b
  have ba := alloc_in w (.cells #[.int .i64 (t : Nat), .string (bs b)] 72)
  have HT := Lib.hid T
  clear T
  cases hpr : prt 0 b with
  | error c =>
    have HE := Lib.hid (show rbL t b = none by unfold rbL; rw [hpr]; by_cases h : t = 48 <;> simp [h])
    go_enter Tryz.func70, Tryz.ntmps70
    go_wp2_with fail
    refine (HQ.out _).mono ?_
    rintro e w1 (⟨c', h', rfl, b1⟩ | ⟨ps', v, h', rfl, ho, b1⟩)
    rotate_left
    · rw [hpr] at h'; cases h'
    clear h' hpr
    obtain ⟨d0, d1, _, _⟩ := (hpt.keep b1).cells
    go_wp2
    go_ret2
    exact .inl ⟨HE.out, rfl, Below_in b1⟩
  | ok qs =>
    have HH := Lib.hid hpr
    by_cases ht : t = 48
    · subst ht
      have hm := prt_mem _ _ b _ (Nat.le_refl _) hpr
      have HQL := Lib.hid (fun (q : Pt) (hq : q ∈ qs) => (show q.2.length ≤ 1000000 by have := (hm q hq).2; omega))
      have hqn := prt_most hpr
      have HRB := Lib.hid (show rbL 48 b = deL qs by unfold rbL; rw [hpr]; rfl)
      have HMK := Lib.hid (make_binds qs.length (by omega))
      clear hm hpr
      go_enter Tryz.func70, Tryz.ntmps70
      go_wp2_with fail
      refine (HQ.out _).mono ?_
      rintro e w1 (⟨c', h', rfl, b1⟩ | ⟨ps', v, h', rfl, ho, b1⟩)
      · have h := HH.out; rw [h'] at h; cases h
      have hh2 := HH.out
      rw [h'] at hh2
      injection hh2 with hh2
      subst hh2
      obtain ⟨d0, d1, _, _⟩ := (hpt.keep b1).cells
      have how := ho.mono (B' := w.heap.size) (by simp)
      have bw := Below_in b1
      obtain ⟨ao, cap, rfl, hf0⟩ := ho.form
      clear HQ HH hpt ba b1 ho h' hf0
      obtain ⟨C, hC, hmk⟩ := HMK.out w1
      have hBk : Bk (w1.alloc (.cells C 48)) w1.heap.size ps'.length [] := ⟨C, rowNew w1 _, hC, fun i hi => by simp at hi⟩
      have a1 := alloc_in w1 (.cells C 48)
      have HST := Lib.hid (show RbRel ps' (.slice ao ps'.length cap) w1.heap.size w ps'.length (.int .i64 (0 : Nat)) (w1.alloc (.cells C 48)) from ⟨0, by omega, rfl, [], rfl, hBk, how.below a1, bw.trans (a1.mono bw.size)⟩)
      have hgw : w.heap.size ≤ w1.heap.size := bw.size
      clear hBk a1 how bw hC
      go_wp2_with fail
      clear d0 d1 hmk
      go_loopg [28] ps'.length (fun g v wr => RbRel ps' (.slice ao ps'.length cap) w1.heap.size w g v wr)
      case atStart => exact HST.out
      case round =>
        clear HST
        obtain ⟨j, hj, rfl, xs, hxs, hBk, hok, hb⟩ := hrel
        cases gk with
        | zero =>
          obtain rfl : j = ps'.length := by omega
          rw [List.take_length] at hxs
          have hxl := deL_len _ _ hxs
          rw [← hxl] at hBk
          have HRD := Lib.hid hBk.read
          have HXS := Lib.hid hxs
          have HXL := Lib.hid hxl
          clear hxs hBk hok hxl
          go_wp2
          go_ret2
          exact .inr ⟨xs, some ⟨w1.heap.size, 0, none⟩, ps'.length, by rw [HRB.out, HXS.out], by rw [HXL.out]; rfl, HRD.out, fun a ha => by (cases ha; exact hgw), ⟨by rw [HXL.out]; exact Nat.le_refl _, _, rfl⟩, hb⟩
        | succ g =>
          have hlt : j < ps'.length := by omega
          obtain ⟨ao2, cap2, hv2, hf2⟩ := hok.form
          simp only [Value.slice.injEq, true_and] at hv2
          obtain ⟨rfl, rfl⟩ := hv2
          rcases hf2 with h0 | ⟨gk2, rfl, hgB, hgl, hgc⟩
          · omega
          obtain ⟨e0, e1⟩ := hgc j hlt
          clear hgc
          have hmem : ps'.getD j (0, []) ∈ ps' := by
            rw [List.getD_eq_getElem?_getD, List.getElem?_eq_getElem hlt]; exact List.getElem_mem hlt
          have hxj : xs.length = j := by
            have := deL_len _ _ hxs
            rw [List.length_take] at this; omega
          have HSN := Lib.hid (fun (x : Bd) (hx : deB (ps'.getD j (0, [])) = some x) => (show deL (ps'.take (j + 1)) = some (xs ++ [x]) by
            rw [List.take_succ_eq_append_getElem hlt]
            refine deL_one _ _ hxs ?_
            rw [List.getD_eq_getElem?_getD, List.getElem?_eq_getElem hlt] at hx
            exact hx))
          have HNN := Lib.hid (fun (hx : deB (ps'.getD j (0, [])) = none) => (show rbL 48 b = none by rw [HRB.out]; exact deL_not hmem hx))
          have hqlen := HQL.out _ hmem
          obtain ⟨q, hqe⟩ : ∃ q, ps'.getD j (0, []) = q := ⟨_, rfl⟩
          rw [hqe] at e0 e1 HSN HNN hqlen
          clear hmem hqe hxs hgB
          obtain ⟨q1, q2⟩ := q
          simp only [] at e0 e1 hqlen
          have HB := Lib.hid (fun w1 (h : Tabs w1) => readbind_walk q1 q2 hqlen w1 h)
          unfold BiPost at HB
          have a0 := alloc_in wr (.cells #[.int .i64 (q1 : Nat), .string (bs q2)] 72)
          have hb0 := hb.trans (a0.mono hb.size)
          have HT0 := Lib.hid (HT.out.below hb0)
          have hBk0 := hBk.below a0
          have hok0 := hok.below a0
          clear hb a0 hBk hok
          cases hd : deB (q1, q2) with
          | none =>
            have HE := Lib.hid (HNN.out hd)
            rw [hd] at HB
            clear HSN HNN hd hBk0 hok0
            go_wp2_with fail
            refine (HB.out _ HT0.out).mono ?_
            rintro e w5 ⟨x, rfl, _, d5⟩
            have hb5 := hb0.trans (d5.mono hb0.size)
            have hb6 := hb5.alloc hb5.size (.cells #[.string (bs x.o), .int .i64 x.k, .int .i64 x.n, .string (bs x.s)] 48)
            clear d5 hb0
            go_wp2
            go_ret2
            exact .inl ⟨HE.out, rfl, hb6⟩
          | some y =>
            have HS := Lib.hid (HSN.out y hd)
            rw [hd] at HB
            clear HSN HNN hd
            go_wp2_with fail
            refine (HB.out _ HT0.out).mono ?_
            rintro e w5 ⟨x, rfl, hxy, d5⟩
            obtain rfl := hxy y rfl
            clear hxy HB e0 e1
            have hb5 := hb0.trans (d5.mono hb0.size)
            have a5 := alloc_in w5 (.cells #[.string (bs y.o), .int .i64 y.k, .int .i64 y.n, .string (bs y.s)] 48)
            have hb6 := hb5.trans (a5.mono hb5.size)
            have hBk5 := (hBk0.below d5).below a5
            have hok5 := (hok0.below d5).below a5
            obtain ⟨x0, x1, x2, x3⟩ := (Bq.new w5 y).cells
            have f0 := hBk5.free (j * 4)
            have f1 := hBk5.free (j * 4 + 1)
            have f2 := hBk5.free (j * 4 + 2)
            have f3 := hBk5.free (j * 4 + 3)
            obtain ⟨v0, c0⟩ := hBk5.has (i := j * 4) (by omega)
            obtain ⟨v1, c1⟩ := hBk5.has (i := j * 4 + 1) (by omega)
            obtain ⟨v2, c2⟩ := hBk5.has (i := j * 4 + 2) (by omega)
            obtain ⟨v3, c3⟩ := hBk5.has (i := j * 4 + 3) (by omega)
            have hput := hBk5.put (by omega) y
            rw [hxj] at hput
            have HPUT := Lib.hid hput
            have HOK := Lib.hid (own_set4at hok5 hBk5 (by decide) (j * 4) (j * 4 + 1) (j * 4 + 2) (j * 4 + 3) (.string (bs y.o)) (.int .i64 y.k) (.int .i64 y.n) (.string (bs y.s)))
            have bb := (((hb6.setCell (p := ⟨w1.heap.size, j * 4, none⟩) hgw (.string (bs y.o))).setCell (p := ⟨w1.heap.size, j * 4 + 1, none⟩) hgw (.int .i64 y.k)).setCell (p := ⟨w1.heap.size, j * 4 + 2, none⟩) hgw (.int .i64 y.n)).setCell (p := ⟨w1.heap.size, j * 4 + 3, none⟩) hgw (.string (bs y.s))
            clear hput hok5 hBk5 hb6 hb5 a5 d5 hb0 hBk0 hok0
            go_wp2
            go_roundg g
            case measure => omega
            case rel => exact ⟨j + 1, by omega, by simp, xs ++ [y], HS.out, HPUT.out, HOK.out, bb⟩
    · have HE := Lib.hid (show rbL t b = none by unfold rbL; rw [if_neg ht])
      have ht' : (((t : Nat) : Int) != 48) = true := by rw [bne_iff_ne]; omega
      clear hpr
      go_enter Tryz.func70, Tryz.ntmps70
      go_wp2_with fail
      refine (HQ.out _).mono ?_
      rintro e w1 (⟨c', h', rfl, b1⟩ | ⟨ps', v, h', rfl, ho, b1⟩)
      · have h := HH.out; rw [h'] at h; cases h
      clear h'
      obtain ⟨d0, d1, _, _⟩ := (hpt.keep b1).cells
      obtain ⟨ao, cap, rfl, hf0⟩ := ho.form
      clear hf0 ho
      go_wp2
      go_ret2
      exact .inl ⟨HE.out, rfl, Below_in b1⟩
end Go.Proofs.YtmdibafofdghgaaGreatDoor
