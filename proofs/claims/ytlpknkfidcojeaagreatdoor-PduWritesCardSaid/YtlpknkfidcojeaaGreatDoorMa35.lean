/- Texts on the program and on the document, joined: PduN. -/
import Derived.Test.YtlpknkfidcojeaaGreatDoorMa32
import Derived.Test.YtlpknkfidcojeaaGreatDoorMa34
import Derived.Test.YtlpknkfidcojeaaGreatDoorMa19
/- pdu's readNumbers, walked. -/
namespace Go.Proofs.YtlpknkfidcojeaaGreatDoor
open Go.ChangeShapes Go.WideShapes Go.ChangeAt Go.RowKit K P1 B5
open D8 (Bd Un lst deB deL deU)
set_option linter.unusedVariables false

abbrev Pt := Nat × List UInt8
def rnO (p1 p2 p3 : Pt) : Bool := (decide (p1.1 = 2) && nOk p1.2) && ((decide (p2.1 = 2) && nOk p2.2) && (decide (p3.1 = 2) && nOk p3.2))
def rnV (p1 p2 p3 p : Pt) : Int := if rnO p1 p2 p3 then nv p.2 else 0
theorem rn_no {p1 p2 p3 : Pt} (h : rnO p1 p2 p3 = false) : rnO p1 p2 p3 = false ∧ rnV p1 p2 p3 p1 = 0 ∧ rnV p1 p2 p3 p2 = 0 ∧ rnV p1 p2 p3 p3 = 0 := by
  unfold rnV; rw [h]; exact ⟨rfl, rfl, rfl, rfl⟩
theorem rn_yes {p1 p2 p3 : Pt} (h1 : p1.1 = 2 ∧ nOk p1.2 = true) (h2 : p2.1 = 2 ∧ nOk p2.2 = true) (h3 : p3.1 = 2 ∧ nOk p3.2 = true) : rnO p1 p2 p3 = true ∧ rnV p1 p2 p3 p1 = nuV p1.2 ∧ rnV p1 p2 p3 p2 = nuV p2.2 ∧ rnV p1 p2 p3 p3 = nuV p3.2 := by
  have h : rnO p1 p2 p3 = true := by unfold rnO; rw [h1.1, h1.2, h2.1, h2.2, h3.1, h3.2]; rfl
  unfold rnV
  rw [h, (nu_yes h1.2).1, (nu_yes h2.2).1, (nu_yes h3.2).1]
  exact ⟨rfl, rfl, rfl, rfl⟩
/-- Three numbers in a block. -/
def Nm (w : World) (b : Nat) (r a i : Int) : Prop := w.heap[b]? = some (.cells #[.int .i64 r, .int .i64 a, .int .i64 i] 62 (0, 0))
theorem Nm.cells {w : World} {b : Nat} {r a i : Int} (h : Nm w b r a i) : w.cell? ⟨b, 0, none⟩ = some (.int .i64 r) ∧ w.cell? ⟨b, 1, none⟩ = some (.int .i64 a) ∧ w.cell? ⟨b, 2, none⟩ = some (.int .i64 i) := ⟨cellRow h 0, cellRow h 1, cellRow h 2⟩
theorem Nm.free {w : World} {b : Nat} {r a i : Int} (h : Nm w b r a i) : w.frozen? ⟨b, 0, none⟩ = false ∧ w.frozen? ⟨b, 1, none⟩ = false ∧ w.frozen? ⟨b, 2, none⟩ = false := ⟨freeRow h 0, freeRow h 1, freeRow h 2⟩
theorem Nm.below {w w' : World} {b : Nat} {r a i : Int} (h : Nm w b r a i) (k : Below w.heap.size w w') : Nm w' b r a i := (k.block b (lt_of_block h)).trans h
theorem Nm.new (w : World) (r a i : Int) : Nm (w.alloc (.cells #[.int .i64 r, .int .i64 a, .int .i64 i] 62)) w.heap.size r a i := rowNew w _
theorem Nm.set0 {w : World} {b : Nat} {r a i : Int} (h : Nm w b r a i) (n : Int) : Nm (w.setCell ⟨b, 0, none⟩ (.int .i64 n)) b n a i := by
  have := rowSet h 0 (.int .i64 n); simpa [Nm] using this
theorem Nm.set1 {w : World} {b : Nat} {r a i : Int} (h : Nm w b r a i) (n : Int) : Nm (w.setCell ⟨b, 1, none⟩ (.int .i64 n)) b r n i := by
  have := rowSet h 1 (.int .i64 n); simpa [Nm] using this
theorem Nm.set2 {w : World} {b : Nat} {r a i : Int} (h : Nm w b r a i) (n : Int) : Nm (w.setCell ⟨b, 2, none⟩ (.int .i64 n)) b r a n := by
  have := rowSet h 2 (.int .i64 n); simpa [Nm] using this
theorem Nm.set {w : World} {b : Nat} {r a i : Int} (h : Nm w b r a i) (x y z : Int) : Nm (((w.setCell ⟨b, 0, none⟩ (.int .i64 x)).setCell ⟨b, 1, none⟩ (.int .i64 y)).setCell ⟨b, 2, none⟩ (.int .i64 z)) b x y z := ((h.set0 x).set1 y).set2 z
theorem _root_.Go.Proofs.YtlpknkfidcojeaaGreatDoor.K.OwnP.setNm {w : World} {B : Nat} {v : Value} {ps : List Pt} (h : OwnP w B 30 v ps) {b : Nat} {r a i : Int} (hn : Nm w b r a i) (k : Nat) (u : Value) : OwnP (w.setCell ⟨b, k, none⟩ u) B 30 v ps := own_set h hn (by decide) k u
def RnRel (p1 p2 p3 p4 : Pt) (v : Value) (B : Nat) (w : World) (g : Nat) (vi : Value) (wr : World) : Prop :=
  ∃ k : Nat, k + g = 3 ∧ vi = .int .i64 (k : Nat) ∧
    ((k = 0 ∧ Nm wr w.heap.size 0 0 0) ∨ (k = 1 ∧ (p1.1 = 2 ∧ nOk p1.2 = true) ∧ Nm wr w.heap.size (nuV p1.2) 0 0) ∨ (k = 2 ∧ (p1.1 = 2 ∧ nOk p1.2 = true) ∧ (p2.1 = 2 ∧ nOk p2.2 = true) ∧ Nm wr w.heap.size (nuV p1.2) (nuV p2.2) 0) ∨
     (k = 3 ∧ (p1.1 = 2 ∧ nOk p1.2 = true) ∧ (p2.1 = 2 ∧ nOk p2.2 = true) ∧ (p3.1 = 2 ∧ nOk p3.2 = true) ∧ Nm wr w.heap.size (nuV p1.2) (nuV p2.2) (nuV p3.2))) ∧
    OwnP wr B 30 v [p1, p2, p3, p4] ∧ Below w.heap.size w wr
set_option maxRecDepth 100000 in
set_option maxHeartbeats 2000000 in
theorem readnumbers_walk (p1 p2 p3 p4 : Pt) (v : Value) (B : Nat) (w : World) (hok : OwnP w B 30 v [p1, p2, p3, p4]) (m1 : p1.2.length ≤ 140737488351232) (m2 : p2.2.length ≤ 140737488351232) (m3 : p3.2.length ≤ 140737488351232) :
    Calls Tryz.prog 25 #[v] w fun e w' => e = .returned (.tuple #[.agg #[.int .i64 (rnV p1 p2 p3 p1), .int .i64 (rnV p1 p2 p3 p2), .int .i64 (rnV p1 p2 p3 p3)], .bool (rnO p1 p2 p3)]) ∧ Below w.heap.size w w' := by
  have HN1 := Lib.hid (fun w1 => number_walk p1.2 m1 w1)
  have HN2 := Lib.hid (fun w1 => number_walk p2.2 m2 w1)
  have HN3 := Lib.hid (fun w1 => number_walk p3.2 m3 w1)
  have ba := alloc_in w (.cells #[.int .i64 0, .int .i64 0, .int .i64 0] 62)
  have HST := Lib.hid (show RnRel p1 p2 p3 p4 v B w 3 (.int .i64 (0 : Nat)) (w.alloc (.cells #[.int .i64 0, .int .i64 0, .int .i64 0] 62)) from ⟨0, by omega, rfl, .inl ⟨rfl, Nm.new w 0 0 0⟩, hok.below ba, ba⟩)
  obtain ⟨ao, cap, rfl, hf0⟩ := hok.form
  clear ba hok hf0
  go_enter Tryz.func25, Tryz.ntmps25
  go_wp2_with fail
  go_loopg [7] 3 (fun g vi wr => RnRel p1 p2 p3 p4 (.slice ao 4 cap) B w g vi wr)
  case atStart => exact HST.out
  case round =>
    clear HST
    obtain ⟨k, hk, rfl, hway, hok, hb⟩ := hrel
    obtain ⟨ao2, cap2, hv2, hf⟩ := hok.form
    simp only [Value.slice.injEq] at hv2
    obtain ⟨rfl, _, rfl⟩ := hv2
    rcases hf with h0 | ⟨g0', rfl, _, hgl, hgc⟩
    · simp at h0
    obtain ⟨g0, g1⟩ := hgc 0 (by simp)
    obtain ⟨g2, g3⟩ := hgc 1 (by simp)
    obtain ⟨g4, g5⟩ := hgc 2 (by simp)
    simp only [List.getD_cons_zero, List.getD_cons_succ, Nat.zero_mul, Nat.one_mul, Nat.reduceMul, Nat.reduceAdd, Nat.zero_add] at g0 g1 g2 g3 g4 g5
    clear hgc
    cases gk with
    | zero =>
      obtain ⟨rfl, o1, o2, o3, hN⟩ : k = 3 ∧ (p1.1 = 2 ∧ nOk p1.2 = true) ∧ (p2.1 = 2 ∧ nOk p2.2 = true) ∧ (p3.1 = 2 ∧ nOk p3.2 = true) ∧ Nm wr w.heap.size (nuV p1.2) (nuV p2.2) (nuV p3.2) := by
        rcases hway with ⟨h, _⟩ | ⟨h, _⟩ | ⟨h, _⟩ | h
        · omega
        · omega
        · omega
        · exact h
      have HE := Lib.hid (rn_yes o1 o2 o3)
      obtain ⟨y0, y1, y2⟩ := hN.cells
      obtain ⟨f0, f1, f2⟩ := hN.free
      have PX := hN.set (nuV p1.2) (nuV p2.2) (nuV p3.2)
      have bb := ((hb.setCell (p := ⟨w.heap.size, 0, none⟩) (Nat.le_refl _) (.int .i64 (nuV p1.2))).setCell (p := ⟨w.heap.size, 1, none⟩) (Nat.le_refl _) (.int .i64 (nuV p2.2))).setCell (p := ⟨w.heap.size, 2, none⟩) (Nat.le_refl _) (.int .i64 (nuV p3.2))
      clear o1 o2 o3 hN hway hok g0 g1 g2 g3 g4 g5 hb
      go_wp2
      refine bodyPost_ret (results_cell_row2 rfl _ _ w.heap.size _ _ _ _ rfl PX Tryz.underlying62 rfl (by kernel_rfl)) rfl ?_
      exact ⟨by rw [HE.out.1, HE.out.2.1, HE.out.2.2.1, HE.out.2.2.2]; rfl, bb⟩
    | succ g =>
      rcases hway with ⟨rfl, hN⟩ | ⟨rfl, o1, hN⟩ | ⟨rfl, o1, o2, hN⟩ | ⟨rfl, _⟩
      · -- number 1
        obtain ⟨y0, y1, y2⟩ := hN.cells
        obtain ⟨f0, f1, f2⟩ := hN.free
        by_cases ht : p1.1 = 2
        · cases ho1 : nOk p1.2
          · have ne : (((nuE p1.2 : Nat) : Int) != 0) = true := by rw [(nu_no ho1).2]; rfl
            have HE := Lib.hid (rn_no (p1 := p1) (p2 := p2) (p3 := p3) (by unfold rnO; rw [ho1]; simp))
            have te : (((p1.1 : Nat) : Int) != 2) = false := by rw [ht]; rfl
            clear ho1 ht
            generalize nuE p1.2 = EE at *
            go_wp2_with fail
            refine (HN1.out _).mono ?_
            rintro e w5 ⟨rfl, d5⟩
            replace hN := hN.below d5
            have hb5 := hb.trans (d5.mono hb.size)
            have t5 := cell_below g0 d5
            obtain ⟨y0, y1, y2⟩ := hN.cells
            obtain ⟨f0, f1, f2⟩ := hN.free
            have PX := hN.set 0 0 0
            have bb := ((hb5.setCell (p := ⟨w.heap.size, 0, none⟩) (Nat.le_refl _) (.int .i64 0)).setCell (p := ⟨w.heap.size, 1, none⟩) (Nat.le_refl _) (.int .i64 0)).setCell (p := ⟨w.heap.size, 2, none⟩) (Nat.le_refl _) (.int .i64 0)
            clear hN hb hb5 d5 hok
            go_wp2
            refine bodyPost_ret (results_cell_row2 rfl _ _ w.heap.size _ _ _ _ rfl PX Tryz.underlying62 rfl (by kernel_rfl)) rfl ?_
            exact ⟨by rw [HE.out.1, HE.out.2.1, HE.out.2.2.1, HE.out.2.2.2]; rfl, bb⟩
          · have e0 : nuE p1.2 = 0 := (nu_yes ho1).2
            have te : (((p1.1 : Nat) : Int) != 2) = false := by rw [ht]; rfl
            have HH := Lib.hid (And.intro ht ho1)
            have HN0 := HN1.out
            rw [e0] at HN0
            have HN9 := Lib.hid HN0
            clear ho1 ht e0 HN0
            go_wp2_with fail
            refine (HN9.out _).mono ?_
            rintro e w5 ⟨rfl, d5⟩
            replace hN := hN.below d5
            have hb5 := hb.trans (d5.mono hb.size)
            have t5 := cell_below g0 d5
            have hok5 := hok.below d5
            obtain ⟨y0, y1, y2⟩ := hN.cells
            obtain ⟨f0, f1, f2⟩ := hN.free
            have HN5 := Lib.hid (hN.set0 (nuV p1.2))
            have bb := hb5.setCell (p := ⟨w.heap.size, 0, none⟩) (Nat.le_refl _) (.int .i64 (nuV p1.2))
            have HOK5 := Lib.hid (hok5.setNm hN 0 (.int .i64 (nuV p1.2)))
            clear hN hb hb5 d5 hok hok5
            go_wp2
            go_roundg g
            case measure => omega
            case rel => exact ⟨1, by omega, by simp, .inr (.inl ⟨rfl, HH.out, HN5.out⟩), HOK5.out, bb⟩
        · have te : (((p1.1 : Nat) : Int) != 2) = true := by rw [bne_iff_ne]; omega
          have HE := Lib.hid (rn_no (p1 := p1) (p2 := p2) (p3 := p3) (by unfold rnO; simp [ht]))
          clear ht
          go_wp2_with fail
          refine (HN1.out _).mono ?_
          rintro e w5 ⟨rfl, d5⟩
          replace hN := hN.below d5
          have hb5 := hb.trans (d5.mono hb.size)
          have t5 := cell_below g0 d5
          obtain ⟨y0, y1, y2⟩ := hN.cells
          obtain ⟨f0, f1, f2⟩ := hN.free
          have PX := hN.set 0 0 0
          have bb := ((hb5.setCell (p := ⟨w.heap.size, 0, none⟩) (Nat.le_refl _) (.int .i64 0)).setCell (p := ⟨w.heap.size, 1, none⟩) (Nat.le_refl _) (.int .i64 0)).setCell (p := ⟨w.heap.size, 2, none⟩) (Nat.le_refl _) (.int .i64 0)
          clear hN hb hb5 d5 hok
          go_wp2
          refine bodyPost_ret (results_cell_row2 rfl _ _ w.heap.size _ _ _ _ rfl PX Tryz.underlying62 rfl (by kernel_rfl)) rfl ?_
          exact ⟨by rw [HE.out.1, HE.out.2.1, HE.out.2.2.1, HE.out.2.2.2]; rfl, bb⟩
      · -- number 2
        obtain ⟨y0, y1, y2⟩ := hN.cells
        obtain ⟨f0, f1, f2⟩ := hN.free
        by_cases ht : p2.1 = 2
        · cases ho2 : nOk p2.2
          · have ne : (((nuE p2.2 : Nat) : Int) != 0) = true := by rw [(nu_no ho2).2]; rfl
            have HE := Lib.hid (rn_no (p1 := p1) (p2 := p2) (p3 := p3) (by unfold rnO; rw [ho2]; simp))
            have te : (((p2.1 : Nat) : Int) != 2) = false := by rw [ht]; rfl
            clear ho2 ht
            generalize nuE p2.2 = EE at *
            go_wp2_with fail
            refine (HN2.out _).mono ?_
            rintro e w5 ⟨rfl, d5⟩
            replace hN := hN.below d5
            have hb5 := hb.trans (d5.mono hb.size)
            have t5 := cell_below g2 d5
            obtain ⟨y0, y1, y2⟩ := hN.cells
            obtain ⟨f0, f1, f2⟩ := hN.free
            have PX := hN.set 0 0 0
            have bb := ((hb5.setCell (p := ⟨w.heap.size, 0, none⟩) (Nat.le_refl _) (.int .i64 0)).setCell (p := ⟨w.heap.size, 1, none⟩) (Nat.le_refl _) (.int .i64 0)).setCell (p := ⟨w.heap.size, 2, none⟩) (Nat.le_refl _) (.int .i64 0)
            clear hN hb hb5 d5 hok
            go_wp2
            refine bodyPost_ret (results_cell_row2 rfl _ _ w.heap.size _ _ _ _ rfl PX Tryz.underlying62 rfl (by kernel_rfl)) rfl ?_
            exact ⟨by rw [HE.out.1, HE.out.2.1, HE.out.2.2.1, HE.out.2.2.2]; rfl, bb⟩
          · have e0 : nuE p2.2 = 0 := (nu_yes ho2).2
            have te : (((p2.1 : Nat) : Int) != 2) = false := by rw [ht]; rfl
            have HH := Lib.hid (And.intro ht ho2)
            have HN0 := HN2.out
            rw [e0] at HN0
            have HN9 := Lib.hid HN0
            clear ho2 ht e0 HN0
            go_wp2_with fail
            refine (HN9.out _).mono ?_
            rintro e w5 ⟨rfl, d5⟩
            replace hN := hN.below d5
            have hb5 := hb.trans (d5.mono hb.size)
            have t5 := cell_below g2 d5
            have hok5 := hok.below d5
            obtain ⟨y0, y1, y2⟩ := hN.cells
            obtain ⟨f0, f1, f2⟩ := hN.free
            have HN5 := Lib.hid (hN.set1 (nuV p2.2))
            have bb := hb5.setCell (p := ⟨w.heap.size, 1, none⟩) (Nat.le_refl _) (.int .i64 (nuV p2.2))
            have HOK5 := Lib.hid (hok5.setNm hN 1 (.int .i64 (nuV p2.2)))
            clear hN hb hb5 d5 hok hok5
            go_wp2
            go_roundg g
            case measure => omega
            case rel => exact ⟨2, by omega, by simp, .inr (.inr (.inl ⟨rfl, o1, HH.out, HN5.out⟩)), HOK5.out, bb⟩
        · have te : (((p2.1 : Nat) : Int) != 2) = true := by rw [bne_iff_ne]; omega
          have HE := Lib.hid (rn_no (p1 := p1) (p2 := p2) (p3 := p3) (by unfold rnO; simp [ht]))
          clear ht
          go_wp2_with fail
          refine (HN2.out _).mono ?_
          rintro e w5 ⟨rfl, d5⟩
          replace hN := hN.below d5
          have hb5 := hb.trans (d5.mono hb.size)
          have t5 := cell_below g2 d5
          obtain ⟨y0, y1, y2⟩ := hN.cells
          obtain ⟨f0, f1, f2⟩ := hN.free
          have PX := hN.set 0 0 0
          have bb := ((hb5.setCell (p := ⟨w.heap.size, 0, none⟩) (Nat.le_refl _) (.int .i64 0)).setCell (p := ⟨w.heap.size, 1, none⟩) (Nat.le_refl _) (.int .i64 0)).setCell (p := ⟨w.heap.size, 2, none⟩) (Nat.le_refl _) (.int .i64 0)
          clear hN hb hb5 d5 hok
          go_wp2
          refine bodyPost_ret (results_cell_row2 rfl _ _ w.heap.size _ _ _ _ rfl PX Tryz.underlying62 rfl (by kernel_rfl)) rfl ?_
          exact ⟨by rw [HE.out.1, HE.out.2.1, HE.out.2.2.1, HE.out.2.2.2]; rfl, bb⟩
      · -- number 3
        obtain ⟨y0, y1, y2⟩ := hN.cells
        obtain ⟨f0, f1, f2⟩ := hN.free
        by_cases ht : p3.1 = 2
        · cases ho3 : nOk p3.2
          · have ne : (((nuE p3.2 : Nat) : Int) != 0) = true := by rw [(nu_no ho3).2]; rfl
            have HE := Lib.hid (rn_no (p1 := p1) (p2 := p2) (p3 := p3) (by unfold rnO; rw [ho3]; simp))
            have te : (((p3.1 : Nat) : Int) != 2) = false := by rw [ht]; rfl
            clear ho3 ht
            generalize nuE p3.2 = EE at *
            go_wp2_with fail
            refine (HN3.out _).mono ?_
            rintro e w5 ⟨rfl, d5⟩
            replace hN := hN.below d5
            have hb5 := hb.trans (d5.mono hb.size)
            have t5 := cell_below g4 d5
            obtain ⟨y0, y1, y2⟩ := hN.cells
            obtain ⟨f0, f1, f2⟩ := hN.free
            have PX := hN.set 0 0 0
            have bb := ((hb5.setCell (p := ⟨w.heap.size, 0, none⟩) (Nat.le_refl _) (.int .i64 0)).setCell (p := ⟨w.heap.size, 1, none⟩) (Nat.le_refl _) (.int .i64 0)).setCell (p := ⟨w.heap.size, 2, none⟩) (Nat.le_refl _) (.int .i64 0)
            clear hN hb hb5 d5 hok
            go_wp2
            refine bodyPost_ret (results_cell_row2 rfl _ _ w.heap.size _ _ _ _ rfl PX Tryz.underlying62 rfl (by kernel_rfl)) rfl ?_
            exact ⟨by rw [HE.out.1, HE.out.2.1, HE.out.2.2.1, HE.out.2.2.2]; rfl, bb⟩
          · have e0 : nuE p3.2 = 0 := (nu_yes ho3).2
            have te : (((p3.1 : Nat) : Int) != 2) = false := by rw [ht]; rfl
            have HH := Lib.hid (And.intro ht ho3)
            have HN0 := HN3.out
            rw [e0] at HN0
            have HN9 := Lib.hid HN0
            clear ho3 ht e0 HN0
            go_wp2_with fail
            refine (HN9.out _).mono ?_
            rintro e w5 ⟨rfl, d5⟩
            replace hN := hN.below d5
            have hb5 := hb.trans (d5.mono hb.size)
            have t5 := cell_below g4 d5
            have hok5 := hok.below d5
            obtain ⟨y0, y1, y2⟩ := hN.cells
            obtain ⟨f0, f1, f2⟩ := hN.free
            have HN5 := Lib.hid (hN.set2 (nuV p3.2))
            have bb := hb5.setCell (p := ⟨w.heap.size, 2, none⟩) (Nat.le_refl _) (.int .i64 (nuV p3.2))
            have HOK5 := Lib.hid (hok5.setNm hN 2 (.int .i64 (nuV p3.2)))
            clear hN hb hb5 d5 hok hok5
            go_wp2
            go_roundg g
            case measure => omega
            case rel => exact ⟨3, by omega, by simp, .inr (.inr (.inr ⟨rfl, o1, o2, HH.out, HN5.out⟩)), HOK5.out, bb⟩
        · have te : (((p3.1 : Nat) : Int) != 2) = true := by rw [bne_iff_ne]; omega
          have HE := Lib.hid (rn_no (p1 := p1) (p2 := p2) (p3 := p3) (by unfold rnO; simp [ht]))
          clear ht
          go_wp2_with fail
          refine (HN3.out _).mono ?_
          rintro e w5 ⟨rfl, d5⟩
          replace hN := hN.below d5
          have hb5 := hb.trans (d5.mono hb.size)
          have t5 := cell_below g4 d5
          obtain ⟨y0, y1, y2⟩ := hN.cells
          obtain ⟨f0, f1, f2⟩ := hN.free
          have PX := hN.set 0 0 0
          have bb := ((hb5.setCell (p := ⟨w.heap.size, 0, none⟩) (Nat.le_refl _) (.int .i64 0)).setCell (p := ⟨w.heap.size, 1, none⟩) (Nat.le_refl _) (.int .i64 0)).setCell (p := ⟨w.heap.size, 2, none⟩) (Nat.le_refl _) (.int .i64 0)
          clear hN hb hb5 d5 hok
          go_wp2
          refine bodyPost_ret (results_cell_row2 rfl _ _ w.heap.size _ _ _ _ rfl PX Tryz.underlying62 rfl (by kernel_rfl)) rfl ?_
          exact ⟨by rw [HE.out.1, HE.out.2.1, HE.out.2.2.1, HE.out.2.2.2]; rfl, bb⟩
      · omega
end Go.Proofs.YtlpknkfidcojeaaGreatDoor
