/- The document's element, walked. -/
import Derived.Test.YtkpcfbadhoiigaaDoorQuoC
import Derived.Test.YtkpcfbadhoiigaaDoorUtfF
namespace Go.Proofs.YtkpcfbadhoiigaaDoor
open Go.ChangeShapes Go.WideShapes Go.ChangeAt Go.RowKit K Q10 U4
set_option linter.unusedVariables false

/-- Of an element's texts none is long. -/
def LimE (x : El) : Prop := x.id.length ≤ 1000000 ∧ x.ps.length ≤ 1000000000 ∧ ∀ p ∈ x.ps, p.n.length ≤ 10000 ∧ p.v.length ≤ 10000
theorem getD_mem {α : Type} {l : List α} {i : Nat} {d : α} (h : i < l.length) : l.getD i d ∈ l := by
  rw [List.getD_eq_getElem?_getD, List.getElem?_eq_getElem h]
  exact List.getElem_mem h
theorem takeD {α : Type} (l : List α) (p : Nat) (d : α) (h : p < l.length) : l.take (p + 1) = l.take p ++ [l.getD p d] := by
  rw [List.take_add_one, List.getElem?_eq_getElem h]
  simp [List.getD, List.getElem?_eq_getElem h]
theorem allP_step (l : List Pm) (i : Nat) (h : i < l.length) : (l.take (i + 1)).all pmOk = ((l.take i).all pmOk && pmOk (l.getD i nop)) := by
  rw [takeD l i nop h, List.all_append]; simp
theorem elOk_yes {x : El} (h1 : isN x.id = true) (h2 : x.ps.length ≤ 4096) (h : (x.ps.take x.ps.length).all pmOk = true) : elOk x = true := by
  rw [List.take_length] at h
  unfold elOk
  rw [h1, h]; simp [h2]
theorem elOk_no {x : El} {i : Nat} (h : i < x.ps.length) (hp : pmOk (x.ps.getD i nop) = false) : elOk x = false := by
  cases he : elOk x
  · rfl
  · exfalso
    unfold elOk at he
    simp only [Bool.and_eq_true, List.all_eq_true] at he
    have := he.2.2 _ (getD_mem (d := nop) h)
    rw [hp] at this; cases this
theorem chE_two (v : List UInt8) : chE v = 0 ∨ chE v = 40 := by
  rcases chE_cases v with ⟨h, _⟩ | ⟨h, _⟩
  · exact .inl h
  · exact .inr h
def EmRel (x : El) (po : Option Addr) (pc : Nat) (w : World) (g : Nat) (v3 : Value) (wr : World) : Prop :=
  ∃ i, i + g = x.ps.length ∧ (x.ps.take i).all pmOk = true ∧ v3 = .int .i64 (i : Nat) ∧ Eb 45 wr w.heap.size x.id (.slice po x.ps.length pc) ∧ Below w.heap.size w wr
set_option maxRecDepth 100000 in
set_option maxHeartbeats 2000000 in
theorem qelement_walk (x : El) (po : Option Addr) (pc : Nat) (hl : LimE x) (w : World) (hr : RdP w po x.ps) :
    Calls Tryd.prog 42 #[.agg #[.string (bs x.id), .slice po x.ps.length pc]] w fun e w' => e = .returned (.bool (elOk x)) ∧ Below w.heap.size w w' := by
  obtain ⟨hl1, hl2, hl3⟩ := hl
  have HI := Lib.hid (fun w1 => qisname_walk x.id (by omega) w1)
  have hx0 := Eb.new 45 w x.id (.slice po x.ps.length pc)
  have b0 := alloc_in' w (.cells #[.string (bs x.id), .slice po x.ps.length pc] 45)
  obtain ⟨w0, hw0⟩ : ∃ w0, w.alloc (.cells #[.string (bs x.id), .slice po x.ps.length pc] 45) = w0 := ⟨_, rfl⟩
  rw [hw0] at hx0 b0
  have HW0 := Lib.hid hw0
  have HR := Lib.hid (fun w1 (b : Below w.heap.size w w1) => hr.below b)
  have HL3 := Lib.hid hl3
  obtain ⟨x0, x1⟩ := hx0.cells
  clear hw0 hr hl3
  cases hi : isN x.id
  · rw [hi] at HI
    have HN := Lib.hid (show elOk x = false by unfold elOk; rw [hi]; rfl)
    clear hi
    go_enter Tryd.func42, Tryd.ntmps42
    go_wp2_with fail
    rw [HW0.out]
    go_wp2_with fail
    refine (HI.out _).mono ?_
    rintro e w1 ⟨rfl, m1, rfl⟩
    go_wp2
    go_ret
    rw [HN.out]
    exact ⟨rfl, ⟨b0.os, b0.tape, b0.output, b0.size, b0.block⟩⟩
  rw [hi] at HI
  by_cases h4 : x.ps.length ≤ 4096
  rotate_left
  · have HN := Lib.hid (show elOk x = false by unfold elOk; simp [h4])
    have h5 : (4096 : Int) < (x.ps.length : Nat) := by omega
    clear hi h4
    go_enter Tryd.func42, Tryd.ntmps42
    go_wp2_with fail
    rw [HW0.out]
    go_wp2_with fail
    refine (HI.out _).mono ?_
    rintro e w1 ⟨rfl, m1, rfl⟩
    have y1 : (w0.drewN m1).cell? ⟨w.heap.size, 1, none⟩ = some (.slice po x.ps.length pc) := x1
    clear x0 x1
    go_wp2
    go_ret
    rw [HN.out]
    exact ⟨rfl, ⟨b0.os, b0.tape, b0.output, b0.size, b0.block⟩⟩
  have HY := Lib.hid (fun h => elOk_yes hi h4 h)
  have h5 : ¬ (4096 : Int) < (x.ps.length : Nat) := by omega
  clear hi
  go_enter Tryd.func42, Tryd.ntmps42
  go_wp2_with fail
  rw [HW0.out]
  go_wp2_with fail
  refine (HI.out _).mono ?_
  rintro e w1 ⟨rfl, m1, rfl⟩
  have hx1 : Eb 45 (w0.drewN m1) w.heap.size x.id (.slice po x.ps.length pc) := hx0
  have b1 : Below w.heap.size w (w0.drewN m1) := ⟨b0.os, b0.tape, b0.output, b0.size, b0.block⟩
  clear hx0 b0 x0 x1
  generalize w0.drewN m1 = w1 at *
  obtain ⟨x0, x1⟩ := hx1.cells
  go_wp2_with fail
  clear x0 x1
  go_loopg [3] x.ps.length (fun g v3 wr => EmRel x po pc w g v3 wr)
  case atStart => exact ⟨0, by omega, rfl, rfl, hx1, b1⟩
  case round =>
    obtain ⟨i, hg, ha, rfl, hx, hb⟩ := hrel
    obtain ⟨x0, x1⟩ := hx.cells
    have HB := Lib.hid hb
    have HX := Lib.hid hx
    clear hb hx hx1 b1
    cases gk with
    | zero =>
      have hp : x.ps.length ≤ i := by omega
      have HE := Lib.hid (HY.out (by rw [← show i = x.ps.length by omega]; exact ha))
      clear ha hg
      go_wp2
      go_ret
      rw [HE.out]
      exact ⟨rfl, HB.out⟩
    | succ g =>
      have hlt : i < x.ps.length := by omega
      have HA := Lib.hid (allP_step x.ps i hlt)
      have HAA := Lib.hid ha
      have HN := Lib.hid (fun h => elOk_no (x := x) hlt h)
      obtain ⟨c, off, rfl, hc, hcc⟩ := (HR.out _ HB.out).at (by omega)
      obtain ⟨p0, p1⟩ := hcc i hlt
      obtain ⟨q1, q2⟩ := HL3.out _ (getD_mem (d := nop) hlt)
      have HI2 := Lib.hid (fun w1 => qisname_walk (x.ps.getD i nop).n (by omega) w1)
      have HC2 := Lib.hid (fun w1 => uqcheck_walk (x.ps.getD i nop).v q2 w1)
      have HOK := Lib.hid (show pmOk (x.ps.getD i nop) = (isN (x.ps.getD i nop).n && (chE (x.ps.getD i nop).v == 0)) from rfl)
      clear hcc ha
      generalize x.ps.getD i nop = P at *
      cases hn : isN P.n
      · have HE := Lib.hid (HN.out (by rw [HOK.out, hn]; rfl))
        rw [hn] at HI2
        clear hn
        go_wp2_with fail
        refine (HI2.out _).mono ?_
        rintro e w2 ⟨rfl, m2, rfl⟩
        have b2 := HB.out
        go_wp2
        go_ret
        rw [HE.out]
        exact ⟨rfl, ⟨b2.os, b2.tape, b2.output, b2.size, b2.block⟩⟩
      rw [hn] at HI2
      rcases chE_two P.v with hv | hv
      rotate_left
      · have HE := Lib.hid (HN.out (by rw [HOK.out, hn, hv]; rfl))
        rw [hv] at HC2
        clear hn hv
        go_wp2_with fail
        refine (HI2.out _).mono ?_
        rintro e w2 ⟨rfl, m2, rfl⟩
        have y1 : (wr.drewN m2).cell? ⟨w.heap.size, 1, none⟩ = some (.slice (some ⟨c, off, none⟩) x.ps.length pc) := x1
        have z1 : (wr.drewN m2).cell? ⟨c, off + i * 2 + 1, none⟩ = some (.string (bs P.v)) := p1
        have hb2 := HB.out
        have b2 : Below w.heap.size w (wr.drewN m2) := ⟨hb2.os, hb2.tape, hb2.output, hb2.size, hb2.block⟩
        clear hb2 x0 x1 p0 p1
        generalize wr.drewN m2 = w2 at *
        go_wp2_with fail
        refine (HC2.out _).mono ?_
        rintro e w3 ⟨rfl, d3⟩
        have b3 := b2.trans (d3.mono b2.size)
        clear y1 z1 b2 d3
        go_wp2
        go_ret
        rw [HE.out]
        exact ⟨rfl, b3⟩
      · have HS := Lib.hid (show (x.ps.take (i + 1)).all pmOk = true by rw [HA.out, HAA.out, HOK.out, hn, hv]; rfl)
        rw [hv] at HC2
        clear hn hv
        go_wp2_with fail
        refine (HI2.out _).mono ?_
        rintro e w2 ⟨rfl, m2, rfl⟩
        have y1 : (wr.drewN m2).cell? ⟨w.heap.size, 1, none⟩ = some (.slice (some ⟨c, off, none⟩) x.ps.length pc) := x1
        have z1 : (wr.drewN m2).cell? ⟨c, off + i * 2 + 1, none⟩ = some (.string (bs P.v)) := p1
        have hb2 := HB.out
        have b2 : Below w.heap.size w (wr.drewN m2) := ⟨hb2.os, hb2.tape, hb2.output, hb2.size, hb2.block⟩
        have hx2 : Eb 45 (wr.drewN m2) w.heap.size x.id (.slice (some ⟨c, off, none⟩) x.ps.length pc) := HX.out
        clear hb2 x0 x1 p0 p1
        generalize wr.drewN m2 = w2 at *
        go_wp2_with fail
        refine (HC2.out _).mono ?_
        rintro e w3 ⟨rfl, d3⟩
        have b3 := b2.trans (d3.mono b2.size)
        have hx3 := hx2.below d3
        clear y1 z1 b2 d3 hx2
        have HB3 := Lib.hid b3
        have HX3 := Lib.hid hx3
        obtain ⟨x0, x1⟩ := hx3.cells
        clear b3 hx3
        go_wp2
        go_roundg g
        case measure => omega
        case rel => exact ⟨i + 1, by omega, HS.out, by simp, HX3.out, HB3.out⟩
end Go.Proofs.YtkpcfbadhoiigaaDoor
