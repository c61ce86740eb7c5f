/- The program's mayBe, walked. -/
import Derived.Test.YtkpcfbadhoiigaaDoorQuqA
import Derived.Test.YtkpcfbadhoiigaaDoorQuoD
import Derived.Test.YtkpcfbadhoiigaaDoorUtfC
namespace Go.Proofs.YtkpcfbadhoiigaaDoor
open Go.ChangeShapes Go.WideShapes Go.ChangeAt Go.RowKit K Q10 U4
set_option linter.unusedVariables false

/-- None of an element's texts is too long for any memory. -/
def BnE (x : El) : Prop := x.id.length ≤ 140737488355327 ∧ x.ps.length ≤ 140737488351232 ∧ ∀ p ∈ x.ps, p.n.length ≤ 140737488351232 ∧ p.v.length ≤ 140737488351232
def MbRel (x : El) (w : World) (g : Nat) (v : Value) (wr : World) : Prop :=
  ∃ i, i + g = x.ps.length ∧ (x.ps.take i).all pmOk = true ∧ v = .int .i64 (i : Nat) ∧ Below w.heap.size w wr
set_option maxRecDepth 100000 in
set_option maxHeartbeats 2000000 in
theorem qmaybe_walk (x : El) (po : Option Addr) (pc : Nat) (hl : BnE x) (w : World) (ht : Leads w) (hr : RdP w po x.ps) :
    Calls Tryd.prog 41 #[.agg #[.string (bs x.id), .slice po x.ps.length pc]] w fun e w' => e = .returned (.bool (elOk x)) ∧ Below w.heap.size w w' := by
  obtain ⟨hl1, hl2, hl3⟩ := hl
  have HI := Lib.hid (fun w1 => isname_walk x.id hl1 w1)
  have hx0 := Eb.new 45 w x.id (.slice po x.ps.length pc)
  have b0 := alloc_in' w (.cells #[.string (bs x.id), .slice po x.ps.length pc] 45)
  obtain ⟨w0, hw0⟩ : ∃ w0, w.alloc (.cells #[.string (bs x.id), .slice po x.ps.length pc] 45) = w0 := ⟨_, rfl⟩
  rw [hw0] at hx0 b0
  have HW0 := Lib.hid hw0
  have HR := Lib.hid (fun w1 (b : Below w.heap.size w w1) => hr.below b)
  have HLE := Lib.hid (fun w1 (b : Below w.heap.size w w1) => ht.below b)
  have HL3 := Lib.hid hl3
  obtain ⟨x0, x1⟩ := hx0.cells
  clear hw0 hr hl3 ht
  cases hi : isN x.id
  · rw [hi] at HI
    have HN := Lib.hid (show elOk x = false by unfold elOk; rw [hi]; rfl)
    clear hi
    go_enter Tryd.func41, Tryd.ntmps41
    go_wp2_with fail
    rw [HW0.out]
    go_wp2_with fail
    refine (HI.out _).mono ?_
    rintro e w1 ⟨rfl, rfl⟩
    go_wp2
    go_ret
    rw [HN.out]
    exact ⟨rfl, b0⟩
  rw [hi] at HI
  by_cases h4 : x.ps.length ≤ 4096
  rotate_left
  · have HN := Lib.hid (show elOk x = false by unfold elOk; simp [h4])
    have h5 : (4096 : Int) < (x.ps.length : Nat) := by omega
    clear hi h4
    go_enter Tryd.func41, Tryd.ntmps41
    go_wp2_with fail
    rw [HW0.out]
    go_wp2_with fail
    refine (HI.out _).mono ?_
    rintro e w1 ⟨rfl, rfl⟩
    go_wp2
    go_ret
    rw [HN.out]
    exact ⟨rfl, b0⟩
  have HY := Lib.hid (fun h => elOk_yes hi h4 h)
  have h5 : ¬ (4096 : Int) < (x.ps.length : Nat) := by omega
  clear hi
  go_enter Tryd.func41, Tryd.ntmps41
  go_wp2_with fail
  rw [HW0.out]
  go_wp2_with fail
  refine (HI.out _).mono ?_
  rintro e w1 ⟨rfl, rfl⟩
  go_wp2_with fail
  clear x0 x1
  go_loopg [18] x.ps.length (fun g v wr => MbRel x w g v wr)
  case atStart => exact ⟨0, by omega, rfl, rfl, b0⟩
  case round =>
    obtain ⟨i, hg, ha, rfl, hb⟩ := hrel
    have HB := Lib.hid hb
    clear hb hx0 b0
    cases gk with
    | zero =>
      have hp : x.ps.length ≤ i := by omega
      have HE := Lib.hid (HY.out (by rw [← show i = x.ps.length by omega]; exact ha))
      clear ha hg
      go_wp2
      go_ret
      rw [HE.out]
      exact ⟨rfl, HB.out⟩
    | succ g =>
      have hlt : i < x.ps.length := by omega
      have HA := Lib.hid (allP_step x.ps i hlt)
      have HAA := Lib.hid ha
      have HN := Lib.hid (fun h => elOk_no (x := x) hlt h)
      obtain ⟨c, off, rfl, hc, hcc⟩ := (HR.out _ HB.out).at (by omega)
      obtain ⟨p0, p1⟩ := hcc i hlt
      obtain ⟨q1, q2⟩ := HL3.out _ (getD_mem (d := nop) hlt)
      have HI2 := Lib.hid (fun w1 => isname_walk (x.ps.getD i nop).n (by omega) w1)
      have HC2 := Lib.hid (fun w1 h => check_walk (x.ps.getD i nop).v q2 w1 h)
      have HOK := Lib.hid (show pmOk (x.ps.getD i nop) = (isN (x.ps.getD i nop).n && (chE (x.ps.getD i nop).v == 0)) from rfl)
      clear hcc ha
      generalize x.ps.getD i nop = P at *
      have hP0 := rowNew wr (.cells #[.string (bs P.n), .string (bs P.v)] 47)
      have hba := HB.out.trans ((alloc_in' wr (.cells #[.string (bs P.n), .string (bs P.v)] 47)).mono HB.out.size)
      have HTr := Lib.hid (HLE.out _ hba)
      have HBA := Lib.hid hba
      clear hba
      cases hn : isN P.n
      · have HE := Lib.hid (HN.out (by rw [HOK.out, hn]; rfl))
        rw [hn] at HI2
        clear hn
        go_wp2_with fail
        refine (HI2.out _).mono ?_
        rintro e w2 ⟨rfl, rfl⟩
        go_wp2
        go_ret
        rw [HE.out]
        exact ⟨rfl, HBA.out⟩
      rw [hn] at HI2
      rcases chE_two P.v with hv | hv
      rotate_left
      · have HE := Lib.hid (HN.out (by rw [HOK.out, hn, hv]; rfl))
        rw [hv] at HC2
        clear hn hv
        go_wp2_with fail
        refine (HI2.out _).mono ?_
        rintro e w2 ⟨rfl, rfl⟩
        go_wp2_with fail
        refine (HC2.out _ HTr.out).mono ?_
        rintro e w3 ⟨rfl, d3⟩
        have b3 : Below w.heap.size w w3 := by obtain ⟨n3, rfl⟩ := d3; exact ⟨HBA.out.os, HBA.out.tape, HBA.out.output, HBA.out.size, HBA.out.block⟩
        clear d3
        go_wp2
        go_ret
        rw [HE.out]
        exact ⟨rfl, b3⟩
      · have HS := Lib.hid (show (x.ps.take (i + 1)).all pmOk = true by rw [HA.out, HAA.out, HOK.out, hn, hv]; rfl)
        rw [hv] at HC2
        clear hn hv
        go_wp2_with fail
        refine (HI2.out _).mono ?_
        rintro e w2 ⟨rfl, rfl⟩
        go_wp2_with fail
        refine (HC2.out _ HTr.out).mono ?_
        rintro e w3 ⟨rfl, d3⟩
        have b3 : Below w.heap.size w w3 := by obtain ⟨n3, rfl⟩ := d3; exact ⟨HBA.out.os, HBA.out.tape, HBA.out.output, HBA.out.size, HBA.out.block⟩
        have HB3 := Lib.hid b3
        clear b3 d3
        go_wp2
        go_roundg g
        case measure => omega
        case rel => exact ⟨i + 1, by omega, HS.out, by simp, HB3.out⟩
end Go.Proofs.YtkpcfbadhoiigaaDoor
