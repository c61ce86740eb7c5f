/- Texts on the program and on the document, joined: QuqJ, QuqK. -/
import Derived.Test.YtonippapkmmkeaaDoorMa18
import Derived.Test.YtonippapkmmkeaaDoorMa16
/- The program's Same and Get of structured data, walked. -/
namespace Go.Proofs.YtonippapkmmkeaaDoor
open Go.ChangeShapes Go.WideShapes Go.ChangeAt Go.RowKit K Q10 U4
set_option linter.unusedVariables false

def EfRel (a b : List El) (w : World) (g : Nat) (v : Value) (wr : World) : Prop :=
  ∃ i, i + g = a.length ∧ (∀ j, j < i → a.getD j noe = b.getD j noe) ∧ v = .int .i64 (i : Nat) ∧ Below w.heap.size w wr
set_option maxRecDepth 100000 in
set_option maxHeartbeats 4000000 in
theorem equalfunc_walk (a b : List El) (ao bo : Option Addr) (ca cb : Nat) (hn : a.length ≤ 140737488351232) (hn2 : b.length ≤ 140737488351232) (hps : ∀ x ∈ a, x.ps.length ≤ 140737488351232) (hps2 : ∀ x ∈ b, x.ps.length ≤ 140737488351232) (w : World) (hr : RdE w ao a) (hs : RdE w bo b) :
    Calls Tryd.prog 13 #[.slice ao a.length ca, .slice bo b.length cb, .func (Fn.func 14) #[] #[]] w fun e w' => e = .returned (.bool (saE a b)) ∧ Below w.heap.size w w' := by
  by_cases hne : a.length = b.length
  rotate_left
  · have hb : (((a.length : Nat) : Int) != ((b.length : Nat) : Int)) = true := by rw [bne_iff_ne]; omega
    rw [saE_no (fun e => hne (by rw [e]))]
    clear hne hps hps2 hr hs
    go_enter Tryd.func13, Tryd.ntmps13
    go_wp2
    go_ret
    exact ⟨rfl, Below.refl _ _⟩
  have hb : (((a.length : Nat) : Int) != ((b.length : Nat) : Int)) = false := by rw [hne]; simp
  have HNE := Lib.hid hne
  have HR := Lib.hid (fun w1 (d : Below w.heap.size w w1) => hr.below d)
  have HS := Lib.hid (fun w1 (d : Below w.heap.size w w1) => hs.below d)
  have HPS := Lib.hid hps
  have HPS2 := Lib.hid hps2
  clear hne hr hs hps hps2
  go_enter Tryd.func13, Tryd.ntmps13
  go_wp2_with fail
  go_loopg [17] a.length (fun g v wr => EfRel a b w g v wr)
  case atStart => exact ⟨0, by omega, by omega, rfl, Below.refl _ _⟩
  case round =>
    obtain ⟨i, hg, hall, rfl, hd⟩ := hrel
    have HALL := Lib.hid hall
    have HD := Lib.hid hd
    clear hall hd
    cases gk with
    | zero =>
      obtain rfl : i = a.length := by omega
      have HE := Lib.hid (saE_yes (els_ext HNE.out HALL.out))
      go_wp2
      go_ret
      rw [HE.out]
      exact ⟨rfl, HD.out⟩
    | succ g =>
      have hlt : i < a.length := by omega
      have hlt2 : i < b.length := by have := HNE.out; omega
      have HX := Lib.hid (fun h : ¬ a.getD i noe = b.getD i noe => saE_no (fun e : a = b => h (by rw [e])))
      have HY := Lib.hid (fun (h : a.getD i noe = b.getD i noe) (j : Nat) (hj : j < i + 1) => (show a.getD j noe = b.getD j noe by
        by_cases hji : j = i
        · rw [hji]; exact h
        · exact HALL.out j (by omega)))
      obtain ⟨x, hxe⟩ : ∃ x, a.getD i noe = x := ⟨_, rfl⟩
      obtain ⟨y, hye⟩ : ∃ y, b.getD i noe = y := ⟨_, rfl⟩
      have hpx : x.ps.length ≤ 140737488351232 := HPS.out x (by rw [← hxe]; exact getD_mem hlt)
      have hpy : y.ps.length ≤ 140737488351232 := HPS2.out y (by rw [← hye]; exact getD_mem hlt2)
      obtain ⟨c, off, po, pc, rfl, hc, c0, c1, hrp⟩ := (HR.out _ HD.out).at hlt hxe
      obtain ⟨c', off', po', pc', rfl, hc', d0, d1, hrp'⟩ := (HS.out _ HD.out).at hlt2 hye
      rw [hxe, hye] at HX HY
      obtain ⟨w0, hw0, hx, hy, b0⟩ := two_els wr x y po po' pc pc'
      have HW0 := Lib.hid hw0
      have HSE := Lib.hid (sameelement_walk x y po po' pc pc' hpx hpy w0 (hrp.below b0) (hrp'.below b0))
      obtain ⟨x0, x1⟩ := hx.cells
      obtain ⟨y0, y1⟩ := hy.cells
      have z0 : (wr.alloc (.cells #[.string (bs x.id), .slice po x.ps.length pc] 30)).cell? ⟨c', off' + i * 2, none⟩ = some (.string (bs y.id)) := ((alloc_in' wr (.cells #[.string (bs x.id), .slice po x.ps.length pc] 30)).cell (p := ⟨c', off' + i * 2, none⟩) hc').trans d0
      have z1 : (wr.alloc (.cells #[.string (bs x.id), .slice po x.ps.length pc] 30)).cell? ⟨c', off' + i * 2 + 1, none⟩ = some (.slice po' y.ps.length pc') := ((alloc_in' wr (.cells #[.string (bs x.id), .slice po x.ps.length pc] 30)).cell (p := ⟨c', off' + i * 2 + 1, none⟩) hc').trans d1
      have HB0 := Lib.hid (HD.out.trans (b0.mono HD.out.size))
      clear hxe hye hrp hrp' hw0 hx hy b0
      cases hxy : eqE x y
      · have HN := Lib.hid (HX.out (fun e => by rw [show eqE x y = true from decide_eq_true e] at hxy; cases hxy))
        rw [hxy] at HSE
        clear HX HY hxy
        go_wp2_with fail
        rw [HW0.out]
        go_wp2_with fail
        refine HSE.out.mono ?_
        rintro e w2 ⟨rfl, d2⟩
        have b2 := HB0.out.trans (d2.mono HB0.out.size)
        go_wp2
        go_ret
        rw [HN.out]
        exact ⟨rfl, b2⟩
      · have HN := Lib.hid (HY.out (of_decide_eq_true hxy))
        rw [hxy] at HSE
        clear HX HY hxy
        go_wp2_with fail
        rw [HW0.out]
        go_wp2_with fail
        refine HSE.out.mono ?_
        rintro e w2 ⟨rfl, d2⟩
        have HB2 := Lib.hid (HB0.out.trans (d2.mono HB0.out.size))
        clear d2
        go_wp2
        go_roundg g
        case measure => omega
        case rel => exact ⟨i + 1, by omega, HN.out, by simp, HB2.out⟩
end Go.Proofs.YtonippapkmmkeaaDoor
/- The program's Same and Get of structured data, walked, II. -/
namespace Go.Proofs.YtonippapkmmkeaaDoor
open Go.ChangeShapes Go.WideShapes Go.ChangeAt Go.RowKit K Q10 U4
set_option linter.unusedVariables false

theorem ksame_walk (a b : List El) (ao bo : Option Addr) (ca cb : Nat) (hn : a.length ≤ 140737488351232) (hn2 : b.length ≤ 140737488351232) (hps : ∀ x ∈ a, x.ps.length ≤ 140737488351232) (hps2 : ∀ x ∈ b, x.ps.length ≤ 140737488351232) (w : World) (hr : RdE w ao a) (hs : RdE w bo b) :
    Calls Tryd.prog 10 #[.slice ao a.length ca, .slice bo b.length cb] w fun e w' => e = .returned (.bool (saE a b)) ∧ Below w.heap.size w w' := by
  have HE := Lib.hid (equalfunc_walk a b ao bo ca cb hn hn2 hps hps2 w hr hs)
  clear hr hs hps hps2
  go_enter Tryd.func10, Tryd.ntmps10
  go_wp2_with fail
  refine HE.out.mono ?_
  rintro e w1 ⟨rfl, b1⟩
  go_wp2
  go_ret
  exact ⟨rfl, b1⟩
def gpS (l : List Pm) (n : List UInt8) : List UInt8 := (gtP l n).getD []
def gpB (l : List Pm) (n : List UInt8) : Bool := (gtP l n).isSome
def FiRel (ps : List Pm) (n : List UInt8) (w : World) (g : Nat) (v : Value) (wr : World) : Prop :=
  ∃ k, k + g = ps.length ∧ gtP ps n = gtP (ps.drop k) n ∧ v = .int .i64 (k : Nat) ∧ Below w.heap.size w wr
def GeRel (l : List El) (id n : List UInt8) (w : World) (g : Nat) (v : Value) (wr : World) : Prop :=
  ∃ i, i + g = l.length ∧ gt l id n = gt (l.drop i) id n ∧ v = .int .i64 (i : Nat) ∧ Below w.heap.size w wr
end Go.Proofs.YtonippapkmmkeaaDoor
