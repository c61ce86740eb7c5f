/- The program's Get and Same of structured data, walked. -/
import Derived.Test.YtkpcfbadhoiigaaDoorQuqE
import Derived.Test.YtkpcfbadhoiigaaDoorQuoI
namespace Go.Proofs.YtkpcfbadhoiigaaDoor
open Go.ChangeShapes Go.WideShapes Go.ChangeAt Go.RowKit K Q10 U4
set_option linter.unusedVariables false

def eqPs (a b : List Pm) : Bool := decide (a = b)
def EpRel (xs ys : List Pm) (w : World) (g : Nat) (v8 : Value) (wr : World) : Prop :=
  ∃ i : Nat, i + g = xs.length ∧ v8 = .int .i64 (i : Nat) ∧ (∀ j, j < i → xs.getD j nop = ys.getD j nop) ∧ Dr w wr
theorem RdP.dr0 {w w' : World} {ao : Option Addr} {xs : List Pm} (h : RdP w ao xs) (k : Dr w w') : RdP w' ao xs := by
  obtain ⟨n, rfl⟩ := k; exact h
set_option maxRecDepth 100000 in
set_option maxHeartbeats 2000000 in
theorem eqparams_walk (xs ys : List Pm) (ao bo : Option Addr) (ca cb : Nat) (hl : xs.length ≤ 140737488351232) (hl2 : ys.length ≤ 140737488351232) (w : World) (hr : RdP w ao xs) (hs : RdP w bo ys) :
    Calls Tryd.prog 63 #[.slice ao xs.length ca, .slice bo ys.length cb] w fun e w' => e = .returned (.bool (eqPs xs ys)) ∧ Dr w w' := by
  by_cases hne : xs.length = ys.length
  rotate_left
  · have hb : (((xs.length : Nat) : Int) != ((ys.length : Nat) : Int)) = true := by rw [bne_iff_ne]; omega
    rw [show eqPs xs ys = false from decide_eq_false (fun e => hne (by rw [e]))]
    clear hne hr hs
    go_enter Tryd.func63, Tryd.ntmps63
    go_wp2
    go_ret
    exact ⟨rfl, Dr.refl w⟩
  have hb : (((xs.length : Nat) : Int) != ((ys.length : Nat) : Int)) = false := by rw [hne]; simp
  have HNE := Lib.hid hne
  have HR := Lib.hid (fun w1 (d : Dr w w1) => hr.dr0 d)
  have HS := Lib.hid (fun w1 (d : Dr w w1) => hs.dr0 d)
  clear hne hr hs
  go_enter Tryd.func63, Tryd.ntmps63
  go_wp2_with fail
  go_loopg [13] xs.length (fun g v8 wr => EpRel xs ys w g v8 wr)
  case atStart => exact ⟨0, by omega, rfl, by omega, Dr.refl w⟩
  case round =>
    obtain ⟨i, hi, rfl, hall, hd⟩ := hrel
    have HALL := Lib.hid hall
    have HD := Lib.hid hd
    clear hall hd
    cases gk with
    | zero =>
      obtain rfl : i = xs.length := by omega
      have HE := Lib.hid (show eqPs xs ys = true from decide_eq_true (pms_ext HNE.out HALL.out))
      go_wp2
      go_ret
      rw [HE.out]
      exact ⟨rfl, HD.out⟩
    | succ g =>
      have hlt : i < xs.length := by omega
      have hlt2 : i < ys.length := by have := HNE.out; omega
      have HX := Lib.hid (fun h : ¬ xs.getD i nop = ys.getD i nop => show eqPs xs ys = false from decide_eq_false (fun e => h (by rw [e])))
      have HY := Lib.hid (fun (h : xs.getD i nop = ys.getD i nop) (j : Nat) (hj : j < i + 1) => (show xs.getD j nop = ys.getD j nop by
        by_cases hji : j = i
        · rw [hji]; exact h
        · exact HALL.out j (by omega)))
      obtain ⟨x, hxe⟩ : ∃ x, xs.getD i nop = x := ⟨_, rfl⟩
      obtain ⟨y, hye⟩ : ∃ y, ys.getD i nop = y := ⟨_, rfl⟩
      obtain ⟨b, off, rfl, hbl, hc⟩ := (HR.out _ HD.out).at (by omega)
      obtain ⟨b', off', rfl, hbl', hc'⟩ := (HS.out _ HD.out).at (by omega)
      obtain ⟨c0, c1⟩ := hc i hlt
      obtain ⟨d0, d1⟩ := hc' i hlt2
      rw [hxe] at c0 c1
      rw [hye] at d0 d1
      rw [hxe, hye] at HX HY
      have hq := run_equal_param x y
      clear hxe hye hc hc'
      cases hxy : eqP x y
      · rw [hxy] at hq
        have HN := Lib.hid (HX.out (fun e => by rw [(eqP_iff x y).2 e] at hxy; cases hxy))
        clear HX HY hxy
        go_wp2_with fail
        go_quiet (fail)
        go_wp2
        go_ret
        rw [HN.out]
        exact ⟨rfl, HD.out.trans ⟨nq, rfl⟩⟩
      · rw [hxy] at hq
        have HN := Lib.hid (HY.out ((eqP_iff x y).1 hxy))
        clear HX HY hxy
        go_wp2_with fail
        go_quiet (fail)
        go_wp2
        go_roundg g
        case measure => omega
        case rel => exact ⟨i + 1, by omega, by simp, HN.out, HD.out.trans ⟨nq, rfl⟩⟩
theorem bs_eq (a b : List UInt8) : decide (bs a = bs b) = (a == b) := by
  rw [Bool.eq_iff_iff, decide_eq_true_iff, beq_iff_eq]
  exact ⟨fun h => bs_inj h, fun h => by rw [h]⟩
def eqE (x y : El) : Bool := decide (x = y)
theorem eqE_no {x y : El} (h : x.id ≠ y.id) : eqE x y = false := decide_eq_false (fun e => h (by rw [e]))
theorem eqE_yes {x y : El} (h : x.id = y.id) : eqE x y = eqPs x.ps y.ps := by
  obtain ⟨a, b⟩ := x
  obtain ⟨a', b'⟩ := y
  simp only at h
  subst h
  simp [eqE, eqPs]
theorem two_els (w : World) (x y : El) (ao bo : Option Addr) (ca cb : Nat) : ∃ w0, (w.alloc (.cells #[.string (bs x.id), .slice ao x.ps.length ca] 45)).alloc (.cells #[.string (bs y.id), .slice bo y.ps.length cb] 45) = w0 ∧ Eb 45 w0 w.heap.size x.id (.slice ao x.ps.length ca) ∧ Eb 45 w0 (w.heap.size + 1) y.id (.slice bo y.ps.length cb) ∧ Below w.heap.size w w0 := by
  have a1 := alloc_in' w (.cells #[.string (bs x.id), .slice ao x.ps.length ca] 45)
  have a2 := alloc_in' (w.alloc (.cells #[.string (bs x.id), .slice ao x.ps.length ca] 45)) (.cells #[.string (bs y.id), .slice bo y.ps.length cb] 45)
  have h1 := Eb.new 45 w x.id (.slice ao x.ps.length ca)
  have h2 := Eb.new 45 (w.alloc (.cells #[.string (bs x.id), .slice ao x.ps.length ca] 45)) y.id (.slice bo y.ps.length cb)
  rw [show (w.alloc (.cells #[.string (bs x.id), .slice ao x.ps.length ca] 45)).heap.size = w.heap.size + 1 by simp] at h2
  exact ⟨_, rfl, h1.below a2, h2, a1.trans (a2.mono a1.size)⟩
set_option maxRecDepth 100000 in
set_option maxHeartbeats 2000000 in
theorem sameelement_walk (x y : El) (ao bo : Option Addr) (ca cb : Nat) (hl : x.ps.length ≤ 140737488351232) (hl2 : y.ps.length ≤ 140737488351232) (w : World) (hr : RdP w ao x.ps) (hs : RdP w bo y.ps) :
    Calls Tryd.prog 44 #[.agg #[.string (bs x.id), .slice ao x.ps.length ca], .agg #[.string (bs y.id), .slice bo y.ps.length cb]] w fun e w' => e = .returned (.bool (eqE x y)) ∧ Below w.heap.size w w' := by
  obtain ⟨w0, hw0, hx, hy, b0⟩ := two_els w x y ao bo ca cb
  obtain ⟨xi, xs⟩ := x
  obtain ⟨yi, ys⟩ := y
  simp only at *
  have HW0 := Lib.hid hw0
  have HE := Lib.hid (eqparams_walk xs ys ao bo ca cb hl hl2 w0 (hr.below b0) (hs.below b0))
  obtain ⟨x0, x1⟩ := hx.cells
  obtain ⟨y0, y1⟩ := hy.cells
  have hd := bs_eq xi yi
  clear hw0 hr hs hx hy
  by_cases hi : xi = yi
  · subst hi
    have HN := Lib.hid (eqE_yes (x := ⟨xi, xs⟩) (y := ⟨xi, ys⟩) rfl)
    clear hd
    go_enter Tryd.func44, Tryd.ntmps44
    go_wp2_with fail
    rw [HW0.out]
    go_wp2_with fail
    refine HE.out.mono ?_
    rintro e w1 ⟨rfl, d1⟩
    obtain ⟨n1, rfl⟩ := d1
    go_wp2
    go_ret
    rw [HN.out]
    exact ⟨rfl, ⟨b0.os, b0.tape, b0.output, b0.size, b0.block⟩⟩
  · have hb : (xi == yi) = false := beq_eq_false_iff_ne.2 hi
    rw [hb] at hd
    have HN := Lib.hid (eqE_no (x := ⟨xi, xs⟩) (y := ⟨yi, ys⟩) hi)
    clear hi
    go_enter Tryd.func44, Tryd.ntmps44
    go_wp2_with fail
    rw [HW0.out]
    go_wp2
    go_ret
    rw [HN.out]
    exact ⟨rfl, b0⟩
end Go.Proofs.YtkpcfbadhoiigaaDoor
