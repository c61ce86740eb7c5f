/- The document's Same of structured data, walked. -/
import Derived.Test.YtkpcfbadhoiigaaDoorQuoH
import Derived.Laws.StructEq
import Derived.ChangeKeysEq
namespace Go.Proofs.YtkpcfbadhoiigaaDoor
open Go.ChangeShapes Go.WideShapes Go.ChangeAt Go.RowKit K Q10 U4
set_option linter.unusedVariables false

def eqP (x y : Pm) : Bool := (x.n == y.n) && (x.v == y.v)
theorem eqP_iff (x y : Pm) : eqP x y = true ↔ x = y := by
  obtain ⟨a, b⟩ := x
  obtain ⟨a', b'⟩ := y
  simp [eqP]
theorem run_equal_param (x y : Pm) (w : World) : (Op.equalIn 10000 47 (.agg #[.string (bs x.n), .string (bs x.v)]) (.agg #[.string (bs y.n), .string (bs y.v)])).run Tryd.prog w = .ok (eqP x y) w := by
  obtain ⟨a, b⟩ := x
  obtain ⟨a', b'⟩ := y
  simp only [eqP]
  simp [go_sem, Tryd.underlying47]
  by_cases h1 : a = a'
  · by_cases h2 : b = b'
    · simp [h1, h2]
    · simp [h1, h2]
  · simp [h1]
def saE (a b : List El) : Bool := decide (a = b)
theorem els_ext {xs ys : List El} (hl : xs.length = ys.length) (h : ∀ j, j < xs.length → xs.getD j noe = ys.getD j noe) : xs = ys := by
  refine List.ext_getElem hl fun i h1 h2 => ?_
  have := h i h1
  rw [List.getD_eq_getElem?_getD, List.getD_eq_getElem?_getD, List.getElem?_eq_getElem h1, List.getElem?_eq_getElem h2] at this
  exact this
theorem pms_ext {xs ys : List Pm} (hl : xs.length = ys.length) (h : ∀ j, j < xs.length → xs.getD j nop = ys.getD j nop) : xs = ys := by
  refine List.ext_getElem hl fun i h1 h2 => ?_
  have := h i h1
  rw [List.getD_eq_getElem?_getD, List.getD_eq_getElem?_getD, List.getElem?_eq_getElem h1, List.getElem?_eq_getElem h2] at this
  exact this
theorem saE_no {a b : List El} (h : ¬ a = b) : saE a b = false := decide_eq_false h
theorem saE_yes {a b : List El} (h : a = b) : saE a b = true := decide_eq_true h
def SaRel (a b : List El) (w : World) (g : Nat) (v5 : Value) (wr : World) : Prop :=
  ∃ i, i + g = a.length ∧ (∀ j, j < i → a.getD j noe = b.getD j noe) ∧ v5 = .int .i64 (i : Nat) ∧ Dr w wr
def SpRel (x y : El) (w : World) (g : Nat) (v6 : Value) (wr : World) : Prop :=
  ∃ k, k + g = x.ps.length ∧ (∀ j, j < k → x.ps.getD j nop = y.ps.getD j nop) ∧ v6 = .int .i64 (k : Nat) ∧ Dr w wr
set_option maxRecDepth 100000 in
set_option maxHeartbeats 4000000 in
theorem qsame10_walk (a b : List El) (ao bo : Option Addr) (ca cb : Nat) (hn : a.length ≤ 140737488351232) (hn2 : b.length ≤ 140737488351232) (hps : ∀ x ∈ a, x.ps.length ≤ 140737488351232) (hps2 : ∀ x ∈ b, x.ps.length ≤ 140737488351232) (w : World) (hr : RdE w ao a) (hs : RdE w bo b) :
    Calls Tryd.prog 11 #[.slice ao a.length ca, .slice bo b.length cb] w fun e w' => e = .returned (.bool (saE a b)) ∧ Dr w w' := by
  by_cases hne : a.length = b.length
  rotate_left
  · have hb : (((a.length : Nat) : Int) != ((b.length : Nat) : Int)) = true := by rw [bne_iff_ne]; omega
    rw [saE_no (fun e => hne (by rw [e]))]
    clear hne hps hps2 hr hs
    go_enter Tryd.func11, Tryd.ntmps11
    go_wp2
    go_ret
    exact ⟨rfl, Dr.refl w⟩
  have hb : (((a.length : Nat) : Int) != ((b.length : Nat) : Int)) = false := by rw [hne]; simp
  have HNE := Lib.hid hne
  have HR := Lib.hid (fun w1 (d : Dr w w1) => hr.dr d)
  have HS := Lib.hid (fun w1 (d : Dr w w1) => hs.dr d)
  have HPS := Lib.hid hps
  have HPS2 := Lib.hid hps2
  clear hne hr hs hps hps2
  go_enter Tryd.func11, Tryd.ntmps11
  go_wp2_with fail
  go_loopg [5] a.length (fun g v5 wr => SaRel a b w g v5 wr)
  case atStart => exact ⟨0, by omega, fun j hj => by omega, rfl, Dr.refl w⟩
  case round =>
    obtain ⟨i, hg, hall, rfl, hd⟩ := hrel
    have HG := Lib.hid hg
    have HALL := Lib.hid hall
    have HD := Lib.hid hd
    clear hg hall hd
    cases gk with
    | zero =>
      have hi : a.length ≤ i := by have := HG.out; omega
      have HN := Lib.hid (saE_yes (els_ext HNE.out (fun j hj => HALL.out j (by omega))))
      go_wp2
      go_ret
      rw [HN.out]
      exact ⟨rfl, HD.out⟩
    | succ g =>
      have hlt : i < a.length := by have := HG.out; omega
      have hlt2 : i < b.length := by have := HG.out; have := HNE.out; omega
      obtain ⟨x, hx⟩ : ∃ x, a.getD i noe = x := ⟨_, rfl⟩
      obtain ⟨y, hy⟩ : ∃ y, b.getD i noe = y := ⟨_, rfl⟩
      have hpl : x.ps.length ≤ 140737488351232 := HPS.out x (by rw [← hx]; exact getD_mem hlt)
      have hpl2 : y.ps.length ≤ 140737488351232 := HPS2.out y (by rw [← hy]; exact getD_mem hlt2)
      obtain ⟨c, off, po, pc, rfl, hc, c0, c1, hrp⟩ := (HR.out _ HD.out).at hlt hx
      obtain ⟨c2, off2, po2, pc2, rfl, hc2, d0, d1, hrp2⟩ := (HS.out _ HD.out).at hlt2 hy
      have HX := Lib.hid (fun h : ¬ x = y => saE_no (a := a) (b := b) (fun e => h (by rw [← hx, ← hy, e])))
      have HY := Lib.hid (fun (h : x = y) (j : Nat) (hj : j < i + 1) => (show a.getD j noe = b.getD j noe by
        by_cases hji : j = i
        · rw [hji, hx, hy]; exact h
        · exact HALL.out j (by omega)))
      have HRP := Lib.hid (fun w1 (d : Dr wr w1) => hrp.dr d)
      have HRP2 := Lib.hid (fun w1 (d : Dr wr w1) => hrp2.dr d)
      have HC1 := Lib.hid (fun w1 (d : Dr wr w1) => show w1.cell? ⟨c, off + i * 2 + 1, none⟩ = some (.slice po x.ps.length pc) by obtain ⟨m, rfl⟩ := d; exact c1)
      have HC2 := Lib.hid (fun w1 (d : Dr wr w1) => show w1.cell? ⟨c2, off2 + i * 2 + 1, none⟩ = some (.slice po2 y.ps.length pc2) by obtain ⟨m, rfl⟩ := d; exact d1)
      clear hx hy hrp hrp2
      by_cases hid : x.id = y.id
      rotate_left
      · have HN := Lib.hid (HX.out (fun e => hid (by rw [e])))
        have e1 : (x.id == y.id) = false := beq_eq_false_iff_ne.2 hid
        have e2 : decide (bs x.id = bs y.id) = false := decide_eq_false (fun h => hid (bs_inj h))
        have e3 : (x.id != y.id) = true := bne_iff_ne.2 hid
        go_wp2_with fail
        go_quiet (fail)
        go_wp2
        go_ret
        rw [HN.out]
        exact ⟨rfl, HD.out.trans ⟨_, rfl⟩⟩
      by_cases hpe : x.ps.length = y.ps.length
      rotate_left
      · have HN := Lib.hid (HX.out (fun e => hpe (by rw [e])))
        have e3 : (((x.ps.length : Nat) : Int) != ((y.ps.length : Nat) : Int)) = true := by rw [bne_iff_ne]; omega
        rw [hid] at c0
        clear hid hpe
        go_wp2_with fail
        go_quiet (fail)
        go_wp2
        go_ret
        rw [HN.out]
        exact ⟨rfl, HD.out.trans ⟨_, rfl⟩⟩
      have HPE := Lib.hid hpe
      have HID := Lib.hid hid
      have e3 : (((x.ps.length : Nat) : Int) != ((y.ps.length : Nat) : Int)) = false := by rw [hpe]; simp
      rw [hid] at c0
      clear hid hpe
      go_wp2_with fail
      go_quiet (fail)
      clear c0 c1 d0 d1
      have HQ := Lib.hid (show Dr wr (wr.drewN nq) from ⟨_, rfl⟩)
      generalize wr.drewN nq = wq at *
      go_wp2_with fail
      go_loopg [6] x.ps.length (fun g v6 wx => SpRel x y wq g v6 wx)
      case atStart => exact ⟨0, by omega, fun j hj => by omega, rfl, Dr.refl _⟩
      case round =>
        obtain ⟨k, hk, hall2, rfl, hd2⟩ := hrel
        have HK := Lib.hid hk
        have HALL2 := Lib.hid hall2
        have HD2 := Lib.hid (HQ.out.trans hd2)
        have HD3 := Lib.hid hd2
        have c1 := HC1.out _ HD2.out
        have d1 := HC2.out _ HD2.out
        clear hk hall2 hd2
        cases gk with
        | zero =>
          have hki : x.ps.length ≤ k := by have := HK.out; omega
          have HXY := Lib.hid (show x = y by
            have h1 := pms_ext HPE.out (fun j hj => HALL2.out j (by omega))
            have h2 := HID.out
            obtain ⟨i1, p1⟩ := x
            obtain ⟨i2, p2⟩ := y
            simp only at h1 h2
            rw [h1, h2])
          have HN := Lib.hid (HY.out HXY.out)
          go_wp2
          go_roundg g
          case measure => have := HG.out; omega
          case rel => exact ⟨i + 1, by have := HG.out; omega, HN.out, by simp, HD.out.trans HD2.out⟩
        | succ g2 =>
          have hki : k < x.ps.length := by have := HK.out; omega
          have hki2 : k < y.ps.length := by have := HK.out; have := HPE.out; omega
          obtain ⟨cp, op, rfl, hcp, hpp⟩ := (HRP.out _ HD2.out).at (by omega)
          obtain ⟨p0, p1⟩ := hpp k hki
          obtain ⟨cp2, op2, rfl, hcp2, hpp2⟩ := (HRP2.out _ HD2.out).at (by omega)
          obtain ⟨q0, q1⟩ := hpp2 k hki2
          obtain ⟨P, hP⟩ : ∃ P, x.ps.getD k nop = P := ⟨_, rfl⟩
          obtain ⟨R, hR⟩ : ∃ R, y.ps.getD k nop = R := ⟨_, rfl⟩
          rw [hP] at p0 p1
          rw [hR] at q0 q1
          have HX2 := Lib.hid (fun h : ¬ P = R => HX.out (fun e => h (by rw [← hP, ← hR, e])))
          have HY2 := Lib.hid (fun (h : P = R) (j : Nat) (hj : j < k + 1) => (show x.ps.getD j nop = y.ps.getD j nop by
            by_cases hji : j = k
            · rw [hji, hP, hR]; exact h
            · exact HALL2.out j (by omega)))
          have hq := run_equal_param P R
          clear hpp hpp2 hP hR
          cases hxy : eqP P R
          · rw [hxy] at hq
            have HN := Lib.hid (HX2.out (fun e => by rw [(eqP_iff P R).2 e] at hxy; cases hxy))
            clear hxy
            go_wp2_with fail
            go_quiet (fail)
            go_wp2
            go_ret
            rw [HN.out]
            exact ⟨rfl, (HD.out.trans HD2.out).trans ⟨_, rfl⟩⟩
          · rw [hxy] at hq
            have HN := Lib.hid (HY2.out ((eqP_iff P R).1 hxy))
            clear hxy
            go_wp2_with fail
            go_quiet (fail)
            go_wp2
            go_roundg g2
            case measure => have := HK.out; omega
            case rel => exact ⟨k + 1, by have := HK.out; omega, HN.out, by simp, HD3.out.trans ⟨_, rfl⟩⟩
end Go.Proofs.YtkpcfbadhoiigaaDoor
