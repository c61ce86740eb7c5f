/- The document's own begins and Within, walked. -/
import Derived.Test.YtanainpapcblfaaDoorOidB
namespace Go.Proofs.YtanainpapcblfaaDoor
open Go.ChangeShapes Go.WideShapes Go.ChangeAt Go.RowKit K O6
set_option linter.unusedVariables false

theorem Below_drewNc {B : Nat} {a b : World} (h : Below B a b) (n : Nat) : Below B a (b.drewN n) := ⟨h.os, h.tape, h.output, h.size, h.block⟩
theorem within_long {a b : List Nat} (h : b.length < a.length) : within a b = false := by
  cases hw : within a b with
  | false => rfl
  | true =>
    obtain ⟨t, rfl⟩ := (O6.within_iff a b).1 hw
    simp at h; omega
theorem within_diff {a b : List Nat} {i : Nat} (hi : i < a.length) (h : a.getD i 0 ≠ b.getD i 0) : within a b = false := by
  cases hw : within a b with
  | false => rfl
  | true =>
    obtain ⟨t, rfl⟩ := (O6.within_iff a b).1 hw
    refine absurd ?_ h
    rw [List.getD, List.getD, List.getElem?_append_left hi]
theorem within_same : ∀ {a b : List Nat}, a.length ≤ b.length → (∀ j, j < a.length → a.getD j 0 = b.getD j 0) → within a b = true
  | [], b, _, _ => (O6.within_iff [] b).2 ⟨b, rfl⟩
  | x :: a, [], h, _ => by simp at h
  | x :: a, y :: b, h, hj => by
    have h1 : x = y := hj 0 (by simp)
    obtain ⟨t, rfl⟩ := (O6.within_iff a b).1 (within_same (a := a) (b := b) (by simp at h; omega) (fun j h2 => by have := hj (j + 1) (by simp; omega); simpa using this))
    exact (O6.within_iff _ _).2 ⟨t, by rw [h1]; rfl⟩
def BeRel (a b : List Nat) (w : World) (g : Nat) (v4 : Value) (wr : World) : Prop :=
  ∃ i, i + g = a.length ∧ v4 = .int .i64 (i : Nat) ∧ (∀ j, j < i → a.getD j 0 = b.getD j 0) ∧ ∃ m, wr = w.drewN m
set_option maxRecDepth 100000 in
theorem qbegins_walk (a b : List Nat) (ha : a.length ≤ 1000000) (hb : b.length ≤ 1000000) (ao bo : Option Addr) (ca cb : Nat) (w : World) (h1 : RdZ w ao a.length (fz a)) (h2 : RdZ w bo b.length (fz b)) :
    Calls Tryd.prog 47 #[.slice ao a.length ca, .slice bo b.length cb] w fun e w' => e = .returned (.bool (within a b)) ∧ ∃ m, w' = w.drewN m := by
  by_cases hl : b.length < a.length
  · have HE := Lib.hid (within_long hl)
    have hl' : ((b.length : Nat) : Int) < (a.length : Nat) := by omega
    clear h1 h2 hl
    go_enter Tryd.func47, Tryd.ntmps47
    go_wp2
    go_ret
    exact ⟨by rw [HE.out]; rfl, 0, rfl⟩
  · have hl' : ((a.length : Nat) : Int) ≤ (b.length : Nat) := by omega
    have hlb : a.length ≤ b.length := by omega
    have HA := Lib.hid h1
    have HB := Lib.hid h2
    clear h1 h2 hl
    go_enter Tryd.func47, Tryd.ntmps47
    go_wp2
    go_loopg [5] a.length (fun g v4 wr => BeRel a b w g v4 wr)
    case atStart => exact ⟨0, by omega, rfl, fun j hj => by omega, 0, rfl⟩
    case round =>
      obtain ⟨i, hig, rfl, hall, m, rfl⟩ := hrel
      cases gk with
      | zero =>
        obtain rfl : i = a.length := by omega
        have HE := Lib.hid (within_same hlb hall)
        clear hig hall HA HB
        go_wp2
        go_ret
        exact ⟨by rw [HE.out]; rfl, m, rfl⟩
      | succ g =>
        have hil : i < a.length := by omega
        rcases HA.out with h0 | ⟨ga, oa, rfl, _, hca⟩
        · omega
        · rcases HB.out with h0 | ⟨gb, ob, rfl, _, hcb⟩
          · omega
          · have c1 : (w.drewN m).cell? ⟨ga, oa + i, none⟩ = some (.int .i64 ((a.getD i 0 : Nat) : Int)) := hca i hil
            have c2 : (w.drewN m).cell? ⟨gb, ob + i, none⟩ = some (.int .i64 ((b.getD i 0 : Nat) : Int)) := hcb i (by omega)
            have HAL := Lib.hid hall
            have HD := Lib.hid (show ∀ k, (w.drewN m).drewN k = w.drewN (m + k) from fun k => by unfold World.drewN; simp [Nat.add_assoc])
            generalize w.drewN m = w5 at c1 c2 HD ⊢
            by_cases hxy : a.getD i 0 = b.getD i 0
            · have HX := Lib.hid hxy
              rw [← hxy] at c2
              clear hca hcb HA HB hall hxy
              generalize hx : ((a.getD i 0 : Nat) : Int) = x at c1 c2
              clear hx
              go_wp2_with fail
              go_quiet (fail)
              go_wp2
              go_roundg g
              case measure => omega
              case rel =>
                refine ⟨i + 1, by omega, by simp, fun j hj => ?_, m + nq, HD.out nq⟩
                rcases Nat.lt_or_ge j i with h1 | h1
                · exact HAL.out j h1
                · obtain rfl : j = i := by omega
                  exact HX.out
            · have HE := Lib.hid (within_diff (b := b) hil hxy)
              have hne : (((a.getD i 0 : Nat) : Int) == ((b.getD i 0 : Nat) : Int)) = false := by rw [beq_eq_false_iff_ne]; omega
              have hne2 : (((a.getD i 0 : Nat) : Int) != ((b.getD i 0 : Nat) : Int)) = true := by rw [bne_iff_ne]; omega
              clear hca hcb HA HB hall HAL hxy
              generalize a.getD i 0 = x at *
              generalize b.getD i 0 = y at *
              go_wp2_with fail
              go_quiet (fail)
              go_wp2
              go_ret
              exact ⟨by rw [HE.out]; rfl, m + nq, HD.out nq⟩
/-- Whether one text's arcs begin another's: false, if one is none's. -/
def wi (r s : List UInt8) : Bool := (arcs r).isSome && ((arcs s).isSome && within (arL r) (arL s))
theorem arL_len (s : List UInt8) : (arL s).length ≤ 128 := by
  unfold arL
  cases h : arcs s with
  | none => simp
  | some l => exact (isArcs_len ((arcs_iff s l).1 h).1).2
set_option maxRecDepth 100000 in
theorem qwithin_walk (r s : List UInt8) (hr : r.length ≤ 140737488351232) (hs : s.length ≤ 140737488351232) (w : World) :
    Calls Tryd.prog 24 #[.string (bs r), .string (bs s)] w fun e w' => e = .returned (.bool (wi r s)) ∧ Below w.heap.size w w' := by
  have HA := Lib.hid (qarcs_walk r hr w)
  have HB := Lib.hid (qarcs_walk s hs)
  have hwi : wi r s = ((arE r == 0) && ((arE s == 0) && within (arL r) (arL s))) := by
    unfold wi arE
    cases (arcs r).isSome <;> cases (arcs s).isSome <;> rfl
  rw [hwi]
  have hla := arL_len r
  have hlb := arL_len s
  have hea : arE r = 0 ∨ arE r = 60 := by unfold arE; cases (arcs r).isSome <;> simp
  have heb : arE s = 0 ∨ arE s = 60 := by unfold arE; cases (arcs s).isSome <;> simp
  unfold ArPost at HA HB
  clear hwi
  generalize arE r = er at *
  generalize arE s = es at *
  generalize arL r = la at *
  generalize arL s = lb at *
  rcases hea with rfl | rfl <;> rcases heb with rfl | rfl
  all_goals
    go_enter Tryd.func24, Tryd.ntmps24
    go_wp2_with fail
    refine HA.out.mono ?_
    rintro e w1 ⟨va, rfl, hoa, hb1⟩
    go_wp2_with fail
    refine (HB.out w1).mono ?_
    rintro e w2 ⟨vb, rfl, hob, hb2⟩
    have hoa2 := hoa.below hb2
    have hb3 := hb1.trans (hb2.mono hb1.size)
    clear hoa hb1 hb2
    obtain ⟨ao, ca, rfl, hra⟩ := RdZ.own hoa2
    obtain ⟨bo, cb, rfl, hrb⟩ := RdZ.own hob
    have HW := Lib.hid (qbegins_walk la lb (by omega) (by omega) ao bo ca cb w2 hra hrb)
    clear hoa2 hob hra hrb
    first
      | (go_wp2; go_ret; exact ⟨rfl, hb3⟩)
      | (go_wp2_with fail
         refine HW.out.mono ?_
         rintro e w3 ⟨rfl, mq, rfl⟩
         go_wp2
         go_ret
         exact ⟨rfl, Below_drewNc hb3 _⟩)
end Go.Proofs.YtanainpapcblfaaDoor
