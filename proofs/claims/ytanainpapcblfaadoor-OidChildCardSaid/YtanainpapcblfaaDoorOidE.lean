/- The document's own Encode, walked. -/
import Derived.Test.YtanainpapcblfaaDoorOidB
import Derived.Test.YtanainpapcblfaaDoorGrp
import Derived.Test.YtanainpapcblfaaDoorOidQ
import Derived.Deep.RegionHeld3
namespace Go.Proofs.YtanainpapcblfaaDoor
open Go.ChangeShapes Go.WideShapes Go.ChangeAt Go.RowKit K O6
set_option linter.unusedVariables false

def enS (s : List UInt8) : List UInt8 := if (arcs s).isSome then eb (arL s) else []
def EnRel (l : List Nat) (w : World) (g : Nat) (v6 v7 : Value) (wr : World) : Prop :=
  ∃ (i : Nat) (o : List UInt8), i + g = l.length ∧ 2 ≤ i ∧ v7 = .int .i64 (i : Nat) ∧ v6 = .string (bs o) ∧ o = ebt l i ∧ o.length ≤ 9 * i ∧ Below w.heap.size w wr
set_option maxRecDepth 100000 in
set_option maxHeartbeats 600000 in
theorem qencode_walk (s : List UInt8) (hs : s.length ≤ 140737488351232) (w : World) :
    Calls Tryd.prog 12 #[.string (bs s)] w fun e w' => e = .returned (.tuple #[.string (bs (enS s)), .int .i64 (arE s : Nat)]) ∧ Below w.heap.size w w' := by
  have HA := Lib.hid (qarcs_walk s hs w)
  unfold ArPost at HA
  cases hx : arcs s with
  | none =>
    have h1 := ar_none hx
    have h2 : enS s = [] := by unfold enS; rw [hx]; rfl
    rw [h1.1, h1.2] at HA
    rw [h1.1, h2]
    clear h1 h2 hx
    go_enter Tryd.func12, Tryd.ntmps12
    go_wp2_with fail
    refine HA.out.mono ?_
    rintro e w1 ⟨va, rfl, hoa, hb1⟩
    go_wp2
    go_ret2
    exact ⟨rfl, hb1⟩
  | some l =>
    have h1 := ar_some hx
    have h2 : enS s = eb l := by unfold enS; rw [hx, h1.2]; rfl
    rw [h1.1, h1.2] at HA
    rw [h1.1, h2]
    have hz := ((arcs_iff s l).1 hx).1
    have hlen := isArcs_len hz
    have HLE := Lib.hid (isArcs_le hz)
    clear h1 h2 hx hz
    go_enter Tryd.func12, Tryd.ntmps12
    go_wp2_with fail
    refine HA.out.mono ?_
    rintro e w1 ⟨va, rfl, hoa, hb1⟩
    obtain ⟨ao, ca, rfl, hra⟩ := RdZ.own hoa
    have HR := Lib.hid hra
    rcases hra with h0 | ⟨bk, off, rfl, hbk, hc⟩
    · omega
    · have c0 := hc 0 (by omega)
      have c1 := hc 1 (by omega)
      have hx0 : l.getD 0 0 ≤ 4294967295 := HLE.out _ (by rw [List.getD, List.getElem?_eq_getElem (by omega : 0 < l.length)]; exact List.getElem_mem _)
      have hx1 : l.getD 1 0 ≤ 4294967295 := HLE.out _ (by rw [List.getD, List.getElem?_eq_getElem (by omega : 1 < l.length)]; exact List.getElem_mem _)
      have H2 := Lib.hid (ebt_two l)
      unfold fz at c0 c1
      rw [Nat.add_zero] at c0
      have hgl := P1.grp_length (40 * l.getD 0 0 + l.getD 1 0)
      have HG := Lib.hid (fun w2 => grp_walk (40 * l.getD 0 0 + l.getD 1 0) (by omega) w2)
      clear hoa hc HA
      generalize l.getD 0 0 = x at *
      generalize l.getD 1 0 = y at *
      have hcx : ((40 * x + y : Nat) : Int) = 40 * (x : Int) + (y : Int) := by omega
      rw [hcx] at HG
      have kw0 : IntKind.i64.wrap (40 * (x : Int)) = 40 * (x : Int) := IntWalk.i64_in _ (by omega)
      have kw1 : IntKind.i64.wrap (40 * (x : Int) + (y : Int)) = 40 * (x : Int) + (y : Int) := IntWalk.i64_in _ (by omega)
      clear hcx
      generalize P1.grp (40 * x + y) = o0 at *
      have hL0 : (0 : Int) < ((l.length : Nat) : Int) := by omega
      have hL1 : (1 : Int) < ((l.length : Nat) : Int) := by omega
      have hL2 : (1 : Int) ≤ ((l.length : Nat) : Int) := by omega
      have hN0 : 0 < l.length := by omega
      have hN1 : 1 < l.length := by omega
      go_wp2_with fail
      go_region_held3 (fun w' => w'.cell? ⟨bk, off, none⟩ = some (.int .i64 (x : Nat)) ∧ w'.cell? ⟨bk, off + 1, none⟩ = some (.int .i64 (y : Nat))) (first | exact ⟨c0, c1⟩ | exact z1)
        (first | (go_at_call 37; refine (HG.out _).mono ?_; rintro e x1 ⟨rfl, k1⟩; have z1 := And.intro ((k1.cell (p := ⟨bk, off, none⟩) hbk).trans c0) ((k1.cell (p := ⟨bk, off + 1, none⟩) hbk).trans c1)))
      have k2 : Below w1.heap.size w1 x1 := ⟨k1.os, k1.tape, k1.output, k1.size, k1.block⟩
      have HR2 := Lib.hid (HR.out.below k2)
      have hb2 := hb1.trans (k2.mono hb1.size)
      have HAll := Lib.hid (ebt_all l)
      clear kw0 kw1 k1 k2 z1 c0 c1 HR HG hb1 hbk
      go_wp2
      go_loopg [6, 7] (l.length - 2) (fun g v6 v7 wr => EnRel l x1 g v6 v7 wr)
      case atStart => exact ⟨2, o0, by omega, by omega, rfl, rfl, H2.out.symm, by omega, Below.refl _ _⟩
      case round =>
        obtain ⟨i, o, hig, hi2, rfl, rfl, ho, hol, hb⟩ := hrel
        cases gk with
        | zero =>
          obtain rfl : i = l.length := by omega
          have HE := Lib.hid (ho.trans HAll.out)
          clear hig ho
          go_wp2
          go_ret2
          rw [← HE.out]
          exact ⟨rfl, hb2.trans (hb.mono hb2.size)⟩
        | succ g =>
          have hil : i < l.length := by omega
          rcases (HR2.out).below hb with h0 | ⟨bk2, off2, he, hbk, hc⟩
          · omega
          · cases he
            have hcell := hc i hil
            have hle : l.getD i 0 ≤ 4294967295 := HLE.out _ (by
              rw [List.getD, List.getElem?_eq_getElem hil]; exact List.getElem_mem hil)
            have HN := Lib.hid (fun w1 => grp_walk (l.getD i 0) (by omega) w1)
            have hnl := P1.grp_length (l.getD i 0)
            have HS := Lib.hid (show o ++ P1.grp (l.getD i 0) = ebt l (i + 1) by rw [ebt_snoc l i hil hi2, ← ho])
            unfold fz at hcell
            clear hc HR2 ho
            generalize l.getD i 0 = c at *
            generalize P1.grp c = X at *
            have hnew : (o ++ X).length ≤ 9 * (i + 1) := by rw [List.length_append]; omega
            go_wp2_with fail
            refine (HN.out _).mono ?_
            rintro e w3 ⟨rfl, d⟩
            have hb3 := hb.trans (d.mono hb.size)
            clear d hcell
            go_wp2
            go_roundg g
            case measure => omega
            case rel => exact ⟨i + 1, o ++ X, by omega, by omega, by simp, by simp, HS.out, hnew, hb3⟩
end Go.Proofs.YtanainpapcblfaaDoor
