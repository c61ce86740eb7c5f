/- oid's Encode, walked. -/
import Derived.Test.YtanainpapcblfaaDoorOidV
import Derived.Deep.RegionWith
namespace Go.Proofs.YtanainpapcblfaaDoor
open Go.ChangeShapes Go.WideShapes Go.ChangeAt Go.RowKit K O6
set_option linter.unusedVariables false

theorem own_block {w : World} {B : Nat} {T : TypeId} {v : Value} {cs : List Nat} (h : OwnI w B T v cs) (h0 : 0 < cs.length) :
    ∃ g cap cur, v = .slice (some ⟨g, 0, none⟩) cs.length cap ∧ B ≤ g ∧ w.heap[g]? = some (.cells cur T (0, 0)) ∧ cs.length ≤ cap ∧ ∀ i, i < cs.length → w.cell? ⟨g, i, none⟩ = some (.int .i64 ((cs.getD i 0 : Nat) : Int)) := by
  have hf := h.form
  rcases h.2 with ⟨hv, h1⟩ | ⟨g, cap, cur, hv, hB, hh, hle, hm, hs, ht⟩
  · omega
  · obtain ⟨ao, cp, hv2, hc⟩ := hf
    rw [hv] at hv2
    injection hv2 with e1 e2 e3
    rcases hc with hc | ⟨g2, ha, _, _, hcell⟩
    · omega
    · rw [← e1] at ha
      injection ha with ha
      injection ha with ha
      subst ha
      exact ⟨g, cap, cur, hv, hB, hh, hle, fun i hi => (hcell i hi).1⟩
def EncRel (ns : List Nat) (w : World) (b g : Nat) (v : Value) (wr : World) : Prop :=
  ∃ i, i + g = ns.length ∧ v = .int .i64 (i : Nat) ∧ Bld b b ((ns.take i).flatMap P1.grp) wr ∧ Below b w wr
theorem flat_snoc (ns : List Nat) (i : Nat) (hi : i < ns.length) : (ns.take (i + 1)).flatMap P1.grp = (ns.take i).flatMap P1.grp ++ P1.grp (ns.getD i 0) := by
  rw [List.take_succ_eq_append_getElem hi, List.flatMap_append]
  simp [List.getD, List.getElem?_eq_getElem hi]
theorem flat_len (ns : List Nat) (i : Nat) : ((ns.take i).flatMap P1.grp).length ≤ 9 * ns.length := by
  have h : ∀ l : List Nat, (l.flatMap P1.grp).length ≤ 9 * l.length := by
    intro l
    induction l with
    | nil => simp
    | cons a l ih =>
      have := P1.grp_length a
      rw [List.flatMap_cons, List.length_append, List.length_cons]; omega
  have h1 := h (ns.take i)
  rw [List.length_take] at h1
  have : min i ns.length ≤ ns.length := Nat.min_le_right _ _
  omega
theorem Below_drew1 {B : Nat} {a b : World} (h : Below B a b) : Below B a b.drew := ⟨h.os, h.tape, h.output, h.size, h.block⟩
theorem enc_cells {w1 : World} {g : Nat} {cur : Array Value} {T : TypeId} {x y : Nat} {r : List Nat} (hh : w1.heap[g]? = some (.cells cur T (0, 0)))
    (hc : ∀ i, i < (x :: y :: r).length → w1.cell? ⟨g, i, none⟩ = some (.int .i64 (((x :: y :: r).getD i 0 : Nat) : Int))) :
    RdZ ((w1.setCell ⟨g, 1, none⟩ (.int .i64 ((y : Int) + 40 * (x : Int)))).drew) (some ⟨g, 1, none⟩) ((40 * x + y) :: r).length (fz ((40 * x + y) :: r)) := by
  have hs := rowSet hh 1 (.int .i64 ((y : Int) + 40 * (x : Int)))
  refine .inr ⟨g, 1, rfl, lt_of_block hs, fun i hi => ?_⟩
  show (w1.setCell ⟨g, 1, none⟩ (.int .i64 ((y : Int) + 40 * (x : Int)))).cell? ⟨g, 1 + i, none⟩ = _
  rw [cellRow hs]
  have h1 := hc 1 (by simp)
  rw [cellRow hh] at h1
  have hsz : 1 < cur.size := (Array.getElem?_eq_some_iff.1 h1).1
  cases i with
  | zero =>
    rw [Nat.add_zero, Array.getElem?_setIfInBounds_self, if_pos hsz]
    unfold fz
    rw [show ((40 * x + y) :: r).getD 0 0 = 40 * x + y from rfl]
    congr 2; omega
  | succ i =>
    rw [Array.getElem?_setIfInBounds_ne (by omega)]
    have h2 := hc (1 + (i + 1)) (by simp at hi ⊢; omega)
    rw [cellRow hh] at h2
    rw [h2, show 1 + (i + 1) = (i + 1) + 1 by omega]; rfl
set_option maxRecDepth 100000 in
set_option maxHeartbeats 2000000 in
theorem encode_walk (s : List UInt8) (hs : s.length ≤ 1000000) (w : World) (T : Tabs w) :
    Calls Tryd.prog 11 #[.string (bs s)] w fun e w' => e = .returned (.tuple #[.string (bs (enS s)), .int .i64 (arE s : Nat)]) ∧ Below w.heap.size w w' := by
  have HA := Lib.hid (arcs_walk s hs w T)
  unfold ArPost at HA
  cases hx : arcs s with
  | none =>
    have h1 := ar_none hx
    have h2 : enS s = [] := by unfold enS; rw [hx]; rfl
    rw [h1.1, h1.2] at HA
    rw [h1.1, h2]
    clear h1 h2 hx
    go_enter Tryd.func11, Tryd.ntmps11
    go_wp2_with fail
    refine HA.out.mono ?_
    rintro e w1 ⟨va, rfl, hoa, hb1⟩
    go_wp2
    go_ret2
    exact ⟨rfl, hb1⟩
  | some l =>
    have h1 := ar_some hx
    have h2 : enS s = eb l := by unfold enS; rw [hx, h1.2]; rfl
    rw [h1.1, h1.2] at HA
    rw [h1.1, h2]
    have hz := ((arcs_iff s l).1 hx).1
    have hlen := isArcs_len hz
    obtain ⟨x, y, r, rfl, hxy, hrr⟩ := isArcs_two hz
    have hb : eb (x :: y :: r) = ((40 * x + y) :: r).flatMap P1.grp := eb_two x y r
    rw [hb]
    have hL : (x :: y :: r).length = r.length + 2 := rfl
    have hr2 : r.length ≤ 126 := by omega
    have hns : ∀ a ∈ (40 * x + y) :: r, a ≤ 4294967295 := by
      intro a ha
      rcases List.mem_cons.1 ha with h | h
      · rw [h]; omega
      · exact hrr a h
    have hx2 : x ≤ 2 := by omega
    have hy2 : y ≤ 4294967215 := by omega
    have HNS := Lib.hid hns
    have hnl : ((40 * x + y) :: r).length = r.length + 1 := rfl
    clear h1 h2 hx hz hxy hrr hb hns
    go_enter Tryd.func11, Tryd.ntmps11
    go_wp2_with fail
    refine HA.out.mono ?_
    rintro e w1 ⟨va, rfl, hoa, hb1⟩
    obtain ⟨g, cap, cur, rfl, hBg, hh, hlc, hc⟩ := own_block hoa (by omega)
    rw [hL] at hlc ⊢
    have c0 := hc 0 (by omega)
    have c1 := hc 1 (by omega)
    have HC := Lib.hid hc
    have HH := Lib.hid hh
    have f1 : w1.frozen? ⟨g, 1, none⟩ = false := freeRow hh 1
    rw [show (x :: y :: r).getD 0 0 = x from rfl] at c0
    rw [show (x :: y :: r).getD 1 0 = y from rfl] at c1
    have z1 : IntKind.i64.wrap (40 * (x : Int)) = 40 * (x : Int) := IntWalk.i64_in _ (by omega)
    have z2 : IntKind.i64.wrap ((y : Int) + 40 * (x : Int)) = (y : Int) + 40 * (x : Int) := IntWalk.i64_in _ (by omega)
    have l1 : (1 : Int) ≤ (r.length + 2 : Nat) := by omega
    have l2 : (1 : Nat) ≤ cap := by omega
    clear hc hh hoa HA
    go_wp2_with fail
    go_region_with (fail)
    all_goals
      have hR := enc_cells HH.out HC.out
      have hB2 := Below_drew1 (hb1.setCell (p := ⟨g, 1, none⟩) hBg (.int .i64 ((y : Int) + 40 * (x : Int))))
      clear c0 c1 f1
      generalize (w1.setCell ⟨g, 1, none⟩ (.int .i64 ((y : Int) + 40 * (x : Int)))).drew = w2 at *
      have HBF := Lib.hid (bld_fresh w2)
      have HBA := Lib.hid (show Below w2.heap.size w2 (w2.alloc (.cells #[.pointer none, .slice none 0 0] 51)) from (Below.refl _ _).alloc (Nat.le_refl _) _)
      have HG := Lib.hid (fun m (h : m ≤ 4294967295) w3 => octGroups_nat m (by omega) w3)
      have HR := Lib.hid hR
      have HFL := Lib.hid (flat_snoc ((40 * x + y) :: r))
      have HGL := Lib.hid (flat_len ((40 * x + y) :: r))
      have HNL := Lib.hid hnl
      clear hR HH HC hlen hL z1 z2 l1 l2 hx2 hy2 hnl
      generalize hns : (40 * x + y) :: r = ns at *
      have HNQ := Lib.hid hns
      clear hns
      go_wp2
      go_loopg [33] (r.length + 1) (fun g v wr => EncRel ns w2 w2.heap.size g v wr)
      case atStart => exact ⟨0, by rw [HNL.out]; omega, rfl, by rw [List.take_zero]; exact HBF.out, HBA.out⟩
      case round =>
        clear HBF HBA
        obtain ⟨i, hig, rfl, hB, hb⟩ := hrel
        rw [HNL.out] at hig
        cases gk with
        | zero =>
          obtain rfl : i = r.length + 1 := by omega
          have hall : ns.take (r.length + 1) = ns := List.take_of_length_le (by rw [HNL.out]; exact Nat.le_refl _)
          rw [hall] at hB
          clear hig hall
          go_wp2_with fail
          refine (bstr _ _ _ _ hB hb.size).mono ?_
          rintro e w3 ⟨rfl, b3⟩
          have hb3 := hB2.trans ((hb.trans b3).mono hB2.size)
          clear b3
          go_wp2
          go_ret2
          rw [HNQ.out]
          exact ⟨rfl, hb3⟩
        | succ g =>
          have hin : i < r.length + 1 := by omega
          have hin2 : (i : Int) < (r.length : Int) + 1 := by omega
          have hx : ns.getD i 0 ≤ 4294967295 := HNS.out _ (by simp [List.getD, List.getElem?_eq_getElem (show i < ns.length by rw [HNL.out]; exact hin)])
          rcases HR.out.below hb with h0 | ⟨rb, off, hra, hrb, hrc⟩
          · rw [HNL.out] at h0; omega
          · injection hra with hra
            injection hra with h1 h2 h3
            subst h1 h2
            have hcell := hrc i (by rw [HNL.out]; exact hin)
            unfold fz at hcell
            have HFS := Lib.hid (HFL.out i (by rw [HNL.out]; exact hin))
            have hgl := HGL.out i
            rw [HNL.out] at hgl
            have hgl2 := P1.grp_length (ns.getD i 0)
            clear hrc
            generalize hX : ns.getD i 0 = X at *
            clear hX
            generalize (ns.take i).flatMap P1.grp = PT at *
            go_wp2_with fail
            refine (HG.out X hx _).mono ?_
            rintro e w3 ⟨rfl, d3⟩
            have B3 := bld_below hB d3
            have b3 := hb.trans (d3.mono hb.size)
            clear d3 hB hb
            go_wp2_with fail
            refine (wstr _ _ PT (P1.grp X) w3 B3 (by omega) b3.size).mono ?_
            rintro e w4 ⟨rfl, B4, k4, -⟩
            have b4 := b3.trans k4
            clear b3 k4 B3
            go_wp2
            go_roundg g
            case measure => omega
            case rel => exact ⟨i + 1, by rw [HNL.out]; omega, by simp, by rw [HFS.out]; exact B4, b4⟩
end Go.Proofs.YtanainpapcblfaaDoor
