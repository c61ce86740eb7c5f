/- The document's own Rest, walked. -/
import Derived.Test.YtanainpapcblfaaDoorOidC
namespace Go.Proofs.YtanainpapcblfaaDoor
open Go.ChangeShapes Go.WideShapes Go.ChangeAt Go.RowKit K O6
set_option linter.unusedVariables false

theorem OwnI.cap {w : World} {B : Nat} {T : TypeId} {ao : Option Addr} {n cap : Nat} {cs : List Nat} (h : OwnI w B T (.slice ao n cap) cs) : n ≤ cap := by
  rcases h.2 with ⟨hv, h0⟩ | ⟨g, cap', cur, hv, hB, hh, hle, hm, hs, ht⟩
  · cases hv; exact Nat.le_refl _
  · cases hv; omega
def rsS (r s : List UInt8) : List UInt8 := if wi r s then put ((arL s).drop (arL r).length) else []
def rsE (r s : List UInt8) : Nat := if wi r s then 0 else 60
set_option maxRecDepth 100000 in
set_option maxHeartbeats 600000 in
theorem qrest_walk (r s : List UInt8) (hr : r.length ≤ 140737488351232) (hs : s.length ≤ 140737488351232) (w : World) :
    Calls Tryd.prog 22 #[.string (bs r), .string (bs s)] w fun e w' => e = .returned (.tuple #[.string (bs (rsS r s)), .int .i64 (rsE r s : Nat)]) ∧ Below w.heap.size w w' := by
  have HW := Lib.hid (qwithin_walk r s hr hs w)
  have HA := Lib.hid (qarcs_walk r hr)
  have HB := Lib.hid (qarcs_walk s hs)
  unfold rsS rsE
  cases hw : wi r s
  · rw [hw] at HW
    simp only [Bool.false_eq_true, if_false]
    clear HA HB hw
    go_enter Tryd.func22, Tryd.ntmps22
    go_wp2_with fail
    refine HW.out.mono ?_
    rintro e w1 ⟨rfl, b1⟩
    go_wp2
    go_ret2
    exact ⟨rfl, b1⟩
  · rw [hw] at HW
    simp only [if_true]
    unfold wi at hw
    simp only [Bool.and_eq_true] at hw
    obtain ⟨h1, h2, h3⟩ := hw
    obtain ⟨t, ht⟩ := (O6.within_iff _ _).1 h3
    obtain ⟨la, hla⟩ := Option.isSome_iff_exists.1 h1
    obtain ⟨lb, hlb⟩ := Option.isSome_iff_exists.1 h2
    have hza := ((arcs_iff r la).1 hla).1
    have hzb := ((arcs_iff s lb).1 hlb).1
    have hna := isArcs_len hza
    have hnb := isArcs_len hzb
    have HLE := Lib.hid (isArcs_le hzb)
    have e1 := ar_some hla
    have e2 := ar_some hlb
    unfold ArPost at HA HB
    rw [e1.1, e1.2] at HA
    rw [e2.1, e2.2] at HB
    rw [e1.2, e2.2] at ht ⊢
    subst ht
    rw [List.drop_left]
    rw [List.length_append] at hnb
    clear h1 h2 h3 hla hlb hza hzb e1 e2
    go_enter Tryd.func22, Tryd.ntmps22
    go_wp2_with fail
    refine HW.out.mono ?_
    rintro e w1 ⟨rfl, b1⟩
    go_wp2_with fail
    refine (HA.out w1).mono ?_
    rintro e w2 ⟨va, rfl, hoa, b2⟩
    go_wp2_with fail
    refine (HB.out w2).mono ?_
    rintro e w3 ⟨vb, rfl, hob, b3⟩
    have hb := (b1.trans (b2.mono b1.size)).trans (b3.mono (Nat.le_trans b1.size b2.size))
    obtain ⟨ao, ca, rfl, _⟩ := RdZ.own hoa
    obtain ⟨bo, cb, rfl, hrb⟩ := RdZ.own hob
    have hcap := OwnI.cap hob
    rw [List.length_append] at hcap
    clear HW HA HB b1 b2 b3 hoa hob
    rw [List.length_append] at hrb
    rcases hrb with h0 | ⟨bk, off, rfl, hbk, hc⟩
    · omega
    · have hrt : RdZ w3 (some ⟨bk, off + la.length, none⟩) t.length (fz t) := by
        refine .inr ⟨bk, off + la.length, rfl, hbk, fun i hi => ?_⟩
        have := hc (la.length + i) (by omega)
        rw [Nat.add_assoc, this]
        unfold fz
        rw [List.getD, List.getD, List.getElem?_append_right (by omega), Nat.add_sub_cancel_left]
      have HP := Lib.hid (fun cap => qputs_walk t (fun a ha => HLE.out a (List.mem_append_right _ ha)) (by omega) (some ⟨bk, off + la.length, none⟩) cap w3 hrt)
      clear hc hrt HLE
      rw [List.length_append]
      have i0 : (0 : Int) ≤ ((la.length : Nat) : Int) := by omega
      have i1 : ((la.length : Nat) : Int) ≤ ((la.length + t.length : Nat) : Int) := by omega
      have i2 : la.length ≤ la.length + t.length := by omega
      by_cases hcb : cb = la.length
      · obtain rfl : t = [] := List.length_eq_zero_iff.1 (by omega)
        have hp0 : (∀ ao cap, Calls Tryd.prog 33 #[.slice ao 0 cap] w3 fun e w' => e = .returned (.string (bs (put []))) ∧ Below w3.heap.size w3 w') := (fun ao cap => qputs_walk [] (by intro a ha; cases ha) (by decide) ao cap w3 (.inl rfl))
        have HP0 := Lib.hid hp0
        clear hp0
        subst hcb
        simp only [List.length_nil, Nat.add_zero]
        clear HP i2 hcap hnb
        go_wp2_with fail
        refine (HP0.out _ _).mono ?_
        rintro e w4 ⟨rfl, b4⟩
        have hb4 := hb.trans (b4.mono hb.size)
        clear hb b4 HP0
        go_wp2
        go_ret2
        exact ⟨rfl, hb4⟩
      · go_wp2_with fail
        refine (HP.out _).mono ?_
        rintro e w4 ⟨rfl, b4⟩
        have hb4 := hb.trans (b4.mono hb.size)
        clear hb b4 HP
        go_wp2
        go_ret2
        exact ⟨rfl, hb4⟩
end Go.Proofs.YtanainpapcblfaaDoor
