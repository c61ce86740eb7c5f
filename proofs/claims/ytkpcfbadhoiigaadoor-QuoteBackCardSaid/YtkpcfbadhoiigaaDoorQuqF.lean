/- The program's Check of structured data, walked: a map of the names that came up. -/
import Derived.Test.YtkpcfbadhoiigaaDoorQuqE
import Derived.Test.YtkpcfbadhoiigaaDoorQuoW
import Derived.Maps.OwnSet
import Derived.Maps.OwnIn
import Derived.Carry
namespace Go.Proofs.YtkpcfbadhoiigaaDoor
open Go.ChangeShapes Go.WideShapes Go.ChangeAt Go.RowKit K Q10 U4
set_option linter.unusedVariables false

/-- The names as keys. -/
def kys (l : List El) : List Lit := l.map fun x => .string x.id
theorem kys_key (l : List El) : ∀ x ∈ kys l, WideAt.IsKeyLit x := by
  intro x hx
  obtain ⟨y, _, rfl⟩ := List.mem_map.1 hx
  simp [WideAt.IsKeyLit]
theorem any_key (acc : List (List UInt8)) (a : List UInt8) : (acc.map Lit.string).any (fun y => y.sameKey (Lit.string a)) = true ↔ a ∈ acc := by
  have hk : WideAt.IsKeyLit (Lit.string a) := by simp [WideAt.IsKeyLit]
  rw [List.any_eq_true]
  constructor
  · rintro ⟨x, hx, h⟩
    obtain ⟨y, hy, rfl⟩ := List.mem_map.1 hx
    have := (WideAt.sameKey_iff hk).1 h
    injection this with this
    exact this ▸ hy
  · intro h
    exact ⟨.string a, List.mem_map.2 ⟨a, h, rfl⟩, (WideAt.sameKey_iff hk).2 rfl⟩
theorem addKey_len : ∀ (ids acc : List (List UInt8)), ((ids.map Lit.string).foldl Maps.addKey (acc.map Lit.string)).length ≤ acc.length + ids.length ∧ (((ids.map Lit.string).foldl Maps.addKey (acc.map Lit.string)).length = acc.length + ids.length ↔ uniq ids = true ∧ ∀ a ∈ ids, a ∉ acc)
  | [], acc => by simp [uniq]
  | a :: r, acc => by
    rw [List.map_cons, List.foldl_cons]
    by_cases h : a ∈ acc
    · have e : Maps.addKey (acc.map Lit.string) (Lit.string a) = acc.map Lit.string := by unfold Maps.addKey; rw [if_pos ((any_key acc a).2 h)]
      rw [e]
      obtain ⟨i1, i2⟩ := addKey_len r acc
      refine ⟨by simp only [List.length_cons]; omega, ?_⟩
      constructor
      · intro hl; simp only [List.length_cons] at hl; omega
      · intro hl; exact absurd h (hl.2 a (by simp))
    · have e : Maps.addKey (acc.map Lit.string) (Lit.string a) = (acc ++ [a]).map Lit.string := by
        unfold Maps.addKey; rw [if_neg (fun hh => h ((any_key acc a).1 hh))]; simp
      rw [e]
      obtain ⟨i1, i2⟩ := addKey_len r (acc ++ [a])
      rw [List.length_append, List.length_singleton] at i1 i2
      have e2 : acc.length + (a :: r).length = acc.length + 1 + r.length := by simp only [List.length_cons]; omega
      rw [e2]
      refine ⟨i1, i2.trans ?_⟩
      constructor
      · rintro ⟨h1, h2⟩
        refine ⟨?_, ?_⟩
        · unfold uniq
          rw [h1, Bool.and_true]
          simp only [Bool.not_eq_true', List.contains_eq_mem, decide_eq_false_iff_not]
          intro hm
          exact h2 a hm (by simp)
        · intro x hx
          rcases List.mem_cons.1 hx with rfl | hx
          · exact h
          · intro hm; exact h2 x hx (by simp [hm])
      · rintro ⟨h1, h2⟩
        unfold uniq at h1
        simp only [Bool.and_eq_true, Bool.not_eq_true', List.contains_eq_mem, decide_eq_false_iff_not] at h1
        refine ⟨h1.2, fun x hx hm => ?_⟩
        rcases List.mem_append.1 hm with hm | hm
        · exact h2 x (by simp [hx]) hm
        · obtain rfl := List.mem_singleton.1 hm
          exact h1.1 hx
theorem size_ids (u : DataW Nat) (l : List El) : Maps.size (Maps.setOf u (kys l)) ≤ l.length ∧ (Maps.size (Maps.setOf u (kys l)) = l.length ↔ uniq (l.map El.id) = true) := by
  rw [Maps.size_setOf u (kys l) (kys_key l)]
  obtain ⟨h1, h2⟩ := addKey_len (l.map El.id) []
  have e : (l.map El.id).map Lit.string = kys l := by unfold kys; rw [List.map_map]; rfl
  rw [e] at h1 h2
  simp only [List.map_nil, List.length_nil, List.length_map, Nat.zero_add] at h1 h2
  refine ⟨h1, h2.trans ⟨fun h => h.1, fun h => ⟨h, by simp⟩⟩⟩
theorem kys_step (l : List El) (i : Nat) (h : i < l.length) : kys (l.take (i + 1)) = kys (l.take i) ++ [.string (l.getD i noe).id] := by
  rw [takeD l i noe h]; simp [kys]
theorem allE_step (l : List El) (i : Nat) (h : i < l.length) : (l.take (i + 1)).all elOk = ((l.take i).all elOk && elOk (l.getD i noe)) := by
  rw [takeD l i noe h, List.all_append]; simp
def KmRel (l : List El) (w : World) (g : Nat) (v : Value) (wr : World) : Prop :=
  ∃ i, i + g = l.length ∧ (l.take i).all elOk = true ∧ v = .int .i64 (i : Nat) ∧ wr.ownsMap (H := Nat) Tryd.prog 9 unitElem w.heap.size i (Maps.setOf (.agg []) (kys (l.take i))) ∧ Below w.heap.size w wr
set_option maxRecDepth 100000 in
set_option maxHeartbeats 2000000 in
theorem kcheck_walk (l : List El) (ao : Option Addr) (cap : Nat) (hB : Bnds l) (w : World) (ht : Leads w) (hr : RdE w ao l) :
    Calls Tryd.prog 22 #[.slice ao l.length cap] w fun e w' => e = .returned (.int .i64 (ckE l : Nat)) ∧ Below w.heap.size w w' := by
  obtain ⟨hn40, hx⟩ := hB
  by_cases h4 : l.length ≤ 4096
  rotate_left
  · have HN := Lib.hid (show ckE l = 100 by unfold ckE okL; simp [h4])
    have h5 : (4096 : Int) < (l.length : Nat) := by omega
    clear h4
    go_enter Tryd.func22, Tryd.ntmps22
    go_wp2
    go_ret
    rw [HN.out]
    exact ⟨rfl, Below.refl _ _⟩
  have HX := Lib.hid hx
  have HR := Lib.hid (fun w1 (b : Below w.heap.size w w1) => hr.below b)
  have HLE := Lib.hid (fun w1 (b : Below w.heap.size w w1) => ht.below b)
  have h5 : ¬ (4096 : Int) < (l.length : Nat) := by omega
  have hm0 := World.ownsMap_made (H := Nat) w Tryd.prog 9 unitElem
  have b0 := alloc_in' w (.map #[] 0)
  have HNO := Lib.hid (fun i hi h => ckE_no (okL_el (l := l) (i := i) hi h))
  have HYES := Lib.hid (fun (h : l.all elOk = true) => show okL l = uniq (l.map El.id) by unfold okL; rw [h, decide_eq_true h4]; rfl)
  have HSZ := Lib.hid (size_ids (.agg []) l)
  clear hx hr ht hn40
  have hmm := @run_makeMap Tryd.prog
  go_enter Tryd.func22, Tryd.ntmps22
  go_wp2_with fail
  go_loopg [12] l.length (fun g v wr => KmRel l w g v wr)
  case atStart => exact ⟨0, by omega, rfl, rfl, hm0, b0⟩
  case round =>
    obtain ⟨i, hg, ha, rfl, hM, hb⟩ := hrel
    have HB := Lib.hid hb
    have HM := Lib.hid hM
    clear hb hM hm0 b0
    cases gk with
    | zero =>
      have hp : l.length ≤ i := by omega
      have e1 : l.take i = l := List.take_of_length_le hp
      have HM2 := HM.out
      rw [e1] at HM2 ha
      have hok := HYES.out ha
      obtain ⟨s1, s2⟩ := HSZ.out
      have hlen := fun ty => HM2.len Tryd.underlying67 ty
      clear ha hg e1 HNO HM2
      cases hu : uniq (l.map El.id)
      · have HE := Lib.hid (show ckE l = 100 from ckE_no (hok.trans hu))
        have hne : Maps.size (Maps.setOf (DataW.agg [] : DataW Nat) (kys l)) ≠ l.length := fun h => by rw [s2.1 h] at hu; cases hu
        have hlt : ((Maps.size (Maps.setOf (DataW.agg [] : DataW Nat) (kys l)) : Nat) : Int) < ((l.length : Nat) : Int) := by omega
        generalize Maps.size (Maps.setOf (DataW.agg [] : DataW Nat) (kys l)) = sz at *
        clear s1 s2 hu hok hne
        go_wp2
        go_ret
        rw [HE.out]
        exact ⟨rfl, HB.out⟩
      · have HE := Lib.hid (show ckE l = 0 from ckE_yes (hok.trans hu))
        have hge : ¬ ((Maps.size (Maps.setOf (DataW.agg [] : DataW Nat) (kys l)) : Nat) : Int) < ((l.length : Nat) : Int) := by have := s2.2 hu; omega
        generalize Maps.size (Maps.setOf (DataW.agg [] : DataW Nat) (kys l)) = sz at *
        clear s1 s2 hu hok
        go_wp2
        go_ret
        rw [HE.out]
        exact ⟨rfl, HB.out⟩
    | succ g =>
      have hlt : i < l.length := by omega
      have HA := Lib.hid (allE_step l i hlt)
      have HAA := Lib.hid ha
      have HN := Lib.hid (fun h => HNO.out i hlt h)
      have HKS := Lib.hid (kys_step l i hlt)
      obtain ⟨x, hxe⟩ : ∃ x, l.getD i noe = x := ⟨_, rfl⟩
      obtain ⟨c, off, po, pc, rfl, hc, c0, c1, hrp⟩ := (HR.out _ HB.out).at hlt hxe
      have hbx := HX.out x (hxe ▸ getD_mem (d := noe) hlt)
      rw [hxe] at HA HN HKS
      have a1 := alloc_in' wr (.cells #[.string (bs x.id), .slice po x.ps.length pc] 45)
      have HB1 := Lib.hid (HB.out.trans (a1.mono HB.out.size))
      have hx1 := Eb.new 45 wr x.id (.slice po x.ps.length pc)
      have HMB := Lib.hid (qmaybe_walk x po pc ⟨by omega, by omega, hbx.2.2⟩ _ (HLE.out _ HB1.out) (hrp.below a1))
      have hM1 := HM.out.alloc (.cells #[.string (bs x.id), .slice po x.ps.length pc] 45)
      have hidl : x.id.length ≤ 140737488355327 := hbx.1
      clear ha a1 hrp hbx hxe
      cases he : elOk x
      · have HE := Lib.hid (HN.out he)
        rw [he] at HMB
        clear he hM1 hx1
        go_wp2_with fail
        refine HMB.out.mono ?_
        rintro e w2 ⟨rfl, d2⟩
        have b2 := HB1.out.trans (d2.mono HB1.out.size)
        go_wp2
        go_ret
        rw [HE.out]
        exact ⟨rfl, b2⟩
      · have HS := Lib.hid (show (l.take (i + 1)).all elOk = true by rw [HA.out, HAA.out, he]; rfl)
        rw [he] at HMB
        clear he
        go_wp2_with fail
        refine HMB.out.mono ?_
        rintro e w2 ⟨rfl, d2⟩
        have b2 := HB1.out.trans (d2.mono HB1.out.size)
        have hx2 := hx1.below d2
        have hM2 := hM1.kept (row := none) ⟨d2.os, d2.tape, d2.output, d2.size, fun k hk _ => d2.block k hk⟩ (by simp)
        obtain ⟨y0, y1⟩ := hx2.cells
        have hkey := WideMaps.keyOf_string_mk (P := Tryd.prog) Tryd.underlying9 (s := bs x.id) (by rw [bs_size]; unfold maxLen; omega)
        rw [bs_toList] at hkey
        have law : Maps.Keyed Tryd.prog 9 := Maps.string_keyed Tryd.underlying9
        obtain ⟨w3, hrun, hM3, hg3⟩ := hM2.update law Tryd.underlying67 (by unfold maxLen; omega) hkey (unitElem_mk (H := Nat))
        have hb3 := b2.grown hg3 b2.size (fun k hk => by injection hk with hk; omega)
        rw [← Maps.setOf_snoc, ← HKS.out] at hM3
        have HM3 := Lib.hid hM3
        have HB3 := Lib.hid hb3
        clear d2 hM1 hx1 hx2 c0 c1 hM2 hM3 hg3 hb3 hkey law
        go_wp2
        go_roundg g
        case measure => omega
        case rel => exact ⟨i + 1, by omega, HS.out, by simp, HM3.out, HB3.out⟩
end Go.Proofs.YtkpcfbadhoiigaaDoor
