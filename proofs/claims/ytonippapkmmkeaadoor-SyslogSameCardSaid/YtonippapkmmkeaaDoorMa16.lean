/- Texts on the program and on the document, joined: QuoI, QuoW, QuqF. -/
import Derived.Test.YtonippapkmmkeaaDoorMa15
import Derived.Laws.StructEq
import Derived.ChangeKeysEq
import Derived.Maps.OwnSet
import Derived.Maps.OwnIn
import Derived.Carry
/- The document's Same of structured data, walked. -/
namespace Go.Proofs.YtonippapkmmkeaaDoor
open Go.ChangeShapes Go.WideShapes Go.ChangeAt Go.RowKit K Q10 U4
set_option linter.unusedVariables false

def eqP (x y : Pm) : Bool := (x.n == y.n) && (x.v == y.v)
theorem eqP_iff (x y : Pm) : eqP x y = true ↔ x = y := by
  obtain ⟨a, b⟩ := x
  obtain ⟨a', b'⟩ := y
  simp [eqP]
theorem run_equal_param (x y : Pm) (w : World) : (Op.equalIn 10000 56 (.agg #[.string (bs x.n), .string (bs x.v)]) (.agg #[.string (bs y.n), .string (bs y.v)])).run Tryd.prog w = .ok (eqP x y) w := by
  obtain ⟨a, b⟩ := x
  obtain ⟨a', b'⟩ := y
  simp only [eqP]
  simp [go_sem, Tryd.underlying56]
  by_cases h1 : a = a'
  · by_cases h2 : b = b'
    · simp [h1, h2]
    · simp [h1, h2]
  · simp [h1]
def saE (a b : List El) : Bool := decide (a = b)
theorem els_ext {xs ys : List El} (hl : xs.length = ys.length) (h : ∀ j, j < xs.length → xs.getD j noe = ys.getD j noe) : xs = ys := by
  refine List.ext_getElem hl fun i h1 h2 => ?_
  have := h i h1
  rw [List.getD_eq_getElem?_getD, List.getD_eq_getElem?_getD, List.getElem?_eq_getElem h1, List.getElem?_eq_getElem h2] at this
  exact this
theorem pms_ext {xs ys : List Pm} (hl : xs.length = ys.length) (h : ∀ j, j < xs.length → xs.getD j nop = ys.getD j nop) : xs = ys := by
  refine List.ext_getElem hl fun i h1 h2 => ?_
  have := h i h1
  rw [List.getD_eq_getElem?_getD, List.getD_eq_getElem?_getD, List.getElem?_eq_getElem h1, List.getElem?_eq_getElem h2] at this
  exact this
theorem saE_no {a b : List El} (h : ¬ a = b) : saE a b = false := decide_eq_false h
theorem saE_yes {a b : List El} (h : a = b) : saE a b = true := decide_eq_true h
def SaRel (a b : List El) (w : World) (g : Nat) (v5 : Value) (wr : World) : Prop :=
  ∃ i, i + g = a.length ∧ (∀ j, j < i → a.getD j noe = b.getD j noe) ∧ v5 = .int .i64 (i : Nat) ∧ Dr w wr
def SpRel (x y : El) (w : World) (g : Nat) (v6 : Value) (wr : World) : Prop :=
  ∃ k, k + g = x.ps.length ∧ (∀ j, j < k → x.ps.getD j nop = y.ps.getD j nop) ∧ v6 = .int .i64 (k : Nat) ∧ Dr w wr
end Go.Proofs.YtonippapkmmkeaaDoor
/- The laws of structured data, on calls that keep their word: works, small. -/
namespace Go.Proofs.YtonippapkmmkeaaDoor
open Go.ChangeShapes Go.WideShapes Go.ChangeAt Go.RowKit K Q10 U4
set_option linter.unusedVariables false

/-- Lists that no memory is too small for. -/
def Bnds (l : List El) : Prop := l.length * 40 ≤ 140737488351232 ∧ ∀ x ∈ l, x.id.length ≤ 140737488355327 ∧ x.ps.length * 32 ≤ 140737488351232 ∧ ∀ p ∈ x.ps, p.n.length ≤ 140737488351232 ∧ p.v.length ≤ 140737488351232
/-- What Parse hands back, as a caller reads it. -/
def PaQ (l : List UInt8) (w : World) (e : Ending) (w' : World) : Prop :=
  ∃ ao cap, e = .returned (.tuple #[.slice ao (paL l).length cap, .string (bs (paR l)), .int .i64 (paE l : Nat)]) ∧ RdE w' ao (paL l) ∧ Below w.heap.size w w'
/-! ### What the program's calls are known to answer, in any world of which I -/
def Keeps (I : World → Prop) : Prop := ∀ a b, I a → Below a.heap.size a b → I b
def HIsName (I : World → Prop) : Prop := ∀ (l : List UInt8) (w : World), l.length ≤ 10000 → I w → Calls Tryd.prog 53 #[.string (bs l)] w fun e w' => e = .returned (.bool (isN l)) ∧ Below w.heap.size w w'
def HCheck (I : World → Prop) : Prop := ∀ (l : List El) (ao : Option Addr) (cap : Nat) (w : World), Bnds l → LimL l → I w → RdE w ao l → Calls Tryd.prog 23 #[.slice ao l.length cap] w fun e w' => e = .returned (.int .i64 (ckE l : Nat)) ∧ Below w.heap.size w w'
def HParse (I : World → Prop) : Prop := ∀ (l : List UInt8) (w : World), l.length ≤ 10000000 → I w → Calls Tryd.prog 33 #[.string (bs l)] w (PaQ l w)
def HSame (I : World → Prop) : Prop := ∀ (a b : List El) (ao bo : Option Addr) (ca cb : Nat) (w : World), Bnds a → Bnds b → I w → RdE w ao a → RdE w bo b → Calls Tryd.prog 10 #[.slice ao a.length ca, .slice bo b.length cb] w fun e w' => e = .returned (.bool (saE a b)) ∧ Below w.heap.size w w'
def exT : List UInt8 := [91, 97, 32, 98, 61, 34, 99, 92, 93, 34, 93, 120]
def exL : List El := [⟨[97], [⟨[98], [99, 93]⟩]⟩]
theorem ex_pa : pa exT = some (exL, [120]) := by decide +kernel
theorem ex_bnds : Bnds exL := by
  refine ⟨by simp [exL], fun x hx => ?_⟩
  simp [exL] at hx
  subst hx
  refine ⟨by simp, by simp, fun p hp => ?_⟩
  simp at hp
  subst hp
  exact ⟨by simp, by simp⟩
theorem ex_read (w : World) : RdE ((w.alloc (.cells #[.string { data := #[98] }, .string { data := #[99, 93] }] 56)).alloc (.cells #[.string { data := #[97] }, .slice (some ⟨w.heap.size, 0, none⟩) 1 1] 30)) (some ⟨w.heap.size + 1, 0, none⟩) exL := by
  have h1 := rowNew (w.alloc (.cells #[.string { data := #[98] }, .string { data := #[99, 93] }] 56)) (.cells #[.string { data := #[97] }, .slice (some ⟨w.heap.size, 0, none⟩) 1 1] 30)
  rw [show (w.alloc (.cells #[.string { data := #[98] }, .string { data := #[99, 93] }] 56)).heap.size = w.heap.size + 1 by simp] at h1
  have h0 := ((alloc_in' (w.alloc (.cells #[.string { data := #[98] }, .string { data := #[99, 93] }] 56)) (.cells #[.string { data := #[97] }, .slice (some ⟨w.heap.size, 0, none⟩) 1 1] 30)).block w.heap.size (by simp)).trans (rowNew w (.cells #[.string { data := #[98] }, .string { data := #[99, 93] }] 56))
  refine ⟨[(⟨[97], [⟨[98], [99, 93]⟩]⟩, ⟨some ⟨w.heap.size, 0, none⟩, 1⟩)], rfl, .inr ⟨w.heap.size + 1, 0, rfl, lt_of_block h1, fun i hi => ?_⟩, fun z hz => ?_⟩
  · obtain rfl : i = 0 := by simpa using hi
    exact ⟨cellRow h1 0, cellRow h1 1⟩
  · simp at hz
    subst hz
    refine .inr ⟨w.heap.size, 0, rfl, lt_of_block h0, fun i hi => ?_⟩
    obtain rfl : i = 0 := by simpa using hi
    exact ⟨cellRow h0 0, cellRow h0 1⟩
/-! ### small -/
def smP (p : Pm) : Bool := decide (p.v.length ≤ 1000) && decide (p.n.length ≤ 100)
def smE (x : El) : Bool := decide (x.ps.length ≤ 20) && (decide (x.id.length ≤ 100) && x.ps.all smP)
def smQ (l : List El) : Bool := !((decide (20 < l.length) && decide (l.length ≤ 4096)) || decide (8192 < l.length)) && (l.take 40).all smE
theorem smE_no {l : List El} {i : Nat} (h : i < l.length) (h4 : i < 40) (hs : smE (l.getD i noe) = false) : smQ l = false := by
  have ha : (l.take 40).all smE = false := by
    cases he : (l.take 40).all smE
    · rfl
    · have hm : l.getD i noe ∈ l.take 40 := by
        have hi : i < (l.take 40).length := by rw [List.length_take]; omega
        have e : (l.take 40).getD i noe = l.getD i noe := by
          rw [List.getD_eq_getElem?_getD, List.getD_eq_getElem?_getD, List.getElem?_take_of_lt h4]
        rw [← e]; exact getD_mem hi
      have := List.all_eq_true.1 he _ hm
      rw [hs] at this; cases this
  unfold smQ
  rw [ha]; simp
theorem smE_step (l : List El) (i : Nat) (h : i < l.length) : (l.take (i + 1)).all smE = ((l.take i).all smE && smE (l.getD i noe)) := by
  rw [takeD l i noe h, List.all_append]; simp
theorem smP_step (l : List Pm) (i : Nat) (h : i < l.length) : (l.take (i + 1)).all smP = ((l.take i).all smP && smP (l.getD i nop)) := by
  rw [takeD l i nop h, List.all_append]; simp
theorem smQ_yes {l : List El} {i : Nat} (h1 : ¬ ((20 < l.length ∧ l.length ≤ 4096) ∨ 8192 < l.length)) (h : (l.take i).all smE = true) (hi : l.length ≤ i ∨ 40 ≤ i) : smQ l = true := by
  have ha : (l.take 40).all smE = true := by
    rcases hi with hi | hi
    · rw [List.take_of_length_le hi] at h
      exact List.all_eq_true.2 fun x hx => List.all_eq_true.1 h x (List.mem_of_mem_take hx)
    · exact List.all_eq_true.2 fun x hx => by
        refine List.all_eq_true.1 h x ?_
        have e : l.take 40 = (l.take i).take 40 := by rw [List.take_take, Nat.min_eq_left hi]
        rw [e] at hx
        exact List.mem_of_mem_take hx
  have hb : ((decide (20 < l.length) && decide (l.length ≤ 4096)) || decide (8192 < l.length)) = false := by
    cases hx : ((decide (20 < l.length) && decide (l.length ≤ 4096)) || decide (8192 < l.length))
    · rfl
    · exfalso; apply h1
      simpa only [Bool.or_eq_true, Bool.and_eq_true, decide_eq_true_eq] using hx
  unfold smQ
  rw [ha, hb]; rfl
theorem smQ_long {l : List El} (h1 : (20 < l.length ∧ l.length ≤ 4096) ∨ 8192 < l.length) : smQ l = false := by
  have hb : ((decide (20 < l.length) && decide (l.length ≤ 4096)) || decide (8192 < l.length)) = true := by
    simpa only [Bool.or_eq_true, Bool.and_eq_true, decide_eq_true_eq] using h1
  unfold smQ
  rw [hb]; rfl
def SlRel (l : List El) (w : World) (g : Nat) (v3 : Value) (wr : World) : Prop :=
  ∃ i, i + g = l.length ∧ i ≤ 40 ∧ (l.take i).all smE = true ∧ v3 = .int .i64 (i : Nat) ∧ Dr w wr
def SmRel10 (x : El) (w : World) (g : Nat) (v4 : Value) (wr : World) : Prop :=
  ∃ k, k + g = x.ps.length ∧ (x.ps.take k).all smP = true ∧ v4 = .int .i64 (k : Nat) ∧ Dr w wr
end Go.Proofs.YtonippapkmmkeaaDoor
/- The program's Check of structured data, walked: a map of the names that came up. -/
namespace Go.Proofs.YtonippapkmmkeaaDoor
open Go.ChangeShapes Go.WideShapes Go.ChangeAt Go.RowKit K Q10 U4
set_option linter.unusedVariables false

/-- The names as keys. -/
def kys (l : List El) : List Lit := l.map fun x => .string x.id
theorem kys_key (l : List El) : ∀ x ∈ kys l, WideAt.IsKeyLit x := by
  intro x hx
  obtain ⟨y, _, rfl⟩ := List.mem_map.1 hx
  simp [WideAt.IsKeyLit]
theorem any_key (acc : List (List UInt8)) (a : List UInt8) : (acc.map Lit.string).any (fun y => y.sameKey (Lit.string a)) = true ↔ a ∈ acc := by
  have hk : WideAt.IsKeyLit (Lit.string a) := by simp [WideAt.IsKeyLit]
  rw [List.any_eq_true]
  constructor
  · rintro ⟨x, hx, h⟩
    obtain ⟨y, hy, rfl⟩ := List.mem_map.1 hx
    have := (WideAt.sameKey_iff hk).1 h
    injection this with this
    exact this ▸ hy
  · intro h
    exact ⟨.string a, List.mem_map.2 ⟨a, h, rfl⟩, (WideAt.sameKey_iff hk).2 rfl⟩
theorem addKey_len : ∀ (ids acc : List (List UInt8)), ((ids.map Lit.string).foldl Maps.addKey (acc.map Lit.string)).length ≤ acc.length + ids.length ∧ (((ids.map Lit.string).foldl Maps.addKey (acc.map Lit.string)).length = acc.length + ids.length ↔ uniq ids = true ∧ ∀ a ∈ ids, a ∉ acc)
  | [], acc => by simp [uniq]
  | a :: r, acc => by
    rw [List.map_cons, List.foldl_cons]
    by_cases h : a ∈ acc
    · have e : Maps.addKey (acc.map Lit.string) (Lit.string a) = acc.map Lit.string := by unfold Maps.addKey; rw [if_pos ((any_key acc a).2 h)]
      rw [e]
      obtain ⟨i1, i2⟩ := addKey_len r acc
      refine ⟨by simp only [List.length_cons]; omega, ?_⟩
      constructor
      · intro hl; simp only [List.length_cons] at hl; omega
      · intro hl; exact absurd h (hl.2 a (by simp))
    · have e : Maps.addKey (acc.map Lit.string) (Lit.string a) = (acc ++ [a]).map Lit.string := by
        unfold Maps.addKey; rw [if_neg (fun hh => h ((any_key acc a).1 hh))]; simp
      rw [e]
      obtain ⟨i1, i2⟩ := addKey_len r (acc ++ [a])
      rw [List.length_append, List.length_singleton] at i1 i2
      have e2 : acc.length + (a :: r).length = acc.length + 1 + r.length := by simp only [List.length_cons]; omega
      rw [e2]
      refine ⟨i1, i2.trans ?_⟩
      constructor
      · rintro ⟨h1, h2⟩
        refine ⟨?_, ?_⟩
        · unfold uniq
          rw [h1, Bool.and_true]
          simp only [Bool.not_eq_true', List.contains_eq_mem, decide_eq_false_iff_not]
          intro hm
          exact h2 a hm (by simp)
        · intro x hx
          rcases List.mem_cons.1 hx with rfl | hx
          · exact h
          · intro hm; exact h2 x hx (by simp [hm])
      · rintro ⟨h1, h2⟩
        unfold uniq at h1
        simp only [Bool.and_eq_true, Bool.not_eq_true', List.contains_eq_mem, decide_eq_false_iff_not] at h1
        refine ⟨h1.2, fun x hx hm => ?_⟩
        rcases List.mem_append.1 hm with hm | hm
        · exact h2 x (by simp [hx]) hm
        · obtain rfl := List.mem_singleton.1 hm
          exact h1.1 hx
theorem size_ids (u : DataW Nat) (l : List El) : Maps.size (Maps.setOf u (kys l)) ≤ l.length ∧ (Maps.size (Maps.setOf u (kys l)) = l.length ↔ uniq (l.map El.id) = true) := by
  rw [Maps.size_setOf u (kys l) (kys_key l)]
  obtain ⟨h1, h2⟩ := addKey_len (l.map El.id) []
  have e : (l.map El.id).map Lit.string = kys l := by unfold kys; rw [List.map_map]; rfl
  rw [e] at h1 h2
  simp only [List.map_nil, List.length_nil, List.length_map, Nat.zero_add] at h1 h2
  refine ⟨h1, h2.trans ⟨fun h => h.1, fun h => ⟨h, by simp⟩⟩⟩
theorem kys_step (l : List El) (i : Nat) (h : i < l.length) : kys (l.take (i + 1)) = kys (l.take i) ++ [.string (l.getD i noe).id] := by
  rw [takeD l i noe h]; simp [kys]
theorem allE_step (l : List El) (i : Nat) (h : i < l.length) : (l.take (i + 1)).all elOk = ((l.take i).all elOk && elOk (l.getD i noe)) := by
  rw [takeD l i noe h, List.all_append]; simp
def KmRel (l : List El) (w : World) (g : Nat) (v : Value) (wr : World) : Prop :=
  ∃ i, i + g = l.length ∧ (l.take i).all elOk = true ∧ v = .int .i64 (i : Nat) ∧ wr.ownsMap (H := Nat) Tryd.prog 9 unitElem w.heap.size i (Maps.setOf (.agg []) (kys (l.take i))) ∧ Below w.heap.size w wr
set_option maxRecDepth 100000 in
set_option maxHeartbeats 2000000 in
theorem kcheck_walk (l : List El) (ao : Option Addr) (cap : Nat) (hB : Bnds l) (w : World) (ht : Leads w) (hr : RdE w ao l) :
    Calls Tryd.prog 23 #[.slice ao l.length cap] w fun e w' => e = .returned (.int .i64 (ckE l : Nat)) ∧ Below w.heap.size w w' := by
  obtain ⟨hn40, hx⟩ := hB
  by_cases h4 : l.length ≤ 4096
  rotate_left
  · have HN := Lib.hid (show ckE l = 100 by unfold ckE okL; simp [h4])
    have h5 : (4096 : Int) < (l.length : Nat) := by omega
    clear h4
    go_enter Tryd.func23, Tryd.ntmps23
    go_wp2
    go_ret
    rw [HN.out]
    exact ⟨rfl, Below.refl _ _⟩
  have HX := Lib.hid hx
  have HR := Lib.hid (fun w1 (b : Below w.heap.size w w1) => hr.below b)
  have HLE := Lib.hid (fun w1 (b : Below w.heap.size w w1) => ht.below b)
  have h5 : ¬ (4096 : Int) < (l.length : Nat) := by omega
  have hm0 := World.ownsMap_made (H := Nat) w Tryd.prog 9 unitElem
  have b0 := alloc_in' w (.map #[] 0)
  have HNO := Lib.hid (fun i hi h => ckE_no (okL_el (l := l) (i := i) hi h))
  have HYES := Lib.hid (fun (h : l.all elOk = true) => show okL l = uniq (l.map El.id) by unfold okL; rw [h, decide_eq_true h4]; rfl)
  have HSZ := Lib.hid (size_ids (.agg []) l)
  clear hx hr ht hn40
  have hmm := @run_makeMap Tryd.prog
  go_enter Tryd.func23, Tryd.ntmps23
  go_wp2_with fail
  go_loopg [12] l.length (fun g v wr => KmRel l w g v wr)
  case atStart => exact ⟨0, by omega, rfl, rfl, hm0, b0⟩
  case round =>
    obtain ⟨i, hg, ha, rfl, hM, hb⟩ := hrel
    have HB := Lib.hid hb
    have HM := Lib.hid hM
    clear hb hM hm0 b0
    cases gk with
    | zero =>
      have hp : l.length ≤ i := by omega
      have e1 : l.take i = l := List.take_of_length_le hp
      have HM2 := HM.out
      rw [e1] at HM2 ha
      have hok := HYES.out ha
      obtain ⟨s1, s2⟩ := HSZ.out
      have hlen := fun ty => HM2.len Tryd.underlying70 ty
      clear ha hg e1 HNO HM2
      cases hu : uniq (l.map El.id)
      · have HE := Lib.hid (show ckE l = 100 from ckE_no (hok.trans hu))
        have hne : Maps.size (Maps.setOf (DataW.agg [] : DataW Nat) (kys l)) ≠ l.length := fun h => by rw [s2.1 h] at hu; cases hu
        have hlt : ((Maps.size (Maps.setOf (DataW.agg [] : DataW Nat) (kys l)) : Nat) : Int) < ((l.length : Nat) : Int) := by omega
        generalize Maps.size (Maps.setOf (DataW.agg [] : DataW Nat) (kys l)) = sz at *
        clear s1 s2 hu hok hne
        go_wp2
        go_ret
        rw [HE.out]
        exact ⟨rfl, HB.out⟩
      · have HE := Lib.hid (show ckE l = 0 from ckE_yes (hok.trans hu))
        have hge : ¬ ((Maps.size (Maps.setOf (DataW.agg [] : DataW Nat) (kys l)) : Nat) : Int) < ((l.length : Nat) : Int) := by have := s2.2 hu; omega
        generalize Maps.size (Maps.setOf (DataW.agg [] : DataW Nat) (kys l)) = sz at *
        clear s1 s2 hu hok
        go_wp2
        go_ret
        rw [HE.out]
        exact ⟨rfl, HB.out⟩
    | succ g =>
      have hlt : i < l.length := by omega
      have HA := Lib.hid (allE_step l i hlt)
      have HAA := Lib.hid ha
      have HN := Lib.hid (fun h => HNO.out i hlt h)
      have HKS := Lib.hid (kys_step l i hlt)
      obtain ⟨x, hxe⟩ : ∃ x, l.getD i noe = x := ⟨_, rfl⟩
      obtain ⟨c, off, po, pc, rfl, hc, c0, c1, hrp⟩ := (HR.out _ HB.out).at hlt hxe
      have hbx := HX.out x (hxe ▸ getD_mem (d := noe) hlt)
      rw [hxe] at HA HN HKS
      have a1 := alloc_in' wr (.cells #[.string (bs x.id), .slice po x.ps.length pc] 30)
      have HB1 := Lib.hid (HB.out.trans (a1.mono HB.out.size))
      have hx1 := Eb.new 30 wr x.id (.slice po x.ps.length pc)
      have HMB := Lib.hid (qmaybe_walk x po pc ⟨by omega, by omega, hbx.2.2⟩ _ (HLE.out _ HB1.out) (hrp.below a1))
      have hM1 := HM.out.alloc (.cells #[.string (bs x.id), .slice po x.ps.length pc] 30)
      have hidl : x.id.length ≤ 140737488355327 := hbx.1
      clear ha a1 hrp hbx hxe
      cases he : elOk x
      · have HE := Lib.hid (HN.out he)
        rw [he] at HMB
        clear he hM1 hx1
        go_wp2_with fail
        refine HMB.out.mono ?_
        rintro e w2 ⟨rfl, d2⟩
        have b2 := HB1.out.trans (d2.mono HB1.out.size)
        go_wp2
        go_ret
        rw [HE.out]
        exact ⟨rfl, b2⟩
      · have HS := Lib.hid (show (l.take (i + 1)).all elOk = true by rw [HA.out, HAA.out, he]; rfl)
        rw [he] at HMB
        clear he
        go_wp2_with fail
        refine HMB.out.mono ?_
        rintro e w2 ⟨rfl, d2⟩
        have b2 := HB1.out.trans (d2.mono HB1.out.size)
        have hx2 := hx1.below d2
        have hM2 := hM1.kept (row := none) ⟨d2.os, d2.tape, d2.output, d2.size, fun k hk _ => d2.block k hk⟩ (by simp)
        obtain ⟨y0, y1⟩ := hx2.cells
        have hkey := WideMaps.keyOf_string_mk (P := Tryd.prog) Tryd.underlying9 (s := bs x.id) (by rw [bs_size]; unfold maxLen; omega)
        rw [bs_toList] at hkey
        have law : Maps.Keyed Tryd.prog 9 := Maps.string_keyed Tryd.underlying9
        obtain ⟨w3, hrun, hM3, hg3⟩ := hM2.update law Tryd.underlying70 (by unfold maxLen; omega) hkey (unitElem_mk (H := Nat))
        have hb3 := b2.grown hg3 b2.size (fun k hk => by injection hk with hk; omega)
        rw [← Maps.setOf_snoc, ← HKS.out] at hM3
        have HM3 := Lib.hid hM3
        have HB3 := Lib.hid hb3
        clear d2 hM1 hx1 hx2 c0 c1 hM2 hM3 hg3 hb3 hkey law
        go_wp2
        go_roundg g
        case measure => omega
        case rel => exact ⟨i + 1, by omega, HS.out, by simp, HM3.out, HB3.out⟩
end Go.Proofs.YtonippapkmmkeaaDoor
