/- The document's Check of structured data, walked. -/
import Derived.Test.YtkpcfbadhoiigaaDoorQuoD
namespace Go.Proofs.YtkpcfbadhoiigaaDoor
open Go.ChangeShapes Go.WideShapes Go.ChangeAt Go.RowKit K Q10 U4
set_option linter.unusedVariables false

theorem uniq_nodup : ∀ xs : List (List UInt8), uniq xs = true ↔ xs.Nodup
  | [] => by simp [uniq]
  | a :: r => by
    rw [List.nodup_cons, ← uniq_nodup r]
    simp [uniq]
theorem ids_getD (l : List El) (i : Nat) (h : i < l.length) : (l.map El.id)[i]'(by simpa using h) = (l.getD i noe).id := by
  simp [List.getD, List.getElem?_eq_getElem h]
theorem uniq_iff (l : List El) : uniq (l.map El.id) = true ↔ ∀ k i, k < i → i < l.length → (l.getD k noe).id ≠ (l.getD i noe).id := by
  rw [uniq_nodup, List.Nodup, List.pairwise_iff_getElem]
  constructor
  · intro h k i hk hi
    have := h k i (by simp; omega) (by simpa using hi) hk
    rw [ids_getD l k (by omega), ids_getD l i hi] at this
    exact this
  · intro h k i h1 h2 hk
    have hi : i < l.length := by simpa using h2
    rw [ids_getD l k (by omega), ids_getD l i hi]
    exact h k i hk hi
theorem okL_yes {l : List El} (h1 : l.length ≤ 4096) (h2 : ∀ i, i < l.length → elOk (l.getD i noe) = true) (h3 : ∀ k i, k < i → i < l.length → (l.getD k noe).id ≠ (l.getD i noe).id) : okL l = true := by
  have ha : l.all elOk = true := List.all_eq_true.2 fun x hx => by
    obtain ⟨i, hi, e⟩ := List.mem_iff_getElem.1 hx
    have := h2 i hi
    rw [List.getD_eq_getElem?_getD, List.getElem?_eq_getElem hi] at this
    rw [← e]; exact this
  unfold okL
  rw [ha, (uniq_iff l).2 h3]; simp [h1]
theorem okL_el {l : List El} {i : Nat} (hi : i < l.length) (h : elOk (l.getD i noe) = false) : okL l = false := by
  cases hk : okL l
  · rfl
  · have := okL_all hk _ (getD_mem (d := noe) hi)
    rw [h] at this; cases this
theorem okL_eq {l : List El} {k i : Nat} (hk : k < i) (hi : i < l.length) (h : (l.getD k noe).id = (l.getD i noe).id) : okL l = false := by
  cases ho : okL l
  · rfl
  · unfold okL at ho
    simp only [Bool.and_eq_true] at ho
    exact absurd h ((uniq_iff l).1 ho.2.2 k i hk hi)
theorem okL_long {l : List El} (h : ¬ l.length ≤ 4096) : okL l = false := by unfold okL; simp [h]
theorem bdr {B : Nat} {w w' : World} (h : Below B w w') (n : Nat) : Below B w (w'.drewN n) := ⟨h.os, h.tape, h.output, h.size, h.block⟩
/-- Data whose texts are short, or that are too many. -/
def LimL (l : List El) : Prop := l.length ≤ 4096 → ∀ x ∈ l, LimE x
def CkRel (l : List El) (w : World) (g : Nat) (v3 : Value) (wr : World) : Prop :=
  ∃ i, i + g = l.length ∧ (∀ j, j < i → elOk (l.getD j noe) = true) ∧ (∀ k j, k < j → j < i → (l.getD k noe).id ≠ (l.getD j noe).id) ∧ v3 = .int .i64 (i : Nat) ∧ Below w.heap.size w wr
def CiRel (l : List El) (w : World) (i : Nat) (g : Nat) (v4 : Value) (wr : World) : Prop :=
  ∃ k, k + g = i ∧ (∀ j, j < k → (l.getD j noe).id ≠ (l.getD i noe).id) ∧ v4 = .int .i64 (k : Nat) ∧ Below w.heap.size w wr
theorem ckE_no {l : List El} (h : okL l = false) : ckE l = 100 := by unfold ckE; rw [h]; rfl
theorem ckE_yes {l : List El} (h : okL l = true) : ckE l = 0 := by unfold ckE; rw [h]; rfl
set_option maxRecDepth 100000 in
set_option maxHeartbeats 2000000 in
theorem qcheck10_walk (l : List El) (ao : Option Addr) (cap : Nat) (hn : l.length ≤ 140737488351232) (hl : LimL l) (w : World) (hr : RdE w ao l) :
    Calls Tryd.prog 23 #[.slice ao l.length cap] w fun e w' => e = .returned (.int .i64 (ckE l : Nat)) ∧ Below w.heap.size w w' := by
  by_cases h4 : l.length ≤ 4096
  rotate_left
  · have HE := Lib.hid (ckE_no (okL_long h4))
    have h5 : (4096 : Int) < (l.length : Nat) := by omega
    clear h4 hl hr
    go_enter Tryd.func23, Tryd.ntmps23
    go_wp2
    go_ret
    rw [HE.out]
    exact ⟨rfl, Below.refl _ _⟩
  have h5 : ¬ (4096 : Int) < (l.length : Nat) := by omega
  have HLL := Lib.hid (hl h4)
  have HY := Lib.hid (fun h2 h3 => ckE_yes (okL_yes h4 h2 h3))
  have HR := Lib.hid (fun w1 (b : Below w.heap.size w w1) => hr.below b)
  clear hl hr
  go_enter Tryd.func23, Tryd.ntmps23
  go_wp2
  go_loopg [3] l.length (fun g v3 wr => CkRel l w g v3 wr)
  case atStart => exact ⟨0, by omega, fun j hj => by omega, fun k j _ hj => by omega, rfl, Below.refl _ _⟩
  case round =>
    obtain ⟨i, hg, h1, h2, rfl, hb⟩ := hrel
    have HG := Lib.hid hg
    have H1 := Lib.hid h1
    have H2 := Lib.hid h2
    have HB := Lib.hid hb
    clear h1 h2 hb
    cases gk with
    | zero =>
      have hp : l.length ≤ i := by omega
      have HE := Lib.hid (HY.out (fun j hj => H1.out j (by omega)) (fun k j hk hj => H2.out k j hk (by omega)))
      clear hg
      go_wp2
      go_ret
      rw [HE.out]
      exact ⟨rfl, HB.out⟩
    | succ g =>
      have hlt : i < l.length := by omega
      obtain ⟨x, hx⟩ : ∃ x, l.getD i noe = x := ⟨_, rfl⟩
      have hm : x ∈ l := by rw [← hx]; exact getD_mem hlt
      obtain ⟨c, off, po, pc, rfl, hc, c0, c1, hp⟩ := (HR.out _ HB.out).at hlt hx
      have HEL := Lib.hid (qelement_walk x po pc (HLL.out x hm) wr hp)
      have HX := Lib.hid hx
      clear hx hm hp hg
      cases he : elOk x
      · have HE := Lib.hid (ckE_no (okL_el hlt (by rw [HX.out]; exact he)))
        rw [he] at HEL
        clear he
        go_wp2_with fail
        refine HEL.out.mono ?_
        rintro e w2 ⟨rfl, d2⟩
        have b2 := HB.out.trans (d2.mono HB.out.size)
        clear c0 c1 d2
        go_wp2
        go_ret
        rw [HE.out]
        exact ⟨rfl, b2⟩
      have HO := Lib.hid (show elOk (l.getD i noe) = true by rw [HX.out]; exact he)
      rw [he] at HEL
      clear he
      go_wp2_with fail
      refine HEL.out.mono ?_
      rintro e w2 ⟨rfl, d2⟩
      have b2 := HB.out.trans (d2.mono HB.out.size)
      clear c0 c1 d2 HB HEL
      go_wp2
      go_loopg [4] i (fun g v4 wr => CiRel l w i g v4 wr)
      case atStart => exact ⟨0, by omega, fun j hj => by omega, rfl, b2⟩
      case round =>
        obtain ⟨k, hk, h3, rfl, hb⟩ := hrel
        have HK := Lib.hid hk
        have H3 := Lib.hid h3
        have HB := Lib.hid hb
        clear h3 hb b2
        cases gk with
        | zero =>
          have hki : i ≤ k := by omega
          clear hk
          go_wp2
          go_roundg g
          case measure => have := HG.out; omega
          case rel =>
            refine ⟨i + 1, by have := HG.out; omega, fun j hj => ?_, fun q j hq hj => ?_, by simp, HB.out⟩
            · rcases Nat.lt_or_ge j i with h | h
              · exact H1.out j h
              · rw [show j = i by omega]; exact HO.out
            · rcases Nat.lt_or_ge j i with h | h
              · exact H2.out q j hq h
              · rw [show j = i by omega]; exact H3.out q (by omega)
        | succ g2 =>
          have hki : k < i := by omega
          obtain ⟨z, hz⟩ : ∃ z, l.getD k noe = z := ⟨_, rfl⟩
          obtain ⟨c', off', po', pc', e1, hc', c0, c1, -⟩ := (HR.out _ HB.out).at hlt HX.out
          obtain ⟨c2, off2, po2, pc2, e2, -, d0, d1, -⟩ := (HR.out _ HB.out).at (i := k) (by omega) hz
          injection e1 with e1
          injection e1 with q1 q2 _
          injection e2 with e2
          injection e2 with q3 q4 _
          subst q1 q2 q3 q4
          have HZ := Lib.hid hz
          clear hz c1 d1 hk
          by_cases hid : z.id = x.id
          · have HE := Lib.hid (ckE_no (okL_eq (l := l) hki hlt (by rw [HZ.out, HX.out]; exact hid)))
            have e1 : decide (bs z.id = bs x.id) = true := decide_eq_true (by rw [hid])
            rw [hid] at d0
            clear hid
            go_wp2_with fail
            go_quiet (fail)
            go_wp2
            go_ret
            rw [HE.out]
            exact ⟨rfl, bdr HB.out _⟩
          · have HD := Lib.hid (show (l.getD k noe).id ≠ (l.getD i noe).id by rw [HZ.out, HX.out]; exact hid)
            have e1 : (z.id == x.id) = false := beq_eq_false_iff_ne.2 hid
            have e2 : decide (bs z.id = bs x.id) = false := decide_eq_false (fun h => hid (bs_inj h))
            clear hid
            go_wp2_with fail
            go_quiet (fail)
            go_wp2
            go_roundg g2
            case measure => have := HK.out; omega
            case rel =>
              refine ⟨k + 1, by have := HK.out; omega, fun j hj => ?_, by simp, bdr HB.out _⟩
              rcases Nat.lt_or_ge j k with h | h
              · exact H3.out j h
              · rw [show j = k by omega]; exact HD.out
end Go.Proofs.YtkpcfbadhoiigaaDoor
