/- The rule of Fun for a region whose last operation waits for all the others, and may write. Of no program. -/
import Derived.Test.YtkobjbmjefkmgaaDoorFun
namespace Go.Proofs.YtkobjbmjefkmgaaDoor
open Go.RowKit
set_option linter.unusedVariables false
namespace K
section
variable {P : Program} {Q : Exit → Act → World → Prop}
/-- The region is made of just these, and one more. -/
def OpsT (ops : Array Oper) : Nat → List Sp → Prop
  | n, [] => ops.size = n + 1
  | n, s :: l => (∃ o, ops[n]? = some o ∧ o.op = s.op ∧ o.guard = s.guard ∧ o.dst = some s.dst ∧ s.deps.all (depB o) = true) ∧ OpsT ops (n + 1) l
theorem OpsT.size {ops : Array Oper} : ∀ {l : List Sp} {n : Nat}, OpsT ops n l → ops.size = n + l.length + 1
  | [], n, h => by simpa [OpsT] using h
  | s :: l, n, h => by rw [h.2.size]; simp; omega
theorem OpsT.at {ops : Array Oper} : ∀ {l : List Sp} {n : Nat}, OpsT ops n l → ∀ k s, l[k]? = some s → ∃ o, ops[n + k]? = some o ∧ o.op = s.op ∧ o.guard = s.guard ∧ o.dst = some s.dst ∧ s.deps.all (depB o) = true
  | [], n, _, k, s, hs => by simp at hs
  | x :: l, n, h, 0, s, hs => by simp at hs; subst hs; exact h.1
  | x :: l, n, h, k + 1, s, hs => by
    have := h.2.at k s (by simpa using hs)
    rw [show n + (k + 1) = n + 1 + k by omega]; exact this
/-- The invariant. -/
def TInv (J : World → Prop) (L : List Sp) (V : Nat → Value) (on : Nat → Bool) (a0 : Act) (ks : List Nat) (Q : Exit → Act → World → Prop) (l : Array Bool) (a : Act) (w : World) : Prop :=
  l.size = L.length + 1 ∧ (up l L.length = true → (∀ i, i < L.length → up l i = true) ∧ Q .normal a w) ∧ (up l L.length = false → Frm a0 ks a ∧ J w ∧ ∀ i, i < L.length → up l i = true → slot a (dstOf L i) = (if on i then V i else undef))
theorem wp_region_fut (J : World → Prop) (L : List Sp) (V : Nat → Value) (on : Nat → Bool) (ks : List Nat) {ops : Array Oper} {id : Nat} {a0 : Act} {w : World} (hm : P.follows .mixedOrders = true)
    (hF : OpsT ops 0 L) (hfw : fwd .any ops = true) (hshape : shapeB L ks = true) (hks : ∀ r ∈ ks, r < a0.tmps.size) (h0 : J w.drew) (hon : OnL V on 0 L) (hobl : Obl P Q J L V on (slot a0) ks 0 L)
    {oL : Oper} (hL : ops[L.length]? = some oL) (hLg : oL.guard = none) (hLd : (List.range L.length).all (depB oL) = true)
    (fin : ∀ a w', J w' → Frm a0 ks a → (∀ i, i < L.length → on i = true → slot a (dstOf L i) = V i) → oL.wp P a w' (fun a' w'' => Q .normal a' w'') Q) : (Code.region id ops true).wp P Q a0 w := by
  unfold shapeB at hshape
  simp only [Bool.and_eq_true, decide_eq_true_eq, List.all_eq_true] at hshape
  obtain ⟨⟨hdst, hnd⟩, hdl⟩ := hshape
  have hsz : ops.size = L.length + 1 := by rw [hF.size]; omega
  have hd : ∀ i s, L[i]? = some s → s.dst ∈ ks ∧ dstOf L i = s.dst := fun i s hs => ⟨by simpa using hdst s (List.mem_of_getElem? hs), by simp [dstOf, hs]⟩
  have hne : ∀ i j, i < L.length → j < L.length → i ≠ j → dstOf L i ≠ dstOf L j := by
    intro i j hi hj hij he
    have ei : (L.map fun s => s.dst)[i]? = some (dstOf L i) := by simp [dstOf, hi]
    have ej : (L.map fun s => s.dst)[j]? = some (dstOf L j) := by simp [dstOf, hj]
    have hlt : i < (L.map fun s => s.dst).length := by simpa using hi
    exact hij ((List.getElem?_inj hlt hnd).1 (by rw [ei, ej, he]))
  have upne : ∀ (l : Array Bool) i, i < l.size → i ≠ L.length → up (l.setIfInBounds i true) L.length = up l L.length := by
    intro l i hi hn
    rw [up_set hi]; simp [upd, Ne.symm hn]
  have put : ∀ l a w w' i (o : Oper) s, L[i]? = some s → o.dst = some s.dst → up l i = false → up l L.length = false → TInv J L V on a0 ks Q l a w → J w' → ∀ v, v = (if on i then V i else undef) → TInv J L V on a0 ks Q (l.setIfInBounds i true) (a.put o.dst v) w' := by
    intro l a w w' i o s hs hr hui hul hI hJ v hv
    obtain ⟨h1, _, h3⟩ := hI
    obtain ⟨h2, _, h4⟩ := h3 hul
    obtain ⟨hrk, hrd⟩ := hd i s hs
    have hlt : i < L.length := (List.getElem?_eq_some_iff.1 hs).1
    rw [hr]
    refine ⟨by simp [h1], fun h => ?_, fun _ => ⟨h2.put hrk v, hJ, fun j hj hu => ?_⟩⟩
    · rw [upne l i (by omega) (by omega), hul] at h; cases h
    rw [slot_put (by rw [h2.size]; exact hks _ hrk)]
    by_cases hji : j = i
    · subst hji; rw [hrd, hv]; simp [upd]
    · have hdj := hne j i hj hlt hji
      rw [hrd] at hdj
      unfold upd
      rw [if_neg hdj]
      refine h4 j hj ?_
      rw [up_set (by omega)] at hu
      simpa [upd, hji] using hu
  refine wp_region_inv (TInv J L V on a0 ks Q) hm ⟨by simp [hsz], fun h => ?_, fun _ => ⟨Frm.refl _ _, h0, fun i hi hu => ?_⟩⟩ ?_ ?_
  · unfold up at h
    simp [hsz] at h
  · unfold up at hu
    simp [hsz, show i < L.length + 1 by omega] at hu
  · intro i l a w1 hi hI
    have hno := ready_not hi
    obtain ⟨_, o, ho, _⟩ := mem_ready.1 hi
    have hlt : i < L.length + 1 := by rw [← hsz]; exact (Array.getElem?_eq_some_iff.1 ho).1
    by_cases hiL : i = L.length
    · subst hiL
      rw [hL] at ho
      obtain rfl := Option.some.inj ho
      obtain ⟨h2, h3, h4⟩ := hI.2.2 hno
      have hall : ∀ j, j < L.length → up l j = true := fun j hj => ready_pred hi hL j (List.all_eq_true.1 hLd j (List.mem_range.2 hj))
      refine wpOp_plain hL hLg (Oper.wp_mono ?_ (fin a w1 h3 h2 fun j hj hoj => ?_))
      · intro a' w' hq
        refine ⟨by simp [hI.1], fun _ => ⟨fun j hj => ?_, hq⟩, fun h => ?_⟩
        · rw [up_set (by rw [hI.1]; omega)]
          unfold upd
          rw [if_neg (by omega)]
          exact hall j hj
        · rw [up_set (by rw [hI.1]; omega)] at h
          simp [upd] at h
      · have := h4 j hj (hall j hj)
        rw [hoj] at this
        simpa using this
    have hltL : i < L.length := by omega
    have hul : up l L.length = false := by
      cases h : up l L.length
      · rfl
      · have := (hI.2.1 h).1 i hltL
        rw [hno] at this; cases this
    obtain ⟨h2, h3, h4⟩ := hI.2.2 hul
    obtain ⟨s, hs⟩ : ∃ s, L[i]? = some s := ⟨L[i], by simp [hltL]⟩
    obtain ⟨o', ho', q1, q2, q3, q4⟩ := hF.at i s hs
    rw [Nat.zero_add, ho] at ho'
    obtain rfl := Option.some.inj ho'
    have hG := OnL.at L 0 i s hon hs
    have hO := Obl.at L 0 i s hobl hs
    rw [Nat.zero_add] at hG hO
    have hlow : ∀ j, j ∈ s.deps → j < i := by
      intro j hj
      have h1 := hdl i (List.mem_range.2 hltL)
      rw [hs] at h1
      simp only [Option.map_some, Option.getD_some, List.all_eq_true, decide_eq_true_eq] at h1
      exact h1 j hj
    have hdep : ∀ j, j ∈ s.deps → on j = true → slot a (dstOf L j) = V j := by
      intro j hj hoj
      have hup := ready_pred hi ho j (List.all_eq_true.1 q4 j hj)
      have := hlow j hj
      have := h4 j (by omega) hup
      rw [hoj] at this
      simpa using this
    have hw : Region.wanted o (yielded ops a.tmps) = on i := by
      unfold Region.wanted
      rw [q2]
      cases hg : s.guard with
      | none => rw [hg] at hG; exact hG.symm
      | some p =>
        obtain ⟨g, want⟩ := p
        rw [hg] at hG
        have hgd : g ∈ s.deps := by rcases hG with h | h; exact h.2.1; exact h.2.1
        have hgl := hlow g hgd
        obtain ⟨sg, hsg⟩ : ∃ sg, L[g]? = some sg := ⟨L[g], by simp [show g < L.length by omega]⟩
        obtain ⟨og, hog, _, _, r3, _⟩ := hF.at g sg hsg
        rw [Nat.zero_add] at hog
        rcases hG with ⟨g1, g2, b, g3, g4⟩ | ⟨g1, g2, g4⟩
        · have hsl := hdep g g2 g1
          rw [g3] at hsl
          have hbt := slot_bool hsl
          rw [(hd g sg hsg).2] at hbt
          have hy : yielded ops a.tmps g = some b := by
            unfold yielded
            simp [hog, r3, hbt]
          show (yielded ops a.tmps g == some want) = on i
          rw [hy, g4]
          cases b <;> cases want <;> rfl
        · have hup := ready_pred hi ho g (List.all_eq_true.1 q4 g g2)
          have hsl := h4 g (by omega) hup
          rw [g1] at hsl
          have hbt := slot_undef (by simpa using hsl)
          rw [(hd g sg hsg).2] at hbt
          have hy : yielded ops a.tmps g = none := by
            unfold yielded
            simp [hog, r3]
            rcases hbt with hbt | hbt
            · simp [hbt]
            · simp [hbt, undef]
          show (yielded ops a.tmps g == some want) = on i
          rw [hy, g4]
          rfl
    unfold wpOp
    simp only [ho, hw]
    cases hoi : on i
    · exact put l a w1 w1 i o s hs q3 hno hul hI h3 undef (by rw [hoi]; rfl)
    · refine .inl (Oper.wp_mono ?_ (hO hoi o a w1 q1 h3 (fun k hk => h2.slot hk) hdep))
      rintro a' w' ⟨rfl, hJ⟩
      exact put l a w1 w' i o s hs q3 hno hul hI hJ (V i) (by rw [hoi]; rfl)
  · intro l a w1 hz hI
    exact (hI.2.1 (all_up hfw (by rw [hI.1, hsz]) hz (L.length + 1) L.length (by omega) (by omega))).2
/-- A value that is reckoned. -/
theorem fun_val {J : World → Prop} {o : Oper} {a : Act} {w : World} {v : Value} (s : Sem Value) (k : execOp a.eval o = (do pure (.value (← s)))) (hr : s.run P w = .ok v w) (hJ : J w) : o.wp P a w (fun a' w' => a' = a.put o.dst v ∧ J w') Q :=
  op_val s k hr ⟨rfl, hJ⟩
end
end K
end Go.Proofs.YtkobjbmjefkmgaaDoor
