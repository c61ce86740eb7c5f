/- The document's one, walked. -/
import Derived.Test.YtkpcfbadhoiigaaDoorQuoB
import Derived.Test.YtkpcfbadhoiigaaDoorElm
namespace Go.Proofs.YtkpcfbadhoiigaaDoor
open Go.ChangeShapes Go.WideShapes Go.ChangeAt Go.RowKit K Q10
set_option linter.unusedVariables false

theorem alloc_in' (w : World) (o : Obj) : Below w.heap.size w (w.alloc o) := (Below.refl _ _).alloc (Nat.le_refl _) _
/-- An element's block. -/
def Eb (T : TypeId) (w : World) (b : Nat) (id : List UInt8) (v : Value) : Prop := w.heap[b]? = some (.cells #[.string (bs id), v] T (0, 0))
theorem Eb.new (T : TypeId) (w : World) (id : List UInt8) (v : Value) : Eb T (w.alloc (.cells #[.string (bs id), v] T)) w.heap.size id v := rowNew w _
theorem Eb.below {T : TypeId} {w w' : World} {b : Nat} {id : List UInt8} {v : Value} (h : Eb T w b id v) (k : Below w.heap.size w w') : Eb T w' b id v := (k.block b (lt_of_block h)).trans h
theorem Eb.cells {T : TypeId} {w : World} {b : Nat} {id : List UInt8} {v : Value} (h : Eb T w b id v) : w.cell? ⟨b, 0, none⟩ = some (.string (bs id)) ∧ w.cell? ⟨b, 1, none⟩ = some v := ⟨cellRow h 0, cellRow h 1⟩
theorem Eb.free {T : TypeId} {w : World} {b : Nat} {id : List UInt8} {v : Value} (h : Eb T w b id v) : w.frozen? ⟨b, 0, none⟩ = false ∧ w.frozen? ⟨b, 1, none⟩ = false := ⟨freeRow h 0, freeRow h 1⟩
theorem Eb.set {T : TypeId} {w : World} {b : Nat} {id : List UInt8} {v : Value} (h : Eb T w b id v) (id' : List UInt8) (v' : Value) : Eb T ((w.setCell ⟨b, 0, none⟩ (.string (bs id'))).setCell ⟨b, 1, none⟩ v') b id' v' := by
  have := rowSet (rowSet h 0 (.string (bs id'))) 1 v'
  simpa [Eb] using this
theorem below_set2 {B b : Nat} {w w' : World} (h : Below B w w') (hb : B ≤ b) (v0 v1 : Value) : Below B w ((w'.setCell ⟨b, 0, none⟩ v0).setCell ⟨b, 1, none⟩ v1) := (h.setCell (p := ⟨b, 0, none⟩) hb v0).setCell (p := ⟨b, 1, none⟩) hb v1
theorem results_cell_row3q {P : Program} {fn : Func} {p u v : Tmp} {ty : TypeId} (h : fn.results = #[.cell p ty, .tmp u, .tmp v]) (tmps : Array Value) (w : World) (g : Nat) (t : TypeId) (cs : Array Value) (fr : Nat × Nat) (d : TypeDesc)
    (hp : tmps.getD p undef = .pointer (some ⟨g, 0, none⟩)) (hg : w.heap[g]? = some (.cells cs t fr))
    (hu : P.underlying ty = some d) (hd : (match d with | .struct _ | .array _ _ => true | _ => false) = true) (hi : (P.info? ty).map (·.size) = some cs.size) :
    (results fn tmps).run P w = .ok (.tuple #[.agg cs, tmps.getD u undef, tmps.getD v undef]) w := by
  have hp' : tmps[p]?.getD undef = .pointer (some ⟨g, 0, none⟩) := by simpa using hp
  simp [results, h, hp', asAddr, run_loadVar_row w g t ty cs fr d hg hu hd hi]
theorem info_pm : (Tryd.prog.info? 47).map (fun i => (i.zero, i.size, i.bytes)) = some (some (.agg #[.string .empty, .string .empty]), 2, 32) := by kernel_rfl
/-- What one hands back. -/
def OnPost (l : List UInt8) (w : World) (e : Ending) (w' : World) : Prop :=
  (one l = none ∧ e = .returned (.tuple #[.agg #[.string (bs []), .slice none 0 0], .string (bs []), .bool false]) ∧ Below w.heap.size w w') ∨
  ∃ x z po pc, one l = some (x, z) ∧ e = .returned (.tuple #[.agg #[.string (bs x.id), .slice po x.ps.length pc], .string (bs z), .bool true]) ∧ RdP w' po x.ps ∧ (∀ B, Prv w' B 47 po) ∧ Below w.heap.size w w'
/-- Params read so far, and what is left. -/
def pcons (ps : List Pm) : Option (List Pm × List UInt8) → Option (List Pm × List UInt8)
  | some (q, r) => some (ps ++ q, r)
  | none => none
theorem pcons_nil (x : Option (List Pm × List UInt8)) : pcons [] x = x := by rcases x with _ | ⟨o, r⟩ <;> rfl
theorem pcons_map (ps : List Pm) (p : Pm) (x : Option (List Pm × List UInt8)) : pcons ps (x.map fun y => (p :: y.1, y.2)) = pcons (ps ++ [p]) x := by
  rcases x with _ | ⟨o, r⟩
  · rfl
  · simp [pcons]
/-- What stands where a param may begin. -/
inductive OnAt (r : List UInt8) : Prop
  | stop (hs : prsL r = some ([], r)) (hnb : r = [] ∨ (r.isEmpty = false ∧ byt r 0 ≠ 32))
  | shrt (hr0 : byt r 0 = 32) (hne : r.isEmpty = false) (hlen : 1 ≤ r.length) (hR : (nmR (r.tail)).length < 2) (e : prsL r = none)
  | eqs (hr0 : byt r 0 = 32) (hne : r.isEmpty = false) (hlen : 1 ≤ r.length) (hR : 2 ≤ (nmR (r.tail)).length) (hR2 : (nmR (r.tail)).take 2 ≠ [61, 34]) (e : prsL r = none)
  | val (hr0 : byt r 0 = 32) (hne : r.isEmpty = false) (hlen : 1 ≤ r.length) (hR : 2 ≤ (nmR (r.tail)).length) (hR2 : (nmR (r.tail)).take 2 = [61, 34]) (hv : vl ((nmR (r.tail)).drop 2) = none) (e : prsL r = none)
  | go (hr0 : byt r 0 = 32) (hne : r.isEmpty = false) (hlen : 1 ≤ r.length) (hR : 2 ≤ (nmR (r.tail)).length) (hR2 : (nmR (r.tail)).take 2 = [61, 34]) (o z : List UInt8) (hv : vl ((nmR (r.tail)).drop 2) = some (o, z)) (e : prsL r = (prsL z).map fun y => (⟨nmT (r.tail), o⟩ :: y.1, y.2)) (hz : z.length + 4 ≤ r.length)
theorem on_all (r : List UInt8) : OnAt r := by
  cases r with
  | nil => exact .stop (prsL_stop (by simp)) (.inl rfl)
  | cons b t =>
    by_cases hb : b = 32
    rotate_left
    · exact .stop (prsL_stop (fun t e => by injection e with e _; exact hb e)) (.inr ⟨rfl, fun e => hb (UInt8.toNat_inj.1 e)⟩)
    subst hb
    have h0 : byt (32 :: t) 0 = 32 := rfl
    have hd : (32 :: t : List UInt8).tail = t := rfl
    have hno : pm1 t = none → prsL (32 :: t) = none := prsL_none
    by_cases hR : (nmR t).length < 2
    · refine .shrt h0 rfl (by simp) hR (hno ?_)
      unfold pm1
      split
      · next a b q hq => rw [hq] at hR; simp at hR; omega
      · rfl
    obtain ⟨a, b, q, hq⟩ : ∃ a b q, nmR t = a :: b :: q := by
      match h : nmR t, hR with
      | a :: b :: q, _ => exact ⟨a, b, q, rfl⟩
      | [], hR => simp at hR
      | [a], hR => simp at hR
    by_cases hab : a = 61 ∧ b = 34
    rotate_left
    · refine .eqs h0 rfl (by simp) (by rw [hd]; omega) (fun e => ?_) (hno ?_)
      · rw [hd, hq] at e
        simp at e
        exact hab e
      · unfold pm1; rw [hq]; simp only; rw [if_neg hab]
    obtain ⟨rfl, rfl⟩ := hab
    have hR2 : (nmR ((32 :: t : List UInt8).tail)).take 2 = [61, 34] := by rw [hd, hq]; rfl
    have hqd : (nmR ((32 :: t : List UInt8).tail)).drop 2 = q := by rw [hd, hq]; rfl
    cases hv : vl q with
    | none =>
      refine .val h0 rfl (by simp) (by rw [hd]; omega) hR2 (by rw [hqd]; exact hv) (hno ?_)
      cases hp : pm1 t with
      | none => rfl
      | some x =>
        obtain ⟨q', hq', hv', _⟩ := (pm1_iff t x.1 x.2).1 hp
        rw [hq] at hq'
        injection hq' with _ hq'
        injection hq' with _ hq'
        rw [← hq', hv] at hv'; cases hv'
    | some x =>
      obtain ⟨o, z⟩ := x
      have hp : pm1 t = some (⟨nmT t, o⟩, z) := (pm1_iff _ _ _).2 ⟨q, hq, hv, rfl⟩
      have := (pm1_len hp).1
      exact .go h0 rfl (by simp) (by rw [hd]; omega) hR2 o z (by rw [hqd]; exact hv) (prsL_step hp) (by simp only [List.length_cons]; omega)
def OnRel (l : List UInt8) (w : World) (rb xb : Nat) (g : Nat) (v0 : Value) (wr : World) : Prop :=
  ∃ r ps v, r.length = g ∧ r.length ≤ l.length ∧ prsL (nmR l) = pcons ps (prsL r) ∧ ps.length + r.length ≤ l.length ∧ v0 = .string (bs r) ∧ Eb 45 wr xb (nmT l) v ∧ OwnM wr (xb + 1) 47 v ps ∧ Eb 45 wr rb [] (.slice none 0 0) ∧ Below w.heap.size w wr
set_option maxRecDepth 100000 in
set_option maxHeartbeats 2000000 in
theorem qone_walk (l : List UInt8) (hl : l.length ≤ 1000000000) (w : World) :
    Calls Tryd.prog 32 #[.string (bs l)] w (OnPost l w) := by
  obtain ⟨i0, hi, hz0, hz1, hz2⟩ := info_parts info_pm
  have HNM := Lib.hid (fun w1 => qname_walk l (by omega) w1)
  have hsz := congrArg List.length (nm_split l)
  rw [List.length_append] at hsz
  have hq0 := Eb.new 45 w [] (.slice none 0 0)
  have b0 := alloc_in' w (.cells #[.string (bs []), .slice none 0 0] 45)
  have hs0 : (w.alloc (.cells #[.string (bs []), .slice none 0 0] 45)).heap.size = w.heap.size + 1 := by simp
  obtain ⟨w0, hw0⟩ : ∃ w0, w.alloc (.cells #[.string (bs []), .slice none 0 0] 45) = w0 := ⟨_, rfl⟩
  rw [hw0] at hq0 b0 hs0
  have HW0 := Lib.hid hw0
  have HS0 := Lib.hid hs0
  clear hw0 hs0
  have hbe : bs [] = ({ data := #[] } : ByteArray) := rfl
  rw [hbe] at HW0
  clear hbe
  go_enter Tryd.func32, Tryd.ntmps32
  go_wp2_with fail
  rw [HW0.out]
  refine (HNM.out _).mono ?_
  rintro e w1 ⟨rfl, m1, rfl⟩
  have hq1 : Eb 45 (w0.drewN m1) w.heap.size [] (.slice none 0 0) := hq0
  have b1 : Below w.heap.size w (w0.drewN m1) := ⟨b0.os, b0.tape, b0.output, b0.size, b0.block⟩
  have HS1 := Lib.hid (show (w0.drewN m1).heap.size = w.heap.size + 1 from HS0.out)
  clear hq0 b0
  generalize w0.drewN m1 = w1 at *
  have hx1 := Eb.new 45 w1 (nmT l) (.slice none 0 0)
  have b2 := b1.trans ((alloc_in' w1 (.cells #[.string (bs (nmT l)), .slice none 0 0] 45)).mono b1.size)
  have hq2 := hq1.below (alloc_in' w1 (.cells #[.string (bs (nmT l)), .slice none 0 0] 45))
  clear hq1 b1
  have HL := Lib.hid hl
  have hrl : (nmR l).length ≤ l.length := by omega
  have hxs : w.heap.size < w1.heap.size := by rw [HS1.out]; omega
  have HXS := Lib.hid hxs
  clear hxs
  go_wp2_with fail
  go_loopg [0] (nmR l).length (fun g v0 wr => OnRel l w w.heap.size w1.heap.size g v0 wr)
  case atStart =>
    exact ⟨nmR l, [], .slice none 0 0, rfl, hrl, (pcons_nil _).symm, by simpa using hrl, rfl, hx1, OwnM.nil _ _ _, hq2, b2⟩
  case round =>
    obtain ⟨r, ps, v, hg, hrl2, hps, hpl, rfl, hx, ho, hq, hb⟩ := hrel
    have HG := Lib.hid hg
    have HPL := Lib.hid hpl
    have HX := Lib.hid hx
    have HO := Lib.hid ho
    have HQ := Lib.hid hq
    have HB := Lib.hid hb
    have htl : r.tail.length ≤ 1000000000 := by rw [List.length_tail]; have := HL.out; omega
    clear hx1 b2 hq2 hrl hsz hg hpl hx ho hq hb hl
    have HN2 := Lib.hid (fun w1 => qname_walk r.tail (by omega) w1)
    cases on_all r with
    | stop hs hnb =>
      obtain ⟨po, cap, rfl, hrp, -, -, hpv, -⟩ := HO.out.form
      obtain ⟨x0, x1⟩ := HX.out.cells
      obtain ⟨c0, c1⟩ := HQ.out.cells
      obtain ⟨f0, f1⟩ := HQ.out.free
      have HRP := Lib.hid hrp
      have HPV := Lib.hid hpv
      rw [hs] at hps
      have hps2 : prsL (nmR l) = some (ps, r) := by rw [hps]; simp [pcons]
      clear hrp hpv hps hs
      rcases hnb with rfl | ⟨hne, hnb⟩
      · have HN := Lib.hid (show one l = none by unfold one; rw [hps2])
        clear hps2
        have PX := HQ.out.set [] (.slice none 0 0)
        have bb := below_set2 HB.out (b := w.heap.size) (Nat.le_refl _) (.string (bs [])) (.slice none 0 0)
        go_wp2
        refine bodyPost_ret (results_cell_row3q rfl _ _ w.heap.size _ _ _ _ rfl PX Tryd.underlying45 rfl (by kernel_rfl)) rfl ?_
        exact .inl ⟨HN.out, rfl, bb⟩
      have hpos : 0 < r.length := List.length_pos_iff.2 (List.isEmpty_eq_false_iff.1 hne)
      by_cases h93 : byt r 0 = 93
      rotate_left
      · have HN := Lib.hid (show one l = none by
          unfold one; rw [hps2]
          cases r with
          | nil => rfl
          | cons b t =>
            split
            · next ps' z' e => simp only [Option.some.injEq, Prod.mk.injEq, List.cons.injEq] at e; exact absurd (by rw [e.2.1]; rfl) h93
            · rfl)
        clear hps2
        have PX := HQ.out.set [] (.slice none 0 0)
        have bb := below_set2 HB.out (b := w.heap.size) (Nat.le_refl _) (.string (bs [])) (.slice none 0 0)
        have e1 : (((byt r 0 : Nat) : Int) != 93) = true := by rw [bne_iff_ne]; omega
        have e2 : (((byt r 0 : Nat) : Int) == 32) = false := by rw [beq_eq_false_iff_ne]; omega
        go_wp2
        refine bodyPost_ret (results_cell_row3q rfl _ _ w.heap.size _ _ _ _ rfl PX Tryd.underlying45 rfl (by kernel_rfl)) rfl ?_
        exact .inl ⟨HN.out, rfl, bb⟩
      have HN := Lib.hid (show one l = some (⟨nmT l, ps⟩, r.tail) by
        cases r with
        | nil => simp [byt] at h93
        | cons b t =>
          have : b = 93 := UInt8.toNat_inj.1 h93
          subst this
          exact (one_iff _ _ _).2 ⟨rfl, hps2⟩)
      clear hps2
      have PX := HQ.out.set (nmT l) (.slice po ps.length cap)
      have bb := below_set2 HB.out (b := w.heap.size) (Nat.le_refl _) (.string (bs (nmT l))) (.slice po ps.length cap)
      have HOS := Lib.hid (OwnM.reads (owns_set (owns_set HO.out HQ.out (by decide) 0 (.string (bs (nmT l)))) (rowSet HQ.out 0 (.string (bs (nmT l)))) (by decide) 1 (.slice po ps.length cap)))
      have e2 : (((byt r 0 : Nat) : Int) == 32) = false := by rw [beq_eq_false_iff_ne]; omega
      go_wp2_with fail
      go_region_with (fail)
      all_goals
        go_wp2
        refine bodyPost_ret (results_cell_row3q rfl _ _ w.heap.size _ #[.string (bs (nmT l)), .slice po ps.length cap] _ _ rfl PX Tryd.underlying45 rfl (by kernel_rfl)) rfl ?_
        exact .inr ⟨⟨nmT l, ps⟩, r.tail, po, cap, HN.out, rfl, HOS.out.1, HOS.out.2, ⟨bb.os, bb.tape, bb.output, bb.size, bb.block⟩⟩
    | shrt hr0 hne hlen hR e =>
      have HN := Lib.hid (show one l = none by unfold one; rw [hps, e]; rfl)
      have HR := Lib.hid hR
      clear hps e hR
      go_wp2_with fail
      refine (HN2.out _).mono ?_
      rintro e w2 ⟨rfl, m2, rfl⟩
      have hq2 : Eb 45 (wr.drewN m2) w.heap.size [] (.slice none 0 0) := HQ.out
      have hb := HB.out
      have b2 : Below w.heap.size w (wr.drewN m2) := ⟨hb.os, hb.tape, hb.output, hb.size, hb.block⟩
      clear hb
      generalize wr.drewN m2 = w2 at *
      obtain ⟨c0, c1⟩ := hq2.cells
      obtain ⟨f0, f1⟩ := hq2.free
      have PX := hq2.set [] (.slice none 0 0)
      have bb := below_set2 b2 (b := w.heap.size) (Nat.le_refl _) (.string (bs [])) (.slice none 0 0)
      have hR3 : ((nmR r.tail).length : Int) < 2 := by have := HR.out; omega
      go_wp2_with fail
      refine bodyPost_ret (results_cell_row3q rfl _ _ w.heap.size _ _ _ _ rfl PX Tryd.underlying45 rfl (by kernel_rfl)) rfl ?_
      exact .inl ⟨HN.out, rfl, bb⟩
    | eqs hr0 hne hlen hR hR2 e =>
      have HN := Lib.hid (show one l = none by unfold one; rw [hps, e]; rfl)
      have HR := Lib.hid hR
      have HR2 := Lib.hid hR2
      clear hps e hR hR2
      go_wp2_with fail
      refine (HN2.out _).mono ?_
      rintro e w2 ⟨rfl, m2, rfl⟩
      have hq2 : Eb 45 (wr.drewN m2) w.heap.size [] (.slice none 0 0) := HQ.out
      have hb := HB.out
      have b2 : Below w.heap.size w (wr.drewN m2) := ⟨hb.os, hb.tape, hb.output, hb.size, hb.block⟩
      clear hb
      generalize wr.drewN m2 = w2 at *
      obtain ⟨c0, c1⟩ := hq2.cells
      obtain ⟨f0, f1⟩ := hq2.free
      have PX := hq2.set [] (.slice none 0 0)
      have bb := below_set2 b2 (b := w.heap.size) (Nat.le_refl _) (.string (bs [])) (.slice none 0 0)
      have hR3 : ¬ ((nmR r.tail).length : Int) < 2 := by have := HR.out; omega
      have hR4 : 2 ≤ (nmR r.tail).length := HR.out
      have hR5 := HR2.out
      have hR6 : ((nmR r.tail).take 2 == [61, 34]) = false := beq_eq_false_iff_ne.2 HR2.out
      go_wp2_with fail
      refine bodyPost_ret (results_cell_row3q rfl _ _ w.heap.size _ _ _ _ rfl PX Tryd.underlying45 rfl (by kernel_rfl)) rfl ?_
      exact .inl ⟨HN.out, rfl, bb⟩
    | val hr0 hne hlen hR hR2 hv e =>
      have HN := Lib.hid (show one l = none by unfold one; rw [hps, e]; rfl)
      have HR := Lib.hid hR
      have HR2 := Lib.hid hR2
      have hln := congrArg List.length (nm_split r.tail)
      rw [List.length_append] at hln
      have HV := Lib.hid (fun w1 => qvalue_walk ((nmR r.tail).drop 2) (by rw [List.length_drop]; omega) w1)
      obtain ⟨v1, v2, v3⟩ := vl_not hv
      rw [v1, v2, v3] at HV
      clear hps e hR hR2 hln v1 v2 v3 hv
      go_wp2_with fail
      refine (HN2.out _).mono ?_
      rintro e w2 ⟨rfl, m2, rfl⟩
      have hq2 : Eb 45 (wr.drewN m2) w.heap.size [] (.slice none 0 0) := HQ.out
      have hb := HB.out
      have b2 : Below w.heap.size w (wr.drewN m2) := ⟨hb.os, hb.tape, hb.output, hb.size, hb.block⟩
      clear hb
      generalize wr.drewN m2 = w2 at *
      have hR3 : ¬ ((nmR r.tail).length : Int) < 2 := by have := HR.out; omega
      have hR4 : 2 ≤ (nmR r.tail).length := HR.out
      have hR5 := HR2.out
      have hR6 : ((nmR r.tail).take 2 == [61, 34]) = true := beq_iff_eq.2 HR2.out
      go_wp2_with fail
      refine (HV.out _).mono ?_
      rintro e w3 ⟨rfl, m3, rfl⟩
      have hq3 : Eb 45 (w2.drewN m3) w.heap.size [] (.slice none 0 0) := hq2
      have b3 : Below w.heap.size w (w2.drewN m3) := ⟨b2.os, b2.tape, b2.output, b2.size, b2.block⟩
      clear hq2 b2
      generalize w2.drewN m3 = w3 at *
      obtain ⟨c0, c1⟩ := hq3.cells
      obtain ⟨f0, f1⟩ := hq3.free
      have PX := hq3.set [] (.slice none 0 0)
      have bb := below_set2 b3 (b := w.heap.size) (Nat.le_refl _) (.string (bs [])) (.slice none 0 0)
      go_wp2_with fail
      refine bodyPost_ret (results_cell_row3q rfl _ _ w.heap.size _ _ _ _ rfl PX Tryd.underlying45 rfl (by kernel_rfl)) rfl ?_
      exact .inl ⟨HN.out, rfl, bb⟩
    | go hr0 hne hlen hR hR2 o z hv e hz =>
      have HP := Lib.hid (show prsL (nmR l) = pcons (ps ++ [⟨nmT r.tail, o⟩]) (prsL z) by rw [hps, e, pcons_map])
      have HR := Lib.hid hR
      have HR2 := Lib.hid hR2
      have HZ := Lib.hid hz
      have hln := congrArg List.length (nm_split r.tail)
      rw [List.length_append] at hln
      have HV := Lib.hid (fun w1 => qvalue_walk ((nmR r.tail).drop 2) (by rw [List.length_drop]; omega) w1)
      obtain ⟨v1, v2, v3⟩ := vl_is hv
      rw [v1, v2, v3] at HV
      clear hps e hR hR2 hln v1 v2 v3 hv hz
      go_wp2_with fail
      refine (HN2.out _).mono ?_
      rintro e w2 ⟨rfl, m2, rfl⟩
      have hq2 : Eb 45 (wr.drewN m2) w.heap.size [] (.slice none 0 0) := HQ.out
      have hx2 : Eb 45 (wr.drewN m2) w1.heap.size (nmT l) v := HX.out
      have ho2 : OwnM (wr.drewN m2) (w1.heap.size + 1) 47 v ps := HO.out
      have hb := HB.out
      have b2 : Below w.heap.size w (wr.drewN m2) := ⟨hb.os, hb.tape, hb.output, hb.size, hb.block⟩
      clear hb
      generalize wr.drewN m2 = w2 at *
      have hR3 : ¬ ((nmR r.tail).length : Int) < 2 := by have := HR.out; omega
      have hR4 : 2 ≤ (nmR r.tail).length := HR.out
      have hR5 := HR2.out
      have hR6 : ((nmR r.tail).take 2 == [61, 34]) = true := beq_iff_eq.2 HR2.out
      go_wp2_with fail
      refine (HV.out _).mono ?_
      rintro e w3 ⟨rfl, m3, rfl⟩
      have hq3 : Eb 45 (w2.drewN m3) w.heap.size [] (.slice none 0 0) := hq2
      have hx3 : Eb 45 (w2.drewN m3) w1.heap.size (nmT l) v := hx2
      have ho3 : OwnM (w2.drewN m3) (w1.heap.size + 1) 47 v ps := ho2
      have b3 : Below w.heap.size w (w2.drewN m3) := ⟨b2.os, b2.tape, b2.output, b2.size, b2.block⟩
      clear hq2 b2 hx2 ho2
      generalize w2.drewN m3 = w3 at *
      obtain ⟨x0, x1⟩ := hx3.cells
      obtain ⟨y0, y1⟩ := hx3.free
      generalize nmT r.tail = NT at *
      have hxl : w1.heap.size < w3.heap.size := lt_of_block hx3
      have hpl3 : ps.length ≤ 1000000000 := by have := HPL.out; have := HL.out; omega
      clear hR3 hR4 hR5 hR6 hr0 hne hlen
      go_wp2_with (at_builtin; refine wpList_append_own _ rfl _ _ 43 rfl (w1.heap.size + 1) 47 i0 (.agg #[.string .empty, .string .empty]) 2 32 Tryd.underlying43 hi hz0 hz1 hz2 rfl (by decide) _ _ _ rfl (World.ownsRow.alloc ho3 _) ⟨w3.heap.size, 0, none⟩ 1 1 [.string (bs NT), .string (bs o)] rfl rfl ?c1 ?c2 ?c3 ?c4 ?c5 ?_)
      case c1 =>
        have hrn := rowNew w3 (.cells #[.string (bs NT), .string (bs o)] 47)
        intro j u hj
        match j, hj with
        | 0, hj => simp at hj; subst hj; exact cellRow hrn 0
        | 1, hj => simp at hj; subst hj; exact cellRow hrn 1
        | j + 2, hj => simp at hj
      case c2 =>
        intro u hu
        simp at hu
        rcases hu with rfl | rfl
        · rfl
        · rfl
      case c3 => unfold maxLen; omega
      case c4 => omega
      case c5 => simp; omega
      intro v' w4 hown' hgrow _
      have hne : 45 ≠ 47 := by decide
      have a3 := alloc_in' w3 (.cells #[.string (bs NT), .string (bs o)] 47)
      have ho3a := World.ownsRow.alloc ho3 (.cells #[.string (bs NT), .string (bs o)] 47)
      have hx4 : Eb 45 w4 w1.heap.size (nmT l) v := owns_keep ho3a hgrow (hx3.below a3) hne
      have hq4 : Eb 45 w4 w.heap.size [] (.slice none 0 0) := owns_keep ho3a hgrow (hq3.below a3) hne
      have hb4 : Below w.heap.size w w4 := (b3.trans (a3.mono b3.size)).grown hgrow (by have := b3.size; simp; omega) (fun k hk => by have := (World.ownsRow.lt ho3a k hk).1; have := HXS.out; omega)
      have ho4 : OwnM w4 (w1.heap.size + 1) 47 v' (ps ++ [⟨NT, o⟩]) := OwnM.put (a := ps) (b := [⟨NT, o⟩]) hown'
      clear hown' hgrow ho3 ho3a b3 a3 x0 x1 y0 y1 hx3 hq3
      obtain ⟨po', cap', hv', -⟩ := ho4.form
      rw [show (ps ++ [(⟨NT, o⟩ : Pm)]).length = ps.length + 1 by simp] at hv'
      subst hv'
      obtain ⟨x0, x1⟩ := hx4.cells
      obtain ⟨y0, y1⟩ := hx4.free
      have hxn : w.heap.size ≠ w1.heap.size := Nat.ne_of_lt HXS.out
      have hx5 : Eb 45 (w4.setCell ⟨w1.heap.size, 1, none⟩ (.slice po' (ps.length + 1) cap')) w1.heap.size (nmT l) (.slice po' (ps.length + 1) cap') := by
        have := rowSet hx4 1 (.slice po' (ps.length + 1) cap')
        simpa [Eb] using this
      have HX5 := Lib.hid hx5
      have HO5 := Lib.hid (show OwnM (w4.setCell ⟨w1.heap.size, 1, none⟩ (.slice po' (ps.length + 1) cap')) (w1.heap.size + 1) 47 (.slice po' (ps.length + 1) cap') (ps ++ [⟨NT, o⟩]) from owns_set ho4 hx4 hne 1 (.slice po' (ps.length + 1) cap'))
      have HQ5 := Lib.hid (show Eb 45 (w4.setCell ⟨w1.heap.size, 1, none⟩ (.slice po' (ps.length + 1) cap')) w.heap.size [] (.slice none 0 0) from (Below.heap_setCell _ _ _ _ hxn).trans hq4)
      have HB5 := Lib.hid (hb4.setCell (p := ⟨w1.heap.size, 1, none⟩) (Nat.le_of_lt HXS.out) (.slice po' (ps.length + 1) cap'))
      clear hx5 hx4 hq4 hb4 ho4 hxn
      go_wp2
      go_roundg z.length
      case measure => have := HG.out; have := HZ.out; omega
      case rel => exact ⟨z, ps ++ [⟨NT, o⟩], (.slice po' (ps.length + 1) cap'), rfl, by have := HZ.out; omega, HP.out, by have := HPL.out; have := HZ.out; rw [List.length_append]; simp; omega, rfl, HX5.out, HO5.out, HQ5.out, HB5.out⟩
end Go.Proofs.YtkpcfbadhoiigaaDoor
