/- Elements and params one behind another by the builtin append; QuoteGet, on calls that keep their word. -/
import Derived.Test.YtkpcfbadhoiigaaDoorQuoW
namespace Go.Proofs.YtkpcfbadhoiigaaDoor
open Go.ChangeShapes Go.WideShapes Go.ChangeAt Go.RowKit K Q10 U4
set_option linter.unusedVariables false

/-- 'append(a, b...)' of elements: a is a list that the call made. -/
theorem spreadE {o : Oper} {a : Act} {K : Act → World → Prop} {Q : Exit → Act → World → Prop} {W : World} {s x : Operand} (ho : o.op = .call { callee := .builtin .append, args := #[s, x], argTypes := #[23, 23] }) (v : Value) (hs : a.eval s = v) {B : Nat} {zs ys : List (El × Pl)} (hown : W.ownsRow B 45 2 v zs.length (elms zs)) (hBW : B ≤ W.heap.size)
    {ao : Option Addr} {ca : Nat} (hx : a.eval x = .slice ao ys.length ca) (hr : RdEz W ao ys) (hsh : (ao = none ∧ ys.length = 0 ∧ ca = 0) ∨ ∃ a, ao = some a) (hn : (zs.length + ys.length) * 40 ≤ 140737488355328)
    (h : ∀ v' w', w'.ownsRow B 45 2 v' (zs.length + ys.length) (elms zs ++ elms ys) → W.grownBy w' v.ownBlock → K (a.put o.dst v') w') : o.wp Tryd.prog a W K Q := by
  obtain ⟨i0, hi, hz0, hz1, hz2⟩ := info_parts info_el
  rcases hsh with ⟨rfl, h0, rfl⟩ | ⟨ad, rfl⟩
  · have hys : ys = [] := List.length_eq_zero_iff.1 h0
    subst hys
    have hrun := run_append_owned_none (P := Tryd.prog) (w := W) B 23 o.type 45 i0 2 Tryd.underlying23 hi _ _ _ hown
    unfold Oper.wp
    simp [execOp, ho, resolve, invoke, builtin, hs, hx, hrun, Result.andThen]
    exact h _ _ (by simpa [elms] using hown) ⟨rfl, rfl, rfl, Nat.le_refl _, fun _ _ _ => rfl⟩
  · refine wp_append_own W s x 23 ho B 45 i0 (.agg #[.string .empty, .slice none 0 0]) 2 40 Tryd.underlying23 hi hz0 hz1 hz2 rfl (by decide) v zs.length (elms zs) hs hown ad ys.length ca (elms ys) hx (elms_len ys) hr.each (elms_one ys) (by unfold maxLen; omega) (by omega) hBW ?_
    intro v' w' hown' hg _
    exact h v' w' hown' hg
theorem spreadEL {ops : Array Oper} {rest : List Oper} {o : Oper} {a : Act} {Q : Exit → Act → World → Prop} {W : World} (hgd : o.guard = none) {s x : Operand} (ho : o.op = .call { callee := .builtin .append, args := #[s, x], argTypes := #[23, 23] }) (v : Value) (hs : a.eval s = v) {B : Nat} {zs ys : List (El × Pl)} (hown : W.ownsRow B 45 2 v zs.length (elms zs)) (hBW : B ≤ W.heap.size)
    {ao : Option Addr} {ca : Nat} (hx : a.eval x = .slice ao ys.length ca) (hr : RdEz W ao ys) (hsh : (ao = none ∧ ys.length = 0 ∧ ca = 0) ∨ ∃ a, ao = some a) (hn : (zs.length + ys.length) * 40 ≤ 140737488355328)
    (h : ∀ v' w', w'.ownsRow B 45 2 v' (zs.length + ys.length) (elms zs ++ elms ys) → W.grownBy w' v.ownBlock → wpList Tryd.prog ops Q rest (a.put o.dst v') w') : wpList Tryd.prog ops Q (o :: rest) a W :=
  wpList_plain hgd fun _ hK => spreadE ho v hs hown hBW hx hr hsh hn fun v' w' h1 h2 => hK _ _ (h v' w' h1 h2)
/-- 'append(a, b...)' of params. -/
theorem spreadP {o : Oper} {a : Act} {K : Act → World → Prop} {Q : Exit → Act → World → Prop} {W : World} {s x : Operand} (ho : o.op = .call { callee := .builtin .append, args := #[s, x], argTypes := #[43, 43] }) (v : Value) (hs : a.eval s = v) {B : Nat} {xs ys : List Pm} (hown : OwnM W B 47 v xs) (hBW : B ≤ W.heap.size)
    {ao : Option Addr} {ca : Nat} (hx : a.eval x = .slice ao ys.length ca) (hr : RdP W ao ys) (hsh : (ao = none ∧ ys.length = 0 ∧ ca = 0) ∨ ∃ a, ao = some a) (hn : (xs.length + ys.length) * 32 ≤ 140737488355328)
    (h : ∀ v' w', OwnM w' B 47 v' (xs ++ ys) → W.grownBy w' v.ownBlock → K (a.put o.dst v') w') : o.wp Tryd.prog a W K Q := by
  obtain ⟨i0, hi, hz0, hz1, hz2⟩ := info_parts info_pm
  rcases hsh with ⟨rfl, h0, rfl⟩ | ⟨ad, rfl⟩
  · have hys : ys = [] := List.length_eq_zero_iff.1 h0
    subst hys
    have hrun := run_append_owned_none (P := Tryd.prog) (w := W) B 43 o.type 47 i0 2 Tryd.underlying43 hi _ _ _ hown
    unfold Oper.wp
    simp [execOp, ho, resolve, invoke, builtin, hs, hx, hrun, Result.andThen]
    exact h _ _ (by rw [List.append_nil]; exact hown) ⟨rfl, rfl, rfl, Nat.le_refl _, fun _ _ _ => rfl⟩
  · refine wp_append_own W s x 43 ho B 47 i0 (.agg #[.string .empty, .string .empty]) 2 32 Tryd.underlying43 hi hz0 hz1 hz2 rfl (by decide) v xs.length (prms xs) hs hown ad ys.length ca (prms ys) hx (prms_len ys) hr.each (prms_one ys) (by unfold maxLen; omega) (by omega) hBW ?_
    intro v' w' hown' hg _
    exact h v' w' (OwnM.put hown') hg
theorem own_one (w : World) (B : Nat) (hb : B ≤ w.heap.size) (x : El) (q : Pl) : (w.alloc (.cells #[.string (bs x.id), .slice q.o x.ps.length q.c] 45)).ownsRow B 45 2 (.slice (some ⟨w.heap.size, 0, none⟩) 1 1) [(x, q)].length (elms [(x, q)]) :=
  ⟨rfl, .inr ⟨w.heap.size, 1, #[.string (bs x.id), .slice q.o x.ps.length q.c], rfl, hb, rowNew w _, Nat.le_refl _, by unfold maxLen; omega, rfl, rfl⟩⟩
theorem Bnds.cons {x : El} {l : List El} (h : Bnds l) (hl : l.length ≤ 1000000) (h1 : x.id.length ≤ 140737488355327) (h2 : x.ps.length * 32 ≤ 140737488351232) (h3 : ∀ p ∈ x.ps, p.n.length ≤ 140737488351232 ∧ p.v.length ≤ 140737488351232) : Bnds (x :: l) := by
  refine ⟨by simp; omega, fun y hy => ?_⟩
  rcases List.mem_cons.1 hy with rfl | hy
  · exact ⟨h1, h2, h3⟩
  · exact h.2 y hy
theorem gt_x {l : List El} {id n : List UInt8} : gt (⟨id ++ [120], []⟩ :: l) id n = gt l id n := gt_front (by
  intro e
  have := congrArg List.length e
  simp at this)
def FRONT : List UInt8 := [102, 114, 111, 110, 116]
set_option maxRecDepth 100000 in
set_option maxHeartbeats 4000000 in
theorem quoteGet_walk (I : World → Prop) (KK : Keeps I) (KP : HParse I) (KS : HSame I) (KG : HGet I) (l : List El) (ao : Option Addr) (cap : Nat) (hB : Bnds l) (hsh : (ao = none ∧ l.length = 0 ∧ cap = 0) ∨ ∃ a, ao = some a) (id n : List UInt8) (hid : id.length ≤ 140737488351232) (hnm : n.length ≤ 140737488351232) (w : World) (hw : I w) (hr : RdE w ao l) :
    Calls Tryd.prog 7 #[.slice ao l.length cap, .string (bs id), .string (bs n)] w fun e w' => e = .returned (.bool true) ∧ Below w.heap.size w w' := by
  have HW := Lib.hid (works10_walk I KK KP KS w hw)
  have HSM := Lib.hid (fun w1 h => small10_walk l ao cap hB w1 h)
  have HR := Lib.hid (fun w1 (b : Below w.heap.size w w1) => hr.below b)
  have HK := Lib.hid (fun w1 (b : Below w.heap.size w w1) => KK w w1 hw b)
  cases hs : smQ l
  · rw [hs] at HSM
    clear hs hr
    go_enter Tryd.func7, Tryd.ntmps7
    go_wp2_with fail
    refine HW.out.mono ?_
    rintro e w1 ⟨rfl, b1⟩
    go_wp2_with fail
    refine (HSM.out _ (HR.out _ b1)).mono ?_
    rintro e w2 ⟨rfl, m2, rfl⟩
    go_wp2
    go_ret
    exact ⟨rfl, bdr b1 m2⟩
  rw [hs] at HSM
  by_cases h20 : l.length ≤ 20
  rotate_left
  · have h21 : (20 : Int) < (l.length : Nat) := by omega
    clear hs hr h20
    go_enter Tryd.func7, Tryd.ntmps7
    go_wp2_with fail
    refine HW.out.mono ?_
    rintro e w1 ⟨rfl, b1⟩
    go_wp2_with fail
    refine (HSM.out _ (HR.out _ b1)).mono ?_
    rintro e w2 ⟨rfl, m2, rfl⟩
    go_wp2
    go_ret
    exact ⟨rfl, bdr b1 m2⟩
  have h21 : ¬ (20 : Int) < (l.length : Nat) := by omega
  have HG1 := Lib.hid (fun w1 h r => KG l ao cap id n w1 hB h r)
  have HG2 := Lib.hid (fun bo cb w1 h r => KG (⟨id ++ [120], []⟩ :: l) bo cb id n w1 (hB.cons (by omega) (by simp; omega) (by simp) (fun p hp => by cases hp)) h r)
  have HG3 := Lib.hid (fun bo cb w1 h r => KG (⟨id, [⟨n, FRONT⟩]⟩ :: l) bo cb id n w1 (hB.cons (by omega) (by show id.length ≤ _; omega) (by simp) (fun p hp => by simp at hp; subst hp; exact ⟨hnm, by simp [FRONT]⟩)) h r)
  have e2 : gtS (⟨id ++ [120], []⟩ :: l) id n = gtS l id n ∧ gtB (⟨id ++ [120], []⟩ :: l) id n = gtB l id n := by unfold gtS gtB; rw [gt_x]; exact ⟨rfl, rfl⟩
  have e3 : gtS (⟨id, [⟨n, FRONT⟩]⟩ :: l) id n = FRONT ∧ gtB (⟨id, [⟨n, FRONT⟩]⟩ :: l) id n = true := by unfold gtS gtB; rw [gt_one]; exact ⟨rfl, rfl⟩
  rw [e2.1, e2.2] at HG2
  rw [e3.1, e3.2] at HG3
  have hno : gtB l id n = false → gtS l id n = [] := by unfold gtS gtB; intro h; cases hg : gt l id n with | none => rfl | some x => rw [hg] at h; cases h
  have HNO := Lib.hid hno
  have HH := Lib.hid hsh
  have HB := Lib.hid hB
  have HL20 := Lib.hid h20
  generalize gtS l id n = GS at *
  generalize gtB l id n = GB at *
  clear hs e2 e3 hno hsh hB hr h20
  go_enter Tryd.func7, Tryd.ntmps7
  go_wp2_with fail
  refine HW.out.mono ?_
  rintro e w1 ⟨rfl, b1⟩
  go_wp2_with fail
  refine (HSM.out _ (HR.out _ b1)).mono ?_
  rintro e w2 ⟨rfl, m2, rfl⟩
  have b2 := bdr b1 m2
  clear b1
  generalize w1.drewN m2 = w2 at *
  go_wp2_with fail
  refine (HG1.out _ (HK.out _ b2) (HR.out _ b2)).mono ?_
  rintro e w3 ⟨rfl, d3⟩
  have b3 := b2.trans (d3.mono b2.size)
  clear d3 b2
  have hlx : bs id ++ ({ data := #[120] } : ByteArray) = bs (id ++ [120]) := bs_append id [120]
  obtain ⟨zs, hz1, hz⟩ := HR.out _ b3
  have hzl : zs.length = l.length := by rw [← hz1, List.length_map]
  have HZA := Lib.hid (fun (W : World) z (h : z ∈ zs) => Prw.arg (B := w3.heap.size) (T := 47) (hz.2 z h) (Nat.le_refl _) W)
  have b3s := b3.size
  have A := alloc_in' w3 (.cells #[.string (bs (id ++ [120])), .slice none 0 0] 45)
  go_wp2_with (at_builtin; refine spreadEL rfl rfl _ rfl (own_one w3 w3.heap.size (Nat.le_refl _) ⟨id ++ [120], []⟩ ⟨none, 0⟩) (by simp) (ys := zs) (by rw [hzl]; rfl) (hz.below A) ?c1 ?c2 ?_)
  case c1 => rw [hzl]; exact HH.out
  case c2 => have := HL20.out; simp; omega
  intro v' w4 hown' hgrow
  rw [← hzl] at hown'
  have o4 := OwnE.grown (own_one w3 w3.heap.size (Nat.le_refl _) ⟨id ++ [120], []⟩ ⟨none, 0⟩) (fun q hq => by simp at hq; subst hq; exact ⟨.inl rfl, .inl rfl⟩) (fun q hq => ⟨(hz.2 q hq).below A, HZA.out _ q hq⟩) (by decide) hgrow hown'
  rw [hz1] at o4
  have b4 := (b3.trans (A.mono b3.size)).grown hgrow (by simp; omega) (fun k hk => by simp [Value.ownBlock] at hk; omega)
  clear hown' hgrow A hz HZA
  obtain ⟨po, pc, rfl, hr4, -, -, -⟩ := (show OwnE w4 w3.heap.size 45 47 v' (⟨id ++ [120], []⟩ :: l) from o4).form
  clear o4
  go_wp2_with fail
  refine (HG2.out po pc _ (HK.out _ b4) hr4).mono ?_
  rintro e w5 ⟨rfl, d5⟩
  have b5 := b4.trans (d5.mono b4.size)
  clear b4 d5 hr4 hzl hz1 b3s b3
  obtain ⟨zs, hz1, hz⟩ := HR.out _ b5
  have hzl : zs.length = l.length := by rw [← hz1, List.length_map]
  have HZA := Lib.hid (fun (W : World) z (h : z ∈ zs) => Prw.arg (B := w5.heap.size) (T := 47) (hz.2 z h) (Nat.le_refl _) W)
  have A1 := alloc_in' w5 (.cells #[.string (bs n), .string { data := #[102, 114, 111, 110, 116] }] 47)
  have A2 := alloc_in' (w5.alloc (.cells #[.string (bs n), .string { data := #[102, 114, 111, 110, 116] }] 47)) (.cells #[.string (bs id), .slice (some ⟨w5.heap.size, 0, none⟩) 1 1] 45)
  have hs5 : (w5.alloc (.cells #[.string (bs n), .string { data := #[102, 114, 111, 110, 116] }] 47)).heap.size = w5.heap.size + 1 := by simp
  have own := own_one (w5.alloc (.cells #[.string (bs n), .string { data := #[102, 114, 111, 110, 116] }] 47)) w5.heap.size (by omega) ⟨id, [⟨n, FRONT⟩]⟩ ⟨some ⟨w5.heap.size, 0, none⟩, 1⟩
  rw [hs5] at own
  have hp0 : (w5.alloc (.cells #[.string (bs n), .string { data := #[102, 114, 111, 110, 116] }] 47)).heap[w5.heap.size]? = some (.cells #[.string (bs n), .string (bs FRONT)] 47 (0, 0)) := rowNew w5 _
  have hrp : RdP (w5.alloc (.cells #[.string (bs n), .string { data := #[102, 114, 111, 110, 116] }] 47)) (some ⟨w5.heap.size, 0, none⟩) [⟨n, FRONT⟩] := .inr ⟨w5.heap.size, 0, rfl, lt_of_block hp0, fun i hi => by
    obtain rfl : i = 0 := by simpa using hi
    exact ⟨cellRow hp0 0, cellRow hp0 1⟩⟩
  have hpv : Prv (w5.alloc (.cells #[.string (bs n), .string { data := #[102, 114, 111, 110, 116] }] 47)) w5.heap.size 47 (some ⟨w5.heap.size, 0, none⟩) := fun a ha => by
    injection ha with ha
    subst ha
    exact .inr ⟨_, _, hp0⟩
  have HRP := Lib.hid hrp
  have HPV := Lib.hid hpv
  clear hp0 hrp hpv
  go_wp2_with (at_builtin; refine spreadEL rfl rfl _ rfl own (by simp; omega) (ys := zs) (by rw [hzl]; rfl) ((hz.below A1).below A2) ?c1 ?c2 ?_)
  case c1 => rw [hzl]; exact HH.out
  case c2 => have := HL20.out; simp; omega
  intro v' w6 hown' hgrow
  rw [← hzl] at hown'
  have o6 := OwnE.grown own (fun q hq => by simp at hq; subst hq; exact ⟨HRP.out.below A2, .inr (HPV.out.below A2)⟩) (fun q hq => ⟨((hz.2 q hq).below A1).below A2, HZA.out _ q hq⟩) (by decide) hgrow hown'
  rw [hz1] at o6
  have b6 := ((b5.trans (A1.mono b5.size)).trans (A2.mono (b5.trans (A1.mono b5.size)).size)).grown hgrow (by have := b5.size; simp; omega) (fun k hk => by have := b5.size; simp [Value.ownBlock] at hk; omega)
  clear hown' hgrow A1 A2 hz HZA own hs5
  obtain ⟨po2, pc2, rfl, hr6, -, -, -⟩ := (show OwnE w6 w5.heap.size 45 47 v' (⟨id, [⟨n, FRONT⟩]⟩ :: l) from o6).form
  clear o6
  go_wp2_with fail
  refine (HG3.out po2 pc2 _ (HK.out _ b6) hr6).mono ?_
  rintro e w7 ⟨rfl, d7⟩
  have b7 := b6.trans (d7.mono b6.size)
  clear b6 d7 hr6 hzl hz1 b5
  have hfr : bs FRONT = ({ data := #[102, 114, 111, 110, 116] } : ByteArray) := rfl
  rw [hfr]
  cases GB
  · rw [HNO.out rfl]
    go_wp2
    go_ret
    exact ⟨rfl, b7⟩
  · go_wp2
    go_ret
    exact ⟨rfl, b7⟩
end Go.Proofs.YtkpcfbadhoiigaaDoor
