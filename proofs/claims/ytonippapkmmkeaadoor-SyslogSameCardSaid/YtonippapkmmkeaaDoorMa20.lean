/- Texts on the program and on the document, joined: QuqD. -/
import Derived.Test.YtonippapkmmkeaaDoorMa18
import Derived.Test.YtonippapkmmkeaaDoorMa14
/- The program's param and element, walked. -/
namespace Go.Proofs.YtonippapkmmkeaaDoor
open Go.ChangeShapes Go.WideShapes Go.ChangeAt Go.RowKit K Q10
set_option linter.unusedVariables false

theorem Rl.nmQ {n : Nat} {r : Option (List UInt8)} (h : Rl n r) : Rl n (r.map nmQ) := by
  cases r with
  | none => exact h
  | some s =>
    have h' : s.length ≤ n := h
    have := congrArg List.length (nmP_split s)
    rw [List.length_append] at this
    show (Q10.nmQ s).length ≤ n
    omega
theorem Rl.mk1 {n : Nat} {r : Option (List UInt8)} (h : Rl n r) (c : UInt8) : Rl n (mk1 c r) := by
  cases hm : Q10.mk1 c r with
  | none => exact Nat.zero_le _
  | some t =>
    rw [mk1_eq hm] at h
    have h' : (c :: t).length ≤ n := h
    simp only [List.length_cons] at h'
    show t.length ≤ n
    omega
theorem va_len : ∀ (n : Nat) (s : List UInt8), s.length ≤ n → (vaP s).1.length + (vaP s).2.length ≤ s.length
  | _, [], _ => by simp [vaP]
  | _, [b], _ => by simp only [vaP]; split <;> simp
  | 0, b :: c :: q, hn => by simp at hn
  | n + 1, b :: c :: q, hn => by
    simp only [List.length_cons] at hn
    have h1 := va_len n q (by omega)
    have h2 := va_len n (c :: q) (by simp only [List.length_cons]; omega)
    simp only [vaP]
    split
    · simp
    · split
      · simp only [List.length_cons]; omega
      · simp only [List.length_cons] at h2 ⊢; omega
theorem Rl.va {n : Nat} {r : Option (List UInt8)} (h : Rl n r) : Rl n (r.map fun s => (vaP s).2) := by
  cases r with
  | none => exact h
  | some s =>
    have h' : s.length ≤ n := h
    have := va_len _ s (Nat.le_refl _)
    show (vaP s).2.length ≤ n
    omega
theorem Rl.mono {n m : Nat} {r : Option (List UInt8)} (h : Rl n r) (k : n ≤ m) : Rl m r := Nat.le_trans h k
set_option maxRecDepth 100000 in
set_option maxHeartbeats 2000000 in
theorem rparam_walk (b : Nat) (r : Option (List UInt8)) (hs : Rl 1000000000 r) (w : World) (h : RO w b r) :
    Calls Tryd.prog 69 #[.pointer (some ⟨b, 0, none⟩)] w fun e w' => e = .returned (.agg #[.string (bs (pmP r).1.n), .string (bs (pmP r).1.v)]) ∧ Kp [b] w w' ∧ RO w' b (pmP r).2 := by
  have H1 := Lib.hid (fun w1 h => rname_walk b r (hs.mono (by omega)) w1 h)
  have H2 := Lib.hid (fun w1 h => rmark_walk b 61 (r.map nmQ) (hs.nmQ.mono (by omega)) w1 h)
  have H3 := Lib.hid (fun w1 h => rmark_walk b 34 (mk1 61 (r.map nmQ)) ((hs.nmQ.mk1 61).mono (by omega)) w1 h)
  have H4 := Lib.hid (fun w1 h => rvalue_walk b (mk1 34 (mk1 61 (r.map nmQ))) ((hs.nmQ.mk1 61).mk1 34) w1 h)
  have H5 := Lib.hid (fun w1 h => rmark_walk b 34 ((mk1 34 (mk1 61 (r.map nmQ))).map fun s => (vaP s).2) (((hs.nmQ.mk1 61).mk1 34).va.mono (by omega)) w1 h)
  have e1 : (pmP r).1.n = nmP (rst r) := rfl
  have e2 : (pmP r).1.v = (vaP (rst (mk1 34 (mk1 61 (r.map nmQ))))).1 := rfl
  have e3 : (pmP r).2 = mk1 34 ((mk1 34 (mk1 61 (r.map nmQ))).map fun s => (vaP s).2) := rfl
  rw [e1, e2, e3]
  have hlt : b < w.heap.size := lt_of_block h
  have hp0 := rowNew w (.cells #[.string { data := #[] }, .string { data := #[] }] 56)
  have k0 : Kp [b] w (w.alloc (.cells #[.string { data := #[] }, .string { data := #[] }] 56)) := (Kp.refl _ _).alloc _
  have h0 : RO (w.alloc (.cells #[.string { data := #[] }, .string { data := #[] }] 56)) b r := (((Below.refl w.heap.size w).alloc (Nat.le_refl _) _).block b hlt).trans h
  have hne : w.heap.size ∉ [b] := by simp; omega
  obtain ⟨w0, hw0⟩ : ∃ w0, w.alloc (.cells #[.string { data := #[] }, .string { data := #[] }] 56) = w0 := ⟨_, rfl⟩
  rw [hw0] at hp0 k0 h0
  have HW0 := Lib.hid hw0
  clear e1 e2 e3 h hs hw0
  generalize mk1 34 ((mk1 34 (mk1 61 (r.map nmQ))).map fun s => (vaP s).2) = r5 at *
  generalize (mk1 34 (mk1 61 (r.map nmQ))).map (fun s => (vaP s).2) = r4 at *
  generalize (vaP (rst (mk1 34 (mk1 61 (r.map nmQ))))).1 = v at *
  generalize mk1 34 (mk1 61 (r.map nmQ)) = r3 at *
  generalize mk1 61 (r.map nmQ) = r2 at *
  generalize r.map nmQ = r1 at *
  generalize nmP (rst r) = n at *
  go_enter Tryd.func69, Tryd.ntmps69
  go_wp2_with fail
  rw [HW0.out]
  refine (H1.out _ h0).mono ?_
  rintro e w1 ⟨rfl, k1, h1⟩
  have p1 := k1.heap hp0 hne
  have k1 := k0.trans k1
  clear k0 h0 hp0
  go_wp2_with fail
  refine (H2.out _ h1).mono ?_
  rintro e w2 ⟨rfl, k2, h2⟩
  have p2 := k2.heap p1 hne
  have k2 := k1.trans k2
  clear k1 h1 p1
  go_wp2_with fail
  refine (H3.out _ h2).mono ?_
  rintro e w3 ⟨rfl, k3, h3⟩
  have p3 := k3.heap p2 hne
  have k3 := k2.trans k3
  clear k2 h2 p2
  go_wp2_with fail
  refine (H4.out _ h3).mono ?_
  rintro e w4 ⟨rfl, k4, h4⟩
  have p4 := k4.heap p3 hne
  have k4 := k3.trans k4
  clear k3 h3 p3
  go_wp2_with fail
  refine (H5.out _ h4).mono ?_
  rintro e w5 ⟨rfl, k5, h5⟩
  have p5 := k5.heap p4 hne
  have k5 := k4.trans k5
  clear k4 h4 p4
  have y0 : w5.cell? ⟨w.heap.size, 0, none⟩ = some (.string { data := #[] }) := cellRow p5 0
  have y1 : w5.cell? ⟨w.heap.size, 1, none⟩ = some (.string { data := #[] }) := cellRow p5 1
  have z0 : w5.frozen? ⟨w.heap.size, 0, none⟩ = false := freeRow p5 0
  have z1 : w5.frozen? ⟨w.heap.size, 1, none⟩ = false := freeRow p5 1
  have HK := Lib.hid ((k5.setNew ⟨w.heap.size, 0, none⟩ (Nat.le_refl _) (.string (bs n))).setNew ⟨w.heap.size, 1, none⟩ (Nat.le_refl _) (.string (bs v)))
  have HR : RO ((w5.setCell ⟨w.heap.size, 0, none⟩ (.string (bs n))).setCell ⟨w.heap.size, 1, none⟩ (.string (bs v))) b r5 := by
    unfold RO RQ at h5 ⊢
    rw [Below.heap_setCell _ _ _ _ (show b ≠ w.heap.size by omega), Below.heap_setCell _ _ _ _ (show b ≠ w.heap.size by omega)]
    exact h5
  have HR := Lib.hid HR
  have PX : ((w5.setCell ⟨w.heap.size, 0, none⟩ (.string (bs n))).setCell ⟨w.heap.size, 1, none⟩ (.string (bs v))).heap[w.heap.size]? = some (.cells #[.string (bs n), .string (bs v)] 56 (0, 0)) := by
    have := rowSet (rowSet p5 0 (.string (bs n))) 1 (.string (bs v))
    simpa using this
  clear k5 h5 p5
  go_wp2
  refine bodyPost_ret (results_cell_row rfl _ _ w.heap.size _ _ _ _ rfl PX Tryd.underlying56 rfl (by kernel_rfl)) rfl ?_
  exact ⟨rfl, HK.out, HR.out⟩
/-! ### An element -/
theorem Eb.kp {T : TypeId} {w w' : World} {b : Nat} {id : List UInt8} {v : Value} (h : Eb T w b id v) {S : List Nat} (k : Kp S w w') (hn : b ∉ S) : Eb T w' b id v := k.heap h hn
theorem OwnM.kp {w w' : World} {B : Nat} {T : TypeId} {v : Value} {xs : List Pm} (h : OwnM w B T v xs) {S : List Nat} (k : Kp S w w') (hS : ∀ x ∈ S, x < B) : OwnM w' B T v xs := own_kp h k hS
/-- What element hands back. -/
def ElPost (b : Nat) (r : Option (List UInt8)) (w : World) (e : Ending) (w' : World) : Prop :=
  ∃ po pc, e = .returned (.agg #[.string (bs (elP r).1.id), .slice po (elP r).1.ps.length pc]) ∧ RdP w' po (elP r).1.ps ∧ (∀ B', Prv w' B' 56 po) ∧ (∀ a, po = some a → w.heap.size ≤ a.block) ∧ Kp [b] w w' ∧ RO w' b (elP r).2
theorem Rl.pm {n : Nat} {r : Option (List UInt8)} (h : Rl n r) : Rl n (pmP r).2 := ((h.nmQ.mk1 61).mk1 34).va.mk1 34
theorem psP_go {k : Nat} {r : Option (List UInt8)} {t : List UInt8} (h : tk 32 r = some t) : psP (k + 1) r = ((pmP (some t)).1 :: (psP k (pmP (some t)).2).1, (psP k (pmP (some t)).2).2) := by
  simp only [psP, h]
theorem psP_stop {k : Nat} {r : Option (List UInt8)} (h : tk 32 r = none) : psP (k + 1) r = ([], r) := by
  simp only [psP, h]
def ErRel (b : Nat) (r1 : Option (List UInt8)) (w : World) (xb : Nat) (id : List UInt8) (g : Nat) (wr : World) : Prop :=
  ∃ acc r v, acc.length + g = 4097 ∧ psP 4097 r1 = (acc ++ (psP g r).1, (psP g r).2) ∧ Rl 1000000000 r ∧ RO wr b r ∧ Eb 30 wr xb id v ∧ OwnM wr (xb + 1) 56 v acc ∧ Eb 30 wr w.heap.size [] (.slice none 0 0) ∧ Kp [b] w wr
theorem kp_grown {S : List Nat} {a b c : World} {row : Option Nat} (h : Kp S a b) (k : b.grownBy c row) (hr : ∀ j, row = some j → a.heap.size ≤ j) : Kp S a c :=
  kp_bel h ((Below.refl a.heap.size b).grown k h.size hr) (Nat.le_refl _)
/-- What a world holds while element runs on. -/
def Wd (b : Nat) (w : World) (xb : Nat) (id : List UInt8) (v : Value) (q : Option (List UInt8)) (W : World) : Prop :=
  RO W b q ∧ Eb 30 W xb id v ∧ Eb 30 W w.heap.size [] (.slice none 0 0) ∧ Kp [b] w W
theorem Wd.alloc {b : Nat} {w : World} {xb : Nat} {id : List UInt8} {v : Value} {q : Option (List UInt8)} {W : World} (h : Wd b w xb id v q W) (o : Obj) : Wd b w xb id v q (W.alloc o) := by
  have a1 := alloc_in' W o
  exact ⟨(a1.block b (lt_of_block h.1)).trans h.1, h.2.1.below a1, h.2.2.1.below a1, h.2.2.2.alloc o⟩
theorem Wd.z {b : Nat} {w : World} {xb : Nat} {id : List UInt8} {v : Value} {q : Option (List UInt8)} {W : World} (h : Wd b w xb id v q W) : W.cell? ⟨xb, 1, none⟩ = some v := h.2.1.cells.2
theorem Wd.set {b : Nat} {w : World} {xb : Nat} {id : List UInt8} {v : Value} {q : Option (List UInt8)} {W : World} (h : Wd b w xb id v q W) (hwx : w.heap.size < xb) (hb : b < w.heap.size) (v' : Value) : Wd b w xb id v' q (W.setCell ⟨xb, 1, none⟩ v') := by
  refine ⟨?_, ?_, ?_, ?_⟩
  · exact (Below.heap_setCell _ _ _ _ (show b ≠ xb by omega)).trans h.1
  · have := rowSet h.2.1 1 v'
    simpa [Eb] using this
  · exact (Below.heap_setCell _ _ _ _ (show w.heap.size ≠ xb by omega)).trans h.2.2.1
  · exact h.2.2.2.setNew ⟨xb, 1, none⟩ (Nat.le_of_lt hwx) _
theorem appQ {o : Oper} {a : Act} {K : Act → World → Prop} {Q : Exit → Act → World → Prop} {W : World} {s x : Operand} (ho : o.op = .call { callee := .builtin .append, args := #[s, x], argTypes := #[28, 28] }) (v : Value) (hs : a.eval s = v)
    {b : Nat} {w : World} {xb : Nat} {id : List UInt8} {q : Option (List UInt8)} {xs : List Pm} (hown : OwnM W (xb + 1) 56 v xs) (hwx : w.heap.size < xb) (km : Nat) (hx : a.eval x = .slice (some ⟨km, 0, none⟩) 1 1) (y : Pm) (hm : W.heap[km]? = some (.cells #[.string (bs y.n), .string (bs y.v)] 56 (0, 0))) (hn : xs.length ≤ 1000000) (O : Wd b w xb id v q W)
    (h : ∀ (po : Option Addr) (cap : Nat) (w' : World), OwnM w' (xb + 1) 56 (.slice po (xs.length + 1) cap) (xs ++ [y]) → Wd b w xb id v q w' → w'.frozen? ⟨xb, 1, none⟩ = false → K (a.put o.dst (.slice po (xs.length + 1) cap)) w') : o.wp Tryd.prog a W K Q := by
  obtain ⟨i0, hi, hz0, hz1, hz2⟩ := info_parts info_pm
  obtain ⟨O1, O2, O3, O4⟩ := O
  have hxl : xb < W.heap.size := lt_of_block O2
  refine wp_append_own W s x 28 ho (xb + 1) 56 i0 (.agg #[.string .empty, .string .empty]) 2 32 Tryd.underlying28 hi hz0 hz1 hz2 rfl (by decide) v xs.length (prms xs) hs hown ⟨km, 0, none⟩ 1 1 (cellsP y) hx rfl ?_ ?_ (by unfold maxLen; omega) (by omega) (by omega) ?_
  · intro j u hj
    match j, hj with
    | 0, hj => simp [cellsP] at hj; subst hj; exact cellRow hm 0
    | 1, hj => simp [cellsP] at hj; subst hj; exact cellRow hm 1
    | j + 2, hj => simp [cellsP] at hj
  · intro u hu
    simp [cellsP] at hu
    rcases hu with rfl | rfl
    · rfl
    · rfl
  intro v' w' hown' hg _
  have ho2 : OwnM w' (xb + 1) 56 v' (xs ++ [y]) := OwnM.put (a := xs) (b := [y]) (by simpa [prms] using hown')
  obtain ⟨po, cap, hv, -⟩ := ho2.form
  rw [List.length_append, List.length_singleton] at hv
  subst hv
  have hT1 : 30 ≠ 56 := by decide
  have hT2 : 82 ≠ 56 := by decide
  have O2' : Eb 30 w' xb id v := owns_keep hown hg O2 hT1
  exact h po cap w' ho2 ⟨owns_keep hown hg O1 hT2, O2', owns_keep hown hg O3 hT1, kp_grown O4 hg (fun k hk => by have := (World.ownsRow.lt hown k hk).1; omega)⟩ O2'.free.2
set_option maxRecDepth 100000 in
set_option maxHeartbeats 2000000 in
theorem relement_walk (b : Nat) (r : Option (List UInt8)) (hs : Rl 1000000000 r) (w : World) (h : RO w b r) :
    Calls Tryd.prog 52 #[.pointer (some ⟨b, 0, none⟩)] w (ElPost b r w) := by
  obtain ⟨i0, hi, hz0, hz1, hz2⟩ := info_parts info_pm
  have HZ0 := Lib.hid hz0
  have HZ1 := Lib.hid hz1
  have HZ2 := Lib.hid hz2
  have H1 := Lib.hid (fun w1 h => rname_walk b r (hs.mono (by omega)) w1 h)
  have HS1 := Lib.hid hs.nmQ
  have HW := Lib.hid (show elP r = (⟨nmP (rst r), (psP 4097 (r.map nmQ)).1⟩, mk1 93 (psP 4097 (r.map nmQ)).2) from rfl)
  have hlt : b < w.heap.size := lt_of_block h
  have hne : w.heap.size ∉ [b] := by simp; omega
  have hq0 := Eb.new 30 w [] (.slice none 0 0)
  have a0 := alloc_in' w (.cells #[.string (bs []), .slice none 0 0] 30)
  have k0 : Kp [b] w _ := Kp.ofBelow a0 [b]
  have h0 : RO (w.alloc (.cells #[.string (bs []), .slice none 0 0] 30)) b r := (a0.block b hlt).trans h
  have hs0 : (w.alloc (.cells #[.string (bs []), .slice none 0 0] 30)).heap.size = w.heap.size + 1 := by simp
  obtain ⟨w0, hw0⟩ : ∃ w0, w.alloc (.cells #[.string (bs []), .slice none 0 0] 30) = w0 := ⟨_, rfl⟩
  rw [hw0] at hq0 k0 h0 hs0
  have HW0 := Lib.hid hw0
  have HS0 := Lib.hid hs0
  have hbe : bs [] = ({ data := #[] } : ByteArray) := rfl
  rw [hbe] at HW0
  clear hz0 hz1 hz2 hs hw0 hs0 hbe a0 h
  generalize r.map nmQ = r1 at *
  generalize nmP (rst r) = id at *
  go_enter Tryd.func52, Tryd.ntmps52
  go_wp2_with fail
  rw [HW0.out]
  refine (H1.out _ h0).mono ?_
  rintro e w1 ⟨rfl, k1, h1⟩
  have hq1 := hq0.kp k1 hne
  have HXS := Lib.hid (show w.heap.size < w1.heap.size by have := k1.size; have := HS0.out; omega)
  have k1 := k0.trans k1
  have hx1 := Eb.new 30 w1 id (.slice none 0 0)
  have a1 := alloc_in' w1 (.cells #[.string (bs id), .slice none 0 0] 30)
  have k2 := k1.trans (Kp.ofBelow a1 [b])
  have hq2 := hq1.below a1
  have h2 : RO _ b r1 := (a1.block b (lt_of_block h1)).trans h1
  clear k0 h0 hq0 hq1 k1 h1 a1
  go_wp2_with fail
  go_loopg [] 4097 (fun g wr => ErRel b r1 w w1.heap.size id g wr)
  case atStart => exact ⟨[], r1, .slice none 0 0, rfl, rfl, HS1.out, h2, hx1, OwnM.nil _ _ _, hq2, k2⟩
  case round =>
    obtain ⟨acc, q, v, hg, hps, hrl, hr, hx, ho, hq, hk⟩ := hrel
    have HG := Lib.hid hg
    have HO := Lib.hid ho
    have HX := Lib.hid hx
    have HQ := Lib.hid hq
    have HK := Lib.hid hk
    have HR := Lib.hid hr
    obtain ⟨po, pc, rfl, hrp, -, -, hpv, -⟩ := ho.form
    have HRP := Lib.hid hrp
    have HPV := Lib.hid hpv
    obtain ⟨x0, x1⟩ := hx.cells
    clear hx1 hq2 k2 h2 hg hr hx ho hq hk hrp hpv
    have HRL := Lib.hid hrl
    by_cases hk0 : gk = 0
    · subst hk0
      have hac : acc.length = 4097 := by have := HG.out; omega
      have hps2 : psP 4097 r1 = (acc, q) := by rw [hps]; simp [psP]
      have HE := Lib.hid (show (elP r).1 = ⟨id, acc⟩ ∧ (elP r).2 = mk1 93 q by rw [HW.out, hps2]; exact ⟨rfl, rfl⟩)
      have h46 : ¬ ((acc.length : Nat) : Int) ≤ 4096 := by omega
      have HM := Lib.hid (fun w1 h => rmark_walk b 93 q (hrl.mono (by omega)) w1 h)
      have r2 := HR.out
      have k2 := Kp.refl [b] wr
      clear hps hps2 hrl hac
      go_wp2_with fail
      refine (HM.out _ r2).mono ?_
      rintro e w3 ⟨rfl, k3, r3⟩
      have k3 := k2.trans k3
      have hxb : w1.heap.size ∉ [b] := by simp; intro e; have := HXS.out; omega
      have M3 : OwnM w3 (w1.heap.size + 1) 56 (.slice po acc.length pc) acc := OwnM.kp HO.out k3 (by intro x hx; simp at hx; have := HXS.out; omega)
      have E3 := HX.out.kp k3 hxb
      have Q3 := HQ.out.kp k3 hne
      have K3 := HK.out.trans k3
      obtain ⟨y0, y1⟩ := E3.cells
      obtain ⟨z0, z1⟩ := Q3.cells
      obtain ⟨f0, f1⟩ := Q3.free
      have hT : 30 ≠ 56 := by decide
      have Q4 := rowSet Q3 0 (.string (bs id))
      have Q5 := rowSet Q4 1 (.slice po acc.length pc)
      have M4 : OwnM (w3.setCell ⟨w.heap.size, 0, none⟩ (.string (bs id))) (w1.heap.size + 1) 56 (.slice po acc.length pc) acc := owns_set M3 Q3 hT 0 _
      have M5 : OwnM ((w3.setCell ⟨w.heap.size, 0, none⟩ (.string (bs id))).setCell ⟨w.heap.size, 1, none⟩ (.slice po acc.length pc)) (w1.heap.size + 1) 56 (.slice po acc.length pc) acc := owns_set M4 Q4 hT 1 _
      have K5 := (K3.setNew ⟨w.heap.size, 0, none⟩ (Nat.le_refl _) (.string (bs id))).setNew ⟨w.heap.size, 1, none⟩ (Nat.le_refl _) (.slice po acc.length pc)
      have R5 : RO ((w3.setCell ⟨w.heap.size, 0, none⟩ (.string (bs id))).setCell ⟨w.heap.size, 1, none⟩ (.slice po acc.length pc)) b (mk1 93 q) := by
        have hb : b ≠ w.heap.size := by omega
        exact (Below.heap_setCell _ _ _ _ hb).trans ((Below.heap_setCell _ _ _ _ hb).trans r3)
      have PX : ((w3.setCell ⟨w.heap.size, 0, none⟩ (.string (bs id))).setCell ⟨w.heap.size, 1, none⟩ (.slice po acc.length pc)).heap[w.heap.size]? = some (.cells #[.string (bs id), .slice po acc.length pc] 30 (0, 0)) := by simpa using Q5
      have HM5 := Lib.hid M5
      have HK5 := Lib.hid K5
      have HR5 := Lib.hid R5
      have hpb : ∀ a, po = some a → w.heap.size ≤ a.block := by
        obtain ⟨ao', cap', hv', _, _, _, _, hp'⟩ := M5.form
        injection hv' with hv' _ _
        subst hv'
        intro a ha
        rcases hp' with ⟨h0, _⟩ | ⟨g, h0, hg⟩
        · rw [h0] at ha; cases ha
        · rw [h0] at ha; injection ha with ha; subst ha; have := HXS.out; show w.heap.size ≤ g; omega
      have HPB := Lib.hid hpb
      clear M3 M4 M5 K3 K5 R5 k3 r3 k2 r2 E3 Q3 Q4 Q5 x0 x1 hpb
      go_wp2
      refine bodyPost_ret (results_cell_row rfl _ _ w.heap.size _ _ _ _ rfl PX Tryd.underlying30 rfl (by kernel_rfl)) rfl ?_
      obtain ⟨g1, g2⟩ := HM5.out.reads
      exact ⟨po, pc, by rw [HE.out.1], by rw [HE.out.1]; exact g1, g2, HPB.out, HK5.out, by rw [HE.out.2]; exact HR5.out⟩
    · obtain ⟨k, rfl⟩ : ∃ k, gk = k + 1 := ⟨gk - 1, by omega⟩
      have hac : ((acc.length : Nat) : Int) ≤ 4096 := by have := HG.out; omega
      have HT := Lib.hid (rtook_walk b 32 q (hrl.mono (by omega)) wr HR.out)
      cases ht : tk 32 q with
      | none =>
        have hps2 : psP 4097 r1 = (acc, q) := by rw [hps, psP_stop ht]; simp
        have HE := Lib.hid (show (elP r).1 = ⟨id, acc⟩ ∧ (elP r).2 = mk1 93 q by rw [HW.out, hps2]; exact ⟨rfl, rfl⟩)
        have HM := Lib.hid (fun w1 h => rmark_walk b 93 q (hrl.mono (by omega)) w1 h)
        have e1 : tkR 32 q = q := by unfold tkR; rw [ht]
        rw [ht, e1] at HT
        clear hps hps2 hrl ht e1
        go_wp2_with fail
        refine HT.out.mono ?_
        rintro e w2 ⟨rfl, k2, r2⟩
        go_wp2_with fail
        refine (HM.out _ r2).mono ?_
        rintro e w3 ⟨rfl, k3, r3⟩
        have k3 := k2.trans k3
        have hxb : w1.heap.size ∉ [b] := by simp; intro e; have := HXS.out; omega
        have M3 : OwnM w3 (w1.heap.size + 1) 56 (.slice po acc.length pc) acc := OwnM.kp HO.out k3 (by intro x hx; simp at hx; have := HXS.out; omega)
        have E3 := HX.out.kp k3 hxb
        have Q3 := HQ.out.kp k3 hne
        have K3 := HK.out.trans k3
        obtain ⟨y0, y1⟩ := E3.cells
        obtain ⟨z0, z1⟩ := Q3.cells
        obtain ⟨f0, f1⟩ := Q3.free
        have hT : 30 ≠ 56 := by decide
        have Q4 := rowSet Q3 0 (.string (bs id))
        have Q5 := rowSet Q4 1 (.slice po acc.length pc)
        have M4 : OwnM (w3.setCell ⟨w.heap.size, 0, none⟩ (.string (bs id))) (w1.heap.size + 1) 56 (.slice po acc.length pc) acc := owns_set M3 Q3 hT 0 _
        have M5 : OwnM ((w3.setCell ⟨w.heap.size, 0, none⟩ (.string (bs id))).setCell ⟨w.heap.size, 1, none⟩ (.slice po acc.length pc)) (w1.heap.size + 1) 56 (.slice po acc.length pc) acc := owns_set M4 Q4 hT 1 _
        have K5 := (K3.setNew ⟨w.heap.size, 0, none⟩ (Nat.le_refl _) (.string (bs id))).setNew ⟨w.heap.size, 1, none⟩ (Nat.le_refl _) (.slice po acc.length pc)
        have R5 : RO ((w3.setCell ⟨w.heap.size, 0, none⟩ (.string (bs id))).setCell ⟨w.heap.size, 1, none⟩ (.slice po acc.length pc)) b (mk1 93 q) := by
          have hb : b ≠ w.heap.size := by omega
          exact (Below.heap_setCell _ _ _ _ hb).trans ((Below.heap_setCell _ _ _ _ hb).trans r3)
        have PX : ((w3.setCell ⟨w.heap.size, 0, none⟩ (.string (bs id))).setCell ⟨w.heap.size, 1, none⟩ (.slice po acc.length pc)).heap[w.heap.size]? = some (.cells #[.string (bs id), .slice po acc.length pc] 30 (0, 0)) := by simpa using Q5
        have HM5 := Lib.hid M5
        have HK5 := Lib.hid K5
        have HR5 := Lib.hid R5
        have hpb : ∀ a, po = some a → w.heap.size ≤ a.block := by
          obtain ⟨ao', cap', hv', _, _, _, _, hp'⟩ := M5.form
          injection hv' with hv' _ _
          subst hv'
          intro a ha
          rcases hp' with ⟨h0, _⟩ | ⟨g, h0, hg⟩
          · rw [h0] at ha; cases ha
          · rw [h0] at ha; injection ha with ha; subst ha; have := HXS.out; show w.heap.size ≤ g; omega
        have HPB := Lib.hid hpb
        clear M3 M4 M5 K3 K5 R5 k3 r3 k2 r2 E3 Q3 Q4 Q5 x0 x1 hpb
        go_wp2
        refine bodyPost_ret (results_cell_row rfl _ _ w.heap.size _ _ _ _ rfl PX Tryd.underlying30 rfl (by kernel_rfl)) rfl ?_
        obtain ⟨g1, g2⟩ := HM5.out.reads
        exact ⟨po, pc, by rw [HE.out.1], by rw [HE.out.1]; exact g1, g2, HPB.out, HK5.out, by rw [HE.out.2]; exact HR5.out⟩
      | some t =>
        have hq2 : q = some (32 :: t) := tk_eq ht
        have hrl2 : Rl 1000000000 (some t) := by
          rw [hq2] at hrl
          have h' : (32 :: t : List UInt8).length ≤ 1000000000 := hrl
          simp only [List.length_cons] at h'
          show t.length ≤ 1000000000
          omega
        have hps2 : psP 4097 r1 = ((acc ++ [(pmP (some t)).1]) ++ (psP k (pmP (some t)).2).1, (psP k (pmP (some t)).2).2) := by
          rw [hps, psP_go ht]; simp
        have HPS := Lib.hid hps2
        have HP := Lib.hid (fun w1 h => rparam_walk b (some t) hrl2 w1 h)
        have HRP2 := Lib.hid hrl2.pm
        have e1 : tkR 32 q = some t := by unfold tkR; rw [ht]
        rw [ht, e1] at HT
        clear hps hps2 hrl2 hrl ht e1 hq2 hk0
        generalize (pmP (some t)).1 = p at *
        generalize (pmP (some t)).2 = q2 at *
        go_wp2_with fail
        refine HT.out.mono ?_
        rintro e w2 ⟨rfl, k2, h2⟩
        have hxb : w1.heap.size ∉ [b] := by simp; intro e; have := HXS.out; omega
        have O2 : Wd b w w1.heap.size id (.slice po acc.length pc) (some t) w2 := ⟨h2, HX.out.kp k2 hxb, HQ.out.kp k2 hne, HK.out.trans k2⟩
        have ho2 : OwnM w2 (w1.heap.size + 1) 56 (.slice po acc.length pc) acc := OwnM.kp HO.out k2 (by intro x hx; simp at hx; have := HXS.out; omega)
        have zS := O2.z
        have hwx := HXS.out
        have hn := hac
        have hn3 : acc.length ≤ 1000000 := by omega
        have HN := Lib.hid hn
        clear x0 x1 k2 h2 hac hn k1
        go_wp2_with fail
        refine wp_region_any (by kernel_rfl) ?_
        change wpAny _ _ _ _ _ _ _ (World.drew _)
        refine wpAny_take (i := 0) (v := .pointer (some ⟨w1.heap.size, 1, none⟩)) rfl (by kernel_rfl) (by kernel_rfl) (by kernel_rfl) (fun _ _ _ h => h) (Or.inl ⟨by rfl, ?_⟩) ?_
        · intro w9
          go_simp
        refine wpAny_take (i := 2) (v := .pointer (some ⟨b, 0, none⟩)) rfl (by kernel_rfl) (by kernel_rfl) (by kernel_rfl) (fun _ _ _ h => h) (Or.inl ⟨by rfl, ?_⟩) ?_
        · intro w9
          go_simp
        refine wpAny_ready (rs := [1, 3]) (by kernel_rfl) (by simp) (AllReady.cons rfl (fun K hK => ?_) (AllReady.cons rfl (fun K hK => ?_) AllReady.nil))
        · go_simp
          refine hK _ _ ?_
          clear hK K
          refine wpAny_ready (rs := [3]) (by kernel_rfl) (by simp) (AllReady.cons rfl (fun K hK => ?_) AllReady.nil)
          go_simp
          go_wp2_with (go_at_call 69; refine (HP.out _ ?_).mono ?_; exact O2.1; rintro e x1 ⟨rfl, k1, r1⟩)
          have O1 : Wd b w w1.heap.size id (.slice po acc.length pc) q2 x1 := ⟨r1, O2.2.1.kp (Kp.ofDrew k1) hxb, O2.2.2.1.kp (Kp.ofDrew k1) hne, O2.2.2.2.trans (Kp.ofDrew k1)⟩
          have zS1 := O1.z
          have ho1 : OwnM x1 (w1.heap.size + 1) 56 (.slice po acc.length pc) acc := OwnM.kp ho2 (Kp.ofDrew k1) (by intro x hx; simp at hx; omega)
          have O3 := O1.alloc (.cells #[.string (bs p.n), .string (bs p.v)] 56)
          have zS2 := O3.z
          have ho3 : OwnM (x1.alloc (.cells #[.string (bs p.n), .string (bs p.v)] 56)) (w1.heap.size + 1) 56 (.slice po acc.length pc) acc := ho1.below (alloc_in' _ _)
          have hm3 := rowNew x1 (.cells #[.string (bs p.n), .string (bs p.v)] 56)
          refine wpAny_ready (rs := [4]) (by kernel_rfl) (by simp) (AllReady.cons rfl (fun K hK => ?_) AllReady.nil)
          go_simp
          refine hK _ _ ?_
          clear hK K
          refine wpAny_ready (rs := [5]) (by kernel_rfl) (by simp) (AllReady.cons rfl (fun K hK => ?_) AllReady.nil)
          refine appQ rfl _ rfl ho3 hwx _ rfl p hm3 hn3 O3 ?_
          intro po4 cap4 x4 ho4 O4 f4
          refine hK _ _ ?_
          clear hK K
          refine wpAny_take (i := 6) (v := .pointer (some ⟨w1.heap.size, 1, none⟩)) rfl (by kernel_rfl) (by kernel_rfl) (by kernel_rfl) (fun _ _ _ h => h) (Or.inl ⟨by rfl, ?_⟩) ?_
          · intro w9
            go_simp
          have z4 := O4.z
          refine wpAny_ready (rs := [7]) (by kernel_rfl) (by simp) (AllReady.cons rfl (fun K hK => ?_) AllReady.nil)
          go_simp
          refine hK _ _ ?_
          clear hK K
          refine wpAny_done (by kernel_rfl) ?_ _
          have HO5 := Lib.hid (O4.set hwx hlt (.slice po4 (acc.length + 1) cap4))
          have HM5 := Lib.hid (show OwnM (x4.setCell ⟨w1.heap.size, 1, none⟩ (.slice po4 (acc.length + 1) cap4)) (w1.heap.size + 1) 56 (.slice po4 (acc.length + 1) cap4) (acc ++ [p]) from owns_set ho4 O4.2.1 (by decide) 1 _)
          clear z4 O4 ho4 f4 hm3 ho3 zS2 O3 ho1 zS1 O1 r1 k1 zS ho2 O2
          go_wp2
          go_roundg k
          case measure => omega
          case rel => exact ⟨acc ++ [p], q2, _, by have := HG.out; simp; omega, HPS.out, HRP2.out, HO5.out.1, HO5.out.2.1, HM5.out, HO5.out.2.2.1, HO5.out.2.2.2⟩
        · go_simp
          go_wp2_with (go_at_call 69; refine (HP.out _ ?_).mono ?_; exact O2.1; rintro e x1 ⟨rfl, k1, r1⟩)
          have O1 : Wd b w w1.heap.size id (.slice po acc.length pc) q2 x1 := ⟨r1, O2.2.1.kp (Kp.ofDrew k1) hxb, O2.2.2.1.kp (Kp.ofDrew k1) hne, O2.2.2.2.trans (Kp.ofDrew k1)⟩
          have zS1 := O1.z
          have ho1 : OwnM x1 (w1.heap.size + 1) 56 (.slice po acc.length pc) acc := OwnM.kp ho2 (Kp.ofDrew k1) (by intro x hx; simp at hx; omega)
          have O3 := O1.alloc (.cells #[.string (bs p.n), .string (bs p.v)] 56)
          have zS2 := O3.z
          have ho3 : OwnM (x1.alloc (.cells #[.string (bs p.n), .string (bs p.v)] 56)) (w1.heap.size + 1) 56 (.slice po acc.length pc) acc := ho1.below (alloc_in' _ _)
          have hm3 := rowNew x1 (.cells #[.string (bs p.n), .string (bs p.v)] 56)
          refine wpAny_ready (rs := [1, 4]) (by kernel_rfl) (by simp) (AllReady.cons rfl (fun K hK => ?_) (AllReady.cons rfl (fun K hK => ?_) AllReady.nil))
          · go_simp
            refine hK _ _ ?_
            clear hK K
            refine wpAny_ready (rs := [4]) (by kernel_rfl) (by simp) (AllReady.cons rfl (fun K hK => ?_) AllReady.nil)
            go_simp
            refine hK _ _ ?_
            clear hK K
            refine wpAny_ready (rs := [5]) (by kernel_rfl) (by simp) (AllReady.cons rfl (fun K hK => ?_) AllReady.nil)
            refine appQ rfl _ rfl ho3 hwx _ rfl p hm3 hn3 O3 ?_
            intro po4 cap4 x4 ho4 O4 f4
            refine hK _ _ ?_
            clear hK K
            refine wpAny_take (i := 6) (v := .pointer (some ⟨w1.heap.size, 1, none⟩)) rfl (by kernel_rfl) (by kernel_rfl) (by kernel_rfl) (fun _ _ _ h => h) (Or.inl ⟨by rfl, ?_⟩) ?_
            · intro w9
              go_simp
            have z4 := O4.z
            refine wpAny_ready (rs := [7]) (by kernel_rfl) (by simp) (AllReady.cons rfl (fun K hK => ?_) AllReady.nil)
            go_simp
            refine hK _ _ ?_
            clear hK K
            refine wpAny_done (by kernel_rfl) ?_ _
            have HO5 := Lib.hid (O4.set hwx hlt (.slice po4 (acc.length + 1) cap4))
            have HM5 := Lib.hid (show OwnM (x4.setCell ⟨w1.heap.size, 1, none⟩ (.slice po4 (acc.length + 1) cap4)) (w1.heap.size + 1) 56 (.slice po4 (acc.length + 1) cap4) (acc ++ [p]) from owns_set ho4 O4.2.1 (by decide) 1 _)
            clear z4 O4 ho4 f4 hm3 ho3 zS2 O3 ho1 zS1 O1 r1 k1 zS ho2 O2
            go_wp2
            go_roundg k
            case measure => omega
            case rel => exact ⟨acc ++ [p], q2, _, by have := HG.out; simp; omega, HPS.out, HRP2.out, HO5.out.1, HO5.out.2.1, HM5.out, HO5.out.2.2.1, HO5.out.2.2.2⟩
          · go_simp
            refine hK _ _ ?_
            clear hK K
            refine wpAny_ready (rs := [1]) (by kernel_rfl) (by simp) (AllReady.cons rfl (fun K hK => ?_) AllReady.nil)
            go_simp
            refine hK _ _ ?_
            clear hK K
            refine wpAny_ready (rs := [5]) (by kernel_rfl) (by simp) (AllReady.cons rfl (fun K hK => ?_) AllReady.nil)
            refine appQ rfl _ rfl ho3 hwx _ rfl p hm3 hn3 O3 ?_
            intro po4 cap4 x4 ho4 O4 f4
            refine hK _ _ ?_
            clear hK K
            refine wpAny_take (i := 6) (v := .pointer (some ⟨w1.heap.size, 1, none⟩)) rfl (by kernel_rfl) (by kernel_rfl) (by kernel_rfl) (fun _ _ _ h => h) (Or.inl ⟨by rfl, ?_⟩) ?_
            · intro w9
              go_simp
            have z4 := O4.z
            refine wpAny_ready (rs := [7]) (by kernel_rfl) (by simp) (AllReady.cons rfl (fun K hK => ?_) AllReady.nil)
            go_simp
            refine hK _ _ ?_
            clear hK K
            refine wpAny_done (by kernel_rfl) ?_ _
            have HO5 := Lib.hid (O4.set hwx hlt (.slice po4 (acc.length + 1) cap4))
            have HM5 := Lib.hid (show OwnM (x4.setCell ⟨w1.heap.size, 1, none⟩ (.slice po4 (acc.length + 1) cap4)) (w1.heap.size + 1) 56 (.slice po4 (acc.length + 1) cap4) (acc ++ [p]) from owns_set ho4 O4.2.1 (by decide) 1 _)
            clear z4 O4 ho4 f4 hm3 ho3 zS2 O3 ho1 zS1 O1 r1 k1 zS ho2 O2
            go_wp2
            go_roundg k
            case measure => omega
            case rel => exact ⟨acc ++ [p], q2, _, by have := HG.out; simp; omega, HPS.out, HRP2.out, HO5.out.1, HO5.out.2.1, HM5.out, HO5.out.2.2.1, HO5.out.2.2.2⟩
end Go.Proofs.YtonippapkmmkeaaDoor
