/- Texts on the program and on the document, joined: PaqL. -/
import Derived.Test.YtaeglmgpoboihaaGreatDoorMa20
import Derived.Test.YtaeglmgpoboihaaGreatDoorMa22
import Derived.Test.YtaeglmgpoboihaaGreatDoorMa13
/- The program's reader of rules: rule, walked. gen_paql.py writes it. -/
namespace Go.Proofs.YtaeglmgpoboihaaGreatDoor
open Go.ChangeShapes Go.WideShapes Go.ChangeAt Go.RowKit K L15 S3
open L14 (Tk)
set_option linter.unusedVariables false
namespace PQ
section
variable {w w' : World} {b q c B last : Nat} {T : List Tk} {ao bo : Option Addr} {cap : Nat} {s : Pi} {U V : TypeId} {v : Value} {rows : List (List Value)} {cs : Array Value} {fr : Nat × Nat}
theorem jotype2 (hi : JnR w b T ao cap last s) (hq : w.heap[q]? = some (.cells cs V fr)) (hU : U ≠ 58) (hV : U ≠ V) : ∀ x ∈ [b, q], ∀ ds fs, w.heap[x]? ≠ some (.cells ds U fs) := by
  intro x hx ds fs e
  rcases List.mem_cons.1 hx with rfl | hx
  · exact jotype hi hU _ (List.mem_singleton.2 rfl) _ _ e
  · have := List.mem_singleton.1 hx
    subst this
    rw [hq] at e
    injection e with e
    injection e with _ e
    exact hV e.symm
theorem jown_q (h : OwnR w B U c v rows) (hi : JnR w b T ao cap last s) (hq : w.heap[q]? = some (.cells cs V fr)) (hU : U ≠ 58) (hV : U ≠ V) (k : Kp [b, q] w w') : OwnR w' B U c v rows := h.kp k (jotype2 hi hq hU hV)
theorem jrd_q (h : RdRw w U c bo rows) (hi : JnR w b T ao cap last s) (hq : w.heap[q]? = some (.cells cs V fr)) (hU : U ≠ 58) (hV : U ≠ V) (k : Kp [b, q] w w') : RdRw w' U c bo rows := h.kp k (jotype2 hi hq hU hV)
theorem jsets_b {rs : List (List Value)} {ss : List St} (h : SetsR w rs ss) (hi : JnR w b T ao cap last s) (hU : 50 ≠ 58) (k : Kp [b] w w') : SetsR w' rs ss := h.keep fun _ _ x => jrd_b x hi hU k
theorem jsets_q {rs : List (List Value)} {ss : List St} (h : SetsR w rs ss) (hi : JnR w b T ao cap last s) (hq : w.heap[q]? = some (.cells cs V fr)) (hU : 50 ≠ 58) (hV : 50 ≠ V) (k : Kp [b, q] w w') : SetsR w' rs ss := h.keep fun _ _ x => jrd_q x hi hq hU hV k
end
theorem sign_bad {T : List Tk} {last : Nat} {t : List UInt8} {s : Pi} (h : s.bad ≠ none) : sign T last t s = s := by
  have hb : s.bad.isSome = true := by cases hx : s.bad with | none => exact absurd hx h | some l => rfl
  unfold sign L15.take at_
  rw [cur_bad hb]
  unfold fail
  cases hx : s.bad with
  | none => exact absurd hx h
  | some l => rfl
/-- A rule that was wrong at its sources stays so. -/
theorem rule_bad {T : List Tk} {last : Nat} {sf : Pi} (h : sf.bad ≠ none) (f : Nat) : (sign T last [125] (clauses T last f [] [] false (sign T last [123] sf)).2.2.2).bad ≠ none := by
  rw [sign_bad h, cl_stop (goOn_bad h), sign_bad h]
  exact h
def RyRel (w : World) (b : Nat) (T : List Tk) (ao : Option Addr) (cap last : Nat) (s1 : Pi) (vb qb : Nat) (nm : List UInt8) (ln : Nat) (fr : Int) (od : List UInt8) (wi : Bool) (g : Nat) (wr : World) : Prop :=
  ∃ (sx : Pi) (ts : List Ts) (ss : List St) (dr : Bool) (po : Option Addr) (pc : Nat) (qo : Option Addr) (qc : Nat) (rs : List (List Value)), clauses T last (T.length + 2) [] [] false s1 = clauses T last g ts ss dr sx ∧ (sx.bad = none → T.length + 2 ≤ g + sx.p) ∧ (ts.length ≤ sx.p ∧ ss.length ≤ sx.p ∧ rs.length = ss.length) ∧ JnP w b T ao cap last sx wr ∧ wr.heap[w.heap.size]? = some (.cells #[.string { data := #[] }, .int .i64 0, .int .i64 0, .string { data := #[] }, .bool false, .slice none 0 0, .slice none 0 0, .bool false] 38 (0, 0)) ∧ wr.heap[vb]? = some (.cells #[.string (bs nm), .int .i64 (ln : Nat), .int .i64 fr, .string (bs od), .bool wi, .slice po ts.length pc, .slice qo ss.length qc, .bool dr] 38 (0, 0)) ∧ wr.heap[qb]? = some (.cells #[.int .i64 (if dr then 1 else 0)] 3 (0, 0)) ∧ OwnR wr w.heap.size 83 3 (.slice po ts.length pc) (ts.map tsRow) ∧ OwnR wr w.heap.size 53 2 (.slice qo ss.length qc) rs ∧ SetsR wr rs ss
set_option maxRecDepth 100000 in
set_option maxHeartbeats 4000000 in
theorem prule_walk (b : Nat) (T : List Tk) (ao : Option Addr) (cap last : Nat) (s : Pi) (w : World) (h : JnR w b T ao cap last s) :
    Calls Tryz.prog 25 #[.pointer (some ⟨b, 0, none⟩)] w fun e w' => ∃ po pc qo qc rs fr, e = .returned (.agg #[.string (bs (rule T last (lnO T s : Nat) s).1.n), .int .i64 (rule T last (lnO T s : Nat) s).1.l, .int .i64 fr, .string (bs (rule T last (lnO T s : Nat) s).1.oid), .bool (rule T last (lnO T s : Nat) s).1.wi, .slice po (rule T last (lnO T s : Nat) s).1.ts.length pc, .slice qo (rule T last (lnO T s : Nat) s).1.ss.length qc, .bool (rule T last (lnO T s : Nat) s).1.dr]) ∧ RdRw w' 83 3 po ((rule T last (lnO T s : Nat) s).1.ts.map tsRow) ∧ RdRw w' 53 2 qo rs ∧ SetsR w' rs (rule T last (lnO T s : Nat) s).1.ss ∧ JnP w b T ao cap last (rule T last (lnO T s : Nat) s).2 w' ∧ ((rule T last (lnO T s : Nat) s).2.bad = none → fr = (rule T last (lnO T s : Nat) s).1.fr) := by
  have hlt := h.lt
  have a0 : Below w.heap.size w (w.alloc (.cells #[.string { data := #[] }, .int .i64 0, .int .i64 0, .string { data := #[] }, .bool false, .slice none 0 0, .slice none 0 0, .bool false] 38)) := (Below.refl _ _).alloc (Nat.le_refl _) _
  have Rr0 := rowNew w (.cells #[.string { data := #[] }, .int .i64 0, .int .i64 0, .string { data := #[] }, .bool false, .slice none 0 0, .slice none 0 0, .bool false] 38)
  have h0 := h.below a0
  have P0 : JnP w b T ao cap last s (w.alloc (.cells #[.string { data := #[] }, .int .i64 0, .int .i64 0, .string { data := #[] }, .bool false, .slice none 0 0, .slice none 0 0, .bool false] 38)) := ⟨h0, Kp.ofBelow a0 [b]⟩
  obtain ⟨w0, hw0⟩ : ∃ w0, w.alloc (.cells #[.string { data := #[] }, .int .i64 0, .int .i64 0, .string { data := #[] }, .bool false, .slice none 0 0, .slice none 0 0, .bool false] 38) = w0 := ⟨_, rfl⟩
  rw [hw0] at a0 Rr0 h0 P0
  have HW0 := Lib.hid hw0
  have Nr : w.heap.size ≠ b := by omega
  have Lr : w.heap.size ≤ w.heap.size := Nat.le_refl _
  have hTL := h.few.1
  have hq := h
  obtain ⟨vr, cr, hbr, -⟩ := hq
  have cl1 := cellRow hbr 1
  simp at cl1
  clear hbr
  generalize (lnO T s : Nat) = ln at *
  have HX := Lib.hid (show rule T last (ln : Nat) s = (⟨(take T last 1 [] s).1, (ln : Nat), (from_ T last (take T last 1 [] s).2).1, (from_ T last (take T last 1 [] s).2).2.1, (from_ T last (take T last 1 [] s).2).2.2.1, (clauses T last (T.length + 2) [] [] false (sign T last [123] (from_ T last (take T last 1 [] s).2).2.2.2)).1, (clauses T last (T.length + 2) [] [] false (sign T last [123] (from_ T last (take T last 1 [] s).2).2.2.2)).2.1, (clauses T last (T.length + 2) [] [] false (sign T last [123] (from_ T last (take T last 1 [] s).2).2.2.2)).2.2.1⟩, sign T last [125] (clauses T last (T.length + 2) [] [] false (sign T last [123] (from_ T last (take T last 1 [] s).2).2.2.2)).2.2.2) from rfl)
  have HB := Lib.hid (fun h => rule_bad (T := T) (last := last) (sf := (from_ T last (take T last 1 [] s).2).2.2.2) h (T.length + 2))
  have H1 := Lib.hid (fun w1 h1 => ptext_walk b T ao cap last s 1 w1 h1)
  have H2 := Lib.hid (fun w1 h1 h2 => pfrom_walk b (w.heap.size + 1) T ao cap last (take T last 1 [] s).2 (take T last 1 [] s).1 (ln : Nat) w1 (by omega) h1 h2)
  have H3 := Lib.hid (fun w1 h1 => psign_walk b T ao cap last (from_ T last (take T last 1 [] s).2).2.2.2 123 (by decide) w1 h1)
  rw [show bs [123] = ({ data := #[123] } : ByteArray) from rfl] at H3
  unfold ruC at H2
  generalize (sign T last [123] (from_ T last (take T last 1 [] s).2).2.2.2) = s1 at *
  generalize (from_ T last (take T last 1 [] s).2).2.2.2 = sf at *
  generalize (from_ T last (take T last 1 [] s).2).2.2.1 = wi at *
  generalize (from_ T last (take T last 1 [] s).2).2.1 = od at *
  generalize (from_ T last (take T last 1 [] s).2).1 = fr0 at *
  generalize (take T last 1 [] s).1 = nm at *
  generalize (take T last 1 [] s).2 = s0 at *
  clear h a0 h0 hw0
  go_enter Tryz.func25, Tryz.ntmps25
  have a1 : Below w0.heap.size w0 (w0.alloc (.cells #[.string { data := #[] }, .int .i64 (ln : Nat), .int .i64 0, .string { data := #[] }, .bool false, .slice none 0 0, .slice none 0 0, .bool false] 38)) := (Below.refl _ _).alloc (Nat.le_refl _) _
  have Rv1 := rowNew w0 (.cells #[.string { data := #[] }, .int .i64 (ln : Nat), .int .i64 0, .string { data := #[] }, .bool false, .slice none 0 0, .slice none 0 0, .bool false] 38)
  have Rr1 := (a1.block w.heap.size (lt_of_block Rr0)).trans Rr0
  have P1 : JnP w b T _ cap last _ (w0.alloc (.cells #[.string { data := #[] }, .int .i64 (ln : Nat), .int .i64 0, .string { data := #[] }, .bool false, .slice none 0 0, .slice none 0 0, .bool false] 38)) := ⟨P0.1.below a1, P0.2.alloc _⟩
  have Lv : w.heap.size ≤ w0.heap.size := P0.2.size
  have Mv : b < w0.heap.size := by omega
  have Nv : w0.heap.size ≠ b := by omega
  obtain ⟨v1, hv1⟩ : ∃ zz, w0.alloc (.cells #[.string { data := #[] }, .int .i64 (ln : Nat), .int .i64 0, .string { data := #[] }, .bool false, .slice none 0 0, .slice none 0 0, .bool false] 38) = zz := ⟨_, rfl⟩
  rw [hv1] at a1 Rv1 Rr1 P1
  have HV1 := Lib.hid hv1
  clear hv1
  have hsz : w0.heap.size = w.heap.size + 1 := by rw [← HW0.out]; exact Array.size_push _
  rw [hsz] at Rv1 Lv Mv Nv
  clear hsz
  have Drv : w.heap.size ≠ w.heap.size + 1 := by omega
  go_wp2_with fail
  rw [HW0.out, HV1.out]
  refine (H1.out _ P1.1).mono ?_
  rintro e w2 ⟨rfl, p2⟩
  have Rr2 := kp_row16 p2.2 Rr1 Nr
  have Rv2 := kp_row16 p2.2 Rv1 Nv
  have P2 := JnP.then P1.2 p2
  clear p2 P1 Rr1 Rv1 cl1 P0 a1
  have yv0_3 : World.cell? _ ⟨(w.heap.size + 1), 0, none⟩ = some (.string { data := #[] }) := cellRow Rv2 0
  have fv0_3 := freeRow Rv2 0
  have P3 := jnp_new P2 Lv Mv 0 (.string (bs nm))
  have Rr3 := (Below.heap_setCell _ ⟨(w.heap.size + 1), 0, none⟩ (.string (bs nm)) _ (Drv)).trans Rr2
  have Rv3 := row_to (B := #[.string (bs nm), .int .i64 (ln : Nat), .int .i64 0, .string { data := #[] }, .bool false, .slice none 0 0, .slice none 0 0, .bool false]) (rowSet Rv2 0 (.string (bs nm))) rfl
  go_wp2_with fail
  refine (H2.out _ P3.1 Rv3).mono ?_
  rintro e w4 ⟨rfl, jq4, fr, nq4, hfr⟩
  have Rr4 := kq_row jq4.2 Rr3 Nr Drv
  have Rv4 : w4.heap[(w.heap.size + 1)]? = some (.cells #[.string (bs nm), .int .i64 (ln : Nat), .int .i64 fr, .string (bs od), .bool wi, .slice none 0 0, .slice none 0 0, .bool false] 38 (0, 0)) := nq4
  have P4 := JnQ.own P3 jq4 Lv
  clear jq4 P3 Rr3 Rv3 nq4 yv0_3 fv0_3 P2 Rr2 Rv2
  have HFR := Lib.hid hfr
  clear hfr
  go_wp2_with fail
  refine (H3.out _ P4.1).mono ?_
  rintro e w5 ⟨rfl, p5⟩
  have Rr5 := kp_row16 p5.2 Rr4 Nr
  have Rv5 := kp_row16 p5.2 Rv4 Nv
  have P5 := JnP.then P4.2 p5
  clear p5 P4 Rr4 Rv4
  have Drq : w.heap.size ≠ w5.heap.size := by have := lt_of_block Rr5; omega
  have Dvq : w.heap.size + 1 ≠ w5.heap.size := by have := lt_of_block Rv5; omega
  have a6 : Below w5.heap.size w5 (w5.alloc (.cells #[.int .i64 0] 3)) := (Below.refl _ _).alloc (Nat.le_refl _) _
  have Rq6 := rowNew w5 (.cells #[.int .i64 0] 3)
  have Rr6 := (a6.block w.heap.size (lt_of_block Rr5)).trans Rr5
  have Rv6 := (a6.block (w.heap.size + 1) (lt_of_block Rv5)).trans Rv5
  have P6 : JnP w b T _ cap last _ (w5.alloc (.cells #[.int .i64 0] 3)) := ⟨P5.1.below a6, P5.2.alloc _⟩
  have Lq : w.heap.size ≤ w5.heap.size := P5.2.size
  have Mq : b < w5.heap.size := by omega
  have Nq : w5.heap.size ≠ b := by omega
  obtain ⟨v6, hv6⟩ : ∃ zz, w5.alloc (.cells #[.int .i64 0] 3) = zz := ⟨_, rfl⟩
  rw [hv6] at a6 Rq6 Rr6 Rv6 P6
  have HV6 := Lib.hid hv6
  clear hv6
  have HRv := Lib.hid Rv6
  have HRr := Lib.hid Rr6
  have HRq := Lib.hid Rq6
  have HP := Lib.hid P6
  clear Rv6 Rr6 Rq6 P6
  clear Rr5 Rv5 P5 a6
  go_wp2_with fail
  rw [HV6.out]
  go_loopg [] (T.length + 2) (fun g wr => RyRel w b T ao cap last s1 (w.heap.size + 1) (w5.heap.size) nm ln fr od wi g wr)
  case atStart => exact ⟨s1, [], [], false, none, 0, none, 0, [], rfl, fun _ => by omega, ⟨by simp, by simp, rfl⟩, HP.out, HRr.out, HRv.out, HRq.out, OwnR.nil _ _ _ _, OwnR.nil _ _ _ _, trivial⟩
  case round =>
    obtain ⟨sx, ts, ss, dr, po, pc, qo, qc, rs, hk, hg, ⟨hac1, hac2, hac3⟩, P5, Rr5, Rv5, Rq5, Ot5, Oq5, Oz5⟩ := hrel
    have HK := Lib.hid hk
    have hpl : sx.p ≤ T.length := P5.1.few.2
    have G1 := Lib.hid (fun w1 h1 => pinside_walk b T ao cap last sx w1 h1)
    clear hk HP HRv HRr HRq
    cases hgo : goOn T sx with
    | false =>
      rw [hgo] at G1
      simp only [Bool.false_eq_true, if_false] at G1
      rw [cl_stop hgo] at HK
      have HY := Lib.hid (show rule T last (ln : Nat) s = (⟨nm, (ln : Nat), fr0, od, wi, ts, ss, dr⟩, sign T last [125] sx) by rw [HX.out, HK.out])
      have HBF := Lib.hid (show (sign T last [125] sx).bad = none → fr = fr0 from fun he => by
        by_cases hsf : sf.bad = none
        · exact HFR.out hsf
        · have := HB.out hsf
          rw [HK.out] at this
          exact absurd he this)
      clear hgo HX HK hg hac1 hac2 hac3 hpl HB HFR
      go_wp2_with fail
      refine (G1.out _ P5.1).mono ?_
      rintro e w30 ⟨rfl, p30⟩
      have Rr30 := kp_row16 p30.2 Rr5 Nr
      have Rv30 := kp_row16 p30.2 Rv5 Nv
      have Rq30 := kp_row16 p30.2 Rq5 Nq
      have Ot30 := jown_b Ot5 P5.1 (by decide) p30.2
      have Oq30 := jown_b Oq5 P5.1 (by decide) p30.2
      have Oz30 := jsets_b Oz5 P5.1 (by decide) p30.2
      have P30 := JnP.then P5.2 p30
      clear p30 P5 Rr5 Rv5 Rq5 Ot5 Oq5 Oz5
      have yv0_31 : World.cell? _ ⟨(w.heap.size + 1), 0, none⟩ = some (.string (bs nm)) := cellRow Rv30 0
      have fv0_31 := freeRow Rv30 0
      have yv1_31 : World.cell? _ ⟨(w.heap.size + 1), 1, none⟩ = some (.int .i64 (ln : Nat)) := cellRow Rv30 1
      have fv1_31 := freeRow Rv30 1
      have yv2_31 : World.cell? _ ⟨(w.heap.size + 1), 2, none⟩ = some (.int .i64 fr) := cellRow Rv30 2
      have fv2_31 := freeRow Rv30 2
      have yv3_31 : World.cell? _ ⟨(w.heap.size + 1), 3, none⟩ = some (.string (bs od)) := cellRow Rv30 3
      have fv3_31 := freeRow Rv30 3
      have yv4_31 : World.cell? _ ⟨(w.heap.size + 1), 4, none⟩ = some (.bool wi) := cellRow Rv30 4
      have fv4_31 := freeRow Rv30 4
      have yv5_31 : World.cell? _ ⟨(w.heap.size + 1), 5, none⟩ = some (.slice po ts.length pc) := cellRow Rv30 5
      have fv5_31 := freeRow Rv30 5
      have yv6_31 : World.cell? _ ⟨(w.heap.size + 1), 6, none⟩ = some (.slice qo ss.length qc) := cellRow Rv30 6
      have fv6_31 := freeRow Rv30 6
      have yv7_31 : World.cell? _ ⟨(w.heap.size + 1), 7, none⟩ = some (.bool dr) := cellRow Rv30 7
      have fv7_31 := freeRow Rv30 7
      have yr0_31 : World.cell? _ ⟨w.heap.size, 0, none⟩ = some (.string { data := #[] }) := cellRow Rr30 0
      have fr0_31 := freeRow Rr30 0
      have yr1_31 : World.cell? _ ⟨w.heap.size, 1, none⟩ = some (.int .i64 0) := cellRow Rr30 1
      have fr1_31 := freeRow Rr30 1
      have yr2_31 : World.cell? _ ⟨w.heap.size, 2, none⟩ = some (.int .i64 0) := cellRow Rr30 2
      have fr2_31 := freeRow Rr30 2
      have yr3_31 : World.cell? _ ⟨w.heap.size, 3, none⟩ = some (.string { data := #[] }) := cellRow Rr30 3
      have fr3_31 := freeRow Rr30 3
      have yr4_31 : World.cell? _ ⟨w.heap.size, 4, none⟩ = some (.bool false) := cellRow Rr30 4
      have fr4_31 := freeRow Rr30 4
      have yr5_31 : World.cell? _ ⟨w.heap.size, 5, none⟩ = some (.slice none 0 0) := cellRow Rr30 5
      have fr5_31 := freeRow Rr30 5
      have yr6_31 : World.cell? _ ⟨w.heap.size, 6, none⟩ = some (.slice none 0 0) := cellRow Rr30 6
      have fr6_31 := freeRow Rr30 6
      have yr7_31 : World.cell? _ ⟨w.heap.size, 7, none⟩ = some (.bool false) := cellRow Rr30 7
      have fr7_31 := freeRow Rr30 7
      have QP := Lib.hid (jnp_new (jnp_new (jnp_new (jnp_new (jnp_new (jnp_new (jnp_new (jnp_new P30 Lr hlt 0 (.string (bs nm))) Lr hlt 1 (.int .i64 (ln : Nat))) Lr hlt 2 (.int .i64 fr)) Lr hlt 3 (.string (bs od))) Lr hlt 4 (.bool wi)) Lr hlt 5 (.slice po ts.length pc)) Lr hlt 6 (.slice qo ss.length qc)) Lr hlt 7 (.bool dr))
      have QOt := Lib.hid ((((((((Ot30.set Rr30 (by decide) 0 (.string (bs nm))).set (rowSet Rr30 0 (.string (bs nm))) (by decide) 1 (.int .i64 (ln : Nat))).set (rowSet (rowSet Rr30 0 (.string (bs nm))) 1 (.int .i64 (ln : Nat))) (by decide) 2 (.int .i64 fr)).set (rowSet (rowSet (rowSet Rr30 0 (.string (bs nm))) 1 (.int .i64 (ln : Nat))) 2 (.int .i64 fr)) (by decide) 3 (.string (bs od))).set (rowSet (rowSet (rowSet (rowSet Rr30 0 (.string (bs nm))) 1 (.int .i64 (ln : Nat))) 2 (.int .i64 fr)) 3 (.string (bs od))) (by decide) 4 (.bool wi)).set (rowSet (rowSet (rowSet (rowSet (rowSet Rr30 0 (.string (bs nm))) 1 (.int .i64 (ln : Nat))) 2 (.int .i64 fr)) 3 (.string (bs od))) 4 (.bool wi)) (by decide) 5 (.slice po ts.length pc)).set (rowSet (rowSet (rowSet (rowSet (rowSet (rowSet Rr30 0 (.string (bs nm))) 1 (.int .i64 (ln : Nat))) 2 (.int .i64 fr)) 3 (.string (bs od))) 4 (.bool wi)) 5 (.slice po ts.length pc)) (by decide) 6 (.slice qo ss.length qc)).set (rowSet (rowSet (rowSet (rowSet (rowSet (rowSet (rowSet Rr30 0 (.string (bs nm))) 1 (.int .i64 (ln : Nat))) 2 (.int .i64 fr)) 3 (.string (bs od))) 4 (.bool wi)) 5 (.slice po ts.length pc)) 6 (.slice qo ss.length qc)) (by decide) 7 (.bool dr))
      have QOq := Lib.hid ((((((((Oq30.set Rr30 (by decide) 0 (.string (bs nm))).set (rowSet Rr30 0 (.string (bs nm))) (by decide) 1 (.int .i64 (ln : Nat))).set (rowSet (rowSet Rr30 0 (.string (bs nm))) 1 (.int .i64 (ln : Nat))) (by decide) 2 (.int .i64 fr)).set (rowSet (rowSet (rowSet Rr30 0 (.string (bs nm))) 1 (.int .i64 (ln : Nat))) 2 (.int .i64 fr)) (by decide) 3 (.string (bs od))).set (rowSet (rowSet (rowSet (rowSet Rr30 0 (.string (bs nm))) 1 (.int .i64 (ln : Nat))) 2 (.int .i64 fr)) 3 (.string (bs od))) (by decide) 4 (.bool wi)).set (rowSet (rowSet (rowSet (rowSet (rowSet Rr30 0 (.string (bs nm))) 1 (.int .i64 (ln : Nat))) 2 (.int .i64 fr)) 3 (.string (bs od))) 4 (.bool wi)) (by decide) 5 (.slice po ts.length pc)).set (rowSet (rowSet (rowSet (rowSet (rowSet (rowSet Rr30 0 (.string (bs nm))) 1 (.int .i64 (ln : Nat))) 2 (.int .i64 fr)) 3 (.string (bs od))) 4 (.bool wi)) 5 (.slice po ts.length pc)) (by decide) 6 (.slice qo ss.length qc)).set (rowSet (rowSet (rowSet (rowSet (rowSet (rowSet (rowSet Rr30 0 (.string (bs nm))) 1 (.int .i64 (ln : Nat))) 2 (.int .i64 fr)) 3 (.string (bs od))) 4 (.bool wi)) 5 (.slice po ts.length pc)) 6 (.slice qo ss.length qc)) (by decide) 7 (.bool dr))
      have QOz := Lib.hid ((((((((Oz30.set Rr30 (by decide) 0 (.string (bs nm))).set (rowSet Rr30 0 (.string (bs nm))) (by decide) 1 (.int .i64 (ln : Nat))).set (rowSet (rowSet Rr30 0 (.string (bs nm))) 1 (.int .i64 (ln : Nat))) (by decide) 2 (.int .i64 fr)).set (rowSet (rowSet (rowSet Rr30 0 (.string (bs nm))) 1 (.int .i64 (ln : Nat))) 2 (.int .i64 fr)) (by decide) 3 (.string (bs od))).set (rowSet (rowSet (rowSet (rowSet Rr30 0 (.string (bs nm))) 1 (.int .i64 (ln : Nat))) 2 (.int .i64 fr)) 3 (.string (bs od))) (by decide) 4 (.bool wi)).set (rowSet (rowSet (rowSet (rowSet (rowSet Rr30 0 (.string (bs nm))) 1 (.int .i64 (ln : Nat))) 2 (.int .i64 fr)) 3 (.string (bs od))) 4 (.bool wi)) (by decide) 5 (.slice po ts.length pc)).set (rowSet (rowSet (rowSet (rowSet (rowSet (rowSet Rr30 0 (.string (bs nm))) 1 (.int .i64 (ln : Nat))) 2 (.int .i64 fr)) 3 (.string (bs od))) 4 (.bool wi)) 5 (.slice po ts.length pc)) (by decide) 6 (.slice qo ss.length qc)).set (rowSet (rowSet (rowSet (rowSet (rowSet (rowSet (rowSet Rr30 0 (.string (bs nm))) 1 (.int .i64 (ln : Nat))) 2 (.int .i64 fr)) 3 (.string (bs od))) 4 (.bool wi)) 5 (.slice po ts.length pc)) 6 (.slice qo ss.length qc)) (by decide) 7 (.bool dr))
      have PX := row_to (B := #[.string (bs nm), .int .i64 (ln : Nat), .int .i64 fr, .string (bs od), .bool wi, .slice po ts.length pc, .slice qo ss.length qc, .bool dr]) (rowSet (rowSet (rowSet (rowSet (rowSet (rowSet (rowSet (rowSet Rr30 0 (.string (bs nm))) 1 (.int .i64 (ln : Nat))) 2 (.int .i64 fr)) 3 (.string (bs od))) 4 (.bool wi)) 5 (.slice po ts.length pc)) 6 (.slice qo ss.length qc)) 7 (.bool dr)) rfl
      clear P30 Rv30 Rr30 Ot30 Oq30 Oz30
      go_wp2
      refine bodyPost_ret (results_cell_row rfl _ _ (w.heap.size) _ _ _ _ rfl PX Tryz.underlying38 rfl (by kernel_rfl)) rfl ?_
      rw [HY.out]
      obtain ⟨ao8, cap8, hv8, -, hrd8, -⟩ := QOt.out.form (by decide)
      obtain ⟨ao9, cap9, hv9, -, hrd9, -⟩ := QOq.out.form (by decide)
      rw [List.length_map] at hv8
      injection hv8 with hv8 _ hv8b
      injection hv9 with hv9 _ hv9b
      subst hv8
      subst hv9
      exact ⟨_, _, _, _, rs, fr, rfl, hrd8, hrd9, QOz.out, QP.out, HBF.out⟩
    | true =>
      rw [hgo] at G1
      simp only [if_true] at G1
      have hbad : sx.bad = none := by
        cases hb : sx.bad with
        | none => rfl
        | some l => rw [goOn_bad (by rw [hb]; simp)] at hgo; cases hgo
      obtain ⟨G, rfl⟩ : ∃ G, gk = G + 1 := ⟨gk - 1, by have := hg hbad; omega⟩
      have hgG := hg hbad
      have G2 := Lib.hid (fun w1 h1 => pword_walk b T ao cap last sx wTest (by decide) w1 h1)
      rw [show bs wTest = ({ data := #[116, 101, 115, 116] } : ByteArray) from rfl] at G2
      have hnx : (nx sx).p = sx.p + 1 := rfl
      clear hg hbad
      cases ht : at_ T sx 1 wTest with
      | true =>
        rw [word_yes ht] at G2
        rw [cl_test hgo ht, test1_is] at HK
        have htp := test_p T last (nx sx)
        rw [test1_is] at htp
        have G3 := Lib.hid (fun w1 h1 => ptest_walk b T ao cap last (nx sx) w1 h1)
        have G7 := Lib.hid (fun w1 h1 => psign_walk b T ao cap last (test1 T last (nx sx)).2 59 (by decide) w1 h1)
        rw [show bs [59] = ({ data := #[59] } : ByteArray) from rfl] at G7
        unfold PQ.testC at G3
        simp only at HK htp
        generalize (sign T last [59] (test1 T last (nx sx)).2) = s5 at *
        generalize (test1 T last (nx sx)).1 = x at *
        generalize (test1 T last (nx sx)).2 = s4 at *
        clear ht hgo HX
        go_wp2_with fail
        refine (G1.out _ P5.1).mono ?_
        rintro e w30 ⟨rfl, p30⟩
        have Rr30 := kp_row16 p30.2 Rr5 Nr
        have Rv30 := kp_row16 p30.2 Rv5 Nv
        have Rq30 := kp_row16 p30.2 Rq5 Nq
        have Ot30 := jown_b Ot5 P5.1 (by decide) p30.2
        have Oq30 := jown_b Oq5 P5.1 (by decide) p30.2
        have Oz30 := jsets_b Oz5 P5.1 (by decide) p30.2
        have P30 := JnP.then P5.2 p30
        clear p30 P5 Rr5 Rv5 Rq5 Ot5 Oq5 Oz5
        go_wp2_with fail
        refine (G2.out _ P30.1).mono ?_
        rintro e w31 ⟨rfl, p31⟩
        have Rr31 := kp_row16 p31.2 Rr30 Nr
        have Rv31 := kp_row16 p31.2 Rv30 Nv
        have Rq31 := kp_row16 p31.2 Rq30 Nq
        have Ot31 := jown_b Ot30 P30.1 (by decide) p31.2
        have Oq31 := jown_b Oq30 P30.1 (by decide) p31.2
        have Oz31 := jsets_b Oz30 P30.1 (by decide) p31.2
        have P31 := JnP.then P30.2 p31
        clear p31 P30 Rr30 Rv30 Rq30 Ot30 Oq30 Oz30
        go_wp2_with fail
        refine wp_region_any (by kernel_rfl) ?_
        change wpAny _ _ _ _ _ _ _ (World.drew _)
        have Pd : JnP w b T _ cap last _ (World.drew _) := JnP.drew P31
        have Rrd : (World.drew _).heap[w.heap.size]? = _ := Rr31
        have Rvd : (World.drew _).heap[(w.heap.size + 1)]? = _ := Rv31
        have Rqd : (World.drew _).heap[w5.heap.size]? = _ := Rq31
        have Otd := Ot31.below (show Below _ _ (World.drew _) from ⟨rfl, rfl, rfl, Nat.le_refl _, fun _ _ => rfl⟩)
        have Oqd := Oq31.below (show Below _ _ (World.drew _) from ⟨rfl, rfl, rfl, Nat.le_refl _, fun _ _ => rfl⟩)
        have Ozd := Oz31.below (show Below _ _ (World.drew _) from ⟨rfl, rfl, rfl, Nat.le_refl _, fun _ _ => rfl⟩)
        have zS : World.cell? (World.drew _) ⟨(w.heap.size + 1), 5, none⟩ = some (.slice po ts.length pc) := cellRow Rvd 5
        refine wpAny_take (i := 0) (v := .pointer (some ⟨(w.heap.size + 1), 5, none⟩)) rfl (by kernel_rfl) (by kernel_rfl) (by kernel_rfl) (fun _ _ _ h => h) (Or.inl ⟨by rfl, ?_⟩) ?_
        · intro w9
          go_simp
        refine wpAny_take (i := 2) (v := .pointer (some ⟨b, 0, none⟩)) rfl (by kernel_rfl) (by kernel_rfl) (by kernel_rfl) (fun _ _ _ h => h) (Or.inl ⟨by rfl, ?_⟩) ?_
        · intro w9
          go_simp
        refine wpAny_ready (rs := [1, 3]) (by kernel_rfl) (by simp) (AllReady.cons rfl (fun K hK => ?_) (AllReady.cons rfl (fun K hK => ?_) AllReady.nil))
        · go_simp
          refine hK _ _ ?_
          clear hK K
          refine wpAny_ready (rs := [3]) (by kernel_rfl) (by simp) (AllReady.cons rfl (fun K hK => ?_) AllReady.nil)
          go_simp
          go_wp2_with (go_at_call 51; refine (G3.out _ Pd.1).mono ?_; rintro e x1 ⟨rfl, p9⟩)
          have P1 := JnP.then Pd.2 p9
          have Rr1 := kp_row16 p9.2 Rrd Nr
          have Rv1 := kp_row16 p9.2 Rvd Nv
          have Rq1 := kp_row16 p9.2 Rqd Nq
          have Ot1 := jown_b Otd Pd.1 (by decide) p9.2
          have Oq1 := jown_b Oqd Pd.1 (by decide) p9.2
          have Oz1 := jsets_b Ozd Pd.1 (by decide) p9.2
          have zS1 : World.cell? x1 ⟨(w.heap.size + 1), 5, none⟩ = some (.slice po ts.length pc) := cellRow Rv1 5
          have a2 : Below x1.heap.size x1 (x1.alloc (.cells #[.string (bs x.f), .string (bs x.g), .bool x.n] 83)) := (Below.refl _ _).alloc (Nat.le_refl _) _
          have P2 := P1.alloc (.cells #[.string (bs x.f), .string (bs x.g), .bool x.n] 83)
          have B2 : w.heap.size ≤ (x1.alloc (.cells #[.string (bs x.f), .string (bs x.g), .bool x.n] 83)).heap.size := P2.2.size
          have X2 := rowNew x1 (.cells #[.string (bs x.f), .string (bs x.g), .bool x.n] 83)
          have Rr2 := (a2.block (w.heap.size) (lt_of_block Rr1)).trans Rr1
          have Rv2 := (a2.block ((w.heap.size + 1)) (lt_of_block Rv1)).trans Rv1
          have Rq2 := (a2.block (w5.heap.size) (lt_of_block Rq1)).trans Rq1
          have Ot2 := Ot1.below a2
          have Oq2 := Oq1.below a2
          have Oz2 := Oz1.below a2
          have zS2 : World.cell? (x1.alloc (.cells #[.string (bs x.f), .string (bs x.g), .bool x.n] 83)) ⟨(w.heap.size + 1), 5, none⟩ = some (.slice po ts.length pc) := cellRow Rv2 5
          refine wpAny_ready (rs := [4]) (by kernel_rfl) (by simp) (AllReady.cons rfl (fun K hK => ?_) AllReady.nil)
          go_simp
          refine hK _ _ ?_
          clear hK K
          refine wpAny_ready (rs := [5]) (by kernel_rfl) (by simp) (AllReady.cons rfl (fun K hK => ?_) AllReady.nil)
          refine appRw (fr := (0, 0)) rfl Tryz.underlying35 tsinfo rfl (by decide) (by decide) _ rfl Ot2 x1.heap.size [.string (bs x.f), .string (bs x.g), .bool x.n] rfl X2 rfl rfl (by intro u hu; simp at hu; rcases hu with rfl | rfl | rfl <;> rfl) (by simp; omega) B2 ?_
          intro v3 x3 m3 g3
          have P3 := JnP.grown P2 g3 Ot2.1 (Nat.le_refl _) hlt
          have Rr3 := row_grown Rr2 g3 Ot2.1 (by decide)
          have Rv3 := row_grown Rv2 g3 Ot2.1 (by decide)
          have Rq3 := row_grown Rq2 g3 Ot2.1 (by decide)
          have Oq3 := Oq2.grown g3 Ot2.1 (by decide)
          have Oz3 := Oz2.grown g3 Ot2.1 (by decide)
          obtain ⟨ao3, cap3, hv3, -⟩ := m3.form (by decide)
          rw [show (ts.map tsRow ++ [[Value.string (bs x.f), Value.string (bs x.g), Value.bool x.n]]).length = ts.length + 1 by simp] at hv3
          subst hv3
          refine hK _ _ ?_
          clear hK K
          refine wpAny_take (i := 6) (v := .pointer (some ⟨(w.heap.size + 1), 5, none⟩)) rfl (by kernel_rfl) (by kernel_rfl) (by kernel_rfl) (fun _ _ _ h => h) (Or.inl ⟨by rfl, ?_⟩) ?_
          · intro w9
            go_simp
          have z3 : World.cell? x3 ⟨(w.heap.size + 1), 5, none⟩ = some (.slice po ts.length pc) := cellRow Rv3 5
          have f3 := freeRow Rv3 5
          refine wpAny_ready (rs := [7]) (by kernel_rfl) (by simp) (AllReady.cons rfl (fun K hK => ?_) AllReady.nil)
          go_simp
          refine hK _ _ ?_
          clear hK K
          refine wpAny_done (by kernel_rfl) ?_ _
          have Q4 := Lib.hid (jnp_new P3 Lv Mv 5 (.slice ao3 (ts.length + 1) cap3))
          have Sr := Lib.hid ((Below.heap_setCell _ ⟨(w.heap.size + 1), 5, none⟩ (.slice ao3 (ts.length + 1) cap3) _ (Drv)).trans Rr3)
          have Sv := Lib.hid (row_to (B := #[.string (bs nm), .int .i64 (ln : Nat), .int .i64 fr, .string (bs od), .bool wi, .slice ao3 (ts.length + 1) cap3, .slice qo ss.length qc, .bool dr]) (rowSet Rv3 5 (.slice ao3 (ts.length + 1) cap3)) rfl)
          have Sq := Lib.hid ((Below.heap_setCell _ ⟨(w.heap.size + 1), 5, none⟩ (.slice ao3 (ts.length + 1) cap3) _ (Dvq.symm)).trans Rq3)
          have SO := Lib.hid (m3.set Rv3 (by decide) 5 (.slice ao3 (ts.length + 1) cap3))
          have SOq := Lib.hid (Oq3.set Rv3 (by decide) 5 (.slice ao3 (ts.length + 1) cap3))
          have SOz := Lib.hid (Oz3.set Rv3 (by decide) 5 (.slice ao3 (ts.length + 1) cap3))
          clear P3 m3 g3 z3 f3 Rr3 Rv3 Rq3 Oq3 Oz3 
          go_wp2_with fail
          refine (G7.out _ Q4.out.1).mono ?_
          rintro e w8 ⟨rfl, p8⟩
          have Q8 := Lib.hid (JnP.then Q4.out.2 p8)
          have Tr := Lib.hid (kp_row16 p8.2 Sr.out Nr)
          have Tv := Lib.hid (kp_row16 p8.2 Sv.out Nv)
          have Tq := Lib.hid (kp_row16 p8.2 Sq.out Nq)
          have TO := Lib.hid (jown_b SO.out Q4.out.1 (by decide) p8.2)
          have TOq := Lib.hid (jown_b SOq.out Q4.out.1 (by decide) p8.2)
          have TOz := Lib.hid (jsets_b SOz.out Q4.out.1 (by decide) p8.2)
          clear p8
          go_wp2
          go_roundg G
          case measure => omega
          case rel => exact ⟨s5, ts ++ [x], ss, dr, _, _, _, _, rs, HK.out, fun _ => by omega, ⟨by rw [List.length_append]; simp; omega, by omega, hac3⟩, Q8.out, Tr.out, (by have := Tv.out; rw [List.length_append]; exact this), Tq.out, by have := TO.out; rw [List.length_append, List.map_append]; exact this, TOq.out, TOz.out⟩
        · go_simp
          go_wp2_with (go_at_call 51; refine (G3.out _ Pd.1).mono ?_; rintro e x1 ⟨rfl, p9⟩)
          have P1 := JnP.then Pd.2 p9
          have Rr1 := kp_row16 p9.2 Rrd Nr
          have Rv1 := kp_row16 p9.2 Rvd Nv
          have Rq1 := kp_row16 p9.2 Rqd Nq
          have Ot1 := jown_b Otd Pd.1 (by decide) p9.2
          have Oq1 := jown_b Oqd Pd.1 (by decide) p9.2
          have Oz1 := jsets_b Ozd Pd.1 (by decide) p9.2
          have zS1 : World.cell? x1 ⟨(w.heap.size + 1), 5, none⟩ = some (.slice po ts.length pc) := cellRow Rv1 5
          have a2 : Below x1.heap.size x1 (x1.alloc (.cells #[.string (bs x.f), .string (bs x.g), .bool x.n] 83)) := (Below.refl _ _).alloc (Nat.le_refl _) _
          have P2 := P1.alloc (.cells #[.string (bs x.f), .string (bs x.g), .bool x.n] 83)
          have B2 : w.heap.size ≤ (x1.alloc (.cells #[.string (bs x.f), .string (bs x.g), .bool x.n] 83)).heap.size := P2.2.size
          have X2 := rowNew x1 (.cells #[.string (bs x.f), .string (bs x.g), .bool x.n] 83)
          have Rr2 := (a2.block (w.heap.size) (lt_of_block Rr1)).trans Rr1
          have Rv2 := (a2.block ((w.heap.size + 1)) (lt_of_block Rv1)).trans Rv1
          have Rq2 := (a2.block (w5.heap.size) (lt_of_block Rq1)).trans Rq1
          have Ot2 := Ot1.below a2
          have Oq2 := Oq1.below a2
          have Oz2 := Oz1.below a2
          have zS2 : World.cell? (x1.alloc (.cells #[.string (bs x.f), .string (bs x.g), .bool x.n] 83)) ⟨(w.heap.size + 1), 5, none⟩ = some (.slice po ts.length pc) := cellRow Rv2 5
          refine wpAny_ready (rs := [1, 4]) (by kernel_rfl) (by simp) (AllReady.cons rfl (fun K hK => ?_) (AllReady.cons rfl (fun K hK => ?_) AllReady.nil))
          · go_simp
            refine hK _ _ ?_
            clear hK K
            refine wpAny_ready (rs := [4]) (by kernel_rfl) (by simp) (AllReady.cons rfl (fun K hK => ?_) AllReady.nil)
            go_simp
            refine hK _ _ ?_
            clear hK K
            refine wpAny_ready (rs := [5]) (by kernel_rfl) (by simp) (AllReady.cons rfl (fun K hK => ?_) AllReady.nil)
            refine appRw (fr := (0, 0)) rfl Tryz.underlying35 tsinfo rfl (by decide) (by decide) _ rfl Ot2 x1.heap.size [.string (bs x.f), .string (bs x.g), .bool x.n] rfl X2 rfl rfl (by intro u hu; simp at hu; rcases hu with rfl | rfl | rfl <;> rfl) (by simp; omega) B2 ?_
            intro v3 x3 m3 g3
            have P3 := JnP.grown P2 g3 Ot2.1 (Nat.le_refl _) hlt
            have Rr3 := row_grown Rr2 g3 Ot2.1 (by decide)
            have Rv3 := row_grown Rv2 g3 Ot2.1 (by decide)
            have Rq3 := row_grown Rq2 g3 Ot2.1 (by decide)
            have Oq3 := Oq2.grown g3 Ot2.1 (by decide)
            have Oz3 := Oz2.grown g3 Ot2.1 (by decide)
            obtain ⟨ao3, cap3, hv3, -⟩ := m3.form (by decide)
            rw [show (ts.map tsRow ++ [[Value.string (bs x.f), Value.string (bs x.g), Value.bool x.n]]).length = ts.length + 1 by simp] at hv3
            subst hv3
            refine hK _ _ ?_
            clear hK K
            refine wpAny_take (i := 6) (v := .pointer (some ⟨(w.heap.size + 1), 5, none⟩)) rfl (by kernel_rfl) (by kernel_rfl) (by kernel_rfl) (fun _ _ _ h => h) (Or.inl ⟨by rfl, ?_⟩) ?_
            · intro w9
              go_simp
            have z3 : World.cell? x3 ⟨(w.heap.size + 1), 5, none⟩ = some (.slice po ts.length pc) := cellRow Rv3 5
            have f3 := freeRow Rv3 5
            refine wpAny_ready (rs := [7]) (by kernel_rfl) (by simp) (AllReady.cons rfl (fun K hK => ?_) AllReady.nil)
            go_simp
            refine hK _ _ ?_
            clear hK K
            refine wpAny_done (by kernel_rfl) ?_ _
            have Q4 := Lib.hid (jnp_new P3 Lv Mv 5 (.slice ao3 (ts.length + 1) cap3))
            have Sr := Lib.hid ((Below.heap_setCell _ ⟨(w.heap.size + 1), 5, none⟩ (.slice ao3 (ts.length + 1) cap3) _ (Drv)).trans Rr3)
            have Sv := Lib.hid (row_to (B := #[.string (bs nm), .int .i64 (ln : Nat), .int .i64 fr, .string (bs od), .bool wi, .slice ao3 (ts.length + 1) cap3, .slice qo ss.length qc, .bool dr]) (rowSet Rv3 5 (.slice ao3 (ts.length + 1) cap3)) rfl)
            have Sq := Lib.hid ((Below.heap_setCell _ ⟨(w.heap.size + 1), 5, none⟩ (.slice ao3 (ts.length + 1) cap3) _ (Dvq.symm)).trans Rq3)
            have SO := Lib.hid (m3.set Rv3 (by decide) 5 (.slice ao3 (ts.length + 1) cap3))
            have SOq := Lib.hid (Oq3.set Rv3 (by decide) 5 (.slice ao3 (ts.length + 1) cap3))
            have SOz := Lib.hid (Oz3.set Rv3 (by decide) 5 (.slice ao3 (ts.length + 1) cap3))
            clear P3 m3 g3 z3 f3 Rr3 Rv3 Rq3 Oq3 Oz3 
            go_wp2_with fail
            refine (G7.out _ Q4.out.1).mono ?_
            rintro e w8 ⟨rfl, p8⟩
            have Q8 := Lib.hid (JnP.then Q4.out.2 p8)
            have Tr := Lib.hid (kp_row16 p8.2 Sr.out Nr)
            have Tv := Lib.hid (kp_row16 p8.2 Sv.out Nv)
            have Tq := Lib.hid (kp_row16 p8.2 Sq.out Nq)
            have TO := Lib.hid (jown_b SO.out Q4.out.1 (by decide) p8.2)
            have TOq := Lib.hid (jown_b SOq.out Q4.out.1 (by decide) p8.2)
            have TOz := Lib.hid (jsets_b SOz.out Q4.out.1 (by decide) p8.2)
            clear p8
            go_wp2
            go_roundg G
            case measure => omega
            case rel => exact ⟨s5, ts ++ [x], ss, dr, _, _, _, _, rs, HK.out, fun _ => by omega, ⟨by rw [List.length_append]; simp; omega, by omega, hac3⟩, Q8.out, Tr.out, (by have := Tv.out; rw [List.length_append]; exact this), Tq.out, by have := TO.out; rw [List.length_append, List.map_append]; exact this, TOq.out, TOz.out⟩
          · go_simp
            refine hK _ _ ?_
            clear hK K
            refine wpAny_ready (rs := [1]) (by kernel_rfl) (by simp) (AllReady.cons rfl (fun K hK => ?_) AllReady.nil)
            go_simp
            refine hK _ _ ?_
            clear hK K
            refine wpAny_ready (rs := [5]) (by kernel_rfl) (by simp) (AllReady.cons rfl (fun K hK => ?_) AllReady.nil)
            refine appRw (fr := (0, 0)) rfl Tryz.underlying35 tsinfo rfl (by decide) (by decide) _ rfl Ot2 x1.heap.size [.string (bs x.f), .string (bs x.g), .bool x.n] rfl X2 rfl rfl (by intro u hu; simp at hu; rcases hu with rfl | rfl | rfl <;> rfl) (by simp; omega) B2 ?_
            intro v3 x3 m3 g3
            have P3 := JnP.grown P2 g3 Ot2.1 (Nat.le_refl _) hlt
            have Rr3 := row_grown Rr2 g3 Ot2.1 (by decide)
            have Rv3 := row_grown Rv2 g3 Ot2.1 (by decide)
            have Rq3 := row_grown Rq2 g3 Ot2.1 (by decide)
            have Oq3 := Oq2.grown g3 Ot2.1 (by decide)
            have Oz3 := Oz2.grown g3 Ot2.1 (by decide)
            obtain ⟨ao3, cap3, hv3, -⟩ := m3.form (by decide)
            rw [show (ts.map tsRow ++ [[Value.string (bs x.f), Value.string (bs x.g), Value.bool x.n]]).length = ts.length + 1 by simp] at hv3
            subst hv3
            refine hK _ _ ?_
            clear hK K
            refine wpAny_take (i := 6) (v := .pointer (some ⟨(w.heap.size + 1), 5, none⟩)) rfl (by kernel_rfl) (by kernel_rfl) (by kernel_rfl) (fun _ _ _ h => h) (Or.inl ⟨by rfl, ?_⟩) ?_
            · intro w9
              go_simp
            have z3 : World.cell? x3 ⟨(w.heap.size + 1), 5, none⟩ = some (.slice po ts.length pc) := cellRow Rv3 5
            have f3 := freeRow Rv3 5
            refine wpAny_ready (rs := [7]) (by kernel_rfl) (by simp) (AllReady.cons rfl (fun K hK => ?_) AllReady.nil)
            go_simp
            refine hK _ _ ?_
            clear hK K
            refine wpAny_done (by kernel_rfl) ?_ _
            have Q4 := Lib.hid (jnp_new P3 Lv Mv 5 (.slice ao3 (ts.length + 1) cap3))
            have Sr := Lib.hid ((Below.heap_setCell _ ⟨(w.heap.size + 1), 5, none⟩ (.slice ao3 (ts.length + 1) cap3) _ (Drv)).trans Rr3)
            have Sv := Lib.hid (row_to (B := #[.string (bs nm), .int .i64 (ln : Nat), .int .i64 fr, .string (bs od), .bool wi, .slice ao3 (ts.length + 1) cap3, .slice qo ss.length qc, .bool dr]) (rowSet Rv3 5 (.slice ao3 (ts.length + 1) cap3)) rfl)
            have Sq := Lib.hid ((Below.heap_setCell _ ⟨(w.heap.size + 1), 5, none⟩ (.slice ao3 (ts.length + 1) cap3) _ (Dvq.symm)).trans Rq3)
            have SO := Lib.hid (m3.set Rv3 (by decide) 5 (.slice ao3 (ts.length + 1) cap3))
            have SOq := Lib.hid (Oq3.set Rv3 (by decide) 5 (.slice ao3 (ts.length + 1) cap3))
            have SOz := Lib.hid (Oz3.set Rv3 (by decide) 5 (.slice ao3 (ts.length + 1) cap3))
            clear P3 m3 g3 z3 f3 Rr3 Rv3 Rq3 Oq3 Oz3 
            go_wp2_with fail
            refine (G7.out _ Q4.out.1).mono ?_
            rintro e w8 ⟨rfl, p8⟩
            have Q8 := Lib.hid (JnP.then Q4.out.2 p8)
            have Tr := Lib.hid (kp_row16 p8.2 Sr.out Nr)
            have Tv := Lib.hid (kp_row16 p8.2 Sv.out Nv)
            have Tq := Lib.hid (kp_row16 p8.2 Sq.out Nq)
            have TO := Lib.hid (jown_b SO.out Q4.out.1 (by decide) p8.2)
            have TOq := Lib.hid (jown_b SOq.out Q4.out.1 (by decide) p8.2)
            have TOz := Lib.hid (jsets_b SOz.out Q4.out.1 (by decide) p8.2)
            clear p8
            go_wp2
            go_roundg G
            case measure => omega
            case rel => exact ⟨s5, ts ++ [x], ss, dr, _, _, _, _, rs, HK.out, fun _ => by omega, ⟨by rw [List.length_append]; simp; omega, by omega, hac3⟩, Q8.out, Tr.out, (by have := Tv.out; rw [List.length_append]; exact this), Tq.out, by have := TO.out; rw [List.length_append, List.map_append]; exact this, TOq.out, TOz.out⟩
      | false =>
        rw [word_no ht] at G2
        have G4 := Lib.hid (fun w1 h1 => pword_walk b T ao cap last sx wSet (by decide) w1 h1)
        rw [show bs wSet = ({ data := #[115, 101, 116] } : ByteArray) from rfl] at G4
        cases hs : at_ T sx 1 wSet with
        | true =>
          rw [word_yes hs] at G4
          rw [cl_set hgo ht hs, set1_is] at HK
          have htp := set_p T last (nx sx)
          rw [set1_is] at htp
          have G3 := Lib.hid (fun w1 h1 => pset_walk b T ao cap last (nx sx) w1 h1)
          have G7 := Lib.hid (fun w1 h1 => psign_walk b T ao cap last (set1 T last (nx sx)).2 59 (by decide) w1 h1)
          rw [show bs [59] = ({ data := #[59] } : ByteArray) from rfl] at G7
          simp only at HK htp
          generalize (sign T last [59] (set1 T last (nx sx)).2) = s5 at *
          generalize (set1 T last (nx sx)).1 = x at *
          generalize (set1 T last (nx sx)).2 = s4 at *
          clear ht hs hgo HX
          go_wp2_with fail
          refine (G1.out _ P5.1).mono ?_
          rintro e w30 ⟨rfl, p30⟩
          have Rr30 := kp_row16 p30.2 Rr5 Nr
          have Rv30 := kp_row16 p30.2 Rv5 Nv
          have Rq30 := kp_row16 p30.2 Rq5 Nq
          have Ot30 := jown_b Ot5 P5.1 (by decide) p30.2
          have Oq30 := jown_b Oq5 P5.1 (by decide) p30.2
          have Oz30 := jsets_b Oz5 P5.1 (by decide) p30.2
          have P30 := JnP.then P5.2 p30
          clear p30 P5 Rr5 Rv5 Rq5 Ot5 Oq5 Oz5
          go_wp2_with fail
          refine (G2.out _ P30.1).mono ?_
          rintro e w31 ⟨rfl, p31⟩
          have Rr31 := kp_row16 p31.2 Rr30 Nr
          have Rv31 := kp_row16 p31.2 Rv30 Nv
          have Rq31 := kp_row16 p31.2 Rq30 Nq
          have Ot31 := jown_b Ot30 P30.1 (by decide) p31.2
          have Oq31 := jown_b Oq30 P30.1 (by decide) p31.2
          have Oz31 := jsets_b Oz30 P30.1 (by decide) p31.2
          have P31 := JnP.then P30.2 p31
          clear p31 P30 Rr30 Rv30 Rq30 Ot30 Oq30 Oz30
          go_wp2_with fail
          refine (G4.out _ P31.1).mono ?_
          rintro e w32 ⟨rfl, p32⟩
          have Rr32 := kp_row16 p32.2 Rr31 Nr
          have Rv32 := kp_row16 p32.2 Rv31 Nv
          have Rq32 := kp_row16 p32.2 Rq31 Nq
          have Ot32 := jown_b Ot31 P31.1 (by decide) p32.2
          have Oq32 := jown_b Oq31 P31.1 (by decide) p32.2
          have Oz32 := jsets_b Oz31 P31.1 (by decide) p32.2
          have P32 := JnP.then P31.2 p32
          clear p32 P31 Rr31 Rv31 Rq31 Ot31 Oq31 Oz31
          go_wp2_with fail
          refine wp_region_any (by kernel_rfl) ?_
          change wpAny _ _ _ _ _ _ _ (World.drew _)
          have Pd : JnP w b T _ cap last _ (World.drew _) := JnP.drew P32
          have Rrd : (World.drew _).heap[w.heap.size]? = _ := Rr32
          have Rvd : (World.drew _).heap[(w.heap.size + 1)]? = _ := Rv32
          have Rqd : (World.drew _).heap[w5.heap.size]? = _ := Rq32
          have Otd := Ot32.below (show Below _ _ (World.drew _) from ⟨rfl, rfl, rfl, Nat.le_refl _, fun _ _ => rfl⟩)
          have Oqd := Oq32.below (show Below _ _ (World.drew _) from ⟨rfl, rfl, rfl, Nat.le_refl _, fun _ _ => rfl⟩)
          have Ozd := Oz32.below (show Below _ _ (World.drew _) from ⟨rfl, rfl, rfl, Nat.le_refl _, fun _ _ => rfl⟩)
          have zS : World.cell? (World.drew _) ⟨(w.heap.size + 1), 6, none⟩ = some (.slice qo ss.length qc) := cellRow Rvd 6
          refine wpAny_take (i := 0) (v := .pointer (some ⟨(w.heap.size + 1), 6, none⟩)) rfl (by kernel_rfl) (by kernel_rfl) (by kernel_rfl) (fun _ _ _ h => h) (Or.inl ⟨by rfl, ?_⟩) ?_
          · intro w9
            go_simp
          refine wpAny_take (i := 2) (v := .pointer (some ⟨b, 0, none⟩)) rfl (by kernel_rfl) (by kernel_rfl) (by kernel_rfl) (fun _ _ _ h => h) (Or.inl ⟨by rfl, ?_⟩) ?_
          · intro w9
            go_simp
          refine wpAny_ready (rs := [1, 3]) (by kernel_rfl) (by simp) (AllReady.cons rfl (fun K hK => ?_) (AllReady.cons rfl (fun K hK => ?_) AllReady.nil))
          · go_simp
            refine hK _ _ ?_
            clear hK K
            refine wpAny_ready (rs := [3]) (by kernel_rfl) (by simp) (AllReady.cons rfl (fun K hK => ?_) AllReady.nil)
            go_simp
            go_wp2_with (go_at_call 52; refine (G3.out _ Pd.1).mono ?_; rintro e x1 ⟨xo, xc, rfl, rd, p9⟩)
            have P1 := JnP.then Pd.2 p9
            have Rr1 := kp_row16 p9.2 Rrd Nr
            have Rv1 := kp_row16 p9.2 Rvd Nv
            have Rq1 := kp_row16 p9.2 Rqd Nq
            have Ot1 := jown_b Otd Pd.1 (by decide) p9.2
            have Oq1 := jown_b Oqd Pd.1 (by decide) p9.2
            have Oz1 := jsets_b Ozd Pd.1 (by decide) p9.2
            have zS1 : World.cell? x1 ⟨(w.heap.size + 1), 6, none⟩ = some (.slice qo ss.length qc) := cellRow Rv1 6
            have a2 : Below x1.heap.size x1 (x1.alloc (.cells #[.string (bs x.n), .slice xo x.ps.length xc] 53)) := (Below.refl _ _).alloc (Nat.le_refl _) _
            have P2 := P1.alloc (.cells #[.string (bs x.n), .slice xo x.ps.length xc] 53)
            have B2 : w.heap.size ≤ (x1.alloc (.cells #[.string (bs x.n), .slice xo x.ps.length xc] 53)).heap.size := P2.2.size
            have X2 := rowNew x1 (.cells #[.string (bs x.n), .slice xo x.ps.length xc] 53)
            have Rr2 := (a2.block (w.heap.size) (lt_of_block Rr1)).trans Rr1
            have Rv2 := (a2.block ((w.heap.size + 1)) (lt_of_block Rv1)).trans Rv1
            have Rq2 := (a2.block (w5.heap.size) (lt_of_block Rq1)).trans Rq1
            have Ot2 := Ot1.below a2
            have Oq2 := Oq1.below a2
            have Oz2 := Oz1.below a2
            have rd2 := rd.below a2
            have zS2 : World.cell? (x1.alloc (.cells #[.string (bs x.n), .slice xo x.ps.length xc] 53)) ⟨(w.heap.size + 1), 6, none⟩ = some (.slice qo ss.length qc) := cellRow Rv2 6
            refine wpAny_ready (rs := [4]) (by kernel_rfl) (by simp) (AllReady.cons rfl (fun K hK => ?_) AllReady.nil)
            go_simp
            refine hK _ _ ?_
            clear hK K
            refine wpAny_ready (rs := [5]) (by kernel_rfl) (by simp) (AllReady.cons rfl (fun K hK => ?_) AllReady.nil)
            refine appRw (fr := (0, 0)) rfl Tryz.underlying36 stinfo rfl (by decide) (by decide) _ rfl Oq2 x1.heap.size [.string (bs x.n), .slice xo x.ps.length xc] rfl X2 rfl rfl (by intro u hu; simp at hu; rcases hu with rfl | rfl <;> rfl) (by omega) B2 ?_
            intro v3 x3 m3 g3
            have P3 := JnP.grown P2 g3 Oq2.1 (Nat.le_refl _) hlt
            have Rr3 := row_grown Rr2 g3 Oq2.1 (by decide)
            have Rv3 := row_grown Rv2 g3 Oq2.1 (by decide)
            have Rq3 := row_grown Rq2 g3 Oq2.1 (by decide)
            have Ot3 := Ot2.grown g3 Oq2.1 (by decide)
            have Oz3 := Oz2.grown g3 Oq2.1 (by decide)
            have rd3 := rd2.grown g3 Oq2.1 (by decide)
            obtain ⟨ao3, cap3, hv3, -⟩ := m3.form (by decide)
            rw [show (rs ++ [[Value.string (bs x.n), Value.slice xo x.ps.length xc]]).length = ss.length + 1 by simp; exact hac3] at hv3
            subst hv3
            refine hK _ _ ?_
            clear hK K
            refine wpAny_take (i := 6) (v := .pointer (some ⟨(w.heap.size + 1), 6, none⟩)) rfl (by kernel_rfl) (by kernel_rfl) (by kernel_rfl) (fun _ _ _ h => h) (Or.inl ⟨by rfl, ?_⟩) ?_
            · intro w9
              go_simp
            have z3 : World.cell? x3 ⟨(w.heap.size + 1), 6, none⟩ = some (.slice qo ss.length qc) := cellRow Rv3 6
            have f3 := freeRow Rv3 6
            refine wpAny_ready (rs := [7]) (by kernel_rfl) (by simp) (AllReady.cons rfl (fun K hK => ?_) AllReady.nil)
            go_simp
            refine hK _ _ ?_
            clear hK K
            refine wpAny_done (by kernel_rfl) ?_ _
            have Q4 := Lib.hid (jnp_new P3 Lv Mv 6 (.slice ao3 (ss.length + 1) cap3))
            have Sr := Lib.hid ((Below.heap_setCell _ ⟨(w.heap.size + 1), 6, none⟩ (.slice ao3 (ss.length + 1) cap3) _ (Drv)).trans Rr3)
            have Sv := Lib.hid (row_to (B := #[.string (bs nm), .int .i64 (ln : Nat), .int .i64 fr, .string (bs od), .bool wi, .slice po ts.length pc, .slice ao3 (ss.length + 1) cap3, .bool dr]) (rowSet Rv3 6 (.slice ao3 (ss.length + 1) cap3)) rfl)
            have Sq := Lib.hid ((Below.heap_setCell _ ⟨(w.heap.size + 1), 6, none⟩ (.slice ao3 (ss.length + 1) cap3) _ (Dvq.symm)).trans Rq3)
            have SO := Lib.hid (m3.set Rv3 (by decide) 6 (.slice ao3 (ss.length + 1) cap3))
            have SOt := Lib.hid (Ot3.set Rv3 (by decide) 6 (.slice ao3 (ss.length + 1) cap3))
            have SOz := Lib.hid (Oz3.set Rv3 (by decide) 6 (.slice ao3 (ss.length + 1) cap3))
            have Srd := Lib.hid (rd3.set Rv3 (by decide) 6 (.slice ao3 (ss.length + 1) cap3))
            clear P3 m3 g3 z3 f3 Rr3 Rv3 Rq3 Ot3 Oz3 rd3
            go_wp2_with fail
            refine (G7.out _ Q4.out.1).mono ?_
            rintro e w8 ⟨rfl, p8⟩
            have Q8 := Lib.hid (JnP.then Q4.out.2 p8)
            have Tr := Lib.hid (kp_row16 p8.2 Sr.out Nr)
            have Tv := Lib.hid (kp_row16 p8.2 Sv.out Nv)
            have Tq := Lib.hid (kp_row16 p8.2 Sq.out Nq)
            have TO := Lib.hid (jown_b SO.out Q4.out.1 (by decide) p8.2)
            have TOt := Lib.hid (jown_b SOt.out Q4.out.1 (by decide) p8.2)
            have TOz := Lib.hid (jsets_b SOz.out Q4.out.1 (by decide) p8.2)
            have Trd := Lib.hid (jrd_b Srd.out Q4.out.1 (by decide) p8.2)
            clear p8
            go_wp2
            go_roundg G
            case measure => omega
            case rel => exact ⟨s5, ts, ss ++ [x], dr, _, _, _, _, rs ++ [[.string (bs x.n), .slice xo x.ps.length xc]], HK.out, fun _ => by omega, ⟨by omega, by rw [List.length_append]; simp; omega, by rw [List.length_append, List.length_append, hac3]; simp⟩, Q8.out, Tr.out, (by have := Tv.out; rw [List.length_append]; exact this), Tq.out, TOt.out, by have := TO.out; rw [List.length_append]; exact this, TOz.out.snoc ⟨xo, xc, rfl, Trd.out⟩⟩
          · go_simp
            go_wp2_with (go_at_call 52; refine (G3.out _ Pd.1).mono ?_; rintro e x1 ⟨xo, xc, rfl, rd, p9⟩)
            have P1 := JnP.then Pd.2 p9
            have Rr1 := kp_row16 p9.2 Rrd Nr
            have Rv1 := kp_row16 p9.2 Rvd Nv
            have Rq1 := kp_row16 p9.2 Rqd Nq
            have Ot1 := jown_b Otd Pd.1 (by decide) p9.2
            have Oq1 := jown_b Oqd Pd.1 (by decide) p9.2
            have Oz1 := jsets_b Ozd Pd.1 (by decide) p9.2
            have zS1 : World.cell? x1 ⟨(w.heap.size + 1), 6, none⟩ = some (.slice qo ss.length qc) := cellRow Rv1 6
            have a2 : Below x1.heap.size x1 (x1.alloc (.cells #[.string (bs x.n), .slice xo x.ps.length xc] 53)) := (Below.refl _ _).alloc (Nat.le_refl _) _
            have P2 := P1.alloc (.cells #[.string (bs x.n), .slice xo x.ps.length xc] 53)
            have B2 : w.heap.size ≤ (x1.alloc (.cells #[.string (bs x.n), .slice xo x.ps.length xc] 53)).heap.size := P2.2.size
            have X2 := rowNew x1 (.cells #[.string (bs x.n), .slice xo x.ps.length xc] 53)
            have Rr2 := (a2.block (w.heap.size) (lt_of_block Rr1)).trans Rr1
            have Rv2 := (a2.block ((w.heap.size + 1)) (lt_of_block Rv1)).trans Rv1
            have Rq2 := (a2.block (w5.heap.size) (lt_of_block Rq1)).trans Rq1
            have Ot2 := Ot1.below a2
            have Oq2 := Oq1.below a2
            have Oz2 := Oz1.below a2
            have rd2 := rd.below a2
            have zS2 : World.cell? (x1.alloc (.cells #[.string (bs x.n), .slice xo x.ps.length xc] 53)) ⟨(w.heap.size + 1), 6, none⟩ = some (.slice qo ss.length qc) := cellRow Rv2 6
            refine wpAny_ready (rs := [1, 4]) (by kernel_rfl) (by simp) (AllReady.cons rfl (fun K hK => ?_) (AllReady.cons rfl (fun K hK => ?_) AllReady.nil))
            · go_simp
              refine hK _ _ ?_
              clear hK K
              refine wpAny_ready (rs := [4]) (by kernel_rfl) (by simp) (AllReady.cons rfl (fun K hK => ?_) AllReady.nil)
              go_simp
              refine hK _ _ ?_
              clear hK K
              refine wpAny_ready (rs := [5]) (by kernel_rfl) (by simp) (AllReady.cons rfl (fun K hK => ?_) AllReady.nil)
              refine appRw (fr := (0, 0)) rfl Tryz.underlying36 stinfo rfl (by decide) (by decide) _ rfl Oq2 x1.heap.size [.string (bs x.n), .slice xo x.ps.length xc] rfl X2 rfl rfl (by intro u hu; simp at hu; rcases hu with rfl | rfl <;> rfl) (by omega) B2 ?_
              intro v3 x3 m3 g3
              have P3 := JnP.grown P2 g3 Oq2.1 (Nat.le_refl _) hlt
              have Rr3 := row_grown Rr2 g3 Oq2.1 (by decide)
              have Rv3 := row_grown Rv2 g3 Oq2.1 (by decide)
              have Rq3 := row_grown Rq2 g3 Oq2.1 (by decide)
              have Ot3 := Ot2.grown g3 Oq2.1 (by decide)
              have Oz3 := Oz2.grown g3 Oq2.1 (by decide)
              have rd3 := rd2.grown g3 Oq2.1 (by decide)
              obtain ⟨ao3, cap3, hv3, -⟩ := m3.form (by decide)
              rw [show (rs ++ [[Value.string (bs x.n), Value.slice xo x.ps.length xc]]).length = ss.length + 1 by simp; exact hac3] at hv3
              subst hv3
              refine hK _ _ ?_
              clear hK K
              refine wpAny_take (i := 6) (v := .pointer (some ⟨(w.heap.size + 1), 6, none⟩)) rfl (by kernel_rfl) (by kernel_rfl) (by kernel_rfl) (fun _ _ _ h => h) (Or.inl ⟨by rfl, ?_⟩) ?_
              · intro w9
                go_simp
              have z3 : World.cell? x3 ⟨(w.heap.size + 1), 6, none⟩ = some (.slice qo ss.length qc) := cellRow Rv3 6
              have f3 := freeRow Rv3 6
              refine wpAny_ready (rs := [7]) (by kernel_rfl) (by simp) (AllReady.cons rfl (fun K hK => ?_) AllReady.nil)
              go_simp
              refine hK _ _ ?_
              clear hK K
              refine wpAny_done (by kernel_rfl) ?_ _
              have Q4 := Lib.hid (jnp_new P3 Lv Mv 6 (.slice ao3 (ss.length + 1) cap3))
              have Sr := Lib.hid ((Below.heap_setCell _ ⟨(w.heap.size + 1), 6, none⟩ (.slice ao3 (ss.length + 1) cap3) _ (Drv)).trans Rr3)
              have Sv := Lib.hid (row_to (B := #[.string (bs nm), .int .i64 (ln : Nat), .int .i64 fr, .string (bs od), .bool wi, .slice po ts.length pc, .slice ao3 (ss.length + 1) cap3, .bool dr]) (rowSet Rv3 6 (.slice ao3 (ss.length + 1) cap3)) rfl)
              have Sq := Lib.hid ((Below.heap_setCell _ ⟨(w.heap.size + 1), 6, none⟩ (.slice ao3 (ss.length + 1) cap3) _ (Dvq.symm)).trans Rq3)
              have SO := Lib.hid (m3.set Rv3 (by decide) 6 (.slice ao3 (ss.length + 1) cap3))
              have SOt := Lib.hid (Ot3.set Rv3 (by decide) 6 (.slice ao3 (ss.length + 1) cap3))
              have SOz := Lib.hid (Oz3.set Rv3 (by decide) 6 (.slice ao3 (ss.length + 1) cap3))
              have Srd := Lib.hid (rd3.set Rv3 (by decide) 6 (.slice ao3 (ss.length + 1) cap3))
              clear P3 m3 g3 z3 f3 Rr3 Rv3 Rq3 Ot3 Oz3 rd3
              go_wp2_with fail
              refine (G7.out _ Q4.out.1).mono ?_
              rintro e w8 ⟨rfl, p8⟩
              have Q8 := Lib.hid (JnP.then Q4.out.2 p8)
              have Tr := Lib.hid (kp_row16 p8.2 Sr.out Nr)
              have Tv := Lib.hid (kp_row16 p8.2 Sv.out Nv)
              have Tq := Lib.hid (kp_row16 p8.2 Sq.out Nq)
              have TO := Lib.hid (jown_b SO.out Q4.out.1 (by decide) p8.2)
              have TOt := Lib.hid (jown_b SOt.out Q4.out.1 (by decide) p8.2)
              have TOz := Lib.hid (jsets_b SOz.out Q4.out.1 (by decide) p8.2)
              have Trd := Lib.hid (jrd_b Srd.out Q4.out.1 (by decide) p8.2)
              clear p8
              go_wp2
              go_roundg G
              case measure => omega
              case rel => exact ⟨s5, ts, ss ++ [x], dr, _, _, _, _, rs ++ [[.string (bs x.n), .slice xo x.ps.length xc]], HK.out, fun _ => by omega, ⟨by omega, by rw [List.length_append]; simp; omega, by rw [List.length_append, List.length_append, hac3]; simp⟩, Q8.out, Tr.out, (by have := Tv.out; rw [List.length_append]; exact this), Tq.out, TOt.out, by have := TO.out; rw [List.length_append]; exact this, TOz.out.snoc ⟨xo, xc, rfl, Trd.out⟩⟩
            · go_simp
              refine hK _ _ ?_
              clear hK K
              refine wpAny_ready (rs := [1]) (by kernel_rfl) (by simp) (AllReady.cons rfl (fun K hK => ?_) AllReady.nil)
              go_simp
              refine hK _ _ ?_
              clear hK K
              refine wpAny_ready (rs := [5]) (by kernel_rfl) (by simp) (AllReady.cons rfl (fun K hK => ?_) AllReady.nil)
              refine appRw (fr := (0, 0)) rfl Tryz.underlying36 stinfo rfl (by decide) (by decide) _ rfl Oq2 x1.heap.size [.string (bs x.n), .slice xo x.ps.length xc] rfl X2 rfl rfl (by intro u hu; simp at hu; rcases hu with rfl | rfl <;> rfl) (by omega) B2 ?_
              intro v3 x3 m3 g3
              have P3 := JnP.grown P2 g3 Oq2.1 (Nat.le_refl _) hlt
              have Rr3 := row_grown Rr2 g3 Oq2.1 (by decide)
              have Rv3 := row_grown Rv2 g3 Oq2.1 (by decide)
              have Rq3 := row_grown Rq2 g3 Oq2.1 (by decide)
              have Ot3 := Ot2.grown g3 Oq2.1 (by decide)
              have Oz3 := Oz2.grown g3 Oq2.1 (by decide)
              have rd3 := rd2.grown g3 Oq2.1 (by decide)
              obtain ⟨ao3, cap3, hv3, -⟩ := m3.form (by decide)
              rw [show (rs ++ [[Value.string (bs x.n), Value.slice xo x.ps.length xc]]).length = ss.length + 1 by simp; exact hac3] at hv3
              subst hv3
              refine hK _ _ ?_
              clear hK K
              refine wpAny_take (i := 6) (v := .pointer (some ⟨(w.heap.size + 1), 6, none⟩)) rfl (by kernel_rfl) (by kernel_rfl) (by kernel_rfl) (fun _ _ _ h => h) (Or.inl ⟨by rfl, ?_⟩) ?_
              · intro w9
                go_simp
              have z3 : World.cell? x3 ⟨(w.heap.size + 1), 6, none⟩ = some (.slice qo ss.length qc) := cellRow Rv3 6
              have f3 := freeRow Rv3 6
              refine wpAny_ready (rs := [7]) (by kernel_rfl) (by simp) (AllReady.cons rfl (fun K hK => ?_) AllReady.nil)
              go_simp
              refine hK _ _ ?_
              clear hK K
              refine wpAny_done (by kernel_rfl) ?_ _
              have Q4 := Lib.hid (jnp_new P3 Lv Mv 6 (.slice ao3 (ss.length + 1) cap3))
              have Sr := Lib.hid ((Below.heap_setCell _ ⟨(w.heap.size + 1), 6, none⟩ (.slice ao3 (ss.length + 1) cap3) _ (Drv)).trans Rr3)
              have Sv := Lib.hid (row_to (B := #[.string (bs nm), .int .i64 (ln : Nat), .int .i64 fr, .string (bs od), .bool wi, .slice po ts.length pc, .slice ao3 (ss.length + 1) cap3, .bool dr]) (rowSet Rv3 6 (.slice ao3 (ss.length + 1) cap3)) rfl)
              have Sq := Lib.hid ((Below.heap_setCell _ ⟨(w.heap.size + 1), 6, none⟩ (.slice ao3 (ss.length + 1) cap3) _ (Dvq.symm)).trans Rq3)
              have SO := Lib.hid (m3.set Rv3 (by decide) 6 (.slice ao3 (ss.length + 1) cap3))
              have SOt := Lib.hid (Ot3.set Rv3 (by decide) 6 (.slice ao3 (ss.length + 1) cap3))
              have SOz := Lib.hid (Oz3.set Rv3 (by decide) 6 (.slice ao3 (ss.length + 1) cap3))
              have Srd := Lib.hid (rd3.set Rv3 (by decide) 6 (.slice ao3 (ss.length + 1) cap3))
              clear P3 m3 g3 z3 f3 Rr3 Rv3 Rq3 Ot3 Oz3 rd3
              go_wp2_with fail
              refine (G7.out _ Q4.out.1).mono ?_
              rintro e w8 ⟨rfl, p8⟩
              have Q8 := Lib.hid (JnP.then Q4.out.2 p8)
              have Tr := Lib.hid (kp_row16 p8.2 Sr.out Nr)
              have Tv := Lib.hid (kp_row16 p8.2 Sv.out Nv)
              have Tq := Lib.hid (kp_row16 p8.2 Sq.out Nq)
              have TO := Lib.hid (jown_b SO.out Q4.out.1 (by decide) p8.2)
              have TOt := Lib.hid (jown_b SOt.out Q4.out.1 (by decide) p8.2)
              have TOz := Lib.hid (jsets_b SOz.out Q4.out.1 (by decide) p8.2)
              have Trd := Lib.hid (jrd_b Srd.out Q4.out.1 (by decide) p8.2)
              clear p8
              go_wp2
              go_roundg G
              case measure => omega
              case rel => exact ⟨s5, ts, ss ++ [x], dr, _, _, _, _, rs ++ [[.string (bs x.n), .slice xo x.ps.length xc]], HK.out, fun _ => by omega, ⟨by omega, by rw [List.length_append]; simp; omega, by rw [List.length_append, List.length_append, hac3]; simp⟩, Q8.out, Tr.out, (by have := Tv.out; rw [List.length_append]; exact this), Tq.out, TOt.out, by have := TO.out; rw [List.length_append]; exact this, TOz.out.snoc ⟨xo, xc, rfl, Trd.out⟩⟩
        | false =>
          rw [word_no hs] at G4
          have G5 := Lib.hid (fun w1 h1 h2 => ponce_walk b (w5.heap.size) T ao cap last sx wDrop (by decide) (if dr then 1 else 0) 1 1 dr (by cases dr <;> decide) (by cases dr <;> decide) w1 Mq h1 h2)
          rw [show bs wDrop = ({ data := #[100, 114, 111, 112] } : ByteArray) from rfl] at G5
          have G6 := Lib.hid (fun w1 h1 => psign_walk b T ao cap last (nx sx) 59 (by decide) w1 h1)
          rw [show bs [59] = ({ data := #[59] } : ByteArray) from rfl] at G6
          have G7 := Lib.hid (fun w1 h1 => prefuse_walk b T ao cap last sx w1 h1)
          have hfb := fail_bad T last sx
          have G8 := Lib.hid (fun w1 h1 => psign_walk b T ao cap last (fail T last sx) 59 (by decide) w1 h1)
          rw [show bs [59] = ({ data := #[59] } : ByteArray) from rfl, sign_bad hfb] at G8
          have hfp := fail_p T last sx
          have hsp := sign_p T last [59] (nx sx)
          cases dr with
          | true =>
            rw [cl_bad hgo ht hs (.inl rfl)] at HK
            simp only [Bool.not_true, Bool.false_and, Bool.false_eq_true, if_false] at G5
            clear ht hs hgo HX
            go_wp2_with fail
            refine (G1.out _ P5.1).mono ?_
            rintro e w30 ⟨rfl, p30⟩
            have Rr30 := kp_row16 p30.2 Rr5 Nr
            have Rv30 := kp_row16 p30.2 Rv5 Nv
            have Rq30 := kp_row16 p30.2 Rq5 Nq
            have Ot30 := jown_b Ot5 P5.1 (by decide) p30.2
            have Oq30 := jown_b Oq5 P5.1 (by decide) p30.2
            have Oz30 := jsets_b Oz5 P5.1 (by decide) p30.2
            have P30 := JnP.then P5.2 p30
            clear p30 P5 Rr5 Rv5 Rq5 Ot5 Oq5 Oz5
            go_wp2_with fail
            refine (G2.out _ P30.1).mono ?_
            rintro e w31 ⟨rfl, p31⟩
            have Rr31 := kp_row16 p31.2 Rr30 Nr
            have Rv31 := kp_row16 p31.2 Rv30 Nv
            have Rq31 := kp_row16 p31.2 Rq30 Nq
            have Ot31 := jown_b Ot30 P30.1 (by decide) p31.2
            have Oq31 := jown_b Oq30 P30.1 (by decide) p31.2
            have Oz31 := jsets_b Oz30 P30.1 (by decide) p31.2
            have P31 := JnP.then P30.2 p31
            clear p31 P30 Rr30 Rv30 Rq30 Ot30 Oq30 Oz30
            go_wp2_with fail
            refine (G4.out _ P31.1).mono ?_
            rintro e w32 ⟨rfl, p32⟩
            have Rr32 := kp_row16 p32.2 Rr31 Nr
            have Rv32 := kp_row16 p32.2 Rv31 Nv
            have Rq32 := kp_row16 p32.2 Rq31 Nq
            have Ot32 := jown_b Ot31 P31.1 (by decide) p32.2
            have Oq32 := jown_b Oq31 P31.1 (by decide) p32.2
            have Oz32 := jsets_b Oz31 P31.1 (by decide) p32.2
            have P32 := JnP.then P31.2 p32
            clear p32 P31 Rr31 Rv31 Rq31 Ot31 Oq31 Oz31
            go_wp2_with fail
            refine (G5.out _ P32.1 Rq32).mono ?_
            rintro e w33 ⟨rfl, jq33, nq33⟩
            have Rr33 := kq_row jq33.2 Rr32 Nr Drq
            have Rv33 := kq_row jq33.2 Rv32 Nv Dvq
            have Ot33 := jown_q Ot32 P32.1 Rq32 (by decide) (by decide) jq33.2
            have Oq33 := jown_q Oq32 P32.1 Rq32 (by decide) (by decide) jq33.2
            have Oz33 := jsets_q Oz32 P32.1 Rq32 (by decide) (by decide) jq33.2
            have Rq33 : w33.heap[w5.heap.size]? = some (.cells #[.int .i64 (if true = true then 1 else 0)] 3 (0, 0)) := nq33
            have P33 := JnQ.own P32 jq33 Lq
            clear jq33 P32 Rr32 Rv32 Ot32 Oq32 Oz32 Rq32 nq33
            go_wp2_with fail
            refine (G7.out _ P33.1).mono ?_
            rintro e w34 ⟨rfl, p34⟩
            have Rr34 := kp_row16 p34.2 Rr33 Nr
            have Rv34 := kp_row16 p34.2 Rv33 Nv
            have Rq34 := kp_row16 p34.2 Rq33 Nq
            have Ot34 := jown_b Ot33 P33.1 (by decide) p34.2
            have Oq34 := jown_b Oq33 P33.1 (by decide) p34.2
            have Oz34 := jsets_b Oz33 P33.1 (by decide) p34.2
            have P34 := JnP.then P33.2 p34
            clear p34 P33 Rr33 Rv33 Rq33 Ot33 Oq33 Oz33
            go_wp2_with fail
            refine (G8.out _ P34.1).mono ?_
            rintro e w35 ⟨rfl, p35⟩
            have Rr35 := kp_row16 p35.2 Rr34 Nr
            have Rv35 := kp_row16 p35.2 Rv34 Nv
            have Rq35 := kp_row16 p35.2 Rq34 Nq
            have Ot35 := jown_b Ot34 P34.1 (by decide) p35.2
            have Oq35 := jown_b Oq34 P34.1 (by decide) p35.2
            have Oz35 := jsets_b Oz34 P34.1 (by decide) p35.2
            have P35 := JnP.then P34.2 p35
            clear p35 P34 Rr34 Rv34 Rq34 Ot34 Oq34 Oz34
            have Q8 := Lib.hid P35
            have Tr := Lib.hid Rr35
            have Tv := Lib.hid Rv35
            have Tq := Lib.hid Rq35
            have TOt := Lib.hid Ot35
            have TOq := Lib.hid Oq35
            have TOz := Lib.hid Oz35
            clear P35 Rr35 Rv35 Rq35 Ot35 Oq35 Oz35
            go_wp2
            go_roundg G
            case measure => omega
            case rel => exact ⟨_, ts, ss, true, _, _, _, _, rs, HK.out, fun e => absurd e hfb, ⟨by omega, by omega, hac3⟩, Q8.out, Tr.out, Tv.out, Tq.out, TOt.out, TOq.out, TOz.out⟩
          | false =>
            cases hd : at_ T sx 1 wDrop with
            | true =>
              rw [hd] at G5
              simp only [Bool.not_false, Bool.true_and, if_true, Bool.false_eq_true, if_false] at G5
              rw [cl_drop hgo ht hs hd] at HK
              clear ht hs hd hgo HX
              go_wp2_with fail
              refine (G1.out _ P5.1).mono ?_
              rintro e w30 ⟨rfl, p30⟩
              have Rr30 := kp_row16 p30.2 Rr5 Nr
              have Rv30 := kp_row16 p30.2 Rv5 Nv
              have Rq30 := kp_row16 p30.2 Rq5 Nq
              have Ot30 := jown_b Ot5 P5.1 (by decide) p30.2
              have Oq30 := jown_b Oq5 P5.1 (by decide) p30.2
              have Oz30 := jsets_b Oz5 P5.1 (by decide) p30.2
              have P30 := JnP.then P5.2 p30
              clear p30 P5 Rr5 Rv5 Rq5 Ot5 Oq5 Oz5
              go_wp2_with fail
              refine (G2.out _ P30.1).mono ?_
              rintro e w31 ⟨rfl, p31⟩
              have Rr31 := kp_row16 p31.2 Rr30 Nr
              have Rv31 := kp_row16 p31.2 Rv30 Nv
              have Rq31 := kp_row16 p31.2 Rq30 Nq
              have Ot31 := jown_b Ot30 P30.1 (by decide) p31.2
              have Oq31 := jown_b Oq30 P30.1 (by decide) p31.2
              have Oz31 := jsets_b Oz30 P30.1 (by decide) p31.2
              have P31 := JnP.then P30.2 p31
              clear p31 P30 Rr30 Rv30 Rq30 Ot30 Oq30 Oz30
              go_wp2_with fail
              refine (G4.out _ P31.1).mono ?_
              rintro e w32 ⟨rfl, p32⟩
              have Rr32 := kp_row16 p32.2 Rr31 Nr
              have Rv32 := kp_row16 p32.2 Rv31 Nv
              have Rq32 := kp_row16 p32.2 Rq31 Nq
              have Ot32 := jown_b Ot31 P31.1 (by decide) p32.2
              have Oq32 := jown_b Oq31 P31.1 (by decide) p32.2
              have Oz32 := jsets_b Oz31 P31.1 (by decide) p32.2
              have P32 := JnP.then P31.2 p32
              clear p32 P31 Rr31 Rv31 Rq31 Ot31 Oq31 Oz31
              go_wp2_with fail
              refine (G5.out _ P32.1 Rq32).mono ?_
              rintro e w33 ⟨rfl, jq33, nq33⟩
              have Rr33 := kq_row jq33.2 Rr32 Nr Drq
              have Rv33 := kq_row jq33.2 Rv32 Nv Dvq
              have Ot33 := jown_q Ot32 P32.1 Rq32 (by decide) (by decide) jq33.2
              have Oq33 := jown_q Oq32 P32.1 Rq32 (by decide) (by decide) jq33.2
              have Oz33 := jsets_q Oz32 P32.1 Rq32 (by decide) (by decide) jq33.2
              have Rq33 : w33.heap[w5.heap.size]? = some (.cells #[.int .i64 1] 3 (0, 0)) := nq33
              have P33 := JnQ.own P32 jq33 Lq
              clear jq33 P32 Rr32 Rv32 Ot32 Oq32 Oz32 Rq32 nq33
              have yv7_34 : World.cell? _ ⟨(w.heap.size + 1), 7, none⟩ = some (.bool false) := cellRow Rv33 7
              have fv7_34 := freeRow Rv33 7
              have P34 := jnp_new P33 Lv Mv 7 (.bool true)
              have Ot34 := Ot33.set Rv33 (by decide) 7 (.bool true)
              have Oq34 := Oq33.set Rv33 (by decide) 7 (.bool true)
              have Oz34 := Oz33.set Rv33 (by decide) 7 (.bool true)
              have Rr34 := (Below.heap_setCell _ ⟨(w.heap.size + 1), 7, none⟩ (.bool true) _ (Drv)).trans Rr33
              have Rv34 := row_to (B := #[.string (bs nm), .int .i64 (ln : Nat), .int .i64 fr, .string (bs od), .bool wi, .slice po ts.length pc, .slice qo ss.length qc, .bool true]) (rowSet Rv33 7 (.bool true)) rfl
              have Rq34 := (Below.heap_setCell _ ⟨(w.heap.size + 1), 7, none⟩ (.bool true) _ (Dvq.symm)).trans Rq33
              go_wp2_with fail
              refine (G6.out _ P34.1).mono ?_
              rintro e w35 ⟨rfl, p35⟩
              have Rr35 := kp_row16 p35.2 Rr34 Nr
              have Rv35 := kp_row16 p35.2 Rv34 Nv
              have Rq35 := kp_row16 p35.2 Rq34 Nq
              have Ot35 := jown_b Ot34 P34.1 (by decide) p35.2
              have Oq35 := jown_b Oq34 P34.1 (by decide) p35.2
              have Oz35 := jsets_b Oz34 P34.1 (by decide) p35.2
              have P35 := JnP.then P34.2 p35
              clear p35 P34 Rr34 Rv34 Rq34 Ot34 Oq34 Oz34 yv7_34 fv7_34 P33 Ot33 Oq33 Oz33 Rr33 Rv33 Rq33
              have Q8 := Lib.hid P35
              have Tr := Lib.hid Rr35
              have Tv := Lib.hid Rv35
              have Tq := Lib.hid Rq35
              have TOt := Lib.hid Ot35
              have TOq := Lib.hid Oq35
              have TOz := Lib.hid Oz35
              clear P35 Rr35 Rv35 Rq35 Ot35 Oq35 Oz35
              go_wp2
              go_roundg G
              case measure => omega
              case rel => exact ⟨_, ts, ss, true, _, _, _, _, rs, HK.out, fun _ => by omega, ⟨by omega, by omega, hac3⟩, Q8.out, Tr.out, Tv.out, Tq.out, TOt.out, TOq.out, TOz.out⟩
            | false =>
              rw [hd] at G5
              simp only [Bool.not_false, Bool.true_and, Bool.false_eq_true, if_false] at G5
              rw [cl_bad hgo ht hs (.inr hd)] at HK
              clear ht hs hd hgo HX
              go_wp2_with fail
              refine (G1.out _ P5.1).mono ?_
              rintro e w30 ⟨rfl, p30⟩
              have Rr30 := kp_row16 p30.2 Rr5 Nr
              have Rv30 := kp_row16 p30.2 Rv5 Nv
              have Rq30 := kp_row16 p30.2 Rq5 Nq
              have Ot30 := jown_b Ot5 P5.1 (by decide) p30.2
              have Oq30 := jown_b Oq5 P5.1 (by decide) p30.2
              have Oz30 := jsets_b Oz5 P5.1 (by decide) p30.2
              have P30 := JnP.then P5.2 p30
              clear p30 P5 Rr5 Rv5 Rq5 Ot5 Oq5 Oz5
              go_wp2_with fail
              refine (G2.out _ P30.1).mono ?_
              rintro e w31 ⟨rfl, p31⟩
              have Rr31 := kp_row16 p31.2 Rr30 Nr
              have Rv31 := kp_row16 p31.2 Rv30 Nv
              have Rq31 := kp_row16 p31.2 Rq30 Nq
              have Ot31 := jown_b Ot30 P30.1 (by decide) p31.2
              have Oq31 := jown_b Oq30 P30.1 (by decide) p31.2
              have Oz31 := jsets_b Oz30 P30.1 (by decide) p31.2
              have P31 := JnP.then P30.2 p31
              clear p31 P30 Rr30 Rv30 Rq30 Ot30 Oq30 Oz30
              go_wp2_with fail
              refine (G4.out _ P31.1).mono ?_
              rintro e w32 ⟨rfl, p32⟩
              have Rr32 := kp_row16 p32.2 Rr31 Nr
              have Rv32 := kp_row16 p32.2 Rv31 Nv
              have Rq32 := kp_row16 p32.2 Rq31 Nq
              have Ot32 := jown_b Ot31 P31.1 (by decide) p32.2
              have Oq32 := jown_b Oq31 P31.1 (by decide) p32.2
              have Oz32 := jsets_b Oz31 P31.1 (by decide) p32.2
              have P32 := JnP.then P31.2 p32
              clear p32 P31 Rr31 Rv31 Rq31 Ot31 Oq31 Oz31
              go_wp2_with fail
              refine (G5.out _ P32.1 Rq32).mono ?_
              rintro e w33 ⟨rfl, jq33, nq33⟩
              have Rr33 := kq_row jq33.2 Rr32 Nr Drq
              have Rv33 := kq_row jq33.2 Rv32 Nv Dvq
              have Ot33 := jown_q Ot32 P32.1 Rq32 (by decide) (by decide) jq33.2
              have Oq33 := jown_q Oq32 P32.1 Rq32 (by decide) (by decide) jq33.2
              have Oz33 := jsets_q Oz32 P32.1 Rq32 (by decide) (by decide) jq33.2
              have Rq33 : w33.heap[w5.heap.size]? = some (.cells #[.int .i64 (if false = true then 1 else 0)] 3 (0, 0)) := nq33
              have P33 := JnQ.own P32 jq33 Lq
              clear jq33 P32 Rr32 Rv32 Ot32 Oq32 Oz32 Rq32 nq33
              go_wp2_with fail
              refine (G7.out _ P33.1).mono ?_
              rintro e w34 ⟨rfl, p34⟩
              have Rr34 := kp_row16 p34.2 Rr33 Nr
              have Rv34 := kp_row16 p34.2 Rv33 Nv
              have Rq34 := kp_row16 p34.2 Rq33 Nq
              have Ot34 := jown_b Ot33 P33.1 (by decide) p34.2
              have Oq34 := jown_b Oq33 P33.1 (by decide) p34.2
              have Oz34 := jsets_b Oz33 P33.1 (by decide) p34.2
              have P34 := JnP.then P33.2 p34
              clear p34 P33 Rr33 Rv33 Rq33 Ot33 Oq33 Oz33
              go_wp2_with fail
              refine (G8.out _ P34.1).mono ?_
              rintro e w35 ⟨rfl, p35⟩
              have Rr35 := kp_row16 p35.2 Rr34 Nr
              have Rv35 := kp_row16 p35.2 Rv34 Nv
              have Rq35 := kp_row16 p35.2 Rq34 Nq
              have Ot35 := jown_b Ot34 P34.1 (by decide) p35.2
              have Oq35 := jown_b Oq34 P34.1 (by decide) p35.2
              have Oz35 := jsets_b Oz34 P34.1 (by decide) p35.2
              have P35 := JnP.then P34.2 p35
              clear p35 P34 Rr34 Rv34 Rq34 Ot34 Oq34 Oz34
              have Q8 := Lib.hid P35
              have Tr := Lib.hid Rr35
              have Tv := Lib.hid Rv35
              have Tq := Lib.hid Rq35
              have TOt := Lib.hid Ot35
              have TOq := Lib.hid Oq35
              have TOz := Lib.hid Oz35
              clear P35 Rr35 Rv35 Rq35 Ot35 Oq35 Oz35
              go_wp2
              go_roundg G
              case measure => omega
              case rel => exact ⟨_, ts, ss, false, _, _, _, _, rs, HK.out, fun e => absurd e hfb, ⟨by omega, by omega, hac3⟩, Q8.out, Tr.out, Tv.out, Tq.out, TOt.out, TOq.out, TOz.out⟩
end PQ
end Go.Proofs.YtaeglmgpoboihaaGreatDoor
