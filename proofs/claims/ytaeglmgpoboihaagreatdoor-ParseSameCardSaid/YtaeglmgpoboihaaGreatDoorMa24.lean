/- Texts on the program and on the document, joined: PaqN. -/
import Derived.Test.YtaeglmgpoboihaaGreatDoorMa10
import Derived.Test.YtaeglmgpoboihaaGreatDoorMa23
/- The program's reader of rules: watch, walked. gen_paqm.py writes it. -/
namespace Go.Proofs.YtaeglmgpoboihaaGreatDoor
open Go.ChangeShapes Go.WideShapes Go.ChangeAt Go.RowKit K L15 S3
open L14 (Tk)
set_option linter.unusedVariables false
namespace PQ
def WyRel (w : World) (b : Nat) (T : List Tk) (ao : Option Addr) (cap last : Nat) (s1 : Pi) (vb qb : Nat) (x0 : Wt) (g : Nat) (wr : World) : Prop :=
  ∃ (sx : Pi) (x : Wt) (seen : List Nat), watches T last (T.length + 2) x0 [] s1 = watches T last g x seen sx ∧ (sx.bad = none → T.length + 2 ≤ g + sx.p) ∧ JnP w b T ao cap last sx wr ∧ wr.heap[w.heap.size]? = some (.cells #[.string { data := #[] }, .int .i64 0, .int .i64 0, .string { data := #[] }, .string { data := #[] }, .int .i64 0, .int .i64 0, .string { data := #[] }, .int .i64 0, .string { data := #[] }] 40 (0, 0)) ∧ wr.heap[vb]? = some (.cells #[.string (bs x.n), .int .i64 x.l, .int .i64 x.k, .string (bs x.cl), .string (bs x.ot), .int .i64 x.ct, .int .i64 x.wn, .string (bs x.ra), .int .i64 x.lv, .string (bs x.tx)] 40 (0, 0)) ∧ wr.heap[qb]? = some (.cells #[.int .i64 (mask seen)] 3 (0, 0))
set_option maxRecDepth 100000 in
set_option maxHeartbeats 4000000 in
theorem pwatch_walk (b : Nat) (T : List Tk) (ao : Option Addr) (cap last : Nat) (s : Pi) (w : World) (h : JnR w b T ao cap last s) :
    Calls Tryz.prog 26 #[.pointer (some ⟨b, 0, none⟩)] w fun e w' => e = .returned (.agg (wtC (watch T last (lnO T s : Nat) s).1)) ∧ JnP w b T ao cap last (watch T last (lnO T s : Nat) s).2 w' := by
  have hlt := h.lt
  have a0 : Below w.heap.size w (w.alloc (.cells #[.string { data := #[] }, .int .i64 0, .int .i64 0, .string { data := #[] }, .string { data := #[] }, .int .i64 0, .int .i64 0, .string { data := #[] }, .int .i64 0, .string { data := #[] }] 40)) := (Below.refl _ _).alloc (Nat.le_refl _) _
  have Rr0 := rowNew w (.cells #[.string { data := #[] }, .int .i64 0, .int .i64 0, .string { data := #[] }, .string { data := #[] }, .int .i64 0, .int .i64 0, .string { data := #[] }, .int .i64 0, .string { data := #[] }] 40)
  have h0 := h.below a0
  have P0 : JnP w b T ao cap last s (w.alloc (.cells #[.string { data := #[] }, .int .i64 0, .int .i64 0, .string { data := #[] }, .string { data := #[] }, .int .i64 0, .int .i64 0, .string { data := #[] }, .int .i64 0, .string { data := #[] }] 40)) := ⟨h0, Kp.ofBelow a0 [b]⟩
  obtain ⟨w0, hw0⟩ : ∃ w0, w.alloc (.cells #[.string { data := #[] }, .int .i64 0, .int .i64 0, .string { data := #[] }, .string { data := #[] }, .int .i64 0, .int .i64 0, .string { data := #[] }, .int .i64 0, .string { data := #[] }] 40) = w0 := ⟨_, rfl⟩
  rw [hw0] at a0 Rr0 h0 P0
  have HW0 := Lib.hid hw0
  have Nr : w.heap.size ≠ b := by omega
  have Lr : w.heap.size ≤ w.heap.size := Nat.le_refl _
  have hq := h
  obtain ⟨vr, cr, hbr, -⟩ := hq
  have cl1 := cellRow hbr 1
  simp at cl1
  clear hbr
  generalize (lnO T s : Nat) = ln at *
  have HX := Lib.hid (show watch T last (ln : Nat) s = ((watches T last (T.length + 2) ⟨(take T last 1 [] s).1, (ln : Nat), (kind T last (take T last 1 [] s).2).1, [], [], 0, 0, [], 0, []⟩ [] (sign T last [123] (kind T last (take T last 1 [] s).2).2)).1, sign T last [125] (watches T last (T.length + 2) ⟨(take T last 1 [] s).1, (ln : Nat), (kind T last (take T last 1 [] s).2).1, [], [], 0, 0, [], 0, []⟩ [] (sign T last [123] (kind T last (take T last 1 [] s).2).2)).2) from rfl)
  have H1 := Lib.hid (fun w1 h1 => ptext_walk b T ao cap last s 1 w1 h1)
  have H2 := Lib.hid (fun w1 h1 => pkind_walk b T ao cap last (take T last 1 [] s).2 w1 h1)
  have H3 := Lib.hid (fun w1 h1 => psign_walk b T ao cap last (kind T last (take T last 1 [] s).2).2 123 (by decide) w1 h1)
  rw [show bs [123] = ({ data := #[123] } : ByteArray) from rfl] at H3
  generalize (sign T last [123] (kind T last (take T last 1 [] s).2).2) = s1 at *
  generalize (kind T last (take T last 1 [] s).2).1 = kd at *
  generalize (kind T last (take T last 1 [] s).2).2 = sk at *
  generalize (take T last 1 [] s).1 = nm at *
  generalize (take T last 1 [] s).2 = s0 at *
  clear h a0 h0 hw0
  go_enter Tryz.func26, Tryz.ntmps26
  have a1 : Below w0.heap.size w0 (w0.alloc (.cells #[.string { data := #[] }, .int .i64 (ln : Nat), .int .i64 0, .string { data := #[] }, .string { data := #[] }, .int .i64 0, .int .i64 0, .string { data := #[] }, .int .i64 0, .string { data := #[] }] 40)) := (Below.refl _ _).alloc (Nat.le_refl _) _
  have Rv1 := rowNew w0 (.cells #[.string { data := #[] }, .int .i64 (ln : Nat), .int .i64 0, .string { data := #[] }, .string { data := #[] }, .int .i64 0, .int .i64 0, .string { data := #[] }, .int .i64 0, .string { data := #[] }] 40)
  have Rr1 := (a1.block w.heap.size (lt_of_block Rr0)).trans Rr0
  have P1 : JnP w b T _ cap last _ (w0.alloc (.cells #[.string { data := #[] }, .int .i64 (ln : Nat), .int .i64 0, .string { data := #[] }, .string { data := #[] }, .int .i64 0, .int .i64 0, .string { data := #[] }, .int .i64 0, .string { data := #[] }] 40)) := ⟨P0.1.below a1, P0.2.alloc _⟩
  have Lv : w.heap.size ≤ w0.heap.size := P0.2.size
  have Mv : b < w0.heap.size := by omega
  have Nv : w0.heap.size ≠ b := by omega
  obtain ⟨v1, hv1⟩ : ∃ zz, w0.alloc (.cells #[.string { data := #[] }, .int .i64 (ln : Nat), .int .i64 0, .string { data := #[] }, .string { data := #[] }, .int .i64 0, .int .i64 0, .string { data := #[] }, .int .i64 0, .string { data := #[] }] 40) = zz := ⟨_, rfl⟩
  rw [hv1] at a1 Rv1 Rr1 P1
  have HV1 := Lib.hid hv1
  clear hv1
  have hsz : w0.heap.size = w.heap.size + 1 := by rw [← HW0.out]; exact Array.size_push _
  rw [hsz] at Rv1 Lv Mv Nv
  clear hsz
  have Drv : w.heap.size ≠ w.heap.size + 1 := by omega
  go_wp2_with fail
  rw [HW0.out, HV1.out]
  refine (H1.out _ P1.1).mono ?_
  rintro e w2 ⟨rfl, p2⟩
  have Rr2 := kp_row16 p2.2 Rr1 Nr
  have Rv2 := kp_row16 p2.2 Rv1 Nv
  have P2 := JnP.then P1.2 p2
  clear p2 P1 Rr1 Rv1 cl1 P0 a1
  have yv0_3 : World.cell? _ ⟨(w.heap.size + 1), 0, none⟩ = some (.string { data := #[] }) := cellRow Rv2 0
  have fv0_3 := freeRow Rv2 0
  have P3 := jnp_new P2 Lv Mv 0 (.string (bs nm))
  have Rr3 := (Below.heap_setCell _ ⟨(w.heap.size + 1), 0, none⟩ (.string (bs nm)) _ (Drv)).trans Rr2
  have Rv3 := row_to (B := #[.string (bs nm), .int .i64 (ln : Nat), .int .i64 0, .string { data := #[] }, .string { data := #[] }, .int .i64 0, .int .i64 0, .string { data := #[] }, .int .i64 0, .string { data := #[] }]) (rowSet Rv2 0 (.string (bs nm))) rfl
  go_wp2_with fail
  refine (H2.out _ P3.1).mono ?_
  rintro e w4 ⟨rfl, p4⟩
  have Rr4 := kp_row16 p4.2 Rr3 Nr
  have Rv4 := kp_row16 p4.2 Rv3 Nv
  have P4 := JnP.then P3.2 p4
  clear p4 P3 Rr3 Rv3 yv0_3 fv0_3 P2 Rr2 Rv2
  have yv2_5 : World.cell? _ ⟨(w.heap.size + 1), 2, none⟩ = some (.int .i64 0) := cellRow Rv4 2
  have fv2_5 := freeRow Rv4 2
  have P5 := jnp_new P4 Lv Mv 2 (.int .i64 kd)
  have Rr5 := (Below.heap_setCell _ ⟨(w.heap.size + 1), 2, none⟩ (.int .i64 kd) _ (Drv)).trans Rr4
  have Rv5 := row_to (B := #[.string (bs nm), .int .i64 (ln : Nat), .int .i64 kd, .string { data := #[] }, .string { data := #[] }, .int .i64 0, .int .i64 0, .string { data := #[] }, .int .i64 0, .string { data := #[] }]) (rowSet Rv4 2 (.int .i64 kd)) rfl
  go_wp2_with fail
  refine (H3.out _ P5.1).mono ?_
  rintro e w6 ⟨rfl, p6⟩
  have Rr6 := kp_row16 p6.2 Rr5 Nr
  have Rv6 := kp_row16 p6.2 Rv5 Nv
  have P6 := JnP.then P5.2 p6
  clear p6 P5 Rr5 Rv5 yv2_5 fv2_5 P4 Rr4 Rv4
  have Drq : w.heap.size ≠ w6.heap.size := by have := lt_of_block Rr6; omega
  have Dvq : w.heap.size + 1 ≠ w6.heap.size := by have := lt_of_block Rv6; omega
  have a7 : Below w6.heap.size w6 (w6.alloc (.cells #[.int .i64 0] 3)) := (Below.refl _ _).alloc (Nat.le_refl _) _
  have Rq7 := rowNew w6 (.cells #[.int .i64 0] 3)
  have Rr7 := (a7.block w.heap.size (lt_of_block Rr6)).trans Rr6
  have Rv7 := (a7.block (w.heap.size + 1) (lt_of_block Rv6)).trans Rv6
  have P7 : JnP w b T _ cap last _ (w6.alloc (.cells #[.int .i64 0] 3)) := ⟨P6.1.below a7, P6.2.alloc _⟩
  have Lq : w.heap.size ≤ w6.heap.size := P6.2.size
  have Mq : b < w6.heap.size := by omega
  have Nq : w6.heap.size ≠ b := by omega
  obtain ⟨v7, hv7⟩ : ∃ zz, w6.alloc (.cells #[.int .i64 0] 3) = zz := ⟨_, rfl⟩
  rw [hv7] at a7 Rq7 Rr7 Rv7 P7
  have HV7 := Lib.hid hv7
  clear hv7
  have HRv := Lib.hid Rv7
  have HRr := Lib.hid Rr7
  have HRq := Lib.hid Rq7
  have HP := Lib.hid P7
  clear Rv7 Rr7 Rq7 P7
  clear Rr6 Rv6 P6 a7
  go_wp2_with fail
  rw [HV7.out]
  go_loopg [] (T.length + 2) (fun g wr => WyRel w b T ao cap last s1 (w.heap.size + 1) (w6.heap.size) ⟨nm, (ln : Nat), kd, [], [], 0, 0, [], 0, []⟩ g wr)
  case atStart => exact ⟨s1, _, [], rfl, fun _ => by omega, HP.out, HRr.out, HRv.out, by rw [mask_nil]; exact HRq.out⟩
  case round =>
    obtain ⟨sx, x, seen, hk, hg, P5, Rr5, Rv5, Rq5⟩ := hrel
    have HK := Lib.hid hk
    have hpl : sx.p ≤ T.length := P5.1.few.2
    have G1 := Lib.hid (fun w1 h1 => pinside_walk b T ao cap last sx w1 h1)
    clear hk HP HRv HRr HRq
    cases hgo : goOn T sx with
    | false =>
      rw [hgo] at G1
      simp only [Bool.false_eq_true, if_false] at G1
      rw [wa_stop hgo] at HK
      have HY := Lib.hid (show watch T last (ln : Nat) s = (x, sign T last [125] sx) by rw [HX.out, HK.out])
      clear hgo HX HK hg hpl
      go_wp2_with fail
      refine (G1.out _ P5.1).mono ?_
      rintro e w30 ⟨rfl, p30⟩
      have Rr30 := kp_row16 p30.2 Rr5 Nr
      have Rv30 := kp_row16 p30.2 Rv5 Nv
      have Rq30 := kp_row16 p30.2 Rq5 Nq
      have P30 := JnP.then P5.2 p30
      clear p30 P5 Rr5 Rv5 Rq5
      have yv0_31 : World.cell? _ ⟨(w.heap.size + 1), 0, none⟩ = some (.string (bs x.n)) := cellRow Rv30 0
      have fv0_31 := freeRow Rv30 0
      have yv1_31 : World.cell? _ ⟨(w.heap.size + 1), 1, none⟩ = some (.int .i64 x.l) := cellRow Rv30 1
      have fv1_31 := freeRow Rv30 1
      have yv2_31 : World.cell? _ ⟨(w.heap.size + 1), 2, none⟩ = some (.int .i64 x.k) := cellRow Rv30 2
      have fv2_31 := freeRow Rv30 2
      have yv3_31 : World.cell? _ ⟨(w.heap.size + 1), 3, none⟩ = some (.string (bs x.cl)) := cellRow Rv30 3
      have fv3_31 := freeRow Rv30 3
      have yv4_31 : World.cell? _ ⟨(w.heap.size + 1), 4, none⟩ = some (.string (bs x.ot)) := cellRow Rv30 4
      have fv4_31 := freeRow Rv30 4
      have yv5_31 : World.cell? _ ⟨(w.heap.size + 1), 5, none⟩ = some (.int .i64 x.ct) := cellRow Rv30 5
      have fv5_31 := freeRow Rv30 5
      have yv6_31 : World.cell? _ ⟨(w.heap.size + 1), 6, none⟩ = some (.int .i64 x.wn) := cellRow Rv30 6
      have fv6_31 := freeRow Rv30 6
      have yv7_31 : World.cell? _ ⟨(w.heap.size + 1), 7, none⟩ = some (.string (bs x.ra)) := cellRow Rv30 7
      have fv7_31 := freeRow Rv30 7
      have yv8_31 : World.cell? _ ⟨(w.heap.size + 1), 8, none⟩ = some (.int .i64 x.lv) := cellRow Rv30 8
      have fv8_31 := freeRow Rv30 8
      have yv9_31 : World.cell? _ ⟨(w.heap.size + 1), 9, none⟩ = some (.string (bs x.tx)) := cellRow Rv30 9
      have fv9_31 := freeRow Rv30 9
      have yr0_31 : World.cell? _ ⟨w.heap.size, 0, none⟩ = some (.string { data := #[] }) := cellRow Rr30 0
      have fr0_31 := freeRow Rr30 0
      have yr1_31 : World.cell? _ ⟨w.heap.size, 1, none⟩ = some (.int .i64 0) := cellRow Rr30 1
      have fr1_31 := freeRow Rr30 1
      have yr2_31 : World.cell? _ ⟨w.heap.size, 2, none⟩ = some (.int .i64 0) := cellRow Rr30 2
      have fr2_31 := freeRow Rr30 2
      have yr3_31 : World.cell? _ ⟨w.heap.size, 3, none⟩ = some (.string { data := #[] }) := cellRow Rr30 3
      have fr3_31 := freeRow Rr30 3
      have yr4_31 : World.cell? _ ⟨w.heap.size, 4, none⟩ = some (.string { data := #[] }) := cellRow Rr30 4
      have fr4_31 := freeRow Rr30 4
      have yr5_31 : World.cell? _ ⟨w.heap.size, 5, none⟩ = some (.int .i64 0) := cellRow Rr30 5
      have fr5_31 := freeRow Rr30 5
      have yr6_31 : World.cell? _ ⟨w.heap.size, 6, none⟩ = some (.int .i64 0) := cellRow Rr30 6
      have fr6_31 := freeRow Rr30 6
      have yr7_31 : World.cell? _ ⟨w.heap.size, 7, none⟩ = some (.string { data := #[] }) := cellRow Rr30 7
      have fr7_31 := freeRow Rr30 7
      have yr8_31 : World.cell? _ ⟨w.heap.size, 8, none⟩ = some (.int .i64 0) := cellRow Rr30 8
      have fr8_31 := freeRow Rr30 8
      have yr9_31 : World.cell? _ ⟨w.heap.size, 9, none⟩ = some (.string { data := #[] }) := cellRow Rr30 9
      have fr9_31 := freeRow Rr30 9
      have QP := Lib.hid (jnp_new (jnp_new (jnp_new (jnp_new (jnp_new (jnp_new (jnp_new (jnp_new (jnp_new (jnp_new P30 Lr hlt 0 (.string (bs x.n))) Lr hlt 1 (.int .i64 x.l)) Lr hlt 2 (.int .i64 x.k)) Lr hlt 3 (.string (bs x.cl))) Lr hlt 4 (.string (bs x.ot))) Lr hlt 5 (.int .i64 x.ct)) Lr hlt 6 (.int .i64 x.wn)) Lr hlt 7 (.string (bs x.ra))) Lr hlt 8 (.int .i64 x.lv)) Lr hlt 9 (.string (bs x.tx)))
      have PX := row_ten Rr30 (.string (bs x.n)) (.int .i64 x.l) (.int .i64 x.k) (.string (bs x.cl)) (.string (bs x.ot)) (.int .i64 x.ct) (.int .i64 x.wn) (.string (bs x.ra)) (.int .i64 x.lv) (.string (bs x.tx))
      clear P30 Rv30 Rr30
      go_wp2
      refine bodyPost_ret (results_cell_row rfl _ _ (w.heap.size) _ _ _ _ rfl PX Tryz.underlying40 rfl (by kernel_rfl)) rfl ?_
      rw [HY.out]
      exact ⟨rfl, QP.out⟩
    | true =>
      rw [hgo] at G1
      simp only [if_true] at G1
      have hbad : sx.bad = none := by
        cases hb : sx.bad with
        | none => rfl
        | some l => rw [goOn_bad (by rw [hb]; simp)] at hgo; cases hgo
      obtain ⟨G, rfl⟩ : ∃ G, gk = G + 1 := ⟨gk - 1, by have := hg hbad; omega⟩
      have hgG := hg hbad
      rw [wa_go hgo] at HK
      have HCP := Lib.hid (clause_p T last x seen sx).2.1
      clear hg hbad hgo HX
      cases h0 : (!seen.contains 0 && at_ T sx 1 (wClauses.getD 0 [])) with
      | true =>
        have C0 := Lib.hid (fun wq hq1 hq2 => ponce_walk b (w6.heap.size) T ao cap last sx (wClauses.getD 0 []) (by decide) (mask seen) 2 (mask (seen ++ [0])) (seen.contains 0) (mask_and0 seen) (mask_or0 seen (by have := h0; rw [Bool.and_eq_true] at this; simpa using this.1)) wq Mq hq1 hq2)
        rw [show bs (wClauses.getD 0 []) = ({ data := #[99, 108, 97, 115, 115] } : ByteArray) from rfl, h0] at C0
        simp only [if_true] at C0
        rw [clause_0 h0] at HK HCP
        have D1 := Lib.hid (fun w1 h1 => ptext_walk b T ao cap last (nx sx) 4 w1 h1)
        have D2 := Lib.hid (fun w1 h1 => psign_walk b T ao cap last (take T last 4 [] (nx sx)).2 59 (by decide) w1 h1)
        rw [show bs [59] = ({ data := #[59] } : ByteArray) from rfl] at D2
        simp only at HK HCP
        generalize sign T last [59] (take T last 4 [] (nx sx)).2 = s6 at *
        generalize (take T last 4 [] (nx sx)).1 = y at *
        generalize (take T last 4 [] (nx sx)).2 = s5 at *
        clear h0
        go_wp2_with fail
        refine (G1.out _ P5.1).mono ?_
        rintro e w30 ⟨rfl, p30⟩
        have Rr30 := kp_row16 p30.2 Rr5 Nr
        have Rv30 := kp_row16 p30.2 Rv5 Nv
        have Rq30 := kp_row16 p30.2 Rq5 Nq
        have P30 := JnP.then P5.2 p30
        clear p30 P5 Rr5 Rv5 Rq5
        go_wp2_with fail
        refine (C0.out _ P30.1 Rq30).mono ?_
        rintro e w31 ⟨rfl, jq31, nq31⟩
        have Rr31 := kq_row jq31.2 Rr30 Nr Drq
        have Rv31 := kq_row jq31.2 Rv30 Nv Dvq
        have Rq31 : w31.heap[w6.heap.size]? = some (.cells #[.int .i64 (mask (seen ++ [0]))] 3 (0, 0)) := nq31
        have P31 := JnQ.own P30 jq31 Lq
        clear jq31 P30 Rr30 Rv30 Rq30 nq31
        go_wp2_with fail
        refine (D1.out _ P31.1).mono ?_
        rintro e w32 ⟨rfl, p32⟩
        have Rr32 := kp_row16 p32.2 Rr31 Nr
        have Rv32 := kp_row16 p32.2 Rv31 Nv
        have Rq32 := kp_row16 p32.2 Rq31 Nq
        have P32 := JnP.then P31.2 p32
        clear p32 P31 Rr31 Rv31 Rq31
        have yv3_33 : World.cell? _ ⟨(w.heap.size + 1), 3, none⟩ = some (.string (bs x.cl)) := cellRow Rv32 3
        have fv3_33 := freeRow Rv32 3
        have P33 := jnp_new P32 Lv Mv 3 (.string (bs y))
        have Rr33 := (Below.heap_setCell _ ⟨(w.heap.size + 1), 3, none⟩ (.string (bs y)) _ (Drv)).trans Rr32
        have Rv33 := row_to (B := #[.string (bs x.n), .int .i64 x.l, .int .i64 x.k, .string (bs y), .string (bs x.ot), .int .i64 x.ct, .int .i64 x.wn, .string (bs x.ra), .int .i64 x.lv, .string (bs x.tx)]) (rowSet Rv32 3 (.string (bs y))) rfl
        have Rq33 := (Below.heap_setCell _ ⟨(w.heap.size + 1), 3, none⟩ (.string (bs y)) _ (Dvq.symm)).trans Rq32
        go_wp2_with fail
        refine (D2.out _ P33.1).mono ?_
        rintro e w34 ⟨rfl, p34⟩
        have Rr34 := kp_row16 p34.2 Rr33 Nr
        have Rv34 := kp_row16 p34.2 Rv33 Nv
        have Rq34 := kp_row16 p34.2 Rq33 Nq
        have P34 := JnP.then P33.2 p34
        clear p34 P33 Rr33 Rv33 Rq33 yv3_33 fv3_33 P32 Rr32 Rv32 Rq32
        have Q8 := Lib.hid P34
        have Tr := Lib.hid Rr34
        have Tv := Lib.hid Rv34
        have Tq := Lib.hid Rq34
        clear P34 Rr34 Rv34 Rq34
        go_wp2
        go_roundg G
        case measure => omega
        case rel => exact ⟨_, { x with cl := y }, seen ++ [0], HK.out, fun e => by have := HCP.out e; omega, Q8.out, Tr.out, Tv.out, Tq.out⟩
      | false =>
        cases h1 : (!seen.contains 1 && at_ T sx 1 (wClauses.getD 1 [])) with
        | true =>
          have C0 := Lib.hid (fun wq hq1 hq2 => ponce_walk b (w6.heap.size) T ao cap last sx (wClauses.getD 0 []) (by decide) (mask seen) 2 (bits .or .i64 (mask seen) 2) (seen.contains 0) (mask_and0 seen) rfl wq Mq hq1 hq2)
          rw [show bs (wClauses.getD 0 []) = ({ data := #[99, 108, 97, 115, 115] } : ByteArray) from rfl, h0] at C0
          simp only [Bool.false_eq_true, if_false] at C0
          have C1 := Lib.hid (fun wq hq1 hq2 => ponce_walk b (w6.heap.size) T ao cap last sx (wClauses.getD 1 []) (by decide) (mask seen) 4 (mask (seen ++ [1])) (seen.contains 1) (mask_and1 seen) (mask_or1 seen (by have := h1; rw [Bool.and_eq_true] at this; simpa using this.1)) wq Mq hq1 hq2)
          rw [show bs (wClauses.getD 1 []) = ({ data := #[111, 116, 104, 101, 114] } : ByteArray) from rfl, h1] at C1
          simp only [if_true] at C1
          rw [clause_1 h1] at HK HCP
          have D1 := Lib.hid (fun w1 h1 => ptext_walk b T ao cap last (nx sx) 4 w1 h1)
          have D2 := Lib.hid (fun w1 h1 => psign_walk b T ao cap last (take T last 4 [] (nx sx)).2 59 (by decide) w1 h1)
          rw [show bs [59] = ({ data := #[59] } : ByteArray) from rfl] at D2
          simp only at HK HCP
          generalize sign T last [59] (take T last 4 [] (nx sx)).2 = s6 at *
          generalize (take T last 4 [] (nx sx)).1 = y at *
          generalize (take T last 4 [] (nx sx)).2 = s5 at *
          clear h0 h1
          go_wp2_with fail
          refine (G1.out _ P5.1).mono ?_
          rintro e w30 ⟨rfl, p30⟩
          have Rr30 := kp_row16 p30.2 Rr5 Nr
          have Rv30 := kp_row16 p30.2 Rv5 Nv
          have Rq30 := kp_row16 p30.2 Rq5 Nq
          have P30 := JnP.then P5.2 p30
          clear p30 P5 Rr5 Rv5 Rq5
          go_wp2_with fail
          refine (C0.out _ P30.1 Rq30).mono ?_
          rintro e w31 ⟨rfl, jq31, nq31⟩
          have Rr31 := kq_row jq31.2 Rr30 Nr Drq
          have Rv31 := kq_row jq31.2 Rv30 Nv Dvq
          have Rq31 : w31.heap[w6.heap.size]? = some (.cells #[.int .i64 (mask seen)] 3 (0, 0)) := nq31
          have P31 := JnQ.own P30 jq31 Lq
          clear jq31 P30 Rr30 Rv30 Rq30 nq31
          go_wp2_with fail
          refine (C1.out _ P31.1 Rq31).mono ?_
          rintro e w32 ⟨rfl, jq32, nq32⟩
          have Rr32 := kq_row jq32.2 Rr31 Nr Drq
          have Rv32 := kq_row jq32.2 Rv31 Nv Dvq
          have Rq32 : w32.heap[w6.heap.size]? = some (.cells #[.int .i64 (mask (seen ++ [1]))] 3 (0, 0)) := nq32
          have P32 := JnQ.own P31 jq32 Lq
          clear jq32 P31 Rr31 Rv31 Rq31 nq32
          go_wp2_with fail
          refine (D1.out _ P32.1).mono ?_
          rintro e w33 ⟨rfl, p33⟩
          have Rr33 := kp_row16 p33.2 Rr32 Nr
          have Rv33 := kp_row16 p33.2 Rv32 Nv
          have Rq33 := kp_row16 p33.2 Rq32 Nq
          have P33 := JnP.then P32.2 p33
          clear p33 P32 Rr32 Rv32 Rq32
          have yv4_34 : World.cell? _ ⟨(w.heap.size + 1), 4, none⟩ = some (.string (bs x.ot)) := cellRow Rv33 4
          have fv4_34 := freeRow Rv33 4
          have P34 := jnp_new P33 Lv Mv 4 (.string (bs y))
          have Rr34 := (Below.heap_setCell _ ⟨(w.heap.size + 1), 4, none⟩ (.string (bs y)) _ (Drv)).trans Rr33
          have Rv34 := row_to (B := #[.string (bs x.n), .int .i64 x.l, .int .i64 x.k, .string (bs x.cl), .string (bs y), .int .i64 x.ct, .int .i64 x.wn, .string (bs x.ra), .int .i64 x.lv, .string (bs x.tx)]) (rowSet Rv33 4 (.string (bs y))) rfl
          have Rq34 := (Below.heap_setCell _ ⟨(w.heap.size + 1), 4, none⟩ (.string (bs y)) _ (Dvq.symm)).trans Rq33
          go_wp2_with fail
          refine (D2.out _ P34.1).mono ?_
          rintro e w35 ⟨rfl, p35⟩
          have Rr35 := kp_row16 p35.2 Rr34 Nr
          have Rv35 := kp_row16 p35.2 Rv34 Nv
          have Rq35 := kp_row16 p35.2 Rq34 Nq
          have P35 := JnP.then P34.2 p35
          clear p35 P34 Rr34 Rv34 Rq34 yv4_34 fv4_34 P33 Rr33 Rv33 Rq33
          have Q8 := Lib.hid P35
          have Tr := Lib.hid Rr35
          have Tv := Lib.hid Rv35
          have Tq := Lib.hid Rq35
          clear P35 Rr35 Rv35 Rq35
          go_wp2
          go_roundg G
          case measure => omega
          case rel => exact ⟨_, { x with ot := y }, seen ++ [1], HK.out, fun e => by have := HCP.out e; omega, Q8.out, Tr.out, Tv.out, Tq.out⟩
        | false =>
          cases h2 : (!seen.contains 2 && at_ T sx 1 (wClauses.getD 2 [])) with
          | true =>
            have C0 := Lib.hid (fun wq hq1 hq2 => ponce_walk b (w6.heap.size) T ao cap last sx (wClauses.getD 0 []) (by decide) (mask seen) 2 (bits .or .i64 (mask seen) 2) (seen.contains 0) (mask_and0 seen) rfl wq Mq hq1 hq2)
            rw [show bs (wClauses.getD 0 []) = ({ data := #[99, 108, 97, 115, 115] } : ByteArray) from rfl, h0] at C0
            simp only [Bool.false_eq_true, if_false] at C0
            have C1 := Lib.hid (fun wq hq1 hq2 => ponce_walk b (w6.heap.size) T ao cap last sx (wClauses.getD 1 []) (by decide) (mask seen) 4 (bits .or .i64 (mask seen) 4) (seen.contains 1) (mask_and1 seen) rfl wq Mq hq1 hq2)
            rw [show bs (wClauses.getD 1 []) = ({ data := #[111, 116, 104, 101, 114] } : ByteArray) from rfl, h1] at C1
            simp only [Bool.false_eq_true, if_false] at C1
            have C2 := Lib.hid (fun wq hq1 hq2 => ponce_walk b (w6.heap.size) T ao cap last sx (wClauses.getD 2 []) (by decide) (mask seen) 8 (mask (seen ++ [2])) (seen.contains 2) (mask_and2 seen) (mask_or2 seen (by have := h2; rw [Bool.and_eq_true] at this; simpa using this.1)) wq Mq hq1 hq2)
            rw [show bs (wClauses.getD 2 []) = ({ data := #[99, 111, 117, 110, 116] } : ByteArray) from rfl, h2] at C2
            simp only [if_true] at C2
            rw [clause_2 h2] at HK HCP
            have D1 := Lib.hid (fun w1 h1 => pfigN_walk b T ao cap last (nx sx) w1 h1)
            have D2 := Lib.hid (fun w1 h1 => psign_walk b T ao cap last (number T last (nx sx)).2 59 (by decide) w1 h1)
            rw [show bs [59] = ({ data := #[59] } : ByteArray) from rfl] at D2
            simp only at HK HCP
            generalize sign T last [59] (number T last (nx sx)).2 = s6 at *
            generalize (number T last (nx sx)).1 = y at *
            generalize (number T last (nx sx)).2 = s5 at *
            clear h0 h1 h2
            go_wp2_with fail
            refine (G1.out _ P5.1).mono ?_
            rintro e w30 ⟨rfl, p30⟩
            have Rr30 := kp_row16 p30.2 Rr5 Nr
            have Rv30 := kp_row16 p30.2 Rv5 Nv
            have Rq30 := kp_row16 p30.2 Rq5 Nq
            have P30 := JnP.then P5.2 p30
            clear p30 P5 Rr5 Rv5 Rq5
            go_wp2_with fail
            refine (C0.out _ P30.1 Rq30).mono ?_
            rintro e w31 ⟨rfl, jq31, nq31⟩
            have Rr31 := kq_row jq31.2 Rr30 Nr Drq
            have Rv31 := kq_row jq31.2 Rv30 Nv Dvq
            have Rq31 : w31.heap[w6.heap.size]? = some (.cells #[.int .i64 (mask seen)] 3 (0, 0)) := nq31
            have P31 := JnQ.own P30 jq31 Lq
            clear jq31 P30 Rr30 Rv30 Rq30 nq31
            go_wp2_with fail
            refine (C1.out _ P31.1 Rq31).mono ?_
            rintro e w32 ⟨rfl, jq32, nq32⟩
            have Rr32 := kq_row jq32.2 Rr31 Nr Drq
            have Rv32 := kq_row jq32.2 Rv31 Nv Dvq
            have Rq32 : w32.heap[w6.heap.size]? = some (.cells #[.int .i64 (mask seen)] 3 (0, 0)) := nq32
            have P32 := JnQ.own P31 jq32 Lq
            clear jq32 P31 Rr31 Rv31 Rq31 nq32
            go_wp2_with fail
            refine (C2.out _ P32.1 Rq32).mono ?_
            rintro e w33 ⟨rfl, jq33, nq33⟩
            have Rr33 := kq_row jq33.2 Rr32 Nr Drq
            have Rv33 := kq_row jq33.2 Rv32 Nv Dvq
            have Rq33 : w33.heap[w6.heap.size]? = some (.cells #[.int .i64 (mask (seen ++ [2]))] 3 (0, 0)) := nq33
            have P33 := JnQ.own P32 jq33 Lq
            clear jq33 P32 Rr32 Rv32 Rq32 nq33
            go_wp2_with fail
            refine (D1.out _ P33.1).mono ?_
            rintro e w34 ⟨rfl, p34⟩
            have Rr34 := kp_row16 p34.2 Rr33 Nr
            have Rv34 := kp_row16 p34.2 Rv33 Nv
            have Rq34 := kp_row16 p34.2 Rq33 Nq
            have P34 := JnP.then P33.2 p34
            clear p34 P33 Rr33 Rv33 Rq33
            have yv5_35 : World.cell? _ ⟨(w.heap.size + 1), 5, none⟩ = some (.int .i64 x.ct) := cellRow Rv34 5
            have fv5_35 := freeRow Rv34 5
            have P35 := jnp_new P34 Lv Mv 5 (.int .i64 y)
            have Rr35 := (Below.heap_setCell _ ⟨(w.heap.size + 1), 5, none⟩ (.int .i64 y) _ (Drv)).trans Rr34
            have Rv35 := row_to (B := #[.string (bs x.n), .int .i64 x.l, .int .i64 x.k, .string (bs x.cl), .string (bs x.ot), .int .i64 y, .int .i64 x.wn, .string (bs x.ra), .int .i64 x.lv, .string (bs x.tx)]) (rowSet Rv34 5 (.int .i64 y)) rfl
            have Rq35 := (Below.heap_setCell _ ⟨(w.heap.size + 1), 5, none⟩ (.int .i64 y) _ (Dvq.symm)).trans Rq34
            go_wp2_with fail
            refine (D2.out _ P35.1).mono ?_
            rintro e w36 ⟨rfl, p36⟩
            have Rr36 := kp_row16 p36.2 Rr35 Nr
            have Rv36 := kp_row16 p36.2 Rv35 Nv
            have Rq36 := kp_row16 p36.2 Rq35 Nq
            have P36 := JnP.then P35.2 p36
            clear p36 P35 Rr35 Rv35 Rq35 yv5_35 fv5_35 P34 Rr34 Rv34 Rq34
            have Q8 := Lib.hid P36
            have Tr := Lib.hid Rr36
            have Tv := Lib.hid Rv36
            have Tq := Lib.hid Rq36
            clear P36 Rr36 Rv36 Rq36
            go_wp2
            go_roundg G
            case measure => omega
            case rel => exact ⟨_, { x with ct := y }, seen ++ [2], HK.out, fun e => by have := HCP.out e; omega, Q8.out, Tr.out, Tv.out, Tq.out⟩
          | false =>
            cases h3 : (!seen.contains 3 && at_ T sx 1 (wClauses.getD 3 [])) with
            | true =>
              have C0 := Lib.hid (fun wq hq1 hq2 => ponce_walk b (w6.heap.size) T ao cap last sx (wClauses.getD 0 []) (by decide) (mask seen) 2 (bits .or .i64 (mask seen) 2) (seen.contains 0) (mask_and0 seen) rfl wq Mq hq1 hq2)
              rw [show bs (wClauses.getD 0 []) = ({ data := #[99, 108, 97, 115, 115] } : ByteArray) from rfl, h0] at C0
              simp only [Bool.false_eq_true, if_false] at C0
              have C1 := Lib.hid (fun wq hq1 hq2 => ponce_walk b (w6.heap.size) T ao cap last sx (wClauses.getD 1 []) (by decide) (mask seen) 4 (bits .or .i64 (mask seen) 4) (seen.contains 1) (mask_and1 seen) rfl wq Mq hq1 hq2)
              rw [show bs (wClauses.getD 1 []) = ({ data := #[111, 116, 104, 101, 114] } : ByteArray) from rfl, h1] at C1
              simp only [Bool.false_eq_true, if_false] at C1
              have C2 := Lib.hid (fun wq hq1 hq2 => ponce_walk b (w6.heap.size) T ao cap last sx (wClauses.getD 2 []) (by decide) (mask seen) 8 (bits .or .i64 (mask seen) 8) (seen.contains 2) (mask_and2 seen) rfl wq Mq hq1 hq2)
              rw [show bs (wClauses.getD 2 []) = ({ data := #[99, 111, 117, 110, 116] } : ByteArray) from rfl, h2] at C2
              simp only [Bool.false_eq_true, if_false] at C2
              have C3 := Lib.hid (fun wq hq1 hq2 => ponce_walk b (w6.heap.size) T ao cap last sx (wClauses.getD 3 []) (by decide) (mask seen) 16 (mask (seen ++ [3])) (seen.contains 3) (mask_and3 seen) (mask_or3 seen (by have := h3; rw [Bool.and_eq_true] at this; simpa using this.1)) wq Mq hq1 hq2)
              rw [show bs (wClauses.getD 3 []) = ({ data := #[119, 105, 110, 100, 111, 119] } : ByteArray) from rfl, h3] at C3
              simp only [if_true] at C3
              rw [clause_3 h3] at HK HCP
              have D1 := Lib.hid (fun w1 h1 => pfigS_walk b T ao cap last (nx sx) w1 h1)
              have D2 := Lib.hid (fun w1 h1 => psign_walk b T ao cap last (span T last (nx sx)).2 59 (by decide) w1 h1)
              rw [show bs [59] = ({ data := #[59] } : ByteArray) from rfl] at D2
              simp only at HK HCP
              generalize sign T last [59] (span T last (nx sx)).2 = s6 at *
              generalize (span T last (nx sx)).1 = y at *
              generalize (span T last (nx sx)).2 = s5 at *
              clear h0 h1 h2 h3
              go_wp2_with fail
              refine (G1.out _ P5.1).mono ?_
              rintro e w30 ⟨rfl, p30⟩
              have Rr30 := kp_row16 p30.2 Rr5 Nr
              have Rv30 := kp_row16 p30.2 Rv5 Nv
              have Rq30 := kp_row16 p30.2 Rq5 Nq
              have P30 := JnP.then P5.2 p30
              clear p30 P5 Rr5 Rv5 Rq5
              go_wp2_with fail
              refine (C0.out _ P30.1 Rq30).mono ?_
              rintro e w31 ⟨rfl, jq31, nq31⟩
              have Rr31 := kq_row jq31.2 Rr30 Nr Drq
              have Rv31 := kq_row jq31.2 Rv30 Nv Dvq
              have Rq31 : w31.heap[w6.heap.size]? = some (.cells #[.int .i64 (mask seen)] 3 (0, 0)) := nq31
              have P31 := JnQ.own P30 jq31 Lq
              clear jq31 P30 Rr30 Rv30 Rq30 nq31
              go_wp2_with fail
              refine (C1.out _ P31.1 Rq31).mono ?_
              rintro e w32 ⟨rfl, jq32, nq32⟩
              have Rr32 := kq_row jq32.2 Rr31 Nr Drq
              have Rv32 := kq_row jq32.2 Rv31 Nv Dvq
              have Rq32 : w32.heap[w6.heap.size]? = some (.cells #[.int .i64 (mask seen)] 3 (0, 0)) := nq32
              have P32 := JnQ.own P31 jq32 Lq
              clear jq32 P31 Rr31 Rv31 Rq31 nq32
              go_wp2_with fail
              refine (C2.out _ P32.1 Rq32).mono ?_
              rintro e w33 ⟨rfl, jq33, nq33⟩
              have Rr33 := kq_row jq33.2 Rr32 Nr Drq
              have Rv33 := kq_row jq33.2 Rv32 Nv Dvq
              have Rq33 : w33.heap[w6.heap.size]? = some (.cells #[.int .i64 (mask seen)] 3 (0, 0)) := nq33
              have P33 := JnQ.own P32 jq33 Lq
              clear jq33 P32 Rr32 Rv32 Rq32 nq33
              go_wp2_with fail
              refine (C3.out _ P33.1 Rq33).mono ?_
              rintro e w34 ⟨rfl, jq34, nq34⟩
              have Rr34 := kq_row jq34.2 Rr33 Nr Drq
              have Rv34 := kq_row jq34.2 Rv33 Nv Dvq
              have Rq34 : w34.heap[w6.heap.size]? = some (.cells #[.int .i64 (mask (seen ++ [3]))] 3 (0, 0)) := nq34
              have P34 := JnQ.own P33 jq34 Lq
              clear jq34 P33 Rr33 Rv33 Rq33 nq34
              go_wp2_with fail
              refine (D1.out _ P34.1).mono ?_
              rintro e w35 ⟨rfl, p35⟩
              have Rr35 := kp_row16 p35.2 Rr34 Nr
              have Rv35 := kp_row16 p35.2 Rv34 Nv
              have Rq35 := kp_row16 p35.2 Rq34 Nq
              have P35 := JnP.then P34.2 p35
              clear p35 P34 Rr34 Rv34 Rq34
              have yv6_36 : World.cell? _ ⟨(w.heap.size + 1), 6, none⟩ = some (.int .i64 x.wn) := cellRow Rv35 6
              have fv6_36 := freeRow Rv35 6
              have P36 := jnp_new P35 Lv Mv 6 (.int .i64 y)
              have Rr36 := (Below.heap_setCell _ ⟨(w.heap.size + 1), 6, none⟩ (.int .i64 y) _ (Drv)).trans Rr35
              have Rv36 := row_to (B := #[.string (bs x.n), .int .i64 x.l, .int .i64 x.k, .string (bs x.cl), .string (bs x.ot), .int .i64 x.ct, .int .i64 y, .string (bs x.ra), .int .i64 x.lv, .string (bs x.tx)]) (rowSet Rv35 6 (.int .i64 y)) rfl
              have Rq36 := (Below.heap_setCell _ ⟨(w.heap.size + 1), 6, none⟩ (.int .i64 y) _ (Dvq.symm)).trans Rq35
              go_wp2_with fail
              refine (D2.out _ P36.1).mono ?_
              rintro e w37 ⟨rfl, p37⟩
              have Rr37 := kp_row16 p37.2 Rr36 Nr
              have Rv37 := kp_row16 p37.2 Rv36 Nv
              have Rq37 := kp_row16 p37.2 Rq36 Nq
              have P37 := JnP.then P36.2 p37
              clear p37 P36 Rr36 Rv36 Rq36 yv6_36 fv6_36 P35 Rr35 Rv35 Rq35
              have Q8 := Lib.hid P37
              have Tr := Lib.hid Rr37
              have Tv := Lib.hid Rv37
              have Tq := Lib.hid Rq37
              clear P37 Rr37 Rv37 Rq37
              go_wp2
              go_roundg G
              case measure => omega
              case rel => exact ⟨_, { x with wn := y }, seen ++ [3], HK.out, fun e => by have := HCP.out e; omega, Q8.out, Tr.out, Tv.out, Tq.out⟩
            | false =>
              cases h4 : (!seen.contains 4 && at_ T sx 1 (wClauses.getD 4 [])) with
              | true =>
                have C0 := Lib.hid (fun wq hq1 hq2 => ponce_walk b (w6.heap.size) T ao cap last sx (wClauses.getD 0 []) (by decide) (mask seen) 2 (bits .or .i64 (mask seen) 2) (seen.contains 0) (mask_and0 seen) rfl wq Mq hq1 hq2)
                rw [show bs (wClauses.getD 0 []) = ({ data := #[99, 108, 97, 115, 115] } : ByteArray) from rfl, h0] at C0
                simp only [Bool.false_eq_true, if_false] at C0
                have C1 := Lib.hid (fun wq hq1 hq2 => ponce_walk b (w6.heap.size) T ao cap last sx (wClauses.getD 1 []) (by decide) (mask seen) 4 (bits .or .i64 (mask seen) 4) (seen.contains 1) (mask_and1 seen) rfl wq Mq hq1 hq2)
                rw [show bs (wClauses.getD 1 []) = ({ data := #[111, 116, 104, 101, 114] } : ByteArray) from rfl, h1] at C1
                simp only [Bool.false_eq_true, if_false] at C1
                have C2 := Lib.hid (fun wq hq1 hq2 => ponce_walk b (w6.heap.size) T ao cap last sx (wClauses.getD 2 []) (by decide) (mask seen) 8 (bits .or .i64 (mask seen) 8) (seen.contains 2) (mask_and2 seen) rfl wq Mq hq1 hq2)
                rw [show bs (wClauses.getD 2 []) = ({ data := #[99, 111, 117, 110, 116] } : ByteArray) from rfl, h2] at C2
                simp only [Bool.false_eq_true, if_false] at C2
                have C3 := Lib.hid (fun wq hq1 hq2 => ponce_walk b (w6.heap.size) T ao cap last sx (wClauses.getD 3 []) (by decide) (mask seen) 16 (bits .or .i64 (mask seen) 16) (seen.contains 3) (mask_and3 seen) rfl wq Mq hq1 hq2)
                rw [show bs (wClauses.getD 3 []) = ({ data := #[119, 105, 110, 100, 111, 119] } : ByteArray) from rfl, h3] at C3
                simp only [Bool.false_eq_true, if_false] at C3
                have C4 := Lib.hid (fun wq hq1 hq2 => ponce_walk b (w6.heap.size) T ao cap last sx (wClauses.getD 4 []) (by decide) (mask seen) 32 (mask (seen ++ [4])) (seen.contains 4) (mask_and4 seen) (mask_or4 seen (by have := h4; rw [Bool.and_eq_true] at this; simpa using this.1)) wq Mq hq1 hq2)
                rw [show bs (wClauses.getD 4 []) = ({ data := #[114, 97, 105, 115, 101] } : ByteArray) from rfl, h4] at C4
                simp only [if_true] at C4
                rw [clause_4 h4] at HK HCP
                have D1 := Lib.hid (fun w1 h1 h2 => praise_walk b (w.heap.size + 1) T ao cap last (nx sx) x w1 Mv h1 h2)
                have D2 := Lib.hid (fun w1 h1 => psign_walk b T ao cap last (take T last 4 [] (number T last (take T last 4 [] (nx sx)).2).2).2 59 (by decide) w1 h1)
                rw [show bs [59] = ({ data := #[59] } : ByteArray) from rfl] at D2
                simp only at HK HCP
                unfold wtC at D1
                generalize sign T last [59] (take T last 4 [] (number T last (take T last 4 [] (nx sx)).2).2).2 = s6 at *
                generalize (take T last 4 [] (number T last (take T last 4 [] (nx sx)).2).2).1 = tx at *
                generalize (take T last 4 [] (number T last (take T last 4 [] (nx sx)).2).2).2 = s5 at *
                generalize (number T last (take T last 4 [] (nx sx)).2).1 = lv at *
                generalize (number T last (take T last 4 [] (nx sx)).2).2 = s7 at *
                generalize (take T last 4 [] (nx sx)).1 = ra at *
                generalize (take T last 4 [] (nx sx)).2 = s8 at *
                clear h0 h1 h2 h3 h4
                go_wp2_with fail
                refine (G1.out _ P5.1).mono ?_
                rintro e w30 ⟨rfl, p30⟩
                have Rr30 := kp_row16 p30.2 Rr5 Nr
                have Rv30 := kp_row16 p30.2 Rv5 Nv
                have Rq30 := kp_row16 p30.2 Rq5 Nq
                have P30 := JnP.then P5.2 p30
                clear p30 P5 Rr5 Rv5 Rq5
                go_wp2_with fail
                refine (C0.out _ P30.1 Rq30).mono ?_
                rintro e w31 ⟨rfl, jq31, nq31⟩
                have Rr31 := kq_row jq31.2 Rr30 Nr Drq
                have Rv31 := kq_row jq31.2 Rv30 Nv Dvq
                have Rq31 : w31.heap[w6.heap.size]? = some (.cells #[.int .i64 (mask seen)] 3 (0, 0)) := nq31
                have P31 := JnQ.own P30 jq31 Lq
                clear jq31 P30 Rr30 Rv30 Rq30 nq31
                go_wp2_with fail
                refine (C1.out _ P31.1 Rq31).mono ?_
                rintro e w32 ⟨rfl, jq32, nq32⟩
                have Rr32 := kq_row jq32.2 Rr31 Nr Drq
                have Rv32 := kq_row jq32.2 Rv31 Nv Dvq
                have Rq32 : w32.heap[w6.heap.size]? = some (.cells #[.int .i64 (mask seen)] 3 (0, 0)) := nq32
                have P32 := JnQ.own P31 jq32 Lq
                clear jq32 P31 Rr31 Rv31 Rq31 nq32
                go_wp2_with fail
                refine (C2.out _ P32.1 Rq32).mono ?_
                rintro e w33 ⟨rfl, jq33, nq33⟩
                have Rr33 := kq_row jq33.2 Rr32 Nr Drq
                have Rv33 := kq_row jq33.2 Rv32 Nv Dvq
                have Rq33 : w33.heap[w6.heap.size]? = some (.cells #[.int .i64 (mask seen)] 3 (0, 0)) := nq33
                have P33 := JnQ.own P32 jq33 Lq
                clear jq33 P32 Rr32 Rv32 Rq32 nq33
                go_wp2_with fail
                refine (C3.out _ P33.1 Rq33).mono ?_
                rintro e w34 ⟨rfl, jq34, nq34⟩
                have Rr34 := kq_row jq34.2 Rr33 Nr Drq
                have Rv34 := kq_row jq34.2 Rv33 Nv Dvq
                have Rq34 : w34.heap[w6.heap.size]? = some (.cells #[.int .i64 (mask seen)] 3 (0, 0)) := nq34
                have P34 := JnQ.own P33 jq34 Lq
                clear jq34 P33 Rr33 Rv33 Rq33 nq34
                go_wp2_with fail
                refine (C4.out _ P34.1 Rq34).mono ?_
                rintro e w35 ⟨rfl, jq35, nq35⟩
                have Rr35 := kq_row jq35.2 Rr34 Nr Drq
                have Rv35 := kq_row jq35.2 Rv34 Nv Dvq
                have Rq35 : w35.heap[w6.heap.size]? = some (.cells #[.int .i64 (mask (seen ++ [4]))] 3 (0, 0)) := nq35
                have P35 := JnQ.own P34 jq35 Lq
                clear jq35 P34 Rr34 Rv34 Rq34 nq35
                go_wp2_with fail
                refine (D1.out _ P35.1 Rv35).mono ?_
                rintro e w36 ⟨rfl, jq36, nq36⟩
                have Rr36 := kq_row jq36.2 Rr35 Nr Drv
                have Rq36 := kq_row jq36.2 Rq35 Nq Dvq.symm
                have Rv36 : w36.heap[(w.heap.size + 1)]? = some (.cells #[.string (bs x.n), .int .i64 x.l, .int .i64 x.k, .string (bs x.cl), .string (bs x.ot), .int .i64 x.ct, .int .i64 x.wn, .string (bs ra), .int .i64 lv, .string (bs tx)] 40 (0, 0)) := nq36
                have P36 := JnQ.own P35 jq36 Lv
                clear jq36 P35 Rr35 Rq35 Rv35 nq36
                go_wp2_with fail
                refine (D2.out _ P36.1).mono ?_
                rintro e w37 ⟨rfl, p37⟩
                have Rr37 := kp_row16 p37.2 Rr36 Nr
                have Rv37 := kp_row16 p37.2 Rv36 Nv
                have Rq37 := kp_row16 p37.2 Rq36 Nq
                have P37 := JnP.then P36.2 p37
                clear p37 P36 Rr36 Rv36 Rq36
                have Q8 := Lib.hid P37
                have Tr := Lib.hid Rr37
                have Tv := Lib.hid Rv37
                have Tq := Lib.hid Rq37
                clear P37 Rr37 Rv37 Rq37
                go_wp2
                go_roundg G
                case measure => omega
                case rel => exact ⟨_, { x with ra := ra, lv := lv, tx := tx }, seen ++ [4], HK.out, fun e => by have := HCP.out e; omega, Q8.out, Tr.out, Tv.out, Tq.out⟩
              | false =>
                have C0 := Lib.hid (fun wq hq1 hq2 => ponce_walk b (w6.heap.size) T ao cap last sx (wClauses.getD 0 []) (by decide) (mask seen) 2 (bits .or .i64 (mask seen) 2) (seen.contains 0) (mask_and0 seen) rfl wq Mq hq1 hq2)
                rw [show bs (wClauses.getD 0 []) = ({ data := #[99, 108, 97, 115, 115] } : ByteArray) from rfl, h0] at C0
                simp only [Bool.false_eq_true, if_false] at C0
                have C1 := Lib.hid (fun wq hq1 hq2 => ponce_walk b (w6.heap.size) T ao cap last sx (wClauses.getD 1 []) (by decide) (mask seen) 4 (bits .or .i64 (mask seen) 4) (seen.contains 1) (mask_and1 seen) rfl wq Mq hq1 hq2)
                rw [show bs (wClauses.getD 1 []) = ({ data := #[111, 116, 104, 101, 114] } : ByteArray) from rfl, h1] at C1
                simp only [Bool.false_eq_true, if_false] at C1
                have C2 := Lib.hid (fun wq hq1 hq2 => ponce_walk b (w6.heap.size) T ao cap last sx (wClauses.getD 2 []) (by decide) (mask seen) 8 (bits .or .i64 (mask seen) 8) (seen.contains 2) (mask_and2 seen) rfl wq Mq hq1 hq2)
                rw [show bs (wClauses.getD 2 []) = ({ data := #[99, 111, 117, 110, 116] } : ByteArray) from rfl, h2] at C2
                simp only [Bool.false_eq_true, if_false] at C2
                have C3 := Lib.hid (fun wq hq1 hq2 => ponce_walk b (w6.heap.size) T ao cap last sx (wClauses.getD 3 []) (by decide) (mask seen) 16 (bits .or .i64 (mask seen) 16) (seen.contains 3) (mask_and3 seen) rfl wq Mq hq1 hq2)
                rw [show bs (wClauses.getD 3 []) = ({ data := #[119, 105, 110, 100, 111, 119] } : ByteArray) from rfl, h3] at C3
                simp only [Bool.false_eq_true, if_false] at C3
                have C4 := Lib.hid (fun wq hq1 hq2 => ponce_walk b (w6.heap.size) T ao cap last sx (wClauses.getD 4 []) (by decide) (mask seen) 32 (bits .or .i64 (mask seen) 32) (seen.contains 4) (mask_and4 seen) rfl wq Mq hq1 hq2)
                rw [show bs (wClauses.getD 4 []) = ({ data := #[114, 97, 105, 115, 101] } : ByteArray) from rfl, h4] at C4
                simp only [Bool.false_eq_true, if_false] at C4
                rw [clause_miss (fun i hi => by
                  obtain rfl | rfl | rfl | rfl | rfl : i = 0 ∨ i = 1 ∨ i = 2 ∨ i = 3 ∨ i = 4 := by omega
                  · exact h0
                  · exact h1
                  · exact h2
                  · exact h3
                  · exact h4)] at HK HCP
                have D1 := Lib.hid (fun w1 h1 => prefuse_walk b T ao cap last sx w1 h1)
                have D2 := Lib.hid (fun w1 h1 => psign_walk b T ao cap last (fail T last sx) 59 (by decide) w1 h1)
                rw [show bs [59] = ({ data := #[59] } : ByteArray) from rfl, sign_bad (fail_bad T last sx)] at D2
                simp only at HK HCP
                generalize fail T last sx = s6 at *
                clear h0 h1 h2 h3 h4
                go_wp2_with fail
                refine (G1.out _ P5.1).mono ?_
                rintro e w30 ⟨rfl, p30⟩
                have Rr30 := kp_row16 p30.2 Rr5 Nr
                have Rv30 := kp_row16 p30.2 Rv5 Nv
                have Rq30 := kp_row16 p30.2 Rq5 Nq
                have P30 := JnP.then P5.2 p30
                clear p30 P5 Rr5 Rv5 Rq5
                go_wp2_with fail
                refine (C0.out _ P30.1 Rq30).mono ?_
                rintro e w31 ⟨rfl, jq31, nq31⟩
                have Rr31 := kq_row jq31.2 Rr30 Nr Drq
                have Rv31 := kq_row jq31.2 Rv30 Nv Dvq
                have Rq31 : w31.heap[w6.heap.size]? = some (.cells #[.int .i64 (mask seen)] 3 (0, 0)) := nq31
                have P31 := JnQ.own P30 jq31 Lq
                clear jq31 P30 Rr30 Rv30 Rq30 nq31
                go_wp2_with fail
                refine (C1.out _ P31.1 Rq31).mono ?_
                rintro e w32 ⟨rfl, jq32, nq32⟩
                have Rr32 := kq_row jq32.2 Rr31 Nr Drq
                have Rv32 := kq_row jq32.2 Rv31 Nv Dvq
                have Rq32 : w32.heap[w6.heap.size]? = some (.cells #[.int .i64 (mask seen)] 3 (0, 0)) := nq32
                have P32 := JnQ.own P31 jq32 Lq
                clear jq32 P31 Rr31 Rv31 Rq31 nq32
                go_wp2_with fail
                refine (C2.out _ P32.1 Rq32).mono ?_
                rintro e w33 ⟨rfl, jq33, nq33⟩
                have Rr33 := kq_row jq33.2 Rr32 Nr Drq
                have Rv33 := kq_row jq33.2 Rv32 Nv Dvq
                have Rq33 : w33.heap[w6.heap.size]? = some (.cells #[.int .i64 (mask seen)] 3 (0, 0)) := nq33
                have P33 := JnQ.own P32 jq33 Lq
                clear jq33 P32 Rr32 Rv32 Rq32 nq33
                go_wp2_with fail
                refine (C3.out _ P33.1 Rq33).mono ?_
                rintro e w34 ⟨rfl, jq34, nq34⟩
                have Rr34 := kq_row jq34.2 Rr33 Nr Drq
                have Rv34 := kq_row jq34.2 Rv33 Nv Dvq
                have Rq34 : w34.heap[w6.heap.size]? = some (.cells #[.int .i64 (mask seen)] 3 (0, 0)) := nq34
                have P34 := JnQ.own P33 jq34 Lq
                clear jq34 P33 Rr33 Rv33 Rq33 nq34
                go_wp2_with fail
                refine (C4.out _ P34.1 Rq34).mono ?_
                rintro e w35 ⟨rfl, jq35, nq35⟩
                have Rr35 := kq_row jq35.2 Rr34 Nr Drq
                have Rv35 := kq_row jq35.2 Rv34 Nv Dvq
                have Rq35 : w35.heap[w6.heap.size]? = some (.cells #[.int .i64 (mask seen)] 3 (0, 0)) := nq35
                have P35 := JnQ.own P34 jq35 Lq
                clear jq35 P34 Rr34 Rv34 Rq34 nq35
                go_wp2_with fail
                refine (D1.out _ P35.1).mono ?_
                rintro e w36 ⟨rfl, p36⟩
                have Rr36 := kp_row16 p36.2 Rr35 Nr
                have Rv36 := kp_row16 p36.2 Rv35 Nv
                have Rq36 := kp_row16 p36.2 Rq35 Nq
                have P36 := JnP.then P35.2 p36
                clear p36 P35 Rr35 Rv35 Rq35
                go_wp2_with fail
                refine (D2.out _ P36.1).mono ?_
                rintro e w37 ⟨rfl, p37⟩
                have Rr37 := kp_row16 p37.2 Rr36 Nr
                have Rv37 := kp_row16 p37.2 Rv36 Nv
                have Rq37 := kp_row16 p37.2 Rq36 Nq
                have P37 := JnP.then P36.2 p37
                clear p37 P36 Rr36 Rv36 Rq36
                have Q8 := Lib.hid P37
                have Tr := Lib.hid Rr37
                have Tv := Lib.hid Rv37
                have Tq := Lib.hid Rq37
                clear P37 Rr37 Rv37 Rq37
                go_wp2
                go_roundg G
                case measure => omega
                case rel => exact ⟨_, x, seen, HK.out, fun e => by have := HCP.out e; omega, Q8.out, Tr.out, Tv.out, Tq.out⟩
end PQ
end Go.Proofs.YtaeglmgpoboihaaGreatDoor
