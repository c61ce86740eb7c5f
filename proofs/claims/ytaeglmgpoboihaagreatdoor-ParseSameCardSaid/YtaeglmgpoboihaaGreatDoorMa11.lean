/- Texts on the program and on the document, joined: PaqE. -/
import Derived.Test.YtaeglmgpoboihaaGreatDoorMa10
/- The program's reader of rules: key, piece, test, walked. gen_paqe.py writes it. -/
namespace Go.Proofs.YtaeglmgpoboihaaGreatDoor
open Go.ChangeShapes Go.WideShapes Go.ChangeAt Go.RowKit K L15 S3
open L14 (Tk)
set_option linter.unusedVariables false
namespace PQ
theorem pkeycomes_walk (b : Nat) (T : List Tk) (ao : Option Addr) (cap last : Nat) (s : Pi) (w : World) (h : JnR w b T ao cap last s) :
    Calls Tryz.prog 47 #[.pointer (some ⟨b, 0, none⟩)] w fun e w' => e = .returned (.bool (at_ T s 4 [])) ∧ JnP w b T ao cap last s w' := by
  have HA := Lib.hid (comes_walk b T ao cap last s 4 w h)
  clear h
  go_enter Tryz.func47, Tryz.ntmps47
  go_wp2_with fail
  refine HA.out.mono ?_
  rintro e w1 ⟨rfl, p1⟩
  have P1 := Lib.hid p1
  clear p1
  go_wp2
  go_ret
  exact ⟨rfl, P1.out⟩
theorem ptookplus_walk (b : Nat) (T : List Tk) (ao : Option Addr) (cap last : Nat) (s : Pi) (w : World) (h : JnR w b T ao cap last s) :
    Calls Tryz.prog 76 #[.pointer (some ⟨b, 0, none⟩)] w fun e w' => e = .returned (.bool (at_ T s 5 [43])) ∧ JnP w b T ao cap last (stp T s 43) w' := by
  have HA := Lib.hid (ptook_walk b T ao cap last s 43 (by decide) w h)
  rw [show bs [43] = ({ data := #[43] } : ByteArray) from rfl] at HA
  clear h
  go_enter Tryz.func76, Tryz.ntmps76
  go_wp2_with fail
  refine HA.out.mono ?_
  rintro e w1 ⟨rfl, p1⟩
  have P1 := Lib.hid p1
  clear p1
  go_wp2
  go_ret
  exact ⟨rfl, P1.out⟩
/-- One key: its two texts. -/
def key1 (T : List Tk) (last : Nat) (s : Pi) : Pr × Pi := (⟨(take T last 4 [] s).1, (take T last 4 [] (sign T last [61] (take T last 4 [] s).2)).1⟩, sign T last [59] (take T last 4 [] (sign T last [61] (take T last 4 [] s).2)).2)
set_option maxRecDepth 100000 in
set_option maxHeartbeats 4000000 in
theorem pkey_walk (b : Nat) (T : List Tk) (ao : Option Addr) (cap last : Nat) (s : Pi) (w : World) (h : JnR w b T ao cap last s) :
    Calls Tryz.prog 48 #[.pointer (some ⟨b, 0, none⟩)] w fun e w' => e = .returned (.agg #[.string (bs (key1 T last s).1.n), .string (bs (key1 T last s).1.v)]) ∧ JnP w b T ao cap last (key1 T last s).2 w' := by
  have hlt := h.lt
  have a0 : Below w.heap.size w (w.alloc (.cells #[.string { data := #[] }, .string { data := #[] }] 68)) := (Below.refl _ _).alloc (Nat.le_refl _) _
  have Rr0 := rowNew w (.cells #[.string { data := #[] }, .string { data := #[] }] 68)
  have h0 := h.below a0
  have P0 : JnP w b T ao cap last s (w.alloc (.cells #[.string { data := #[] }, .string { data := #[] }] 68)) := ⟨h0, Kp.ofBelow a0 [b]⟩
  obtain ⟨w0, hw0⟩ : ∃ w0, w.alloc (.cells #[.string { data := #[] }, .string { data := #[] }] 68) = w0 := ⟨_, rfl⟩
  rw [hw0] at a0 Rr0 h0 P0
  have HW0 := Lib.hid hw0
  have Nr : w.heap.size ≠ b := by omega
  have Lr : w.heap.size ≤ w.heap.size := Nat.le_refl _
  have HX := Lib.hid (show key1 T last s = (⟨(take T last 4 [] s).1, (take T last 4 [] (sign T last [61] (take T last 4 [] s).2)).1⟩, sign T last [59] (take T last 4 [] (sign T last [61] (take T last 4 [] s).2)).2) from rfl)
  rw [HX.out]
  have H1 := Lib.hid (fun w1 h1 => ptext_walk b T ao cap last s 4 w1 h1)
  have H2 := Lib.hid (fun w1 h1 => psign_walk b T ao cap last (take T last 4 [] s).2 61 (by decide) w1 h1)
  have H3 := Lib.hid (fun w1 h1 => ptext_walk b T ao cap last (sign T last [61] (take T last 4 [] s).2) 4 w1 h1)
  have H4 := Lib.hid (fun w1 h1 => psign_walk b T ao cap last (take T last 4 [] (sign T last [61] (take T last 4 [] s).2)).2 59 (by decide) w1 h1)
  rw [show bs [61] = ({ data := #[61] } : ByteArray) from rfl] at H2
  rw [show bs [59] = ({ data := #[59] } : ByteArray) from rfl] at H4
  clear HX
  generalize sign T last [59] (take T last 4 [] (sign T last [61] (take T last 4 [] s).2)).2 = s4 at *
  generalize (take T last 4 [] (sign T last [61] (take T last 4 [] s).2)).1 = kv at *
  generalize (take T last 4 [] (sign T last [61] (take T last 4 [] s).2)).2 = s3 at *
  generalize (sign T last [61] (take T last 4 [] s).2) = s2 at *
  generalize (take T last 4 [] s).1 = kn at *
  generalize (take T last 4 [] s).2 = sy at *
  clear h a0 h0 hw0
  go_enter Tryz.func48, Tryz.ntmps48
  go_wp2_with fail
  rw [HW0.out]
  refine (H1.out _ P0.1).mono ?_
  rintro e w1 ⟨rfl, p1⟩
  have Rr1 := kp_row16 p1.2 Rr0 Nr
  have P1 := JnP.then P0.2 p1
  clear p1 P0 Rr0
  have a2 : Below w1.heap.size w1 (w1.alloc (.cells #[.string (bs kn), .string { data := #[] }] 68)) := (Below.refl _ _).alloc (Nat.le_refl _) _
  have Rv2 := rowNew w1 (.cells #[.string (bs kn), .string { data := #[] }] 68)
  have Rr2 := (a2.block w.heap.size (lt_of_block Rr1)).trans Rr1
  have P2 : JnP w b T _ cap last _ (w1.alloc (.cells #[.string (bs kn), .string { data := #[] }] 68)) := ⟨P1.1.below a2, P1.2.alloc _⟩
  have Lv : w.heap.size ≤ w1.heap.size := P1.2.size
  have Mv : b < w1.heap.size := by omega
  have Nv : w1.heap.size ≠ b := by omega
  obtain ⟨v2, hv2⟩ : ∃ zz, w1.alloc (.cells #[.string (bs kn), .string { data := #[] }] 68) = zz := ⟨_, rfl⟩
  rw [hv2] at a2 Rv2 Rr2 P2
  have HV2 := Lib.hid hv2
  clear hv2
  have Drv : w.heap.size ≠ w1.heap.size := by have := lt_of_block Rr1; omega
  go_wp2_with fail
  rw [HV2.out]
  refine (H2.out _ P2.1).mono ?_
  rintro e w3 ⟨rfl, p3⟩
  have Rr3 := kp_row16 p3.2 Rr2 Nr
  have Rv3 := kp_row16 p3.2 Rv2 Nv
  have P3 := JnP.then P2.2 p3
  clear p3 P2 Rr2 Rv2 P1 a2
  go_wp2_with fail
  refine (H3.out _ P3.1).mono ?_
  rintro e w4 ⟨rfl, p4⟩
  have Rr4 := kp_row16 p4.2 Rr3 Nr
  have Rv4 := kp_row16 p4.2 Rv3 Nv
  have P4 := JnP.then P3.2 p4
  clear p4 P3 Rr3 Rv3
  have yv1_5 : World.cell? _ ⟨w1.heap.size, 1, none⟩ = some (.string { data := #[] }) := cellRow Rv4 1
  have fv1_5 := freeRow Rv4 1
  have P5 := jnp_new P4 Lv Mv 1 (.string (bs kv))
  have Rr5 := (Below.heap_setCell _ ⟨w1.heap.size, 1, none⟩ (.string (bs kv)) _ (Drv)).trans Rr4
  have Rv5 := row_to (B := #[.string (bs kn), .string (bs kv)]) (rowSet Rv4 1 (.string (bs kv))) rfl
  go_wp2_with fail
  refine (H4.out _ P5.1).mono ?_
  rintro e w6 ⟨rfl, p6⟩
  have Rr6 := kp_row16 p6.2 Rr5 Nr
  have Rv6 := kp_row16 p6.2 Rv5 Nv
  have P6 := JnP.then P5.2 p6
  clear p6 P5 Rr5 Rv5 yv1_5 fv1_5 P4 Rr4 Rv4
  have yv0_7 : World.cell? _ ⟨w1.heap.size, 0, none⟩ = some (.string (bs kn)) := cellRow Rv6 0
  have fv0_7 := freeRow Rv6 0
  have yv1_7 : World.cell? _ ⟨w1.heap.size, 1, none⟩ = some (.string (bs kv)) := cellRow Rv6 1
  have fv1_7 := freeRow Rv6 1
  have yr0_7 : World.cell? _ ⟨w.heap.size, 0, none⟩ = some (.string { data := #[] }) := cellRow Rr6 0
  have fr0_7 := freeRow Rr6 0
  have yr1_7 : World.cell? _ ⟨w.heap.size, 1, none⟩ = some (.string { data := #[] }) := cellRow Rr6 1
  have fr1_7 := freeRow Rr6 1
  have QP := Lib.hid (jnp_new (jnp_new P6 Lr hlt 0 (.string (bs kn))) Lr hlt 1 (.string (bs kv)))
  have PX := row_to (B := #[.string (bs kn), .string (bs kv)]) (rowSet (rowSet Rr6 0 (.string (bs kn))) 1 (.string (bs kv))) rfl
  clear P6 Rv6 Rr6
  go_wp2
  refine bodyPost_ret (results_cell_row rfl _ _ (w.heap.size) _ _ _ _ rfl PX Tryz.underlying68 rfl (by kernel_rfl)) rfl ?_
  exact ⟨rfl, QP.out⟩
set_option maxRecDepth 100000 in
set_option maxHeartbeats 4000000 in
theorem ppiece_walk (b : Nat) (T : List Tk) (ao : Option Addr) (cap last : Nat) (s : Pi) (w : World) (h : JnR w b T ao cap last s) :
    Calls Tryz.prog 74 #[.pointer (some ⟨b, 0, none⟩)] w fun e w' => e = .returned (.agg (pieceC (piece T last s).1)) ∧ JnP w b T ao cap last (piece T last s).2 w' := by
  have hlt := h.lt
  have a0 : Below w.heap.size w (w.alloc (.cells #[.int .i64 0, .string { data := #[] }, .string { data := #[] }] 50)) := (Below.refl _ _).alloc (Nat.le_refl _) _
  have Rr0 := rowNew w (.cells #[.int .i64 0, .string { data := #[] }, .string { data := #[] }] 50)
  have h0 := h.below a0
  have P0 : JnP w b T ao cap last s (w.alloc (.cells #[.int .i64 0, .string { data := #[] }, .string { data := #[] }] 50)) := ⟨h0, Kp.ofBelow a0 [b]⟩
  obtain ⟨w0, hw0⟩ : ∃ w0, w.alloc (.cells #[.int .i64 0, .string { data := #[] }, .string { data := #[] }] 50) = w0 := ⟨_, rfl⟩
  rw [hw0] at a0 Rr0 h0 P0
  have HW0 := Lib.hid hw0
  have Nr : w.heap.size ≠ b := by omega
  have Lr : w.heap.size ≤ w.heap.size := Nat.le_refl _
  have H1 := Lib.hid (fun w1 h1 => comes_walk b T ao cap last s 4 w1 h1)
  have H2 := Lib.hid (fun w1 h1 => comes_walk b T ao cap last s 3 w1 h1)
  have H3 := Lib.hid (fun w1 h1 => ptext_walk b T ao cap last s 4 w1 h1)
  have H4 := Lib.hid (fun w1 h1 => ptext_walk b T ao cap last s 3 w1 h1)
  have H5 := Lib.hid (fun w1 h1 => ptext_walk b T ao cap last s 1 w1 h1)
  have H6 := Lib.hid (fun w1 h1 => psign_walk b T ao cap last (take T last 1 [] s).2 40 (by decide) w1 h1)
  have H7 := Lib.hid (fun w1 h1 => ptext_walk b T ao cap last (sign T last [40] (take T last 1 [] s).2) 3 w1 h1)
  have H8 := Lib.hid (fun w1 h1 => psign_walk b T ao cap last (take T last 3 [] (sign T last [40] (take T last 1 [] s).2)).2 41 (by decide) w1 h1)
  rw [show bs [40] = ({ data := #[40] } : ByteArray) from rfl] at H6
  rw [show bs [41] = ({ data := #[41] } : ByteArray) from rfl] at H8
  unfold L15.piece
  cases ha : at_ T s 4 [] with
  | true =>
    rw [ha] at H1
    simp only [if_true]
    unfold L15.text
    generalize (take T last 4 [] s).1 = x at *
    generalize (take T last 4 [] s).2 = s2 at *
    clear ha H2 H4 H5 H6 H7 H8
    clear h a0 h0 hw0
    go_enter Tryz.func74, Tryz.ntmps74
    go_wp2_with fail
    rw [HW0.out]
    refine (H1.out _ P0.1).mono ?_
    rintro e w1 ⟨rfl, p1⟩
    have Rr1 := kp_row16 p1.2 Rr0 Nr
    have P1 := JnP.then P0.2 p1
    clear p1 P0 Rr0
    go_wp2_with fail
    refine (H3.out _ P1.1).mono ?_
    rintro e w2 ⟨rfl, p2⟩
    have Rr2 := kp_row16 p2.2 Rr1 Nr
    have P2 := JnP.then P1.2 p2
    clear p2 P1 Rr1
    have yr0_3 : World.cell? _ ⟨w.heap.size, 0, none⟩ = some (.int .i64 0) := cellRow Rr2 0
    have fr0_3 := freeRow Rr2 0
    have yr1_3 : World.cell? _ ⟨w.heap.size, 1, none⟩ = some (.string { data := #[] }) := cellRow Rr2 1
    have fr1_3 := freeRow Rr2 1
    have yr2_3 : World.cell? _ ⟨w.heap.size, 2, none⟩ = some (.string { data := #[] }) := cellRow Rr2 2
    have fr2_3 := freeRow Rr2 2
    have QP := Lib.hid (jnp_new (jnp_new (jnp_new P2 Lr hlt 0 (.int .i64 1)) Lr hlt 1 (.string (bs x))) Lr hlt 2 (.string { data := #[] }))
    have PX := row_to (B := #[.int .i64 1, .string (bs x), .string { data := #[] }]) (rowSet (rowSet (rowSet Rr2 0 (.int .i64 1)) 1 (.string (bs x))) 2 (.string { data := #[] })) rfl
    clear P2 Rr2
    go_wp2
    refine bodyPost_ret (results_cell_row rfl _ _ (w.heap.size) _ _ _ _ rfl PX Tryz.underlying50 rfl (by kernel_rfl)) rfl ?_
    exact ⟨rfl, QP.out⟩
  | false =>
    rw [ha] at H1
    simp only [Bool.false_eq_true, if_false]
    cases hb : at_ T s 3 [] with
    | true =>
      rw [hb] at H2
      simp only [if_true]
      generalize (take T last 3 [] s).1 = x at *
      generalize (take T last 3 [] s).2 = s2 at *
      clear ha hb H3 H5 H6 H7 H8
      clear h a0 h0 hw0
      go_enter Tryz.func74, Tryz.ntmps74
      go_wp2_with fail
      rw [HW0.out]
      refine (H1.out _ P0.1).mono ?_
      rintro e w1 ⟨rfl, p1⟩
      have Rr1 := kp_row16 p1.2 Rr0 Nr
      have P1 := JnP.then P0.2 p1
      clear p1 P0 Rr0
      go_wp2_with fail
      refine (H2.out _ P1.1).mono ?_
      rintro e w2 ⟨rfl, p2⟩
      have Rr2 := kp_row16 p2.2 Rr1 Nr
      have P2 := JnP.then P1.2 p2
      clear p2 P1 Rr1
      go_wp2_with fail
      refine (H4.out _ P2.1).mono ?_
      rintro e w3 ⟨rfl, p3⟩
      have Rr3 := kp_row16 p3.2 Rr2 Nr
      have P3 := JnP.then P2.2 p3
      clear p3 P2 Rr2
      have yr0_4 : World.cell? _ ⟨w.heap.size, 0, none⟩ = some (.int .i64 0) := cellRow Rr3 0
      have fr0_4 := freeRow Rr3 0
      have yr1_4 : World.cell? _ ⟨w.heap.size, 1, none⟩ = some (.string { data := #[] }) := cellRow Rr3 1
      have fr1_4 := freeRow Rr3 1
      have yr2_4 : World.cell? _ ⟨w.heap.size, 2, none⟩ = some (.string { data := #[] }) := cellRow Rr3 2
      have fr2_4 := freeRow Rr3 2
      have QP := Lib.hid (jnp_new (jnp_new (jnp_new P3 Lr hlt 0 (.int .i64 2)) Lr hlt 1 (.string (bs x))) Lr hlt 2 (.string { data := #[] }))
      have PX := row_to (B := #[.int .i64 2, .string (bs x), .string { data := #[] }]) (rowSet (rowSet (rowSet Rr3 0 (.int .i64 2)) 1 (.string (bs x))) 2 (.string { data := #[] })) rfl
      clear P3 Rr3
      go_wp2
      refine bodyPost_ret (results_cell_row rfl _ _ (w.heap.size) _ _ _ _ rfl PX Tryz.underlying50 rfl (by kernel_rfl)) rfl ?_
      exact ⟨rfl, QP.out⟩
    | false =>
      rw [hb] at H2
      simp only [Bool.false_eq_true, if_false]
      generalize (sign T last [41] (take T last 3 [] (sign T last [40] (take T last 1 [] s).2)).2) = s5 at *
      generalize (take T last 3 [] (sign T last [40] (take T last 1 [] s).2)).1 = x at *
      generalize (take T last 3 [] (sign T last [40] (take T last 1 [] s).2)).2 = s4 at *
      generalize (sign T last [40] (take T last 1 [] s).2) = s3 at *
      generalize (take T last 1 [] s).1 = y at *
      generalize (take T last 1 [] s).2 = s2 at *
      clear ha hb H3 H4
      clear h a0 h0 hw0
      go_enter Tryz.func74, Tryz.ntmps74
      go_wp2_with fail
      rw [HW0.out]
      refine (H1.out _ P0.1).mono ?_
      rintro e w1 ⟨rfl, p1⟩
      have Rr1 := kp_row16 p1.2 Rr0 Nr
      have P1 := JnP.then P0.2 p1
      clear p1 P0 Rr0
      go_wp2_with fail
      refine (H2.out _ P1.1).mono ?_
      rintro e w2 ⟨rfl, p2⟩
      have Rr2 := kp_row16 p2.2 Rr1 Nr
      have P2 := JnP.then P1.2 p2
      clear p2 P1 Rr1
      go_wp2_with fail
      refine (H5.out _ P2.1).mono ?_
      rintro e w3 ⟨rfl, p3⟩
      have Rr3 := kp_row16 p3.2 Rr2 Nr
      have P3 := JnP.then P2.2 p3
      clear p3 P2 Rr2
      have a4 : Below w3.heap.size w3 (w3.alloc (.cells #[.int .i64 3, .string { data := #[] }, .string (bs y)] 50)) := (Below.refl _ _).alloc (Nat.le_refl _) _
      have Rv4 := rowNew w3 (.cells #[.int .i64 3, .string { data := #[] }, .string (bs y)] 50)
      have Rr4 := (a4.block w.heap.size (lt_of_block Rr3)).trans Rr3
      have P4 : JnP w b T _ cap last _ (w3.alloc (.cells #[.int .i64 3, .string { data := #[] }, .string (bs y)] 50)) := ⟨P3.1.below a4, P3.2.alloc _⟩
      have Lv : w.heap.size ≤ w3.heap.size := P3.2.size
      have Mv : b < w3.heap.size := by omega
      have Nv : w3.heap.size ≠ b := by omega
      obtain ⟨v4, hv4⟩ : ∃ zz, w3.alloc (.cells #[.int .i64 3, .string { data := #[] }, .string (bs y)] 50) = zz := ⟨_, rfl⟩
      rw [hv4] at a4 Rv4 Rr4 P4
      have HV4 := Lib.hid hv4
      clear hv4
      have Drv : w.heap.size ≠ w3.heap.size := by have := lt_of_block Rr3; omega
      go_wp2_with fail
      rw [HV4.out]
      refine (H6.out _ P4.1).mono ?_
      rintro e w5 ⟨rfl, p5⟩
      have Rr5 := kp_row16 p5.2 Rr4 Nr
      have Rv5 := kp_row16 p5.2 Rv4 Nv
      have P5 := JnP.then P4.2 p5
      clear p5 P4 Rr4 Rv4 P3 a4
      go_wp2_with fail
      refine (H7.out _ P5.1).mono ?_
      rintro e w6 ⟨rfl, p6⟩
      have Rr6 := kp_row16 p6.2 Rr5 Nr
      have Rv6 := kp_row16 p6.2 Rv5 Nv
      have P6 := JnP.then P5.2 p6
      clear p6 P5 Rr5 Rv5
      have yv1_7 : World.cell? _ ⟨w3.heap.size, 1, none⟩ = some (.string { data := #[] }) := cellRow Rv6 1
      have fv1_7 := freeRow Rv6 1
      have P7 := jnp_new P6 Lv Mv 1 (.string (bs x))
      have Rr7 := (Below.heap_setCell _ ⟨w3.heap.size, 1, none⟩ (.string (bs x)) _ (Drv)).trans Rr6
      have Rv7 := row_to (B := #[.int .i64 3, .string (bs x), .string (bs y)]) (rowSet Rv6 1 (.string (bs x))) rfl
      go_wp2_with fail
      refine (H8.out _ P7.1).mono ?_
      rintro e w8 ⟨rfl, p8⟩
      have Rr8 := kp_row16 p8.2 Rr7 Nr
      have Rv8 := kp_row16 p8.2 Rv7 Nv
      have P8 := JnP.then P7.2 p8
      clear p8 P7 Rr7 Rv7 yv1_7 fv1_7 P6 Rr6 Rv6
      have yv0_9 : World.cell? _ ⟨w3.heap.size, 0, none⟩ = some (.int .i64 3) := cellRow Rv8 0
      have fv0_9 := freeRow Rv8 0
      have yv1_9 : World.cell? _ ⟨w3.heap.size, 1, none⟩ = some (.string (bs x)) := cellRow Rv8 1
      have fv1_9 := freeRow Rv8 1
      have yv2_9 : World.cell? _ ⟨w3.heap.size, 2, none⟩ = some (.string (bs y)) := cellRow Rv8 2
      have fv2_9 := freeRow Rv8 2
      have yr0_9 : World.cell? _ ⟨w.heap.size, 0, none⟩ = some (.int .i64 0) := cellRow Rr8 0
      have fr0_9 := freeRow Rr8 0
      have yr1_9 : World.cell? _ ⟨w.heap.size, 1, none⟩ = some (.string { data := #[] }) := cellRow Rr8 1
      have fr1_9 := freeRow Rr8 1
      have yr2_9 : World.cell? _ ⟨w.heap.size, 2, none⟩ = some (.string { data := #[] }) := cellRow Rr8 2
      have fr2_9 := freeRow Rr8 2
      have QP := Lib.hid (jnp_new (jnp_new (jnp_new P8 Lr hlt 0 (.int .i64 3)) Lr hlt 1 (.string (bs x))) Lr hlt 2 (.string (bs y)))
      have PX := row_to (B := #[.int .i64 3, .string (bs x), .string (bs y)]) (rowSet (rowSet (rowSet Rr8 0 (.int .i64 3)) 1 (.string (bs x))) 2 (.string (bs y))) rfl
      clear P8 Rv8 Rr8
      go_wp2
      refine bodyPost_ret (results_cell_row rfl _ _ (w.heap.size) _ _ _ _ rfl PX Tryz.underlying50 rfl (by kernel_rfl)) rfl ?_
      exact ⟨rfl, QP.out⟩
/-- A test, but for its end. -/
def test1 (T : List Tk) (last : Nat) (s : Pi) : Ts × Pi := (⟨(take T last 3 [] s).1, (take T last 4 [] (liked T last (take T last 3 [] s).2)).1, at_ T (take T last 3 [] s).2 1 wUnlike⟩, (take T last 4 [] (liked T last (take T last 3 [] s).2)).2)
theorem test1_is (T : List Tk) (last : Nat) (s : Pi) : test T last s = ((test1 T last s).1, sign T last [59] (test1 T last s).2) := rfl
theorem mst_word {T : List Tk} {last : Nat} {s : Pi} {t : List UInt8} (hT : TOk T) (ht : 2 ≤ t.length) : mst T last s t = if at_ T s 1 t then nx s else fail T last s := by
  unfold mst; rw [tk_word hT ht]
def testC (x : Ts) : Array Value := #[.string (bs x.f), .string (bs x.g), .bool x.n]
set_option maxRecDepth 100000 in
set_option maxHeartbeats 4000000 in
theorem ptest_walk (b : Nat) (T : List Tk) (ao : Option Addr) (cap last : Nat) (s : Pi) (w : World) (h : JnR w b T ao cap last s) :
    Calls Tryz.prog 51 #[.pointer (some ⟨b, 0, none⟩)] w fun e w' => e = .returned (.agg (PQ.testC (test1 T last s).1)) ∧ JnP w b T ao cap last (test1 T last s).2 w' := by
  have hlt := h.lt
  have a0 : Below w.heap.size w (w.alloc (.cells #[.string { data := #[] }, .string { data := #[] }, .bool false] 83)) := (Below.refl _ _).alloc (Nat.le_refl _) _
  have Rr0 := rowNew w (.cells #[.string { data := #[] }, .string { data := #[] }, .bool false] 83)
  have h0 := h.below a0
  have P0 : JnP w b T ao cap last s (w.alloc (.cells #[.string { data := #[] }, .string { data := #[] }, .bool false] 83)) := ⟨h0, Kp.ofBelow a0 [b]⟩
  obtain ⟨w0, hw0⟩ : ∃ w0, w.alloc (.cells #[.string { data := #[] }, .string { data := #[] }, .bool false] 83) = w0 := ⟨_, rfl⟩
  rw [hw0] at a0 Rr0 h0 P0
  have HW0 := Lib.hid hw0
  have Nr : w.heap.size ≠ b := by omega
  have Lr : w.heap.size ≤ w.heap.size := Nat.le_refl _
  have hT := h.ok
  have HX := Lib.hid (show test1 T last s = (⟨(take T last 3 [] s).1, (take T last 4 [] (liked T last (take T last 3 [] s).2)).1, at_ T (take T last 3 [] s).2 1 wUnlike⟩, (take T last 4 [] (liked T last (take T last 3 [] s).2)).2) from rfl)
  rw [HX.out]
  have H1 := Lib.hid (fun w1 h1 => ptext_walk b T ao cap last s 3 w1 h1)
  have H2 := Lib.hid (fun w1 h1 => pword_walk b T ao cap last (take T last 3 [] s).2 wUnlike (by decide) w1 h1)
  have H3 := Lib.hid (fun w1 h1 => pmust_walk b T ao cap last (take T last 3 [] s).2 wLike w1 h1)
  have H4 := Lib.hid (fun w1 h1 => ptext_walk b T ao cap last (liked T last (take T last 3 [] s).2) 4 w1 h1)
  rw [mst_word hT (by decide)] at H3
  rw [show bs wUnlike = ({ data := #[117, 110, 108, 105, 107, 101] } : ByteArray) from rfl] at H2
  rw [show bs wLike = ({ data := #[108, 105, 107, 101] } : ByteArray) from rfl] at H3
  clear HX
  generalize hg : (take T last 4 [] (liked T last (take T last 3 [] s).2)).1 = g at *
  generalize hq : (take T last 4 [] (liked T last (take T last 3 [] s).2)).2 = sg at *
  clear hg hq
  generalize hl : liked T last (take T last 3 [] s).2 = sl at *
  generalize (take T last 3 [] s).1 = x at *
  generalize (take T last 3 [] s).2 = s1 at *
  cases hu : at_ T s1 1 wUnlike with
  | true =>
    have hs : liked T last s1 = nx s1 := by unfold liked word; rw [hu]; rfl
    have hw : word T wUnlike s1 = (true, nx s1) := by unfold word; rw [hu]; rfl
    rw [hw] at H2
    rw [hs] at hl
    subst hl
    clear hu hs hw H3 hT
    clear h a0 h0 hw0
    go_enter Tryz.func51, Tryz.ntmps51
    go_wp2_with fail
    rw [HW0.out]
    refine (H1.out _ P0.1).mono ?_
    rintro e w1 ⟨rfl, p1⟩
    have Rr1 := kp_row16 p1.2 Rr0 Nr
    have P1 := JnP.then P0.2 p1
    clear p1 P0 Rr0
    have a2 : Below w1.heap.size w1 (w1.alloc (.cells #[.string (bs x), .string { data := #[] }, .bool false] 83)) := (Below.refl _ _).alloc (Nat.le_refl _) _
    have Rv2 := rowNew w1 (.cells #[.string (bs x), .string { data := #[] }, .bool false] 83)
    have Rr2 := (a2.block w.heap.size (lt_of_block Rr1)).trans Rr1
    have P2 : JnP w b T _ cap last _ (w1.alloc (.cells #[.string (bs x), .string { data := #[] }, .bool false] 83)) := ⟨P1.1.below a2, P1.2.alloc _⟩
    have Lv : w.heap.size ≤ w1.heap.size := P1.2.size
    have Mv : b < w1.heap.size := by omega
    have Nv : w1.heap.size ≠ b := by omega
    obtain ⟨v2, hv2⟩ : ∃ zz, w1.alloc (.cells #[.string (bs x), .string { data := #[] }, .bool false] 83) = zz := ⟨_, rfl⟩
    rw [hv2] at a2 Rv2 Rr2 P2
    have HV2 := Lib.hid hv2
    clear hv2
    have Drv : w.heap.size ≠ w1.heap.size := by have := lt_of_block Rr1; omega
    go_wp2_with fail
    rw [HV2.out]
    refine (H2.out _ P2.1).mono ?_
    rintro e w3 ⟨rfl, p3⟩
    have Rr3 := kp_row16 p3.2 Rr2 Nr
    have Rv3 := kp_row16 p3.2 Rv2 Nv
    have P3 := JnP.then P2.2 p3
    clear p3 P2 Rr2 Rv2 P1 a2
    have yv2_4 : World.cell? _ ⟨w1.heap.size, 2, none⟩ = some (.bool false) := cellRow Rv3 2
    have fv2_4 := freeRow Rv3 2
    have P4 := jnp_new P3 Lv Mv 2 (.bool true)
    have Rr4 := (Below.heap_setCell _ ⟨w1.heap.size, 2, none⟩ (.bool true) _ (Drv)).trans Rr3
    have Rv4 := row_to (B := #[.string (bs x), .string { data := #[] }, .bool true]) (rowSet Rv3 2 (.bool true)) rfl
    have yv2_5 : World.cell? _ ⟨w1.heap.size, 2, none⟩ = some (.bool true) := cellRow Rv4 2
    have fv2_5 := freeRow Rv4 2
    go_wp2_with fail
    refine (H4.out _ P4.1).mono ?_
    rintro e w5 ⟨rfl, p5⟩
    have Rr5 := kp_row16 p5.2 Rr4 Nr
    have Rv5 := kp_row16 p5.2 Rv4 Nv
    have P5 := JnP.then P4.2 p5
    clear p5 P4 Rr4 Rv4 yv2_4 fv2_4 P3 Rr3 Rv3 yv2_5 fv2_5
    have yv1_6 : World.cell? _ ⟨w1.heap.size, 1, none⟩ = some (.string { data := #[] }) := cellRow Rv5 1
    have fv1_6 := freeRow Rv5 1
    have P6 := jnp_new P5 Lv Mv 1 (.string (bs g))
    have Rr6 := (Below.heap_setCell _ ⟨w1.heap.size, 1, none⟩ (.string (bs g)) _ (Drv)).trans Rr5
    have Rv6 := row_to (B := #[.string (bs x), .string (bs g), .bool true]) (rowSet Rv5 1 (.string (bs g))) rfl
    have yv0_7 : World.cell? _ ⟨w1.heap.size, 0, none⟩ = some (.string (bs x)) := cellRow Rv6 0
    have fv0_7 := freeRow Rv6 0
    have yv1_7 : World.cell? _ ⟨w1.heap.size, 1, none⟩ = some (.string (bs g)) := cellRow Rv6 1
    have fv1_7 := freeRow Rv6 1
    have yv2_7 : World.cell? _ ⟨w1.heap.size, 2, none⟩ = some (.bool true) := cellRow Rv6 2
    have fv2_7 := freeRow Rv6 2
    have yr0_7 : World.cell? _ ⟨w.heap.size, 0, none⟩ = some (.string { data := #[] }) := cellRow Rr6 0
    have fr0_7 := freeRow Rr6 0
    have yr1_7 : World.cell? _ ⟨w.heap.size, 1, none⟩ = some (.string { data := #[] }) := cellRow Rr6 1
    have fr1_7 := freeRow Rr6 1
    have yr2_7 : World.cell? _ ⟨w.heap.size, 2, none⟩ = some (.bool false) := cellRow Rr6 2
    have fr2_7 := freeRow Rr6 2
    have QP := Lib.hid (jnp_new (jnp_new (jnp_new P6 Lr hlt 0 (.string (bs x))) Lr hlt 1 (.string (bs g))) Lr hlt 2 (.bool true))
    have PX := row_to (B := #[.string (bs x), .string (bs g), .bool true]) (rowSet (rowSet (rowSet Rr6 0 (.string (bs x))) 1 (.string (bs g))) 2 (.bool true)) rfl
    clear P6 Rv6 Rr6
    go_wp2
    refine bodyPost_ret (results_cell_row rfl _ _ (w.heap.size) _ _ _ _ rfl PX Tryz.underlying83 rfl (by kernel_rfl)) rfl ?_
    exact ⟨rfl, QP.out⟩
  | false =>
    have hw : word T wUnlike s1 = (false, s1) := by unfold word; rw [hu]; rfl
    have hs : (if at_ T s1 1 wLike then nx s1 else fail T last s1) = sl := by
      rw [← hl]; unfold liked; rw [hw]; unfold word
      cases at_ T s1 1 wLike <;> rfl
    rw [hw] at H2
    rw [hs] at H3
    clear hl hu hs hw hT
    clear h a0 h0 hw0
    go_enter Tryz.func51, Tryz.ntmps51
    go_wp2_with fail
    rw [HW0.out]
    refine (H1.out _ P0.1).mono ?_
    rintro e w1 ⟨rfl, p1⟩
    have Rr1 := kp_row16 p1.2 Rr0 Nr
    have P1 := JnP.then P0.2 p1
    clear p1 P0 Rr0
    have a2 : Below w1.heap.size w1 (w1.alloc (.cells #[.string (bs x), .string { data := #[] }, .bool false] 83)) := (Below.refl _ _).alloc (Nat.le_refl _) _
    have Rv2 := rowNew w1 (.cells #[.string (bs x), .string { data := #[] }, .bool false] 83)
    have Rr2 := (a2.block w.heap.size (lt_of_block Rr1)).trans Rr1
    have P2 : JnP w b T _ cap last _ (w1.alloc (.cells #[.string (bs x), .string { data := #[] }, .bool false] 83)) := ⟨P1.1.below a2, P1.2.alloc _⟩
    have Lv : w.heap.size ≤ w1.heap.size := P1.2.size
    have Mv : b < w1.heap.size := by omega
    have Nv : w1.heap.size ≠ b := by omega
    obtain ⟨v2, hv2⟩ : ∃ zz, w1.alloc (.cells #[.string (bs x), .string { data := #[] }, .bool false] 83) = zz := ⟨_, rfl⟩
    rw [hv2] at a2 Rv2 Rr2 P2
    have HV2 := Lib.hid hv2
    clear hv2
    have Drv : w.heap.size ≠ w1.heap.size := by have := lt_of_block Rr1; omega
    go_wp2_with fail
    rw [HV2.out]
    refine (H2.out _ P2.1).mono ?_
    rintro e w3 ⟨rfl, p3⟩
    have Rr3 := kp_row16 p3.2 Rr2 Nr
    have Rv3 := kp_row16 p3.2 Rv2 Nv
    have P3 := JnP.then P2.2 p3
    clear p3 P2 Rr2 Rv2 P1 a2
    have yv2_4 : World.cell? _ ⟨w1.heap.size, 2, none⟩ = some (.bool false) := cellRow Rv3 2
    have fv2_4 := freeRow Rv3 2
    have P4 := jnp_new P3 Lv Mv 2 (.bool false)
    have Rr4 := (Below.heap_setCell _ ⟨w1.heap.size, 2, none⟩ (.bool false) _ (Drv)).trans Rr3
    have Rv4 := row_to (B := #[.string (bs x), .string { data := #[] }, .bool false]) (rowSet Rv3 2 (.bool false)) rfl
    have yv2_5 : World.cell? _ ⟨w1.heap.size, 2, none⟩ = some (.bool false) := cellRow Rv4 2
    have fv2_5 := freeRow Rv4 2
    go_wp2_with fail
    refine (H3.out _ P4.1).mono ?_
    rintro e w5 ⟨rfl, p5⟩
    have Rr5 := kp_row16 p5.2 Rr4 Nr
    have Rv5 := kp_row16 p5.2 Rv4 Nv
    have P5 := JnP.then P4.2 p5
    clear p5 P4 Rr4 Rv4 yv2_4 fv2_4 P3 Rr3 Rv3 yv2_5 fv2_5
    go_wp2_with fail
    refine (H4.out _ P5.1).mono ?_
    rintro e w6 ⟨rfl, p6⟩
    have Rr6 := kp_row16 p6.2 Rr5 Nr
    have Rv6 := kp_row16 p6.2 Rv5 Nv
    have P6 := JnP.then P5.2 p6
    clear p6 P5 Rr5 Rv5
    have yv1_7 : World.cell? _ ⟨w1.heap.size, 1, none⟩ = some (.string { data := #[] }) := cellRow Rv6 1
    have fv1_7 := freeRow Rv6 1
    have P7 := jnp_new P6 Lv Mv 1 (.string (bs g))
    have Rr7 := (Below.heap_setCell _ ⟨w1.heap.size, 1, none⟩ (.string (bs g)) _ (Drv)).trans Rr6
    have Rv7 := row_to (B := #[.string (bs x), .string (bs g), .bool false]) (rowSet Rv6 1 (.string (bs g))) rfl
    have yv0_8 : World.cell? _ ⟨w1.heap.size, 0, none⟩ = some (.string (bs x)) := cellRow Rv7 0
    have fv0_8 := freeRow Rv7 0
    have yv1_8 : World.cell? _ ⟨w1.heap.size, 1, none⟩ = some (.string (bs g)) := cellRow Rv7 1
    have fv1_8 := freeRow Rv7 1
    have yv2_8 : World.cell? _ ⟨w1.heap.size, 2, none⟩ = some (.bool false) := cellRow Rv7 2
    have fv2_8 := freeRow Rv7 2
    have yr0_8 : World.cell? _ ⟨w.heap.size, 0, none⟩ = some (.string { data := #[] }) := cellRow Rr7 0
    have fr0_8 := freeRow Rr7 0
    have yr1_8 : World.cell? _ ⟨w.heap.size, 1, none⟩ = some (.string { data := #[] }) := cellRow Rr7 1
    have fr1_8 := freeRow Rr7 1
    have yr2_8 : World.cell? _ ⟨w.heap.size, 2, none⟩ = some (.bool false) := cellRow Rr7 2
    have fr2_8 := freeRow Rr7 2
    have QP := Lib.hid (jnp_new (jnp_new (jnp_new P7 Lr hlt 0 (.string (bs x))) Lr hlt 1 (.string (bs g))) Lr hlt 2 (.bool false))
    have PX := row_to (B := #[.string (bs x), .string (bs g), .bool false]) (rowSet (rowSet (rowSet Rr7 0 (.string (bs x))) 1 (.string (bs g))) 2 (.bool false)) rfl
    clear P7 Rv7 Rr7
    go_wp2
    refine bodyPost_ret (results_cell_row rfl _ _ (w.heap.size) _ _ _ _ rfl PX Tryz.underlying83 rfl (by kernel_rfl)) rfl ?_
    exact ⟨rfl, QP.out⟩
end PQ
end Go.Proofs.YtaeglmgpoboihaaGreatDoor
