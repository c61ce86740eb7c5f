/- Texts on the program and on the document, joined: PaqK. -/
import Derived.Test.YtaeglmgpoboihaaGreatDoorMa21
import Derived.Test.YtaeglmgpoboihaaGreatDoorMa09
import Derived.Deep.LoopGhost
/- The program's reader of rules: watchKind, tookOnce, raise, walked. gen_paqk.py writes it. -/
namespace Go.Proofs.YtaeglmgpoboihaaGreatDoor
open Go.ChangeShapes Go.WideShapes Go.ChangeAt Go.RowKit K L15 S3
open L14 (Tk)
set_option linter.unusedVariables false
namespace PQ
set_option maxRecDepth 100000 in
theorem kind_ix (k : Nat) (h : k < 4) : ∀ w, (Instr.index 130 (.agg KC) (.int .i64 k)).run Tryz.prog w = .ok (.agg #[.string (bs (wKinds.getD k [])), .int .i64 ((k : Nat) + 1)]) w := by
  obtain rfl | rfl | rfl | rfl : k = 0 ∨ k = 1 ∨ k = 2 ∨ k = 3 := by omega
  all_goals exact fun w => by kernel_rfl
theorem kind_wd (k : Nat) (h : k < 4) : 2 ≤ (wKinds.getD k []).length := by
  obtain rfl | rfl | rfl | rfl : k = 0 ∨ k = 1 ∨ k = 2 ∨ k = 3 := by omega
  all_goals decide
def KwRel (w : World) (b : Nat) (T : List Tk) (ao : Option Addr) (cap last : Nat) (s : Pi) (g : Nat) (v6 : Value) (wr : World) : Prop :=
  ∃ k, k + g = 4 ∧ v6 = .int .i64 (k : Nat) ∧ kind T last s = kindF T last (wKinds.drop k) k s ∧ JnP w b T ao cap last s wr
set_option maxRecDepth 100000 in
set_option maxHeartbeats 2000000 in
theorem pkind_walk (b : Nat) (T : List Tk) (ao : Option Addr) (cap last : Nat) (s : Pi) (w : World) (h : JnR w b T ao cap last s) :
    Calls Tryz.prog 54 #[.pointer (some ⟨b, 0, none⟩)] w fun e w' => e = .returned (.int .i64 (kind T last s).1) ∧ JnP w b T ao cap last (kind T last s).2 w' := by
  obtain ⟨tK, fK, hK⟩ := h.short.2.2.2.2.2
  have HH := Lib.hid h
  clear h
  obtain ⟨R, hR⟩ : ∃ R, kind T last s = R := ⟨_, rfl⟩
  have HR := Lib.hid hR
  rw [hR]
  clear hR
  go_enter Tryz.func54, Tryz.ntmps54
  go_wp2_with (refine wpList_load_row rfl 130 _ rfl 1 rfl tK KC fK _ hK Tryz.underlying130 rfl (by kernel_rfl) ?_)
  clear hK
  go_loopg [6] 4 (fun g v6 wr => KwRel w b T ao cap last s g v6 wr)
  case atStart => exact ⟨0, by omega, rfl, rfl, HH.out, Kp.refl _ _⟩
  case round =>
    obtain ⟨k, hkg, rfl, hs, P5⟩ := hrel
    have HS := Lib.hid hs
    have HP := Lib.hid P5
    clear hs P5
    cases gk with
    | zero =>
      obtain rfl : k = 4 := by omega
      have hs2 := HS.out
      rw [kindF_end] at hs2
      have HX := Lib.hid (HR.out.symm.trans hs2)
      clear HS HR
      go_wp2_with fail
      refine (prefuse_walk b T ao cap last s _ HP.out.1).mono ?_
      rintro e w2 ⟨rfl, p2⟩
      have P2 := Lib.hid (JnP.then HP.out.2 p2)
      clear p2
      go_wp2
      go_ret
      rw [HX.out]
      exact ⟨rfl, P2.out⟩
    | succ g =>
      have hk4 : k < 4 := by omega
      have hix := kind_ix k hk4
      have HW := Lib.hid (fun w1 h1 => pword_walk b T ao cap last s (wKinds.getD k []) (kind_wd k hk4) w1 h1)
      have hst := HS.out
      rw [kindF_at T last s k hk4] at hst
      generalize wKinds.getD k [] = wd at *
      have HST := Lib.hid hst
      clear hst HS
      have a1 : Below wr.heap.size wr (wr.alloc (.cells #[.string (bs wd), .int .i64 ((k : Nat) + 1)] 129)) := (Below.refl _ _).alloc (Nat.le_refl _) _
      have R1 := rowNew wr (.cells #[.string (bs wd), .int .i64 ((k : Nat) + 1)] 129)
      have P1 := Lib.hid (HP.out.alloc (.cells #[.string (bs wd), .int .i64 ((k : Nat) + 1)] 129))
      have HR1 := Lib.hid R1
      have hnb : wr.heap.size ≠ b := by have := HP.out.1.lt; omega
      have y0 := cellRow R1 0
      simp at y0
      clear a1 R1
      cases hat : (word T wd s).1 with
      | false =>
        have hse : (word T wd s).2 = s := by
          unfold word at hat ⊢
          split at hat
          · cases hat
          · rename_i h9; rw [if_neg h9]
        rw [hat] at HST HW
        rw [hse] at HW
        simp only [Bool.false_eq_true, if_false] at HST
        clear hat hse
        go_wp2_with fail
        refine (HW.out _ P1.out.1).mono ?_
        rintro e w2 ⟨rfl, p2⟩
        have P2 := Lib.hid (JnP.then P1.out.2 p2)
        clear p2 y0
        go_wp2
        go_roundg g
        case measure => omega
        case rel => exact ⟨k + 1, by omega, by simp, HST.out, P2.out⟩
      | true =>
        have hse : (word T wd s).2 = nx s := by
          unfold word at hat ⊢
          split at hat
          · rename_i h9; rw [if_pos h9]
          · cases hat
        rw [hat] at HST HW
        rw [hse] at HW
        simp only [if_true] at HST
        have HX := Lib.hid (HR.out.symm.trans HST.out)
        clear hat hse HST HR
        go_wp2_with fail
        refine (HW.out _ P1.out.1).mono ?_
        rintro e w2 ⟨rfl, p2⟩
        have P2 := Lib.hid (JnP.then P1.out.2 p2)
        have y1 := cellRow (kp_row16 p2.2 HR1.out hnb) 1
        simp at y1
        clear p2 y0
        go_wp2
        go_ret
        rw [HX.out]
        exact ⟨rfl, P2.out⟩
/-! ### What may come but once -/
set_option maxRecDepth 100000 in
set_option maxHeartbeats 2000000 in
theorem ponce_walk (b q : Nat) (T : List Tk) (ao : Option Addr) (cap last : Nat) (s : Pi) (t : List UInt8) (ht : 2 ≤ t.length) (n bt n' : Int) (sn : Bool) (hand : (bits .and .i64 n bt == 0) = !sn) (hor : bits .or .i64 n bt = n') (w : World) (hbq : b < q) (h : JnR w b T ao cap last s) (hq : w.heap[q]? = some (.cells #[.int .i64 n] 3 (0, 0))) :
    Calls Tryz.prog 53 #[.pointer (some ⟨b, 0, none⟩), .string (bs t), .int .i64 bt, .pointer (some ⟨q, 0, none⟩)] w fun e w' => e = .returned (.bool (!sn && at_ T s 1 t)) ∧ JnQ w b q T ao cap last (if !sn && at_ T s 1 t then nx s else s) w' ∧ w'.heap[q]? = some (.cells #[.int .i64 (if !sn && at_ T s 1 t then n' else n)] 3 (0, 0)) := by
  have HH := Lib.hid h
  have HW := Lib.hid (fun w1 h1 => pword_walk b T ao cap last s t ht w1 h1)
  have hnb : q ≠ b := by omega
  have HQ := Lib.hid hq
  have c0 := cellRow hq 0
  simp at c0
  clear h hq
  cases sn with
  | true =>
    simp only [Bool.not_true, Bool.false_and, Bool.false_eq_true, if_false] at hand ⊢
    have hand2 : (bits .and .i64 n bt != 0) = true := by rw [bne_iff_ne]; exact beq_eq_false_iff_ne.1 hand
    clear HW hor
    go_enter Tryz.func53, Tryz.ntmps53
    go_wp2
    go_ret
    exact ⟨rfl, ⟨HH.out, Kp.refl _ _⟩, HQ.out⟩
  | false =>
    simp only [Bool.not_false, Bool.true_and] at hand ⊢
    have hand2 : (bits .and .i64 n bt != 0) = false := by rw [bne_eq_false_iff_eq]; exact beq_iff_eq.1 hand
    cases hat : at_ T s 1 t with
    | false =>
      have hv : word T t s = (false, s) := by unfold word; rw [hat]; rfl
      rw [hv] at HW
      simp only [Bool.false_eq_true, if_false]
      clear hat hv hor
      go_enter Tryz.func53, Tryz.ntmps53
      go_wp2_with fail
      refine (HW.out _ HH.out).mono ?_
      rintro e w1 ⟨rfl, p1⟩
      have P1 := Lib.hid p1
      have Q1 := Lib.hid (kp_row16 p1.2 HQ.out hnb)
      clear p1 c0
      go_wp2
      go_ret
      exact ⟨rfl, JnQ.then (Kp.refl _ _) P1.out, Q1.out⟩
    | true =>
      have hv : word T t s = (true, nx s) := by unfold word; rw [hat]; rfl
      rw [hv] at HW
      simp only [if_true]
      clear hat hv
      go_enter Tryz.func53, Tryz.ntmps53
      go_wp2_with fail
      refine (HW.out _ HH.out).mono ?_
      rintro e w1 ⟨rfl, p1⟩
      have hq1 := kp_row16 p1.2 HQ.out hnb
      have P1 := Lib.hid (jnq_new (JnQ.then (Kp.refl [b, q] w) p1) hbq 0 (.int .i64 n'))
      have Q1 := Lib.hid (row_to (rowSet hq1 0 (.int .i64 n')) (show _ = #[.int .i64 n'] by simp))
      clear p1 c0
      have c0 := cellRow hq1 0
      have f0 := freeRow hq1 0
      simp at c0
      clear hq1
      go_wp2
      go_ret
      exact ⟨rfl, P1.out, Q1.out⟩
def wtC (x : Wt) : Array Value := #[.string (bs x.n), .int .i64 x.l, .int .i64 x.k, .string (bs x.cl), .string (bs x.ot), .int .i64 x.ct, .int .i64 x.wn, .string (bs x.ra), .int .i64 x.lv, .string (bs x.tx)]
set_option maxRecDepth 100000 in
set_option maxHeartbeats 2000000 in
theorem praise_walk (b v : Nat) (T : List Tk) (ao : Option Addr) (cap last : Nat) (s : Pi) (x : Wt) (w : World) (hbv : b < v) (h : JnR w b T ao cap last s) (hv : w.heap[v]? = some (.cells (wtC x) 40 (0, 0))) :
    Calls Tryz.prog 58 #[.pointer (some ⟨b, 0, none⟩), .pointer (some ⟨v, 0, none⟩)] w fun e w' => e = .returned (.tuple #[]) ∧ JnQ w b v T ao cap last (take T last 4 [] (number T last (take T last 4 [] s).2).2).2 w' ∧ w'.heap[v]? = some (.cells (wtC { x with ra := (take T last 4 [] s).1, lv := (number T last (take T last 4 [] s).2).1, tx := (take T last 4 [] (number T last (take T last 4 [] s).2).2).1 }) 40 (0, 0)) := by
  have P0 : JnQ w b v T ao cap last s w := ⟨h, Kp.refl _ _⟩
  have Rv0 : w.heap[v]? = some (.cells #[.string (bs x.n), .int .i64 x.l, .int .i64 x.k, .string (bs x.cl), .string (bs x.ot), .int .i64 x.ct, .int .i64 x.wn, .string (bs x.ra), .int .i64 x.lv, .string (bs x.tx)] 40 (0, 0)) := hv
  have Nv : v ≠ b := by omega
  clear hv h
  have H1 := Lib.hid (fun w1 h1 => ptext_walk b T ao cap last s 4 w1 h1)
  have H2 := Lib.hid (fun w1 h1 => pfigN_walk b T ao cap last (take T last 4 [] s).2 w1 h1)
  have H3 := Lib.hid (fun w1 h1 => ptext_walk b T ao cap last (number T last (take T last 4 [] s).2).2 4 w1 h1)
  generalize (take T last 4 [] (number T last (take T last 4 [] s).2).2).1 = tx at *
  generalize (take T last 4 [] (number T last (take T last 4 [] s).2).2).2 = s3 at *
  generalize (number T last (take T last 4 [] s).2).1 = lv at *
  generalize (number T last (take T last 4 [] s).2).2 = s2 at *
  generalize (take T last 4 [] s).1 = ra at *
  generalize (take T last 4 [] s).2 = s1 at *
  go_enter Tryz.func58, Tryz.ntmps58
  go_wp2_with fail
  refine (H1.out _ P0.1).mono ?_
  rintro e w1 ⟨rfl, p1⟩
  have Rv1 := kp_row16 p1.2 Rv0 Nv
  have P1 := JnQ.then P0.2 p1
  clear p1 P0 Rv0
  have yv7_2 : World.cell? _ ⟨v, 7, none⟩ = some (.string (bs x.ra)) := cellRow Rv1 7
  have fv7_2 := freeRow Rv1 7
  have P2 := jnq_new P1 hbv 7 (.string (bs ra))
  have Rv2 := row_to (B := #[.string (bs x.n), .int .i64 x.l, .int .i64 x.k, .string (bs x.cl), .string (bs x.ot), .int .i64 x.ct, .int .i64 x.wn, .string (bs ra), .int .i64 x.lv, .string (bs x.tx)]) (rowSet Rv1 7 (.string (bs ra))) rfl
  go_wp2_with fail
  refine (H2.out _ P2.1).mono ?_
  rintro e w3 ⟨rfl, p3⟩
  have Rv3 := kp_row16 p3.2 Rv2 Nv
  have P3 := JnQ.then P2.2 p3
  clear p3 P2 Rv2 yv7_2 fv7_2 P1 Rv1
  have yv8_4 : World.cell? _ ⟨v, 8, none⟩ = some (.int .i64 x.lv) := cellRow Rv3 8
  have fv8_4 := freeRow Rv3 8
  have P4 := jnq_new P3 hbv 8 (.int .i64 lv)
  have Rv4 := row_to (B := #[.string (bs x.n), .int .i64 x.l, .int .i64 x.k, .string (bs x.cl), .string (bs x.ot), .int .i64 x.ct, .int .i64 x.wn, .string (bs ra), .int .i64 lv, .string (bs x.tx)]) (rowSet Rv3 8 (.int .i64 lv)) rfl
  go_wp2_with fail
  refine (H3.out _ P4.1).mono ?_
  rintro e w5 ⟨rfl, p5⟩
  have Rv5 := kp_row16 p5.2 Rv4 Nv
  have P5 := JnQ.then P4.2 p5
  clear p5 P4 Rv4 yv8_4 fv8_4 P3 Rv3
  have yv9_6 : World.cell? _ ⟨v, 9, none⟩ = some (.string (bs x.tx)) := cellRow Rv5 9
  have fv9_6 := freeRow Rv5 9
  have P6 := jnq_new P5 hbv 9 (.string (bs tx))
  have Rv6 := row_to (B := #[.string (bs x.n), .int .i64 x.l, .int .i64 x.k, .string (bs x.cl), .string (bs x.ot), .int .i64 x.ct, .int .i64 x.wn, .string (bs ra), .int .i64 lv, .string (bs tx)]) (rowSet Rv5 9 (.string (bs tx))) rfl
  have QP := Lib.hid P6
  have QV := Lib.hid Rv6
  clear P6 Rv6
  go_wp2
  go_end0
  exact ⟨rfl, QP.out, QV.out⟩
end PQ
end Go.Proofs.YtaeglmgpoboihaaGreatDoor
