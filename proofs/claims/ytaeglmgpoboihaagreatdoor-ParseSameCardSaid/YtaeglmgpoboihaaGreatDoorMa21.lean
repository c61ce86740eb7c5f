/- Texts on the program and on the document, joined: PaqI, PaqJ. -/
import Derived.Test.YtaeglmgpoboihaaGreatDoorMa10
import Derived.Test.YtaeglmgpoboihaaGreatDoorMa09
import Derived.Lib.AppendIntMem
import Derived.Lib.AtoiTie
import Derived.Lib.ItoaNum
/- The program's reader of rules: from, walked. gen_paqi.py writes it. -/
namespace Go.Proofs.YtaeglmgpoboihaaGreatDoor
open Go.ChangeShapes Go.WideShapes Go.ChangeAt Go.RowKit K L15 S3
open L14 (Tk)
set_option linter.unusedVariables false
namespace PQ
/-- A step that may write into the reader's block and into block v. -/
def JnQ (w : World) (b v : Nat) (T : List Tk) (ao : Option Addr) (cap last : Nat) (s' : Pi) (w' : World) : Prop := JnR w' b T ao cap last s' ∧ Kp [b, v] w w'
theorem JnQ.then {w w1 w' : World} {b v : Nat} {T : List Tk} {ao : Option Addr} {cap last : Nat} {s : Pi} (k : Kp [b, v] w w1) (h : JnP w1 b T ao cap last s w') : JnQ w b v T ao cap last s w' := ⟨h.1, k.trans (h.2.mono (by intro x hx; simp at hx; simp [hx]))⟩
theorem jnq_new {w w' : World} {b v : Nat} {T : List Tk} {ao : Option Addr} {cap last : Nat} {s : Pi} (h : JnQ w b v T ao cap last s w') (hb : b < v) (i : Nat) (u : Value) : JnQ w b v T ao cap last s (w'.setCell ⟨v, i, none⟩ u) :=
  ⟨h.1.kp ((Kp.refl [v] w').set ⟨v, i, none⟩ (by simp) u) (by intro x hx; simp at hx; omega), h.2.set ⟨v, i, none⟩ (by simp) u⟩
/-- As a step of a call that made v itself. -/
theorem JnQ.own {w w1 w' : World} {b v : Nat} {T : List Tk} {ao : Option Addr} {cap last : Nat} {s s1 : Pi} (h : JnP w b T ao cap last s1 w1) (k : JnQ w1 b v T ao cap last s w') (hv : w.heap.size ≤ v) : JnP w b T ao cap last s w' :=
  ⟨k.1, ((h.2.mono (S' := [b, v]) (by intro x hx; simp at hx; simp [hx])).trans k.2).cut (by intro x hx; simp at hx; rcases hx with rfl | rfl; exact .inl (by simp); exact .inr hv)⟩
theorem kq_row {w w' : World} {b v r : Nat} (k : Kp [b, v] w w') {o : Obj} (h : w.heap[r]? = some o) (hr : r ≠ b) (hv : r ≠ v) : w'.heap[r]? = some o := k.heap h (by simp; exact ⟨hr, hv⟩)
def ruC (nm : List UInt8) (ln fr : Int) (od : List UInt8) (wi : Bool) : Array Value := #[.string (bs nm), .int .i64 ln, .int .i64 fr, .string (bs od), .bool wi, .slice none 0 0, .slice none 0 0, .bool false]
set_option maxRecDepth 100000 in
set_option maxHeartbeats 4000000 in
theorem pfrom_walk (b v : Nat) (T : List Tk) (ao : Option Addr) (cap last : Nat) (s : Pi) (nm : List UInt8) (ln : Int) (w : World) (hbv : b < v) (h : JnR w b T ao cap last s) (hv : w.heap[v]? = some (.cells (ruC nm ln 0 [] false) 38 (0, 0))) :
    Calls Tryz.prog 49 #[.pointer (some ⟨b, 0, none⟩), .pointer (some ⟨v, 0, none⟩)] w fun e w' => e = .returned (.tuple #[]) ∧ JnQ w b v T ao cap last (from_ T last s).2.2.2 w' ∧ ∃ fr, w'.heap[v]? = some (.cells (ruC nm ln fr (from_ T last s).2.1 (from_ T last s).2.2.1) 38 (0, 0)) ∧ ((from_ T last s).2.2.2.bad = none → fr = (from_ T last s).1) := by
  have P0 : JnQ w b v T ao cap last s w := ⟨h, Kp.refl _ _⟩
  have Rv0 : w.heap[v]? = some (.cells #[.string (bs nm), .int .i64 ln, .int .i64 0, .string { data := #[] }, .bool false, .slice none 0 0, .slice none 0 0, .bool false] 38 (0, 0)) := hv
  have Nv : v ≠ b := by omega
  clear hv h
  have H1 := Lib.hid (fun w1 h1 => pword_walk b T ao cap last s wLog (by decide) w1 h1)
  rw [show bs wLog = ({ data := #[108, 111, 103] } : ByteArray) from rfl] at H1
  cases hlog : at_ T s 1 wLog with
  | true =>
    have hw : word T wLog s = (true, nx s) := by unfold word; rw [hlog]; rfl
    have hf : from_ T last s = (2, [], false, nx s) := by unfold from_; rw [hw]; rfl
    rw [hw] at H1
    rw [hf]
    clear hlog hw hf
    go_enter Tryz.func49, Tryz.ntmps49
    go_wp2_with fail
    refine (H1.out _ P0.1).mono ?_
    rintro e w1 ⟨rfl, p1⟩
    have Rv1 := kp_row16 p1.2 Rv0 Nv
    have P1 := JnQ.then P0.2 p1
    clear p1 P0 Rv0
    have yv2_2 : World.cell? _ ⟨v, 2, none⟩ = some (.int .i64 0) := cellRow Rv1 2
    have fv2_2 := freeRow Rv1 2
    have P2 := jnq_new P1 hbv 2 (.int .i64 2)
    have Rv2 := row_to (B := #[.string (bs nm), .int .i64 ln, .int .i64 2, .string { data := #[] }, .bool false, .slice none 0 0, .slice none 0 0, .bool false]) (rowSet Rv1 2 (.int .i64 2)) rfl
    have QP := Lib.hid P2
    have QV := Lib.hid Rv2
    clear P2 Rv2
    go_wp2
    go_end0
    exact ⟨rfl, QP.out, _, QV.out, fun _ => rfl⟩
  | false =>
    have hw : word T wLog s = (false, s) := by unfold word; rw [hlog]; rfl
    have hf : from_ T last s = (1, (oid T last (trapped T last s)).1, at_ T (trapped T last s) 1 wWithin, (oid T last (trapped T last s)).2) := by unfold from_; rw [hw]; rfl
    rw [hw] at H1
    rw [hf]
    clear hlog hw hf
    have H2 := Lib.hid (fun w1 h1 => pword_walk b T ao cap last s wTrap (by decide) w1 h1)
    rw [show bs wTrap = ({ data := #[116, 114, 97, 112] } : ByteArray) from rfl] at H2
    have HO := Lib.hid (show oid T last (trapped T last s) = if (how T (trapped T last s)).1 then L15.take T last 2 [] (how T (trapped T last s)).2 else ([], (how T (trapped T last s)).2) from rfl)
    cases htr : at_ T s 1 wTrap with
    | false =>
      have HF := Lib.hid (fun w1 h1 => prefuse_walk b T ao cap last s w1 h1)
      have hw : word T wTrap s = (false, s) := by unfold word; rw [htr]; rfl
      have ht : trapped T last s = fail T last s := by unfold trapped; rw [hw]; rfl
      have hbad : (fail T last s).bad.isSome = true := by unfold fail; cases hb : s.bad with | some l => simp [hb] | none => simp
      have hno : ∀ t, at_ T (fail T last s) 1 t = false := fun t => by unfold at_; rw [cur_bad hbad]
      have hh : how T (fail T last s) = (false, fail T last s) := by unfold how word; rw [hno, hno]; rfl
      have ho : oid T last (fail T last s) = ([], fail T last s) := by unfold oid; rw [hh]; rfl
      rw [hw] at H2
      rw [ht, ho, hno]
      have HB := Lib.hid (show (fail T last s).bad = none → (0 : Int) = 1 from fun he => by rw [he] at hbad; cases hbad)
      clear htr hw ht hbad hno hh ho HO
      go_enter Tryz.func49, Tryz.ntmps49
      go_wp2_with fail
      refine (H1.out _ P0.1).mono ?_
      rintro e w1 ⟨rfl, p1⟩
      have Rv1 := kp_row16 p1.2 Rv0 Nv
      have P1 := JnQ.then P0.2 p1
      clear p1 P0 Rv0
      go_wp2_with fail
      refine (H2.out _ P1.1).mono ?_
      rintro e w2 ⟨rfl, p2⟩
      have Rv2 := kp_row16 p2.2 Rv1 Nv
      have P2 := JnQ.then P1.2 p2
      clear p2 P1 Rv1
      go_wp2_with fail
      refine (HF.out _ P2.1).mono ?_
      rintro e w3 ⟨rfl, p3⟩
      have Rv3 := kp_row16 p3.2 Rv2 Nv
      have P3 := JnQ.then P2.2 p3
      clear p3 P2 Rv2
      have QP := Lib.hid P3
      have QV := Lib.hid Rv3
      clear P3 Rv3
      go_wp2
      go_end0
      exact ⟨rfl, QP.out, _, QV.out, HB.out⟩
    | true =>
      have hw : word T wTrap s = (true, nx s) := by unfold word; rw [htr]; rfl
      have ht : trapped T last s = nx s := by unfold trapped; rw [hw]; rfl
      rw [hw] at H2
      rw [ht] at HO ⊢
      clear htr hw ht
      generalize nx s = st at *
      have H4 := Lib.hid (fun w1 h1 => pword_walk b T ao cap last st wWithin (by decide) w1 h1)
      have H5 := Lib.hid (fun w1 h1 => pword_walk b T ao cap last st wIs (by decide) w1 h1)
      have H6 := Lib.hid (fun w1 h1 => ptext_walk b T ao cap last (nx st) 2 w1 h1)
      rw [show bs wWithin = ({ data := #[119, 105, 116, 104, 105, 110] } : ByteArray) from rfl] at H4
      rw [show bs wIs = ({ data := #[105, 115] } : ByteArray) from rfl] at H5
      cases hwi : at_ T st 1 wWithin with
      | true =>
        have hw : word T wWithin st = (true, nx st) := by unfold word; rw [hwi]; rfl
        have hh : how T st = (true, nx st) := by unfold how; rw [hw]; rfl
        rw [hw] at H4
        rw [hh] at HO
        simp only [if_true] at HO
        rw [HO.out]
        generalize (L15.take T last 2 [] (nx st)).1 = ox at *
        generalize (L15.take T last 2 [] (nx st)).2 = so at *
        clear hwi hw hh HO
        go_enter Tryz.func49, Tryz.ntmps49
        go_wp2_with fail
        refine (H1.out _ P0.1).mono ?_
        rintro e w1 ⟨rfl, p1⟩
        have Rv1 := kp_row16 p1.2 Rv0 Nv
        have P1 := JnQ.then P0.2 p1
        clear p1 P0 Rv0
        go_wp2_with fail
        refine (H2.out _ P1.1).mono ?_
        rintro e w2 ⟨rfl, p2⟩
        have Rv2 := kp_row16 p2.2 Rv1 Nv
        have P2 := JnQ.then P1.2 p2
        clear p2 P1 Rv1
        have yv2_3 : World.cell? _ ⟨v, 2, none⟩ = some (.int .i64 0) := cellRow Rv2 2
        have fv2_3 := freeRow Rv2 2
        have P3 := jnq_new P2 hbv 2 (.int .i64 1)
        have Rv3 := row_to (B := #[.string (bs nm), .int .i64 ln, .int .i64 1, .string { data := #[] }, .bool false, .slice none 0 0, .slice none 0 0, .bool false]) (rowSet Rv2 2 (.int .i64 1)) rfl
        go_wp2_with fail
        refine (H4.out _ P3.1).mono ?_
        rintro e w4 ⟨rfl, p4⟩
        have Rv4 := kp_row16 p4.2 Rv3 Nv
        have P4 := JnQ.then P3.2 p4
        clear p4 P3 Rv3 yv2_3 fv2_3 P2 Rv2
        have yv4_5 : World.cell? _ ⟨v, 4, none⟩ = some (.bool false) := cellRow Rv4 4
        have fv4_5 := freeRow Rv4 4
        have P5 := jnq_new P4 hbv 4 (.bool true)
        have Rv5 := row_to (B := #[.string (bs nm), .int .i64 ln, .int .i64 1, .string { data := #[] }, .bool true, .slice none 0 0, .slice none 0 0, .bool false]) (rowSet Rv4 4 (.bool true)) rfl
        have yv4_6 : World.cell? _ ⟨v, 4, none⟩ = some (.bool true) := cellRow Rv5 4
        have fv4_6 := freeRow Rv5 4
        go_wp2_with fail
        refine (H6.out _ P5.1).mono ?_
        rintro e w6 ⟨rfl, p6⟩
        have Rv6 := kp_row16 p6.2 Rv5 Nv
        have P6 := JnQ.then P5.2 p6
        clear p6 P5 Rv5 yv4_5 fv4_5 P4 Rv4 yv4_6 fv4_6
        have yv3_7 : World.cell? _ ⟨v, 3, none⟩ = some (.string { data := #[] }) := cellRow Rv6 3
        have fv3_7 := freeRow Rv6 3
        have P7 := jnq_new P6 hbv 3 (.string (bs ox))
        have Rv7 := row_to (B := #[.string (bs nm), .int .i64 ln, .int .i64 1, .string (bs ox), .bool true, .slice none 0 0, .slice none 0 0, .bool false]) (rowSet Rv6 3 (.string (bs ox))) rfl
        have QP := Lib.hid P7
        have QV := Lib.hid Rv7
        clear P7 Rv7
        go_wp2
        go_end0
        exact ⟨rfl, QP.out, _, QV.out, fun _ => rfl⟩
      | false =>
        have hw : word T wWithin st = (false, st) := by unfold word; rw [hwi]; rfl
        rw [hw] at H4
        cases his : at_ T st 1 wIs with
        | true =>
          have hw2 : word T wIs st = (true, nx st) := by unfold word; rw [his]; rfl
          have hh : how T st = (true, nx st) := by unfold how; rw [hw, hw2]; rfl
          rw [hw2] at H5
          rw [hh] at HO
          simp only [if_true] at HO
          rw [HO.out]
          generalize (L15.take T last 2 [] (nx st)).1 = ox at *
          generalize (L15.take T last 2 [] (nx st)).2 = so at *
          clear hwi hw hw2 hh HO his
          go_enter Tryz.func49, Tryz.ntmps49
          go_wp2_with fail
          refine (H1.out _ P0.1).mono ?_
          rintro e w1 ⟨rfl, p1⟩
          have Rv1 := kp_row16 p1.2 Rv0 Nv
          have P1 := JnQ.then P0.2 p1
          clear p1 P0 Rv0
          go_wp2_with fail
          refine (H2.out _ P1.1).mono ?_
          rintro e w2 ⟨rfl, p2⟩
          have Rv2 := kp_row16 p2.2 Rv1 Nv
          have P2 := JnQ.then P1.2 p2
          clear p2 P1 Rv1
          have yv2_3 : World.cell? _ ⟨v, 2, none⟩ = some (.int .i64 0) := cellRow Rv2 2
          have fv2_3 := freeRow Rv2 2
          have P3 := jnq_new P2 hbv 2 (.int .i64 1)
          have Rv3 := row_to (B := #[.string (bs nm), .int .i64 ln, .int .i64 1, .string { data := #[] }, .bool false, .slice none 0 0, .slice none 0 0, .bool false]) (rowSet Rv2 2 (.int .i64 1)) rfl
          go_wp2_with fail
          refine (H4.out _ P3.1).mono ?_
          rintro e w4 ⟨rfl, p4⟩
          have Rv4 := kp_row16 p4.2 Rv3 Nv
          have P4 := JnQ.then P3.2 p4
          clear p4 P3 Rv3 yv2_3 fv2_3 P2 Rv2
          have yv4_5 : World.cell? _ ⟨v, 4, none⟩ = some (.bool false) := cellRow Rv4 4
          have fv4_5 := freeRow Rv4 4
          have P5 := jnq_new P4 hbv 4 (.bool false)
          have Rv5 := row_to (B := #[.string (bs nm), .int .i64 ln, .int .i64 1, .string { data := #[] }, .bool false, .slice none 0 0, .slice none 0 0, .bool false]) (rowSet Rv4 4 (.bool false)) rfl
          have yv4_6 : World.cell? _ ⟨v, 4, none⟩ = some (.bool false) := cellRow Rv5 4
          have fv4_6 := freeRow Rv5 4
          go_wp2_with fail
          refine (H5.out _ P5.1).mono ?_
          rintro e w6 ⟨rfl, p6⟩
          have Rv6 := kp_row16 p6.2 Rv5 Nv
          have P6 := JnQ.then P5.2 p6
          clear p6 P5 Rv5 yv4_5 fv4_5 P4 Rv4 yv4_6 fv4_6
          go_wp2_with fail
          refine (H6.out _ P6.1).mono ?_
          rintro e w7 ⟨rfl, p7⟩
          have Rv7 := kp_row16 p7.2 Rv6 Nv
          have P7 := JnQ.then P6.2 p7
          clear p7 P6 Rv6
          have yv3_8 : World.cell? _ ⟨v, 3, none⟩ = some (.string { data := #[] }) := cellRow Rv7 3
          have fv3_8 := freeRow Rv7 3
          have P8 := jnq_new P7 hbv 3 (.string (bs ox))
          have Rv8 := row_to (B := #[.string (bs nm), .int .i64 ln, .int .i64 1, .string (bs ox), .bool false, .slice none 0 0, .slice none 0 0, .bool false]) (rowSet Rv7 3 (.string (bs ox))) rfl
          have QP := Lib.hid P8
          have QV := Lib.hid Rv8
          clear P8 Rv8
          go_wp2
          go_end0
          exact ⟨rfl, QP.out, _, QV.out, fun _ => rfl⟩
        | false =>
          have hw2 : word T wIs st = (false, st) := by unfold word; rw [his]; rfl
          have hh : how T st = (false, st) := by unfold how; rw [hw, hw2]; rfl
          rw [hw2] at H5
          rw [hh] at HO
          simp only [Bool.false_eq_true, if_false] at HO
          rw [HO.out]
          clear hwi hw hw2 hh HO his
          go_enter Tryz.func49, Tryz.ntmps49
          go_wp2_with fail
          refine (H1.out _ P0.1).mono ?_
          rintro e w1 ⟨rfl, p1⟩
          have Rv1 := kp_row16 p1.2 Rv0 Nv
          have P1 := JnQ.then P0.2 p1
          clear p1 P0 Rv0
          go_wp2_with fail
          refine (H2.out _ P1.1).mono ?_
          rintro e w2 ⟨rfl, p2⟩
          have Rv2 := kp_row16 p2.2 Rv1 Nv
          have P2 := JnQ.then P1.2 p2
          clear p2 P1 Rv1
          have yv2_3 : World.cell? _ ⟨v, 2, none⟩ = some (.int .i64 0) := cellRow Rv2 2
          have fv2_3 := freeRow Rv2 2
          have P3 := jnq_new P2 hbv 2 (.int .i64 1)
          have Rv3 := row_to (B := #[.string (bs nm), .int .i64 ln, .int .i64 1, .string { data := #[] }, .bool false, .slice none 0 0, .slice none 0 0, .bool false]) (rowSet Rv2 2 (.int .i64 1)) rfl
          go_wp2_with fail
          refine (H4.out _ P3.1).mono ?_
          rintro e w4 ⟨rfl, p4⟩
          have Rv4 := kp_row16 p4.2 Rv3 Nv
          have P4 := JnQ.then P3.2 p4
          clear p4 P3 Rv3 yv2_3 fv2_3 P2 Rv2
          have yv4_5 : World.cell? _ ⟨v, 4, none⟩ = some (.bool false) := cellRow Rv4 4
          have fv4_5 := freeRow Rv4 4
          have P5 := jnq_new P4 hbv 4 (.bool false)
          have Rv5 := row_to (B := #[.string (bs nm), .int .i64 ln, .int .i64 1, .string { data := #[] }, .bool false, .slice none 0 0, .slice none 0 0, .bool false]) (rowSet Rv4 4 (.bool false)) rfl
          have yv4_6 : World.cell? _ ⟨v, 4, none⟩ = some (.bool false) := cellRow Rv5 4
          have fv4_6 := freeRow Rv5 4
          go_wp2_with fail
          refine (H5.out _ P5.1).mono ?_
          rintro e w6 ⟨rfl, p6⟩
          have Rv6 := kp_row16 p6.2 Rv5 Nv
          have P6 := JnQ.then P5.2 p6
          clear p6 P5 Rv5 yv4_5 fv4_5 P4 Rv4 yv4_6 fv4_6
          have QP := Lib.hid P6
          have QV := Lib.hid Rv6
          clear P6 Rv6
          go_wp2
          go_end0
          exact ⟨rfl, QP.out, _, QV.out, fun _ => rfl⟩
end PQ
end Go.Proofs.YtaeglmgpoboihaaGreatDoor
/- The program's reader of rules: number, figure, walked. gen_paqj.py writes it. -/
namespace Go.Proofs.YtaeglmgpoboihaaGreatDoor
open Go.ChangeShapes Go.WideShapes Go.ChangeAt Go.RowKit K L15 S3
open L14 (Tk)
set_option linter.unusedVariables false
namespace PQ
/-! ### Numbers as they are told and read -/
theorem n15_dec (q : Nat) : vl (Lib.decDigits q) = q ∧ (Lib.decDigits q).all isD = true ∧ (0 < q → byt (Lib.decDigits q) 0 ≠ 48) ∧ Lib.decDigits q ≠ [] := by
  have hd : ∀ k : Nat, k < 10 → (UInt8.ofNat (48 + k)).toNat = 48 + k := fun k hk => by
    rw [UInt8.toNat_ofNat']; omega
  have hD : ∀ k : Nat, k < 10 → isD (UInt8.ofNat (48 + k)) = true := fun k hk => by
    unfold isD isDn; rw [hd k hk]; simp; omega
  induction q using Nat.strongRecOn with
  | ind q ih =>
    by_cases h9 : q < 10
    · rw [Lib.decDigits, dif_pos h9]
      refine ⟨?_, by rw [List.all_cons, hD q h9]; rfl, fun h0 => ?_, by simp⟩
      · show 10 * 0 + ((UInt8.ofNat (48 + q)).toNat - 48) = q
        rw [hd q h9]; omega
      · show (UInt8.ofNat (48 + q)).toNat ≠ 48
        rw [hd q h9]; omega
    · rw [Lib.decDigits, dif_neg h9]
      obtain ⟨i1, i2, i3, i4⟩ := ih (q / 10) (by omega)
      have hm : q % 10 < 10 := by omega
      refine ⟨?_, ?_, fun _ => ?_, by simp⟩
      · rw [vl_snoc, i1, hd _ hm]; omega
      · rw [List.all_append, i2, List.all_cons, hD _ hm]; rfl
      · have hl : 0 < (Lib.decDigits (q / 10)).length := List.length_pos_iff.2 i4
        have : byt (Lib.decDigits (q / 10) ++ [UInt8.ofNat (48 + q % 10)]) 0 = byt (Lib.decDigits (q / 10)) 0 := by unfold byt; rw [List.getElem?_append_left hl]
        rw [this]; exact i3 (by omega)
theorem n15_canon : ∀ (n : Nat) (x : List UInt8), x.length ≤ n → x.all isD = true → x ≠ [] → (x = [48] ∨ byt x 0 ≠ 48) → Lib.decDigits (vl x) = x := by
  intro n
  induction n with
  | zero => intro x hn _ h0; exact absurd (List.length_eq_zero_iff.1 (by omega)) h0
  | succ n ih =>
    intro x hn ha h0 hx
    obtain ⟨y, d, rfl⟩ : ∃ y d, x = y ++ [d] := ⟨x.dropLast, x.getLast h0, (List.dropLast_concat_getLast h0).symm⟩
    rw [List.all_append, Bool.and_eq_true] at ha
    have hd := isD_le (c := d) (by simpa using ha.2)
    have hdd : UInt8.ofNat (48 + (d.toNat - 48)) = d := by
      rw [show 48 + (d.toNat - 48) = d.toNat by omega]; exact UInt8.ofNat_toNat
    rw [vl_snoc]
    have hln : y.length ≤ n := by rw [List.length_append, List.length_singleton] at hn; omega
    by_cases hy : y = []
    · subst hy
      show Lib.decDigits (10 * 0 + (d.toNat - 48)) = [d]
      rw [Lib.decDigits, dif_pos (by omega), Nat.mul_zero, Nat.zero_add, hdd]
    · have hl : 0 < y.length := List.length_pos_iff.2 hy
      have hb : byt (y ++ [d]) 0 = byt y 0 := by unfold byt; rw [List.getElem?_append_left hl]
      have hy0 : byt y 0 ≠ 48 := by
        rcases hx with hx | hx
        · have h9 := congrArg List.length hx
          rw [List.length_append, List.length_singleton, List.length_singleton] at h9; omega
        · rw [← hb]; exact hx
      have h1 := ih y hln ha.1 hy (.inr hy0)
      have hv : 1 ≤ vl y := by
        rcases Nat.eq_zero_or_pos (vl y) with h | h
        · rw [h] at h1
          have : Lib.decDigits 0 = [48] := by rw [Lib.decDigits, dif_pos (by omega)]; rfl
          rw [this] at h1
          subst h1
          exact absurd rfl hy0
        · exact h
      rw [Lib.decDigits, dif_neg (by omega), show (10 * vl y + (d.toNat - 48)) / 10 = vl y by omega, show (10 * vl y + (d.toNat - 48)) % 10 = d.toNat - 48 by omega, h1, hdd]
theorem n15_from : ∀ (x : List UInt8) (acc : Nat), Lib.decFrom acc x = if x.all isD then some (vlG acc x) else none
  | [], acc => rfl
  | c :: r, acc => by
    have hc : isD c = decide (48 ≤ c.toNat ∧ c.toNat ≤ 57) := by unfold isD isDn; simp [Bool.decide_and]
    rw [Lib.decFrom]
    by_cases h : 48 ≤ c.toNat ∧ c.toNat ≤ 57
    · rw [show Lib.digitVal c = some (c.toNat - 48) by unfold Lib.digitVal; rw [if_pos h]]
      simp only
      rw [n15_from r, List.all_cons, hc, decide_eq_true h, Bool.true_and, Nat.mul_comm]
      rfl
    · rw [show Lib.digitVal c = none by unfold Lib.digitVal; rw [if_neg h], List.all_cons, hc, decide_eq_false h]
      rfl
/-- What Atoi makes of a short text that begins with a digit. -/
theorem n15_atoi {c : UInt8} {r : List UInt8} (hc : isD c = true) (hl : (c :: r).length ≤ 18) : Lib.atoiAll (c :: r) = if (c :: r).all isD then .ok ((vl (c :: r) : Nat) : Int) else Lib.NumEnd.syntax := by
  have hd := isD_le hc
  have h5 : (c == 45) = false := by rw [beq_eq_false_iff_ne]; rintro rfl; revert hd; decide
  have h3 : (c == 43) = false := by rw [beq_eq_false_iff_ne]; rintro rfl; revert hd; decide
  rw [Lib.atoiAll_short _ hl]
  unfold Lib.atoi
  simp only [h5, h3, Bool.false_eq_true, if_false]
  unfold Lib.decNat
  simp only [List.isEmpty_cons, Bool.false_eq_true, if_false]
  rw [n15_from]
  cases (c :: r).all isD <;> rfl
theorem n15_yes {x : List UInt8} (h : numOk x = true) : ∃ m : Nat, numI x = (m : Int) ∧ m < 1000000 ∧ Lib.atoiAll x = .ok (m : Int) ∧ x.length ≤ 6 ∧ Lib.itoa (m : Int) = x := by
  unfold numOk at h
  simp only [Bool.and_eq_true, decide_eq_true_eq, Bool.or_eq_true] at h
  obtain ⟨h0, h6, h1⟩ := h
  obtain ⟨ha, hl, hv⟩ := S3.numI_pos x h0
  have hlt := vl_lt x ha
  have : (10 : Nat) ^ x.length ≤ 10 ^ 6 := Nat.pow_le_pow_right (by omega) h6
  have hne : x ≠ [] := List.length_pos_iff.1 hl
  refine ⟨vl x, hv, by omega, ?_, h6, ?_⟩
  · cases x with
    | nil => exact absurd rfl hne
    | cons c r =>
      rw [n15_atoi (by rw [List.all_cons, Bool.and_eq_true] at ha; exact ha.1) (by omega), if_pos ha]
  · unfold Lib.itoa
    rw [if_neg (by omega), Int.toNat_natCast]
    exact n15_canon _ x (Nat.le_refl _) ha hne h1
theorem n15_no {c : UInt8} {r : List UInt8} {v : Int} (hc : isD c = true) (h : numOk (c :: r) = false) (hv : Lib.atoiAll (c :: r) = .ok v) (h6 : (c :: r).length ≤ 6) : 0 ≤ v ∧ v < 1000000 ∧ Lib.itoa v ≠ c :: r := by
  rw [n15_atoi hc (by omega)] at hv
  cases ha : (c :: r).all isD with
  | false => rw [ha] at hv; cases hv
  | true =>
    rw [ha, if_pos rfl] at hv
    injection hv with hv
    subst hv
    have hlt := vl_lt _ ha
    have : (10 : Nat) ^ (c :: r).length ≤ 10 ^ 6 := Nat.pow_le_pow_right (by omega) h6
    refine ⟨by omega, by omega, fun e => ?_⟩
    unfold Lib.itoa at e
    rw [if_neg (by omega), Int.toNat_natCast] at e
    obtain ⟨-, -, d3, -⟩ := n15_dec (vl (c :: r))
    have hn := S3.numI_yes _ ha (by simp)
    unfold numOk at h
    rw [hn, decide_eq_true (by omega : (0 : Int) ≤ ((vl (c :: r) : Nat) : Int)), decide_eq_true h6, Bool.true_and, Bool.true_and, Bool.or_eq_false_iff, decide_eq_false_iff_not, decide_eq_false_iff_not] at h
    obtain ⟨g1, g2⟩ := h
    rcases Nat.eq_zero_or_pos (vl (c :: r)) with h0 | h0
    · rw [h0] at e
      exact g1 (by rw [← e, Lib.decDigits, dif_pos (by omega)]; rfl)
    · have := d3 h0
      rw [e] at this
      exact g2 this
theorem pitoa_walk (n : Int) (h0 : 0 ≤ n) (h1 : n < 1000000) (w : World) (h : Pws w) :
    Calls Tryz.prog 78 #[.int .i64 n] w fun e w' => e = .returned (.string (bs (Lib.itoa n))) ∧ Below w.heap.size w w' := by
  refine (Tryz.strconv_Itoa n (by omega) (by omega) w h).mono ?_
  rintro e w' ⟨rfl, k, os, rfl⟩
  exact ⟨rfl, Lib.below_grow _ _ (Nat.le_refl _) _ _⟩
theorem bel_bytes (w : World) (e : TypeId) (s : ByteArray) : Below w.heap.size w (Lib.bytesWorld w e s) := (Kp.bytes (S := []) (Kp.refl _ w) e s).below (Nat.le_refl _) (fun x hx => by simp at hx)
set_option maxRecDepth 100000 in
set_option maxHeartbeats 2000000 in
theorem pnumber_walk (x : List UInt8) (hx : x.length ≤ 100000) (hd : ∃ c r, x = c :: r ∧ isD c = true) (w : World) (T : PaI w) :
    Calls Tryz.prog 56 #[.string (bs x)] w fun e w' => e = .returned (.tuple #[.int .i64 (if numOk x then numI x else 0), .int .i64 (if numOk x then 0 else 150)]) ∧ Below w.heap.size w w' := by
  have HT := Lib.hid T
  cases hn : numOk x with
  | true =>
    obtain ⟨m, e1, e2, e3, e4, e5⟩ := n15_yes hn
    simp only [if_true]
    rw [e1]
    have HA := Lib.hid (Tryz.strconv_Atoi_ok (bs x) (by rw [bs_size]; omega) (m : Int) (by rw [bs_toList]; exact e3) w)
    have HI := Lib.hid (fun w1 h1 => pitoa_walk (m : Int) (by omega) (by omega) w1 h1)
    rw [e5] at HI
    have h6 : ((x.length : Nat) : Int) ≤ 6 := by omega
    have hq : (x == x) = true := by simp
    clear hn e1 e2 e3 e4 e5 hx hd T
    go_enter Tryz.func56, Tryz.ntmps56
    go_wp2_with fail
    refine HA.out.mono ?_
    rintro e w1 ⟨rfl, hw⟩
    have b1 : Below w.heap.size w w1 := by
      rcases hw with rfl | ⟨t, rfl⟩
      · exact Below.refl _ _
      · exact bel_bytes _ _ _
    have B1 := Lib.hid b1
    clear hw b1
    go_wp2_with fail
    refine (HI.out _ (HT.out.below B1.out).2.2.1).mono ?_
    rintro e w2 ⟨rfl, b2⟩
    have B2 := Lib.hid (B1.out.trans (b2.mono B1.out.size))
    clear b2
    go_wp2
    go_ret2
    exact ⟨rfl, B2.out⟩
  | false =>
    simp only [Bool.false_eq_true, if_false]
    cases ha : Lib.atoiAll x with
    | ok v =>
      have HA := Lib.hid (Tryz.strconv_Atoi_ok (bs x) (by rw [bs_size]; omega) v (by rw [bs_toList]; exact ha) w)
      by_cases h6 : x.length ≤ 6
      · obtain ⟨c, r, rfl, hc⟩ := hd
        obtain ⟨v0, v1, hne⟩ := n15_no hc hn ha h6
        have HI := Lib.hid (fun w1 h1 => pitoa_walk v v0 v1 w1 h1)
        have h6i : (((c :: r).length : Nat) : Int) ≤ 6 := by omega
        have hq : (Lib.itoa v == c :: r) = false := by rw [beq_eq_false_iff_ne]; exact hne
        have hq2 : (Lib.itoa v != c :: r) = true := bne_iff_ne.2 hne
        generalize Lib.itoa v = y at *
        generalize c :: r = x at *
        clear hn ha hx T hne hc h6
        go_enter Tryz.func56, Tryz.ntmps56
        go_wp2_with fail
        refine HA.out.mono ?_
        rintro e w1 ⟨rfl, hw⟩
        have b1 : Below w.heap.size w w1 := by
          rcases hw with rfl | ⟨t, rfl⟩
          · exact Below.refl _ _
          · exact bel_bytes _ _ _
        have B1 := Lib.hid b1
        clear hw b1
        go_wp2_with fail
        refine (HI.out _ (HT.out.below B1.out).2.2.1).mono ?_
        rintro e w2 ⟨rfl, b2⟩
        have B2 := Lib.hid (B1.out.trans (b2.mono B1.out.size))
        clear b2
        go_wp2
        go_ret2
        exact ⟨rfl, B2.out⟩
      · have h6i : (6 : Int) < ((x.length : Nat) : Int) := by omega
        clear hn ha hx hd T h6
        go_enter Tryz.func56, Tryz.ntmps56
        go_wp2_with fail
        refine HA.out.mono ?_
        rintro e w1 ⟨rfl, hw⟩
        have b1 : Below w.heap.size w w1 := by
          rcases hw with rfl | ⟨t, rfl⟩
          · exact Below.refl _ _
          · exact bel_bytes _ _ _
        have B1 := Lib.hid b1
        clear hw b1
        go_wp2
        go_ret2
        exact ⟨rfl, B1.out⟩
    | range =>
      obtain ⟨te, pe, hv⟩ := T.2.1
      have HA := Lib.hid (Tryz.strconv_Atoi_range (bs x) (by rw [bs_size]; omega) (by rw [bs_toList]; exact ha) _ w hv (.inr ⟨te, pe, rfl⟩))
      clear hn ha hx hd T hv
      go_enter Tryz.func56, Tryz.ntmps56
      go_wp2_with fail
      refine HA.out.mono ?_
      rintro e w1 ⟨N, rfl, -, -, b1⟩
      have B1 := Lib.hid b1
      clear b1
      go_wp2
      go_ret2
      exact ⟨rfl, B1.out⟩
    | _ =>
      obtain ⟨te, pe, hv⟩ := T.1.2
      have HA := Lib.hid (Tryz.strconv_Atoi_syntax (bs x) (by rw [bs_size]; omega) (by rw [bs_toList]; exact ha) _ w hv (.inr ⟨te, pe, rfl⟩))
      clear hn ha hx hd T hv
      go_enter Tryz.func56, Tryz.ntmps56
      go_wp2_with fail
      refine HA.out.mono ?_
      rintro e w1 ⟨N, rfl, -, -, b1⟩
      have B1 := Lib.hid b1
      clear b1
      go_wp2
      go_ret2
      exact ⟨rfl, B1.out⟩
theorem isT_fig {t : List UInt8} (h : L14.isT 2 t = true) : ∃ c r, t = c :: r ∧ isD c = true := by
  unfold L14.isT at h
  rw [if_neg (by decide), if_pos rfl] at h
  unfold L14.isF at h
  cases t with
  | nil => simp at h
  | cons c r => exact ⟨c, r, rfl, by simp at h; unfold isD isDn; have := h.1; unfold L14.dgN at this; exact this⟩
set_option maxRecDepth 100000 in
set_option maxHeartbeats 2000000 in
theorem pfigN_walk (b : Nat) (T : List Tk) (ao : Option Addr) (cap last : Nat) (s : Pi) (w : World) (h : JnR w b T ao cap last s) :
    Calls Tryz.prog 55 #[.pointer (some ⟨b, 0, none⟩), .func (Fn.func 56) #[] #[]] w fun e w' => e = .returned (.int .i64 (number T last s).1) ∧ JnP w b T ao cap last (number T last s).2 w' := by
  have HA := Lib.hid (comes_walk b T ao cap last s 2 w h)
  unfold L15.number
  cases ha : at_ T s 2 [] with
  | false =>
    rw [ha] at HA
    simp only [Bool.false_and, Bool.false_eq_true, if_false]
    clear h ha
    go_enter Tryz.func55, Tryz.ntmps55
    go_wp2_with fail
    refine HA.out.mono ?_
    rintro e w1 ⟨rfl, p1⟩
    have P1 := Lib.hid p1
    clear p1
    go_wp2_with fail
    refine (prefuse_walk b T ao cap last s _ P1.out.1).mono ?_
    rintro e w2 ⟨rfl, p2⟩
    have P2 := Lib.hid (JnP.then P1.out.2 p2)
    clear p2
    go_wp2
    go_ret
    exact ⟨rfl, P2.out⟩
  | true =>
    obtain ⟨hb, hp⟩ := nx_in ha
    have hxl := short_at h.short.1 s hp
    have hdg : ∃ c r, txt T s = c :: r ∧ isD c = true := by
      obtain ⟨x, hx, e1, e2⟩ := at_tok ha
      have := h.ok x hx
      rw [e1] at this
      rw [← e2]
      exact isT_fig this
    rw [ha] at HA
    simp only [Bool.true_and]
    have HT := Lib.hid (fun w1 h1 => ptake_walk b T ao cap last s hb hp w1 h1)
    have HN := Lib.hid (fun w1 h1 => pnumber_walk (txt T s) hxl hdg w1 h1)
    clear h
    generalize hxe : txt T s = x at *
    have HXE := Lib.hid hxe
    clear hxe
    cases hn : numOk x with
    | true =>
      rw [hn] at HN
      simp only [if_true] at HN
      simp only [if_true]
      go_enter Tryz.func55, Tryz.ntmps55
      go_wp2_with fail
      refine HA.out.mono ?_
      rintro e w1 ⟨rfl, p1⟩
      rcases p1.1.view with ⟨-, hno, -⟩ | ⟨-, -, g, o, c, hb2, -, -, -, -, k0, k1, k2⟩
      · rw [hno] at ha; cases ha
      rw [show (T.getD s.p noTk).t = x from HXE.out] at k1
      have hpi : (0 : Int) < ((T.length - s.p : Nat) : Int) := by omega
      have c0 := cellRow hb2 0
      simp at c0
      have P1 := Lib.hid p1
      clear hb2 k0 k2 p1 hb hp ha hn hdg hxl HA
      go_wp2_with fail
      refine (HN.out _ P1.out.1.short.2).mono ?_
      rintro e w2 ⟨rfl, b2⟩
      have P2 := Lib.hid (JnP.then P1.out.2 (⟨P1.out.1.below b2, Kp.ofBelow b2 [b]⟩ : JnP w1 b T ao cap last s w2))
      clear b2 c0 k1
      go_wp2_with fail
      refine (HT.out _ P2.out.1).mono ?_
      rintro e w3 ⟨rfl, p3⟩
      have P3 := Lib.hid (JnP.then P2.out.2 p3)
      clear p3
      go_wp2
      go_ret
      exact ⟨rfl, P3.out⟩
    | false =>
      rw [hn] at HN
      simp only [Bool.false_eq_true, if_false] at HN
      simp only [Bool.false_eq_true, if_false]
      go_enter Tryz.func55, Tryz.ntmps55
      go_wp2_with fail
      refine HA.out.mono ?_
      rintro e w1 ⟨rfl, p1⟩
      rcases p1.1.view with ⟨-, hno, -⟩ | ⟨-, -, g, o, c, hb2, -, -, -, -, k0, k1, k2⟩
      · rw [hno] at ha; cases ha
      rw [show (T.getD s.p noTk).t = x from HXE.out] at k1
      have hpi : (0 : Int) < ((T.length - s.p : Nat) : Int) := by omega
      have c0 := cellRow hb2 0
      simp at c0
      have P1 := Lib.hid p1
      clear hb2 k0 k2 p1 hb hp ha hn hdg hxl HA HT
      go_wp2_with fail
      refine (HN.out _ P1.out.1.short.2).mono ?_
      rintro e w2 ⟨rfl, b2⟩
      have P2 := Lib.hid (JnP.then P1.out.2 (⟨P1.out.1.below b2, Kp.ofBelow b2 [b]⟩ : JnP w1 b T ao cap last s w2))
      clear b2 c0 k1
      go_wp2_with fail
      refine (prefuse_walk b T ao cap last s _ P2.out.1).mono ?_
      rintro e w3 ⟨rfl, p3⟩
      have P3 := Lib.hid (JnP.then P2.out.2 p3)
      clear p3
      go_wp2
      go_ret
      exact ⟨rfl, P3.out⟩
set_option maxRecDepth 100000 in
set_option maxHeartbeats 2000000 in
theorem pfigS_walk (b : Nat) (T : List Tk) (ao : Option Addr) (cap last : Nat) (s : Pi) (w : World) (h : JnR w b T ao cap last s) :
    Calls Tryz.prog 55 #[.pointer (some ⟨b, 0, none⟩), .func (Fn.func 57) #[] #[]] w fun e w' => e = .returned (.int .i64 (span T last s).1) ∧ JnP w b T ao cap last (span T last s).2 w' := by
  have HA := Lib.hid (comes_walk b T ao cap last s 2 w h)
  unfold L15.span
  cases ha : at_ T s 2 [] with
  | false =>
    rw [ha] at HA
    simp only [Bool.false_and, Bool.false_eq_true, if_false]
    clear h ha
    go_enter Tryz.func55, Tryz.ntmps55
    go_wp2_with fail
    refine HA.out.mono ?_
    rintro e w1 ⟨rfl, p1⟩
    have P1 := Lib.hid p1
    clear p1
    go_wp2_with fail
    refine (prefuse_walk b T ao cap last s _ P1.out.1).mono ?_
    rintro e w2 ⟨rfl, p2⟩
    have P2 := Lib.hid (JnP.then P1.out.2 p2)
    clear p2
    go_wp2
    go_ret
    exact ⟨rfl, P2.out⟩
  | true =>
    obtain ⟨hb, hp⟩ := nx_in ha
    have hxl := short_at h.short.1 s hp
    have hdg : ∃ c r, txt T s = c :: r ∧ isD c = true := by
      obtain ⟨x, hx, e1, e2⟩ := at_tok ha
      have := h.ok x hx
      rw [e1] at this
      rw [← e2]
      exact isT_fig this
    rw [ha] at HA
    simp only [Bool.true_and]
    have HT := Lib.hid (fun w1 h1 => ptake_walk b T ao cap last s hb hp w1 h1)
    have HN := Lib.hid (fun w1 h1 => span_walk (txt T s) (by omega) w1 h1)
    clear h
    generalize hxe : txt T s = x at *
    have HXE := Lib.hid hxe
    clear hxe
    cases hn : decide (spC x = 0) with
    | true =>
      rw [decide_eq_true_eq] at hn
      rw [hn] at HN
      simp only [if_true]
      go_enter Tryz.func55, Tryz.ntmps55
      go_wp2_with fail
      refine HA.out.mono ?_
      rintro e w1 ⟨rfl, p1⟩
      rcases p1.1.view with ⟨-, hno, -⟩ | ⟨-, -, g, o, c, hb2, -, -, -, -, k0, k1, k2⟩
      · rw [hno] at ha; cases ha
      rw [show (T.getD s.p noTk).t = x from HXE.out] at k1
      have hpi : (0 : Int) < ((T.length - s.p : Nat) : Int) := by omega
      have c0 := cellRow hb2 0
      simp at c0
      have P1 := Lib.hid p1
      clear hb2 k0 k2 p1 hb hp ha hn hdg hxl HA
      go_wp2_with fail
      refine (HN.out _ P1.out.1.short.2.2.2.2.1).mono ?_
      rintro e w2 ⟨rfl, b2⟩
      have P2 := Lib.hid (JnP.then P1.out.2 (⟨P1.out.1.below b2, Kp.ofBelow b2 [b]⟩ : JnP w1 b T ao cap last s w2))
      clear b2 c0 k1
      go_wp2_with fail
      refine (HT.out _ P2.out.1).mono ?_
      rintro e w3 ⟨rfl, p3⟩
      have P3 := Lib.hid (JnP.then P2.out.2 p3)
      clear p3
      go_wp2
      go_ret
      exact ⟨rfl, P3.out⟩
    | false =>
      rw [decide_eq_false_iff_not] at hn
      have hne : (spC x == 0) = false := by rw [beq_eq_false_iff_ne]; exact hn
      have hne2 : (spC x != 0) = true := bne_iff_ne.2 hn
      simp only [Bool.false_eq_true, if_false]
      go_enter Tryz.func55, Tryz.ntmps55
      go_wp2_with fail
      refine HA.out.mono ?_
      rintro e w1 ⟨rfl, p1⟩
      rcases p1.1.view with ⟨-, hno, -⟩ | ⟨-, -, g, o, c, hb2, -, -, -, -, k0, k1, k2⟩
      · rw [hno] at ha; cases ha
      rw [show (T.getD s.p noTk).t = x from HXE.out] at k1
      have hpi : (0 : Int) < ((T.length - s.p : Nat) : Int) := by omega
      have c0 := cellRow hb2 0
      simp at c0
      have P1 := Lib.hid p1
      clear hb2 k0 k2 p1 hb hp ha hn hdg hxl HA HT
      go_wp2_with fail
      refine (HN.out _ P1.out.1.short.2.2.2.2.1).mono ?_
      rintro e w2 ⟨rfl, b2⟩
      have P2 := Lib.hid (JnP.then P1.out.2 (⟨P1.out.1.below b2, Kp.ofBelow b2 [b]⟩ : JnP w1 b T ao cap last s w2))
      clear b2 c0 k1
      go_wp2_with fail
      refine (prefuse_walk b T ao cap last s _ P2.out.1).mono ?_
      rintro e w3 ⟨rfl, p3⟩
      have P3 := Lib.hid (JnP.then P2.out.2 p3)
      clear p3
      go_wp2
      go_ret
      exact ⟨rfl, P3.out⟩
end PQ
end Go.Proofs.YtaeglmgpoboihaaGreatDoor
