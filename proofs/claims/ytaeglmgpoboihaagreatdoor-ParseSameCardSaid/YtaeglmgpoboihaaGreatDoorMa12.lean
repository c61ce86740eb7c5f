/- Texts on the program and on the document, joined: ParM, PaqF, PaqG. -/
import Derived.Test.YtaeglmgpoboihaaGreatDoorMa06
import Derived.Deep.LoopGhost
import Derived.Test.YtaeglmgpoboihaaGreatDoorMa11
import Derived.Test.YtaeglmgpoboihaaGreatDoorMa09
/- The document's reader of rules: table, walked. gen_parm.py writes it. -/
namespace Go.Proofs.YtaeglmgpoboihaaGreatDoor
open Go.ChangeShapes Go.WideShapes Go.ChangeAt Go.RowKit K L15 S3
open L14 (Tk)
set_option linter.unusedVariables false

def prRow (x : Pr) : List Value := [.string (bs x.n), .string (bs x.v)]
theorem prinfo : (Tryz.prog.info? 68).map (fun i => (i.zero, i.size, i.bytes)) = some (some (.agg #[.string .empty, .string .empty]), 2, 32) := by kernel_rfl
theorem keys_go {T : List Tk} {last g : Nat} {s : Pi} (h : at_ T s 4 [] = true) : keys T last (g + 1) s = (⟨(L15.text T last s).1, (L15.text T last (sign T last [61] (L15.text T last s).2)).1⟩ :: (keys T last g (sign T last [59] (L15.text T last (sign T last [61] (L15.text T last s).2)).2)).1, (keys T last g (sign T last [59] (L15.text T last (sign T last [61] (L15.text T last s).2)).2)).2) := by
  rw [keys, if_pos h]
theorem keys_stop {T : List Tk} {last : Nat} {s : Pi} (h : at_ T s 4 [] = false) : ∀ g, keys T last g s = ([], s)
  | 0 => rfl
  | g + 1 => by rw [keys, h]; rfl
theorem keys_p {T : List Tk} {last : Nat} {s : Pi} (h : at_ T s 4 [] = true) : s.p + 1 ≤ (sign T last [59] (L15.text T last (sign T last [61] (L15.text T last s).2)).2).p := by
  have h1 := sign_p T last [59] (L15.text T last (sign T last [61] (L15.text T last s).2)).2
  have h2 := text_p T last (sign T last [61] (L15.text T last s).2)
  have h3 := sign_p T last [61] (L15.text T last s).2
  have h4 : (L15.text T last s).2 = nx s := by unfold L15.text; rw [take_yes h]
  rw [h4] at h1 h2 h3 ⊢
  have : (nx s).p = s.p + 1 := rfl
  omega
end Go.Proofs.YtaeglmgpoboihaaGreatDoor
/- The program's lists of keys and of pieces, walked: a generic function that calls the two function values that it is given. gen_paqf.py writes it. -/
namespace Go.Proofs.YtaeglmgpoboihaaGreatDoor
open Go.ChangeShapes Go.WideShapes Go.ChangeAt Go.RowKit K L15 S3
open L14 (Tk)
set_option linter.unusedVariables false
namespace PQ
theorem keys_go1 {T : List Tk} {last g : Nat} {s : Pi} (h : at_ T s 4 [] = true) : keys T last (g + 1) s = ((key1 T last s).1 :: (keys T last g (key1 T last s).2).1, (keys T last g (key1 T last s).2).2) := keys_go h
theorem keys_p1 {T : List Tk} {last : Nat} {s : Pi} (h : at_ T s 4 [] = true) : s.p + 1 ≤ (key1 T last s).2.p := keys_p h
theorem stp_yes {T : List Tk} {last : Nat} {s : Pi} {c : UInt8} (h : at_ T s 5 [c] = true) : stp T s c = sign T last [c] s := by unfold stp sign; rw [take_yes h, if_pos h]
theorem stp_no {T : List Tk} {s : Pi} {c : UInt8} (h : at_ T s 5 [c] = false) : stp T s c = s := by unfold stp; rw [h]; rfl
def LkRel (w : World) (b : Nat) (T : List Tk) (ao : Option Addr) (cap last : Nat) (s : Pi) (g : Nat) (v : Value) (wr : World) : Prop :=
  ∃ (sx : Pi) (acc : List Pr), keys T last (T.length + 1) s = (acc ++ (keys T last g sx).1, (keys T last g sx).2) ∧ T.length < g + sx.p ∧ acc.length ≤ sx.p ∧ JnP w b T ao cap last sx wr ∧ OwnR wr w.heap.size 68 2 v (acc.map prRow)
def LpRel (w : World) (b : Nat) (T : List Tk) (ao : Option Addr) (cap last : Nat) (s : Pi) (g : Nat) (v : Value) (wr : World) : Prop :=
  ∃ (sx : Pi) (acc : List Pc), pieces T last (T.length + 1) s = (acc ++ (pieces T last g sx).1, (pieces T last g sx).2) ∧ T.length < g + sx.p ∧ acc.length ≤ sx.p ∧ JnP w b T ao cap last sx wr ∧ OwnR wr w.heap.size 50 3 v (acc.map pcRow)
set_option maxRecDepth 100000 in
set_option maxHeartbeats 2000000 in
theorem plistK_walk (b : Nat) (T : List Tk) (ao : Option Addr) (cap last : Nat) (s : Pi) (w : World) (h : JnR w b T ao cap last s) :
    Calls Tryz.prog 46 #[.func (Fn.func 47) #[.pointer (some ⟨b, 0, none⟩)] #[], .func (Fn.func 48) #[.pointer (some ⟨b, 0, none⟩)] #[]] w fun e w' => ∃ v, e = .returned v ∧ OwnR w' w.heap.size 68 2 v ((keys T last (T.length + 1) s).1.map prRow) ∧ JnP w b T ao cap last (keys T last (T.length + 1) s).2 w' := by
  have hlt := h.lt
  have hfew := h.few.1
  have HH := Lib.hid h
  clear h
  go_enter Tryz.func46, Tryz.ntmps46
  go_wp2
  go_loopg [5] (T.length + 1) (fun g v5 wr => LkRel w b T ao cap last s g v5 wr)
  case atStart => exact ⟨s, [], by simp, by omega, by simp, ⟨HH.out, Kp.refl _ _⟩, OwnR.nil _ _ _ _⟩
  case round =>
    obtain ⟨sx, acc, hk, hg, hac, P5, O5⟩ := hrel
    have HKX := Lib.hid hk
    have G1 := Lib.hid (fun w1 h1 => pkeycomes_walk b T ao cap last sx w1 h1)
    clear hk HH
    have hfx := P5.1.few.2
    cases hat : at_ T sx 4 [] with
    | true =>
      obtain ⟨-, hpx⟩ := nx_in hat
      obtain ⟨G, rfl⟩ : ∃ G, gk = G + 1 := ⟨gk - 1, by omega⟩
      have hkp := keys_p1 (last := last) hat
      rw [keys_go1 hat] at HKX
      rw [hat] at G1
      have G2 := Lib.hid (fun w1 h1 => pkey_walk b T ao cap last sx w1 h1)
      generalize (key1 T last sx).1 = x at *
      generalize (key1 T last sx).2 = s4 at *
      clear hat
      go_wp2_with fail
      refine (G1.out _ P5.1).mono ?_
      rintro e w1 ⟨rfl, p1⟩
      have P1 := JnP.then P5.2 p1
      have O1 := jown_b O5 P5.1 (by decide) p1.2
      clear p1 P5 O5
      go_wp2_with fail
      refine (G2.out _ P1.1).mono ?_
      rintro e w2 ⟨rfl, p2⟩
      have P2 := JnP.then P1.2 p2
      have O2 := jown_b O1 P1.1 (by decide) p2.2
      clear p2 P1 O1
      have a3 : Below w2.heap.size w2 (w2.alloc (.cells #[.string (bs x.n), .string (bs x.v)] 68)) := (Below.refl _ _).alloc (Nat.le_refl _) _
      have M3 := O2.below a3
      have X3 := rowNew w2 (.cells #[.string (bs x.n), .string (bs x.v)] 68)
      have P3 := P2.alloc (.cells #[.string (bs x.n), .string (bs x.v)] 68)
      have B3 : w.heap.size ≤ (w2.alloc (.cells #[.string (bs x.n), .string (bs x.v)] 68)).heap.size := P3.2.size
      clear a3 P2 O2
      go_wp2_with (at_builtin; refine appRwL rfl rfl Tryz.underlying32 prinfo rfl (by decide) (by decide) _ rfl M3 w2.heap.size [.string (bs x.n), .string (bs x.v)] rfl X3 rfl rfl (by intro u hu; simp at hu; rcases hu with rfl | rfl <;> rfl) (by simp; omega) B3 ?_)
      intro v4 w4 m4 g4
      have Q4 := Lib.hid (JnP.grown P3 g4 M3.1 (Nat.le_refl _) hlt)
      have O4 := Lib.hid m4
      clear m4 M3 X3 P3 B3 g4
      go_wp2
      go_roundg G
      case measure => omega
      case rel => exact ⟨s4, acc ++ [x], by rw [HKX.out]; simp, by omega, by rw [List.length_append]; simp; omega, Q4.out, by have := O4.out; rw [List.map_append]; exact this⟩
    | false =>
      rw [keys_stop hat, List.append_nil] at HKX
      rw [hat] at G1
      have HP := Lib.hid P5
      have HO := Lib.hid O5
      clear hat hg hac P5 O5
      go_wp2_with fail
      refine (G1.out _ HP.out.1).mono ?_
      rintro e w1 ⟨rfl, p1⟩
      have P1 := Lib.hid (JnP.then HP.out.2 p1)
      have O1 := Lib.hid (jown_b HO.out HP.out.1 (by decide) p1.2)
      clear p1
      go_wp2
      go_ret
      exact ⟨_, rfl, by rw [HKX.out]; exact O1.out, by rw [HKX.out]; exact P1.out⟩
set_option maxRecDepth 100000 in
set_option maxHeartbeats 2000000 in
theorem plistP_walk (b : Nat) (T : List Tk) (ao : Option Addr) (cap last : Nat) (s : Pi) (w : World) (h : JnR w b T ao cap last s) :
    Calls Tryz.prog 75 #[.func (Fn.func 76) #[.pointer (some ⟨b, 0, none⟩)] #[], .func (Fn.func 74) #[.pointer (some ⟨b, 0, none⟩)] #[]] w fun e w' => ∃ v, e = .returned v ∧ OwnR w' w.heap.size 50 3 v ((pieces T last (T.length + 1) s).1.map pcRow) ∧ JnP w b T ao cap last (pieces T last (T.length + 1) s).2 w' := by
  have hlt := h.lt
  have hfew := h.few.1
  have HH := Lib.hid h
  clear h
  go_enter Tryz.func75, Tryz.ntmps75
  go_wp2
  go_loopg [5] (T.length + 1) (fun g v5 wr => LpRel w b T ao cap last s g v5 wr)
  case atStart => exact ⟨s, [], by simp, by omega, by simp, ⟨HH.out, Kp.refl _ _⟩, OwnR.nil _ _ _ _⟩
  case round =>
    obtain ⟨sx, acc, hk, hg, hac, P5, O5⟩ := hrel
    have HKX := Lib.hid hk
    have G1 := Lib.hid (fun w1 h1 => ptookplus_walk b T ao cap last sx w1 h1)
    clear hk HH
    have hfx := P5.1.few.2
    cases hat : at_ T sx 5 [43] with
    | true =>
      obtain ⟨-, hpx⟩ := nx_in hat
      obtain ⟨G, rfl⟩ : ∃ G, gk = G + 1 := ⟨gk - 1, by omega⟩
      have hkp := pieces_p (last := last) hat
      rw [pieces_go hat] at HKX
      rw [hat] at G1
      rw [stp_yes (last := last) hat] at G1
      have G2 := Lib.hid (fun w1 h1 => ppiece_walk b T ao cap last (sign T last [43] sx) w1 h1)
      unfold pieceC at G2
      generalize (piece T last (sign T last [43] sx)).1 = x at *
      generalize (piece T last (sign T last [43] sx)).2 = s4 at *
      generalize sign T last [43] sx = sy at *
      clear hat
      go_wp2_with fail
      refine (G1.out _ P5.1).mono ?_
      rintro e w1 ⟨rfl, p1⟩
      have P1 := JnP.then P5.2 p1
      have O1 := jown_b O5 P5.1 (by decide) p1.2
      clear p1 P5 O5
      go_wp2_with fail
      refine (G2.out _ P1.1).mono ?_
      rintro e w2 ⟨rfl, p2⟩
      have P2 := JnP.then P1.2 p2
      have O2 := jown_b O1 P1.1 (by decide) p2.2
      clear p2 P1 O1
      have a3 : Below w2.heap.size w2 (w2.alloc (.cells #[.int .i64 x.k, .string (bs x.t), .string (bs x.b)] 50)) := (Below.refl _ _).alloc (Nat.le_refl _) _
      have M3 := O2.below a3
      have X3 := rowNew w2 (.cells #[.int .i64 x.k, .string (bs x.t), .string (bs x.b)] 50)
      have P3 := P2.alloc (.cells #[.int .i64 x.k, .string (bs x.t), .string (bs x.b)] 50)
      have B3 : w.heap.size ≤ (w2.alloc (.cells #[.int .i64 x.k, .string (bs x.t), .string (bs x.b)] 50)).heap.size := P3.2.size
      clear a3 P2 O2
      go_wp2_with (at_builtin; refine appRwL rfl rfl Tryz.underlying51 pcinfo rfl (by decide) (by decide) _ rfl M3 w2.heap.size [.int .i64 x.k, .string (bs x.t), .string (bs x.b)] rfl X3 rfl rfl (by intro u hu; simp at hu; rcases hu with rfl | rfl | rfl <;> rfl) (by simp; omega) B3 ?_)
      intro v4 w4 m4 g4
      have Q4 := Lib.hid (JnP.grown P3 g4 M3.1 (Nat.le_refl _) hlt)
      have O4 := Lib.hid m4
      clear m4 M3 X3 P3 B3 g4
      go_wp2
      go_roundg G
      case measure => omega
      case rel => exact ⟨s4, acc ++ [x], by rw [HKX.out]; simp, by omega, by rw [List.length_append]; simp; omega, Q4.out, by have := O4.out; rw [List.map_append]; exact this⟩
    | false =>
      rw [pieces_stop hat, List.append_nil] at HKX
      rw [hat] at G1
      rw [stp_no hat] at G1
      have HP := Lib.hid P5
      have HO := Lib.hid O5
      clear hat hg hac P5 O5
      go_wp2_with fail
      refine (G1.out _ HP.out.1).mono ?_
      rintro e w1 ⟨rfl, p1⟩
      have P1 := Lib.hid (JnP.then HP.out.2 p1)
      have O1 := Lib.hid (jown_b HO.out HP.out.1 (by decide) p1.2)
      clear p1
      go_wp2
      go_ret
      exact ⟨_, rfl, by rw [HKX.out]; exact O1.out, by rw [HKX.out]; exact P1.out⟩
end PQ
end Go.Proofs.YtaeglmgpoboihaaGreatDoor
/- The program's reader of rules: table, walked. gen_paqg.py writes it. -/
namespace Go.Proofs.YtaeglmgpoboihaaGreatDoor
open Go.ChangeShapes Go.WideShapes Go.ChangeAt Go.RowKit K L15 S3
open L14 (Tk)
set_option linter.unusedVariables false
namespace PQ
theorem plistK_walk2 (b : Nat) (T : List Tk) (ao : Option Addr) (cap last : Nat) (s : Pi) (w : World) (h : JnR w b T ao cap last s) :
    Calls Tryz.prog 46 #[.func (Fn.func 47) #[.pointer (some ⟨b, 0, none⟩)] #[], .func (Fn.func 48) #[.pointer (some ⟨b, 0, none⟩)] #[]] w fun e w' => ∃ v, e = .returned v ∧ JnP w b T ao cap last (keys T last (T.length + 1) s).2 w' ∧ OwnR w' w.heap.size 68 2 v ((keys T last (T.length + 1) s).1.map prRow) :=
  (plistK_walk b T ao cap last s w h).mono fun e w' ⟨v, h1, h2, h3⟩ => ⟨v, h1, h3, h2⟩
set_option maxRecDepth 100000 in
set_option maxHeartbeats 4000000 in
theorem ptable_walk (b : Nat) (T : List Tk) (ao : Option Addr) (cap last : Nat) (s : Pi) (w : World) (h : JnR w b T ao cap last s) :
    Calls Tryz.prog 24 #[.pointer (some ⟨b, 0, none⟩)] w fun e w' => ∃ po pc, e = .returned (.agg #[.string (bs (table T last (lnO T s : Nat) s).1.n), .int .i64 (table T last (lnO T s : Nat) s).1.l, .slice po (table T last (lnO T s : Nat) s).1.ks.length pc, .string (bs (table T last (lnO T s : Nat) s).1.e)]) ∧ RdRw w' 68 2 po ((table T last (lnO T s : Nat) s).1.ks.map prRow) ∧ JnP w b T ao cap last (table T last (lnO T s : Nat) s).2 w' := by
  have hlt := h.lt
  have a0 : Below w.heap.size w (w.alloc (.cells #[.string { data := #[] }, .int .i64 0, .slice none 0 0, .string { data := #[] }] 34)) := (Below.refl _ _).alloc (Nat.le_refl _) _
  have Rr0 := rowNew w (.cells #[.string { data := #[] }, .int .i64 0, .slice none 0 0, .string { data := #[] }] 34)
  have h0 := h.below a0
  have P0 : JnP w b T ao cap last s (w.alloc (.cells #[.string { data := #[] }, .int .i64 0, .slice none 0 0, .string { data := #[] }] 34)) := ⟨h0, Kp.ofBelow a0 [b]⟩
  obtain ⟨w0, hw0⟩ : ∃ w0, w.alloc (.cells #[.string { data := #[] }, .int .i64 0, .slice none 0 0, .string { data := #[] }] 34) = w0 := ⟨_, rfl⟩
  rw [hw0] at a0 Rr0 h0 P0
  have HW0 := Lib.hid hw0
  have Nr : w.heap.size ≠ b := by omega
  have Lr : w.heap.size ≤ w.heap.size := Nat.le_refl _
  have hq := h
  obtain ⟨vr, cr, hbr, -⟩ := hq
  have cl1 := cellRow hbr 1
  simp at cl1
  clear hbr
  generalize (lnO T s : Nat) = ln at *
  have HX := Lib.hid (show table T last (ln : Nat) s = (⟨(take T last 1 [] s).1, (ln : Nat), (keys T last (T.length + 1) (sign T last [123] (take T last 1 [] s).2)).1, (els T last (keys T last (T.length + 1) (sign T last [123] (take T last 1 [] s).2)).2).1⟩, sign T last [125] (els T last (keys T last (T.length + 1) (sign T last [123] (take T last 1 [] s).2)).2).2) from rfl)
  have H1 := Lib.hid (fun w1 h1 => ptext_walk b T ao cap last s 1 w1 h1)
  have H2 := Lib.hid (fun w1 h1 => psign_walk b T ao cap last (take T last 1 [] s).2 123 (by decide) w1 h1)
  have H3 := Lib.hid (fun w1 h1 => plistK_walk2 b T ao cap last (sign T last [123] (take T last 1 [] s).2) w1 h1)
  rw [show bs [123] = ({ data := #[123] } : ByteArray) from rfl] at H2
  generalize (keys T last (T.length + 1) (sign T last [123] (take T last 1 [] s).2)).1 = ks at *
  generalize (keys T last (T.length + 1) (sign T last [123] (take T last 1 [] s).2)).2 = s2 at *
  generalize (sign T last [123] (take T last 1 [] s).2) = s1 at *
  generalize (take T last 1 [] s).1 = nm at *
  generalize (take T last 1 [] s).2 = s0 at *
  have G2 := Lib.hid (fun w1 h1 => pword_walk b T ao cap last s2 wElse (by decide) w1 h1)
  have G3 := Lib.hid (fun w1 h1 => ptext_walk b T ao cap last (nx s2) 4 w1 h1)
  have G4 := Lib.hid (fun w1 h1 => psign_walk b T ao cap last (take T last 4 [] (nx s2)).2 59 (by decide) w1 h1)
  have G5 := Lib.hid (fun w1 h1 => psign_walk b T ao cap last (els T last s2).2 125 (by decide) w1 h1)
  rw [show bs wElse = ({ data := #[101, 108, 115, 101] } : ByteArray) from rfl] at G2
  rw [show bs [59] = ({ data := #[59] } : ByteArray) from rfl] at G4
  rw [show bs [125] = ({ data := #[125] } : ByteArray) from rfl] at G5
  cases hw : at_ T s2 1 wElse with
  | true =>
    have hv : word T wElse s2 = (true, nx s2) := by unfold word; rw [hw]; rfl
    have he : els T last s2 = ((take T last 4 [] (nx s2)).1, sign T last [59] (take T last 4 [] (nx s2)).2) := by unfold els; rw [hv]; rfl
    rw [hv] at G2
    rw [he] at G5 HX
    generalize (sign T last [59] (take T last 4 [] (nx s2)).2) = s4 at *
    generalize (take T last 4 [] (nx s2)).1 = ex at *
    generalize (take T last 4 [] (nx s2)).2 = s3 at *
    have HY := HX
    clear HX hw hv he
    clear h a0 h0 hw0
    go_enter Tryz.func24, Tryz.ntmps24
    have a1 : Below w0.heap.size w0 (w0.alloc (.cells #[.string { data := #[] }, .int .i64 (ln : Nat), .slice none 0 0, .string { data := #[] }] 34)) := (Below.refl _ _).alloc (Nat.le_refl _) _
    have Rv1 := rowNew w0 (.cells #[.string { data := #[] }, .int .i64 (ln : Nat), .slice none 0 0, .string { data := #[] }] 34)
    have Rr1 := (a1.block w.heap.size (lt_of_block Rr0)).trans Rr0
    have P1 : JnP w b T _ cap last _ (w0.alloc (.cells #[.string { data := #[] }, .int .i64 (ln : Nat), .slice none 0 0, .string { data := #[] }] 34)) := ⟨P0.1.below a1, P0.2.alloc _⟩
    have Lv : w.heap.size ≤ w0.heap.size := P0.2.size
    have Mv : b < w0.heap.size := by omega
    have Nv : w0.heap.size ≠ b := by omega
    obtain ⟨v1, hv1⟩ : ∃ zz, w0.alloc (.cells #[.string { data := #[] }, .int .i64 (ln : Nat), .slice none 0 0, .string { data := #[] }] 34) = zz := ⟨_, rfl⟩
    rw [hv1] at a1 Rv1 Rr1 P1
    have HV1 := Lib.hid hv1
    clear hv1
    have hsz : w0.heap.size = w.heap.size + 1 := by rw [← HW0.out]; exact Array.size_push _
    rw [hsz] at Rv1 Lv Mv Nv
    clear hsz
    have Drv : w.heap.size ≠ w.heap.size + 1 := by omega
    go_wp2_with fail
    rw [HW0.out, HV1.out]
    refine (H1.out _ P1.1).mono ?_
    rintro e w2 ⟨rfl, p2⟩
    have Rr2 := kp_row16 p2.2 Rr1 Nr
    have Rv2 := kp_row16 p2.2 Rv1 Nv
    have P2 := JnP.then P1.2 p2
    clear p2 P1 Rr1 Rv1 cl1 P0 a1
    have yv0_3 : World.cell? _ ⟨w.heap.size + 1, 0, none⟩ = some (.string { data := #[] }) := cellRow Rv2 0
    have fv0_3 := freeRow Rv2 0
    have P3 := jnp_new P2 Lv Mv 0 (.string (bs nm))
    have Rr3 := (Below.heap_setCell _ ⟨w.heap.size + 1, 0, none⟩ (.string (bs nm)) _ (Drv)).trans Rr2
    have Rv3 := row_to (B := #[.string (bs nm), .int .i64 (ln : Nat), .slice none 0 0, .string { data := #[] }]) (rowSet Rv2 0 (.string (bs nm))) rfl
    go_wp2_with fail
    refine (H2.out _ P3.1).mono ?_
    rintro e w4 ⟨rfl, p4⟩
    have Rr4 := kp_row16 p4.2 Rr3 Nr
    have Rv4 := kp_row16 p4.2 Rv3 Nv
    have P4 := JnP.then P3.2 p4
    clear p4 P3 Rr3 Rv3 yv0_3 fv0_3 P2 Rr2 Rv2
    go_wp2_with fail
    refine (H3.out _ P4.1).mono ?_
    rintro e w5 ⟨vk, rfl, p5, Ok0⟩
    have Rr5 := kp_row16 p5.2 Rr4 Nr
    have Rv5 := kp_row16 p5.2 Rv4 Nv
    have P5 := JnP.then P4.2 p5
    clear p5 P4 Rr4 Rv4
    obtain ⟨po, pc, hvk, -⟩ := Ok0.form (by decide)
    rw [List.length_map] at hvk
    subst hvk
    have yv2_6 : World.cell? _ ⟨w.heap.size + 1, 2, none⟩ = some (.slice none 0 0) := cellRow Rv5 2
    have fv2_6 := freeRow Rv5 2
    have P6 := jnp_new P5 Lv Mv 2 (.slice po ks.length pc)
    have Ok6 := Ok0.set Rv5 (by decide) 2 (.slice po ks.length pc)
    have Rr6 := (Below.heap_setCell _ ⟨w.heap.size + 1, 2, none⟩ (.slice po ks.length pc) _ (Drv)).trans Rr5
    have Rv6 := row_to (B := #[.string (bs nm), .int .i64 (ln : Nat), .slice po ks.length pc, .string { data := #[] }]) (rowSet Rv5 2 (.slice po ks.length pc)) rfl
    go_wp2_with fail
    refine (G2.out _ P6.1).mono ?_
    rintro e w7 ⟨rfl, p7⟩
    have Rr7 := kp_row16 p7.2 Rr6 Nr
    have Rv7 := kp_row16 p7.2 Rv6 Nv
    have Ok7 := jown_b Ok6 P6.1 (by decide) p7.2
    have P7 := JnP.then P6.2 p7
    clear p7 P6 Rr6 Rv6 Ok6 yv2_6 fv2_6 P5 Ok0 Rr5 Rv5
    go_wp2_with fail
    refine (G3.out _ P7.1).mono ?_
    rintro e w8 ⟨rfl, p8⟩
    have Rr8 := kp_row16 p8.2 Rr7 Nr
    have Rv8 := kp_row16 p8.2 Rv7 Nv
    have Ok8 := jown_b Ok7 P7.1 (by decide) p8.2
    have P8 := JnP.then P7.2 p8
    clear p8 P7 Rr7 Rv7 Ok7
    have yv3_9 : World.cell? _ ⟨w.heap.size + 1, 3, none⟩ = some (.string { data := #[] }) := cellRow Rv8 3
    have fv3_9 := freeRow Rv8 3
    have P9 := jnp_new P8 Lv Mv 3 (.string (bs ex))
    have Ok9 := Ok8.set Rv8 (by decide) 3 (.string (bs ex))
    have Rr9 := (Below.heap_setCell _ ⟨w.heap.size + 1, 3, none⟩ (.string (bs ex)) _ (Drv)).trans Rr8
    have Rv9 := row_to (B := #[.string (bs nm), .int .i64 (ln : Nat), .slice po ks.length pc, .string (bs ex)]) (rowSet Rv8 3 (.string (bs ex))) rfl
    go_wp2_with fail
    refine (G4.out _ P9.1).mono ?_
    rintro e w10 ⟨rfl, p10⟩
    have Rr10 := kp_row16 p10.2 Rr9 Nr
    have Rv10 := kp_row16 p10.2 Rv9 Nv
    have Ok10 := jown_b Ok9 P9.1 (by decide) p10.2
    have P10 := JnP.then P9.2 p10
    clear p10 P9 Rr9 Rv9 Ok9 yv3_9 fv3_9 P8 Ok8 Rr8 Rv8
    go_wp2_with fail
    refine (G5.out _ P10.1).mono ?_
    rintro e w11 ⟨rfl, p11⟩
    have Rr11 := kp_row16 p11.2 Rr10 Nr
    have Rv11 := kp_row16 p11.2 Rv10 Nv
    have Ok11 := jown_b Ok10 P10.1 (by decide) p11.2
    have P11 := JnP.then P10.2 p11
    clear p11 P10 Rr10 Rv10 Ok10
    have yv0_12 : World.cell? _ ⟨w.heap.size + 1, 0, none⟩ = some (.string (bs nm)) := cellRow Rv11 0
    have fv0_12 := freeRow Rv11 0
    have yv1_12 : World.cell? _ ⟨w.heap.size + 1, 1, none⟩ = some (.int .i64 (ln : Nat)) := cellRow Rv11 1
    have fv1_12 := freeRow Rv11 1
    have yv2_12 : World.cell? _ ⟨w.heap.size + 1, 2, none⟩ = some (.slice po ks.length pc) := cellRow Rv11 2
    have fv2_12 := freeRow Rv11 2
    have yv3_12 : World.cell? _ ⟨w.heap.size + 1, 3, none⟩ = some (.string (bs ex)) := cellRow Rv11 3
    have fv3_12 := freeRow Rv11 3
    have yr0_12 : World.cell? _ ⟨w.heap.size, 0, none⟩ = some (.string { data := #[] }) := cellRow Rr11 0
    have fr0_12 := freeRow Rr11 0
    have yr1_12 : World.cell? _ ⟨w.heap.size, 1, none⟩ = some (.int .i64 0) := cellRow Rr11 1
    have fr1_12 := freeRow Rr11 1
    have yr2_12 : World.cell? _ ⟨w.heap.size, 2, none⟩ = some (.slice none 0 0) := cellRow Rr11 2
    have fr2_12 := freeRow Rr11 2
    have yr3_12 : World.cell? _ ⟨w.heap.size, 3, none⟩ = some (.string { data := #[] }) := cellRow Rr11 3
    have fr3_12 := freeRow Rr11 3
    have QP := Lib.hid (jnp_new (jnp_new (jnp_new (jnp_new P11 Lr hlt 0 (.string (bs nm))) Lr hlt 1 (.int .i64 (ln : Nat))) Lr hlt 2 (.slice po ks.length pc)) Lr hlt 3 (.string (bs ex)))
    have QOk := Lib.hid ((((Ok11.set Rr11 (by decide) 0 (.string (bs nm))).set (rowSet Rr11 0 (.string (bs nm))) (by decide) 1 (.int .i64 (ln : Nat))).set (rowSet (rowSet Rr11 0 (.string (bs nm))) 1 (.int .i64 (ln : Nat))) (by decide) 2 (.slice po ks.length pc)).set (rowSet (rowSet (rowSet Rr11 0 (.string (bs nm))) 1 (.int .i64 (ln : Nat))) 2 (.slice po ks.length pc)) (by decide) 3 (.string (bs ex)))
    have PX := row_to (B := #[.string (bs nm), .int .i64 (ln : Nat), .slice po ks.length pc, .string (bs ex)]) (rowSet (rowSet (rowSet (rowSet Rr11 0 (.string (bs nm))) 1 (.int .i64 (ln : Nat))) 2 (.slice po ks.length pc)) 3 (.string (bs ex))) rfl
    clear P11 Rv11 Rr11 Ok11
    go_wp2
    refine bodyPost_ret (results_cell_row rfl _ _ (w.heap.size) _ _ _ _ rfl PX Tryz.underlying34 rfl (by kernel_rfl)) rfl ?_
    rw [HY.out]
    obtain ⟨ao9, cap9, hv9, -, hrd9, -⟩ := QOk.out.form (by decide)
    rw [List.length_map] at hv9
    injection hv9 with hv9 _ hv9b
    subst hv9
    exact ⟨_, _, rfl, hrd9, QP.out⟩
  | false =>
    have hv : word T wElse s2 = (false, s2) := by unfold word; rw [hw]; rfl
    have he : els T last s2 = ([], s2) := by unfold els; rw [hv]; rfl
    rw [hv] at G2
    rw [he] at G5 HX
    have HY := HX
    clear HX hw hv he
    clear h a0 h0 hw0
    go_enter Tryz.func24, Tryz.ntmps24
    have a1 : Below w0.heap.size w0 (w0.alloc (.cells #[.string { data := #[] }, .int .i64 (ln : Nat), .slice none 0 0, .string { data := #[] }] 34)) := (Below.refl _ _).alloc (Nat.le_refl _) _
    have Rv1 := rowNew w0 (.cells #[.string { data := #[] }, .int .i64 (ln : Nat), .slice none 0 0, .string { data := #[] }] 34)
    have Rr1 := (a1.block w.heap.size (lt_of_block Rr0)).trans Rr0
    have P1 : JnP w b T _ cap last _ (w0.alloc (.cells #[.string { data := #[] }, .int .i64 (ln : Nat), .slice none 0 0, .string { data := #[] }] 34)) := ⟨P0.1.below a1, P0.2.alloc _⟩
    have Lv : w.heap.size ≤ w0.heap.size := P0.2.size
    have Mv : b < w0.heap.size := by omega
    have Nv : w0.heap.size ≠ b := by omega
    obtain ⟨v1, hv1⟩ : ∃ zz, w0.alloc (.cells #[.string { data := #[] }, .int .i64 (ln : Nat), .slice none 0 0, .string { data := #[] }] 34) = zz := ⟨_, rfl⟩
    rw [hv1] at a1 Rv1 Rr1 P1
    have HV1 := Lib.hid hv1
    clear hv1
    have hsz : w0.heap.size = w.heap.size + 1 := by rw [← HW0.out]; exact Array.size_push _
    rw [hsz] at Rv1 Lv Mv Nv
    clear hsz
    have Drv : w.heap.size ≠ w.heap.size + 1 := by omega
    go_wp2_with fail
    rw [HW0.out, HV1.out]
    refine (H1.out _ P1.1).mono ?_
    rintro e w2 ⟨rfl, p2⟩
    have Rr2 := kp_row16 p2.2 Rr1 Nr
    have Rv2 := kp_row16 p2.2 Rv1 Nv
    have P2 := JnP.then P1.2 p2
    clear p2 P1 Rr1 Rv1 cl1 P0 a1
    have yv0_3 : World.cell? _ ⟨w.heap.size + 1, 0, none⟩ = some (.string { data := #[] }) := cellRow Rv2 0
    have fv0_3 := freeRow Rv2 0
    have P3 := jnp_new P2 Lv Mv 0 (.string (bs nm))
    have Rr3 := (Below.heap_setCell _ ⟨w.heap.size + 1, 0, none⟩ (.string (bs nm)) _ (Drv)).trans Rr2
    have Rv3 := row_to (B := #[.string (bs nm), .int .i64 (ln : Nat), .slice none 0 0, .string { data := #[] }]) (rowSet Rv2 0 (.string (bs nm))) rfl
    go_wp2_with fail
    refine (H2.out _ P3.1).mono ?_
    rintro e w4 ⟨rfl, p4⟩
    have Rr4 := kp_row16 p4.2 Rr3 Nr
    have Rv4 := kp_row16 p4.2 Rv3 Nv
    have P4 := JnP.then P3.2 p4
    clear p4 P3 Rr3 Rv3 yv0_3 fv0_3 P2 Rr2 Rv2
    go_wp2_with fail
    refine (H3.out _ P4.1).mono ?_
    rintro e w5 ⟨vk, rfl, p5, Ok0⟩
    have Rr5 := kp_row16 p5.2 Rr4 Nr
    have Rv5 := kp_row16 p5.2 Rv4 Nv
    have P5 := JnP.then P4.2 p5
    clear p5 P4 Rr4 Rv4
    obtain ⟨po, pc, hvk, -⟩ := Ok0.form (by decide)
    rw [List.length_map] at hvk
    subst hvk
    have yv2_6 : World.cell? _ ⟨w.heap.size + 1, 2, none⟩ = some (.slice none 0 0) := cellRow Rv5 2
    have fv2_6 := freeRow Rv5 2
    have P6 := jnp_new P5 Lv Mv 2 (.slice po ks.length pc)
    have Ok6 := Ok0.set Rv5 (by decide) 2 (.slice po ks.length pc)
    have Rr6 := (Below.heap_setCell _ ⟨w.heap.size + 1, 2, none⟩ (.slice po ks.length pc) _ (Drv)).trans Rr5
    have Rv6 := row_to (B := #[.string (bs nm), .int .i64 (ln : Nat), .slice po ks.length pc, .string { data := #[] }]) (rowSet Rv5 2 (.slice po ks.length pc)) rfl
    go_wp2_with fail
    refine (G2.out _ P6.1).mono ?_
    rintro e w7 ⟨rfl, p7⟩
    have Rr7 := kp_row16 p7.2 Rr6 Nr
    have Rv7 := kp_row16 p7.2 Rv6 Nv
    have Ok7 := jown_b Ok6 P6.1 (by decide) p7.2
    have P7 := JnP.then P6.2 p7
    clear p7 P6 Rr6 Rv6 Ok6 yv2_6 fv2_6 P5 Ok0 Rr5 Rv5
    go_wp2_with fail
    refine (G5.out _ P7.1).mono ?_
    rintro e w8 ⟨rfl, p8⟩
    have Rr8 := kp_row16 p8.2 Rr7 Nr
    have Rv8 := kp_row16 p8.2 Rv7 Nv
    have Ok8 := jown_b Ok7 P7.1 (by decide) p8.2
    have P8 := JnP.then P7.2 p8
    clear p8 P7 Rr7 Rv7 Ok7
    have yv0_9 : World.cell? _ ⟨w.heap.size + 1, 0, none⟩ = some (.string (bs nm)) := cellRow Rv8 0
    have fv0_9 := freeRow Rv8 0
    have yv1_9 : World.cell? _ ⟨w.heap.size + 1, 1, none⟩ = some (.int .i64 (ln : Nat)) := cellRow Rv8 1
    have fv1_9 := freeRow Rv8 1
    have yv2_9 : World.cell? _ ⟨w.heap.size + 1, 2, none⟩ = some (.slice po ks.length pc) := cellRow Rv8 2
    have fv2_9 := freeRow Rv8 2
    have yv3_9 : World.cell? _ ⟨w.heap.size + 1, 3, none⟩ = some (.string { data := #[] }) := cellRow Rv8 3
    have fv3_9 := freeRow Rv8 3
    have yr0_9 : World.cell? _ ⟨w.heap.size, 0, none⟩ = some (.string { data := #[] }) := cellRow Rr8 0
    have fr0_9 := freeRow Rr8 0
    have yr1_9 : World.cell? _ ⟨w.heap.size, 1, none⟩ = some (.int .i64 0) := cellRow Rr8 1
    have fr1_9 := freeRow Rr8 1
    have yr2_9 : World.cell? _ ⟨w.heap.size, 2, none⟩ = some (.slice none 0 0) := cellRow Rr8 2
    have fr2_9 := freeRow Rr8 2
    have yr3_9 : World.cell? _ ⟨w.heap.size, 3, none⟩ = some (.string { data := #[] }) := cellRow Rr8 3
    have fr3_9 := freeRow Rr8 3
    have QP := Lib.hid (jnp_new (jnp_new (jnp_new (jnp_new P8 Lr hlt 0 (.string (bs nm))) Lr hlt 1 (.int .i64 (ln : Nat))) Lr hlt 2 (.slice po ks.length pc)) Lr hlt 3 (.string { data := #[] }))
    have QOk := Lib.hid ((((Ok8.set Rr8 (by decide) 0 (.string (bs nm))).set (rowSet Rr8 0 (.string (bs nm))) (by decide) 1 (.int .i64 (ln : Nat))).set (rowSet (rowSet Rr8 0 (.string (bs nm))) 1 (.int .i64 (ln : Nat))) (by decide) 2 (.slice po ks.length pc)).set (rowSet (rowSet (rowSet Rr8 0 (.string (bs nm))) 1 (.int .i64 (ln : Nat))) 2 (.slice po ks.length pc)) (by decide) 3 (.string { data := #[] }))
    have PX := row_to (B := #[.string (bs nm), .int .i64 (ln : Nat), .slice po ks.length pc, .string { data := #[] }]) (rowSet (rowSet (rowSet (rowSet Rr8 0 (.string (bs nm))) 1 (.int .i64 (ln : Nat))) 2 (.slice po ks.length pc)) 3 (.string { data := #[] })) rfl
    clear P8 Rv8 Rr8 Ok8
    go_wp2
    refine bodyPost_ret (results_cell_row rfl _ _ (w.heap.size) _ _ _ _ rfl PX Tryz.underlying34 rfl (by kernel_rfl)) rfl ?_
    rw [HY.out]
    obtain ⟨ao9, cap9, hv9, -, hrd9, -⟩ := QOk.out.form (by decide)
    rw [List.length_map] at hv9
    injection hv9 with hv9 _ hv9b
    subst hv9
    exact ⟨_, _, rfl, hrd9, QP.out⟩
end PQ
end Go.Proofs.YtaeglmgpoboihaaGreatDoor
