/- Texts on the program and on the document, joined: Rd0, Rdr. -/
import Derived.Test.YtlpknkfidcojeaaGreatDoorMa04
import Derived.Test.YtlpknkfidcojeaaGreatDoorMa01
import Derived.Test.YtlpknkfidcojeaaGreatDoorRows
import Derived.ProofKit
import Derived.OpenShut
import Derived.ShutString
/- A reader in a block: its bytes, its place, its code. Of no program. -/
namespace Go.Proofs.YtlpknkfidcojeaaGreatDoor
open Go.RowKit P1 K
/-- A reader in block b: its bytes, its place, its code. -/
def Rdr (w : World) (b T : Nat) (s : List UInt8) (p : Nat) (c : Int) : Prop := w.heap[b]? = some (.cells #[.string (bs s), .int .i64 p, .int .i64 c] T (0, 0))
theorem Rdr.cells {w : World} {b T : Nat} {s : List UInt8} {p : Nat} {c : Int} (h : Rdr w b T s p c) :
    w.cell? ⟨b, 0, none⟩ = some (.string (bs s)) ∧ w.cell? ⟨b, 1, none⟩ = some (.int .i64 p) ∧ w.cell? ⟨b, 2, none⟩ = some (.int .i64 c) ∧ w.frozen? ⟨b, 1, none⟩ = false ∧ w.frozen? ⟨b, 2, none⟩ = false :=
  ⟨cellRow h 0, cellRow h 1, cellRow h 2, freeRow h 1, freeRow h 2⟩
theorem Rdr.setP {w : World} {b T : Nat} {s : List UInt8} {p : Nat} {c : Int} (h : Rdr w b T s p c) (q : Nat) : Rdr (w.setCell ⟨b, 1, none⟩ (.int .i64 q)) b T s q c := by
  have := rowSet h 1 (.int .i64 q); simpa [Rdr] using this
theorem Rdr.setC {w : World} {b T : Nat} {s : List UInt8} {p : Nat} {c : Int} (h : Rdr w b T s p c) (d : Int) : Rdr (w.setCell ⟨b, 2, none⟩ (.int .i64 d)) b T s p d := by
  have := rowSet h 2 (.int .i64 d); simpa [Rdr] using this

theorem Rdr.setPN {w : World} {b T : Nat} {s : List UInt8} {p : Nat} {c : Int} (h : Rdr w b T s p c) (n q : Nat) (x : Int) (hx : x = (q : Nat)) : Rdr ((w.drewN n).setCell ⟨b, 1, none⟩ (.int .i64 x)) b T s q c := by
  subst hx; exact (show Rdr (w.drewN n) b T s p c from h).setP q

end Go.Proofs.YtlpknkfidcojeaaGreatDoor
/- octet's reader but for groups and texts. -/
namespace Go.Proofs.YtlpknkfidcojeaaGreatDoor
open Go.ChangeShapes Go.WideShapes Go.ChangeAt Go.RowKit P1 K
set_option linter.unusedVariables false

theorem left_walk (b T : Nat) (s : List UInt8) (p : Nat) (c : Int) (ok : Ok s p c) (w : World) (h : Rdr w b T s p c) :
    Calls Tryz.prog 49 #[.pointer (some ⟨b, 0, none⟩)] w fun e w' => e = .returned (.int .i64 (((s.length - p : Nat) : Nat) : Int)) ∧ ∃ n, w' = w.drewN n := by
  obtain ⟨hs, hp, _, _⟩ := ok
  obtain ⟨c0, c1, c2, _, _⟩ := h.cells
  clear h
  go_enter Tryz.func49, Tryz.ntmps49
  go_wp2
  go_quiet (fail)
  go_wp2
  go_ret
  refine ⟨?_, nq, rfl⟩
  show Ending.returned (.int .i64 ((s.length : Int) - p)) = _
  rw [show ((s.length : Int) - p) = ((s.length - p : Nat) : Int) by omega]

theorem code_walk (b T : Nat) (s : List UInt8) (p : Nat) (c : Int) (w : World) (h : Rdr w b T s p c) :
    Calls Tryz.prog 47 #[.pointer (some ⟨b, 0, none⟩)] w fun e w' => e = .returned (.int .i64 c) ∧ w = w' := by
  obtain ⟨c0, c1, c2, _, _⟩ := h.cells
  clear h
  go_enter Tryz.func47, Tryz.ntmps47
  go_wp2
  go_ret
  exact ⟨rfl, rfl⟩

theorem refuse_walk (b T : Nat) (s : List UInt8) (p : Nat) (c d : Int) (w : World) (h : Rdr w b T s p c) :
    Calls Tryz.prog 74 #[.pointer (some ⟨b, 0, none⟩), .int .i64 d] w fun e w' => e = .returned (.tuple #[]) ∧ Kp [b] w w' ∧ Rdr w' b T s p (newc c d) := by
  obtain ⟨c0, c1, c2, _, f2⟩ := h.cells
  have H := Lib.hid h; clear h
  by_cases hc : c = 0
  · subst hc
    go_enter Tryz.func74, Tryz.ntmps74
    go_wp2
    go_end0
    exact ⟨rfl, (Kp.refl _ _).set _ (by simp) _, H.out.setC d⟩
  · have hc' : (c == 0) = false := by rw [beq_eq_false_iff_ne]; exact hc
    have Hc := Lib.hid hc; clear hc
    go_enter Tryz.func74, Tryz.ntmps74
    go_wp2
    go_end0
    exact ⟨rfl, Kp.refl _ _, by rw [newc_not _ _ Hc.out]; exact H.out⟩
theorem told_walk (b T : Nat) (s : List UInt8) (p : Nat) (c n : Int) (w : World) (h : Rdr w b T s p c) :
    Calls Tryz.prog 76 #[.pointer (some ⟨b, 0, none⟩), .int .i64 n] w fun e w' => e = .returned (.int .i64 (toldN n)) ∧ Kp [b] w w' ∧ Rdr w' b T s p (toldC c n) := by
  have H := Lib.hid h; clear h
  by_cases hn : n < 0
  · have e1 : toldN n = 0 := by unfold toldN; omega
    have e2 : toldC c n = newc c 1 := by simp [toldC, hn]
    rw [e1, e2]; clear e1 e2
    go_enter Tryz.func76, Tryz.ntmps76
    go_wp2_with (go_at_call 74; refine (refuse_walk b T s p c 1 w H.out).mono ?_; rintro e w1 ⟨rfl, kp, h1'⟩)
    go_ret
    exact ⟨rfl, kp, h1'⟩
  · have e1 : ((toldN n : Nat) : Int) = n := by unfold toldN; omega
    have e2 : toldC c n = c := by simp [toldC, hn]
    rw [e1, e2]; clear e1 e2
    go_enter Tryz.func76, Tryz.ntmps76
    go_wp2
    go_ret
    exact ⟨rfl, Kp.refl _ _, H.out⟩

set_option maxRecDepth 100000 in
theorem sizedB_walk (b T : Nat) (s : List UInt8) (p k p1 : Nat) (c c1 n : Int) (ok : Ok s p c) (ok1 : Ok s p1 c1) (hk : k < 9223372036854775808) (w : World) (h : Rdr w b T s p c)
    (hf : Calls Tryz.prog 76 #[.pointer (some ⟨b, 0, none⟩), .int .i64 n] w fun e w' => e = .returned (.int .i64 k) ∧ Kp [b] w w' ∧ Rdr w' b T s p1 c1) :
    Calls Tryz.prog 75 #[.pointer (some ⟨b, 0, none⟩), .func (Fn.func 76) #[.pointer (some ⟨b, 0, none⟩)] #[], .int .i64 n] w fun e w' => e = .returned (.string (bs (szR s p k p1 c1).1)) ∧ Kp [b] w w' ∧ Rdr w' b T s (szR s p k p1 c1).2.1 (szR s p k p1 c1).2.2 := by
  obtain ⟨c0, c1', c2, f1, f2⟩ := h.cells
  have H := Lib.hid h; clear h
  have HF := Lib.hid hf; clear hf
  obtain ⟨hs, hp1, _, _⟩ := ok1
  obtain ⟨_, hp, _, _⟩ := ok
  go_enter Tryz.func75, Tryz.ntmps75
  go_wp2_with fail
  refine HF.out.mono ?_
  rintro e w1 ⟨rfl, kp1, h1'⟩
  clear c0 c1' c2 f1 f2
  have H1 := Lib.hid h1'; clear h1'
  by_cases hl : s.length - p1 < k
  · have hlt : ((s.length - p1 : Nat) : Int) < (k : Int) := by omega
    go_wp2_with fail
    refine (left_walk b T s p1 c1 ⟨hs, hp1, by assumption, by assumption⟩ w1 H1.out).mono ?_
    rintro e w2 ⟨rfl, nq, rfl⟩
    go_wp2_with fail
    refine (refuse_walk b T s p1 c1 10 (w1.drewN nq) H1.out).mono ?_
    rintro e w3 ⟨rfl, kp2, h2⟩
    have kp := kp1.trans kp2.ofDrewN
    clear kp1 kp2 H1
    obtain ⟨c0, c1', c2, f1, f2⟩ := h2.cells
    have H2 := Lib.hid h2; clear h2
    have hnn : (newc c1 10 != 0) = true := by
      rw [bne_iff_ne]
      by_cases hc : c1 = 0
      · subst hc; decide
      · rw [newc_not _ _ hc]; exact hc
    have he : szR s p k p1 c1 = ([], p, newc c1 10) := by
      by_cases hc : c1 = 0
      · subst hc; exact szR_end s p k p1 hl
      · rw [newc_not _ _ hc]; exact szR_bad s p k p1 c1 hc
    have HE := Lib.hid he
    clear he
    generalize newc c1 10 = d at *
    go_wp2
    go_ret
    rw [HE.out]
    exact ⟨rfl, kp.set _ (by simp) _, H2.out.setP p⟩
  · have hlt : (k : Int) ≤ ((s.length - p1 : Nat) : Int) := by omega
    go_wp2_with fail
    refine (left_walk b T s p1 c1 ⟨hs, hp1, by assumption, by assumption⟩ w1 H1.out).mono ?_
    rintro e w2 ⟨rfl, nq, rfl⟩
    have h2 := H1.out
    obtain ⟨c0, c1', c2, f1, f2⟩ := h2.cells
    clear h2
    by_cases hc : c1 = 0
    · subst hc
      have HE := Lib.hid (szR_yes s p k p1 hl)
      have q2 : (0 : Int) ≤ (p1 : Int) + (k : Int) := by omega
      have q3 : ((p1 : Int) + (k : Int)).toNat = p1 + k := by omega
      have q4 : (p1 : Int) ≤ (p1 : Int) + (k : Int) := by omega
      have q5 : (p1 : Int) + (k : Int) ≤ (s.length : Int) := by omega
      go_wp2
      have q1 : IntKind.i64.wrap ((p1 : Int) + (k : Int)) = (p1 : Int) + (k : Int) := IntWalk.i64_in _ (by omega)
      go_quiet (fail)
      clear q1 q3
      go_wp2
      go_ret
      rw [HE.out]
      exact ⟨rfl, (kp1.drewN _).set _ (by simp) _, H1.out.setPN _ (p1 + k) _ (by simp)⟩
    · have HE := Lib.hid (szR_bad s p k p1 c1 hc)
      have hn : (c1 != 0) = true := by rw [bne_iff_ne]; exact hc
      clear hc
      go_wp2
      go_ret
      rw [HE.out]
      exact ⟨rfl, (kp1.drewN _).set _ (by simp) _, (show Rdr (w1.drewN nq) b T s p1 c1 from H1.out).setP p⟩

theorem rBytes_walk (b T : Nat) (s : List UInt8) (p : Nat) (c n : Int) (ok : Ok s p c) (h0 : -9223372036854775808 ≤ n) (h1 : n ≤ 9223372036854775807) (w : World) (h : Rdr w b T s p c) :
    Calls Tryz.prog 45 #[.pointer (some ⟨b, 0, none⟩), .int .i64 n] w fun e w' => e = .returned (.string (bs (rdB s p c n).1)) ∧ Kp [b] w w' ∧ Rdr w' b T s (rdB s p c n).2.1 (rdB s p c n).2.2 := by
  rw [rdB_sz]
  have ok1 : Ok s p (toldC c n) := by
    refine ⟨ok.len, ok.at_, ?_, ?_⟩
    · unfold toldC newc; have := ok.lo; split <;> (try split) <;> omega
    · unfold toldC newc; have := ok.hi; split <;> (try split) <;> omega
  have hk : toldN n < 9223372036854775808 := by unfold toldN; omega
  have H := Lib.hid h; clear h
  go_enter Tryz.func45, Tryz.ntmps45
  go_wp2_with fail
  refine (sizedB_walk b T s p (toldN n) p c (toldC c n) n ok ok1 hk w H.out (told_walk b T s p c n w H.out)).mono ?_
  rintro e w1 ⟨rfl, kp, h2⟩
  go_wp2
  go_ret
  exact ⟨rfl, kp, h2⟩

theorem read_walk (s : List UInt8) (w : World) :
    Calls Tryz.prog 43 #[.string (bs s)] w fun e w' => e = .returned (.pointer (some ⟨w.heap.size, 0, none⟩)) ∧ Kp [] w w' ∧ w'.heap.size = w.heap.size + 1 ∧ Rdr w' w.heap.size 120 s 0 0 := by
  go_enter Tryz.func43, Tryz.ntmps43
  go_wp2
  go_ret
  exact ⟨rfl, (Kp.refl _ _).alloc _, by simp, rowNew w _⟩
def WLRel (l : List UInt8) (vn vi : Value) : Prop := ∃ i : Nat, ∃ x : Int, i ≤ l.length ∧ vn = .int .i64 x ∧ x = wrap64 (num (l.take i) : Nat) ∧ vi = .int .i64 i

set_option maxRecDepth 100000 in
theorem rWide_in (b T : Nat) (s : List UInt8) (p : Nat) (c k : Int) (ok : Ok s p c) (h1 : 1 ≤ k) (h8 : k ≤ 8) (w : World) (h : Rdr w b T s p c) :
    Calls Tryz.prog 44 #[.pointer (some ⟨b, 0, none⟩), .int .i64 k] w fun e w' => e = .returned (.int .i64 (rdW s p c k).1) ∧ Kp [b] w w' ∧ Rdr w' b T s (rdW s p c k).2.1 (rdW s p c k).2.2 := by
  obtain ⟨c0, c1, c2, f1, f2⟩ := h.cells
  have hlen := rdB_len s p c k h8
  have hyes := rdW_yes s p c k h1 h8
  have hnot := rdW_not s p c k h1 h8
  have H := Lib.hid h; have HY := Lib.hid hyes; have HN := Lib.hid hnot
  clear h hyes hnot
  go_enter Tryz.func44, Tryz.ntmps44
  go_wp2_with fail
  refine (rBytes_walk b T s p c k ok (by omega) (by omega) w H.out).mono ?_
  rintro e w1 ⟨rfl, kp1, h2⟩
  clear c0 c1 c2 f1 f2 H
  generalize (rdB s p c k).1 = l at *
  generalize (rdB s p c k).2.1 = p2 at *
  generalize (rdB s p c k).2.2 = d at *
  have hcv := Lib.run_convert_string_bytes (P := Tryz.prog) w1 9 77 5 (bs l) Tryz.underlying9 Tryz.underlying77 Tryz.underlying5
  have H2 := Lib.hid h2; clear h2
  go_wp2
  have kpb := kp1.bytes 5 (bs l)
  have hcb := bytes_cell w1 5 l
  have H3 : Hid (Rdr (Lib.bytesWorld w1 5 (bs l)) b T s p2 d) := Lib.hid (by
    have := H2.out
    unfold Rdr at *
    rw [Lib.bytesWorld_at_old _ _ _ _ (lt_of_block this)]; exact this)
  generalize Lib.bytesWorld w1 5 (bs l) = wb at *
  have HC := Lib.hid hcb
  clear hcb H2 hcv kp1
  go_loop [6, 26] (fun vn vi => WLRel l vn vi) (fun vn vi => l.length - (intOf vi).toNat)
  case atStart => exact ⟨0, 0, Nat.zero_le _, rfl, by simp [num, wrap64_eq], rfl⟩
  case round =>
    obtain ⟨i, x, hi, rfl, hx, rfl⟩ := hrel
    by_cases hlt : i < l.length
    · have hcell := HC.out i hlt
      have hnt := num_take l i hlt
      have hsm := num_take_lt l i hlen hlt
      have hbb := byt_lt l i
      obtain rfl : x = (num (l.take i) : Nat) := by rw [hx, wrap64_eq]; omega
      have hbo := bits_shl_or (num (l.take i)) (byt l i) hbb
      rw [← hnt] at hbo
      generalize num (l.take i) = m at *
      clear hx hnt
      have HB := Lib.hid hbo
      clear hbo
      go_wp2
      go_round
      case measure => simp [intOf]; omega
      case rel =>
        refine ⟨i + 1, _, by omega, rfl, HB.out, by simp⟩
    · obtain rfl : i = l.length := by omega
      rw [List.take_length] at hx
      have HX := Lib.hid hx
      clear hx hlt hi
      have h3 := H3.out
      obtain ⟨c0, c1, c2, f1, f2⟩ := h3.cells
      clear h3
      by_cases hk : numOk l = true
      · have hE := HY.out hk
        have hnn : 0 ≤ x := by
          have := num_ok_lt l hlen hk
          rw [HX.out, wrap64_eq]; omega
        have hxn : x = (num l : Nat) := by
          have := num_ok_lt l hlen hk
          rw [HX.out, wrap64_eq]; omega
        have HE := Lib.hid hE; have Hx := Lib.hid hxn
        clear hE hxn hk
        go_wp2
        go_ret
        rw [HE.out, ← Hx.out]
        exact ⟨rfl, kpb, H3.out⟩
      · rw [Bool.not_eq_true] at hk
        have hE := HN.out hk
        have hnn : x < 0 := by
          have := num_bad_ge l hk
          rw [HX.out, wrap64_eq]; omega
        have HE := Lib.hid hE
        clear hE hk
        go_wp2_with fail
        refine (refuse_walk b T s p d 1 _ (H3.out.setP p)).mono ?_
        rintro e w3 ⟨rfl, kp3, h4⟩
        have kp := (kpb.set ⟨b, 1, none⟩ (by simp) (.int .i64 p)).trans kp3
        clear c0 c1 c2 f1 f2 kp3 kpb
        go_wp2
        go_ret
        rw [HE.out]
        exact ⟨rfl, kp, h4⟩

theorem rWide_walk (b T : Nat) (s : List UInt8) (p : Nat) (c k : Int) (ok : Ok s p c) (w : World) (h : Rdr w b T s p c) :
    Calls Tryz.prog 44 #[.pointer (some ⟨b, 0, none⟩), .int .i64 k] w fun e w' => e = .returned (.int .i64 (rdW s p c k).1) ∧ Kp [b] w w' ∧ Rdr w' b T s (rdW s p c k).2.1 (rdW s p c k).2.2 := by
  by_cases hk : k < 1
  · rw [rdW_in s p c k (.inl hk)]
    have H := Lib.hid h; clear h
    go_enter Tryz.func44, Tryz.ntmps44
    go_wp2_with (go_at_call 74; refine (refuse_walk b T s p c 1 w H.out).mono ?_; rintro e w1 ⟨rfl, kp, h1'⟩)
    go_ret
    exact ⟨rfl, kp, h1'⟩
  · by_cases hk8 : 8 < k
    · rw [rdW_in s p c k (.inr hk8)]
      have H := Lib.hid h; clear h
      go_enter Tryz.func44, Tryz.ntmps44
      go_wp2_with (go_at_call 74; refine (refuse_walk b T s p c 1 w H.out).mono ?_; rintro e w1 ⟨rfl, kp, h1'⟩)
      go_ret
      exact ⟨rfl, kp, h1'⟩
    · exact rWide_in b T s p c k ok (by omega) (by omega) w h
end Go.Proofs.YtlpknkfidcojeaaGreatDoor
