/- Texts on the program and on the document, joined: Rdr, BerA. -/
import Derived.Test.YtmdibafofdghgaaGreatDoorRows
import Derived.Test.YtmdibafofdghgaaGreatDoorMa01
import Derived.Test.YtmdibafofdghgaaGreatDoorMa04
import Derived.ProofKit
import Derived.OpenShut
import Derived.ShutString
import Derived.Test.YtmdibafofdghgaaGreatDoorMa03
import Derived.BigQuiet
import Derived.Deep.RegionWith
import Derived.Laws.Rows
import Derived.Deep.QuietTactic
/- octet's reader but for groups and texts. -/
namespace Go.Proofs.YtmdibafofdghgaaGreatDoor
open Go.ChangeShapes Go.WideShapes Go.ChangeAt Go.RowKit P1 K
set_option linter.unusedVariables false

theorem left_walk (b T : Nat) (s : List UInt8) (p : Nat) (c : Int) (ok : Ok s p c) (w : World) (h : Rdr w b T s p c) :
    Calls Tryz.prog 67 #[.pointer (some ⟨b, 0, none⟩)] w fun e w' => e = .returned (.int .i64 (((s.length - p : Nat) : Nat) : Int)) ∧ ∃ n, w' = w.drewN n := by
  obtain ⟨hs, hp, _, _⟩ := ok
  obtain ⟨c0, c1, c2, _, _⟩ := h.cells
  clear h
  go_enter Tryz.func67, Tryz.ntmps67
  go_wp2
  go_quiet (fail)
  go_wp2
  go_ret
  refine ⟨?_, nq, rfl⟩
  show Ending.returned (.int .i64 ((s.length : Int) - p)) = _
  rw [show ((s.length : Int) - p) = ((s.length - p : Nat) : Int) by omega]

theorem code_walk (b T : Nat) (s : List UInt8) (p : Nat) (c : Int) (w : World) (h : Rdr w b T s p c) :
    Calls Tryz.prog 65 #[.pointer (some ⟨b, 0, none⟩)] w fun e w' => e = .returned (.int .i64 c) ∧ w = w' := by
  obtain ⟨c0, c1, c2, _, _⟩ := h.cells
  clear h
  go_enter Tryz.func65, Tryz.ntmps65
  go_wp2
  go_ret
  exact ⟨rfl, rfl⟩

theorem refuse_walk (b T : Nat) (s : List UInt8) (p : Nat) (c d : Int) (w : World) (h : Rdr w b T s p c) :
    Calls Tryz.prog 88 #[.pointer (some ⟨b, 0, none⟩), .int .i64 d] w fun e w' => e = .returned (.tuple #[]) ∧ Kp [b] w w' ∧ Rdr w' b T s p (newc c d) := by
  obtain ⟨c0, c1, c2, _, f2⟩ := h.cells
  have H := Lib.hid h; clear h
  by_cases hc : c = 0
  · subst hc
    go_enter Tryz.func88, Tryz.ntmps88
    go_wp2
    go_end0
    exact ⟨rfl, (Kp.refl _ _).set _ (by simp) _, H.out.setC d⟩
  · have hc' : (c == 0) = false := by rw [beq_eq_false_iff_ne]; exact hc
    have Hc := Lib.hid hc; clear hc
    go_enter Tryz.func88, Tryz.ntmps88
    go_wp2
    go_end0
    exact ⟨rfl, Kp.refl _ _, by rw [newc_not _ _ Hc.out]; exact H.out⟩
theorem told_walk (b T : Nat) (s : List UInt8) (p : Nat) (c n : Int) (w : World) (h : Rdr w b T s p c) :
    Calls Tryz.prog 90 #[.pointer (some ⟨b, 0, none⟩), .int .i64 n] w fun e w' => e = .returned (.int .i64 (toldN n)) ∧ Kp [b] w w' ∧ Rdr w' b T s p (toldC c n) := by
  have H := Lib.hid h; clear h
  by_cases hn : n < 0
  · have e1 : toldN n = 0 := by unfold toldN; omega
    have e2 : toldC c n = newc c 1 := by simp [toldC, hn]
    rw [e1, e2]; clear e1 e2
    go_enter Tryz.func90, Tryz.ntmps90
    go_wp2_with (go_at_call 88; refine (refuse_walk b T s p c 1 w H.out).mono ?_; rintro e w1 ⟨rfl, kp, h1'⟩)
    go_ret
    exact ⟨rfl, kp, h1'⟩
  · have e1 : ((toldN n : Nat) : Int) = n := by unfold toldN; omega
    have e2 : toldC c n = c := by simp [toldC, hn]
    rw [e1, e2]; clear e1 e2
    go_enter Tryz.func90, Tryz.ntmps90
    go_wp2
    go_ret
    exact ⟨rfl, Kp.refl _ _, H.out⟩

set_option maxRecDepth 100000 in
theorem sizedB_walk (b T : Nat) (s : List UInt8) (p k p1 : Nat) (c c1 n : Int) (ok : Ok s p c) (ok1 : Ok s p1 c1) (hk : k < 9223372036854775808) (w : World) (h : Rdr w b T s p c)
    (hf : Calls Tryz.prog 90 #[.pointer (some ⟨b, 0, none⟩), .int .i64 n] w fun e w' => e = .returned (.int .i64 k) ∧ Kp [b] w w' ∧ Rdr w' b T s p1 c1) :
    Calls Tryz.prog 89 #[.pointer (some ⟨b, 0, none⟩), .func (Fn.func 90) #[.pointer (some ⟨b, 0, none⟩)] #[], .int .i64 n] w fun e w' => e = .returned (.string (bs (szR s p k p1 c1).1)) ∧ Kp [b] w w' ∧ Rdr w' b T s (szR s p k p1 c1).2.1 (szR s p k p1 c1).2.2 := by
  obtain ⟨c0, c1', c2, f1, f2⟩ := h.cells
  have H := Lib.hid h; clear h
  have HF := Lib.hid hf; clear hf
  obtain ⟨hs, hp1, _, _⟩ := ok1
  obtain ⟨_, hp, _, _⟩ := ok
  go_enter Tryz.func89, Tryz.ntmps89
  go_wp2_with fail
  refine HF.out.mono ?_
  rintro e w1 ⟨rfl, kp1, h1'⟩
  clear c0 c1' c2 f1 f2
  have H1 := Lib.hid h1'; clear h1'
  by_cases hl : s.length - p1 < k
  · have hlt : ((s.length - p1 : Nat) : Int) < (k : Int) := by omega
    go_wp2_with fail
    refine (left_walk b T s p1 c1 ⟨hs, hp1, by assumption, by assumption⟩ w1 H1.out).mono ?_
    rintro e w2 ⟨rfl, nq, rfl⟩
    go_wp2_with fail
    refine (refuse_walk b T s p1 c1 10 (w1.drewN nq) H1.out).mono ?_
    rintro e w3 ⟨rfl, kp2, h2⟩
    have kp := kp1.trans kp2.ofDrewN
    clear kp1 kp2 H1
    obtain ⟨c0, c1', c2, f1, f2⟩ := h2.cells
    have H2 := Lib.hid h2; clear h2
    have hnn : (newc c1 10 != 0) = true := by
      rw [bne_iff_ne]
      by_cases hc : c1 = 0
      · subst hc; decide
      · rw [newc_not _ _ hc]; exact hc
    have he : szR s p k p1 c1 = ([], p, newc c1 10) := by
      by_cases hc : c1 = 0
      · subst hc; exact szR_end s p k p1 hl
      · rw [newc_not _ _ hc]; exact szR_bad s p k p1 c1 hc
    have HE := Lib.hid he
    clear he
    generalize newc c1 10 = d at *
    go_wp2
    go_ret
    rw [HE.out]
    exact ⟨rfl, kp.set _ (by simp) _, H2.out.setP p⟩
  · have hlt : (k : Int) ≤ ((s.length - p1 : Nat) : Int) := by omega
    go_wp2_with fail
    refine (left_walk b T s p1 c1 ⟨hs, hp1, by assumption, by assumption⟩ w1 H1.out).mono ?_
    rintro e w2 ⟨rfl, nq, rfl⟩
    have h2 := H1.out
    obtain ⟨c0, c1', c2, f1, f2⟩ := h2.cells
    clear h2
    by_cases hc : c1 = 0
    · subst hc
      have HE := Lib.hid (szR_yes s p k p1 hl)
      have q2 : (0 : Int) ≤ (p1 : Int) + (k : Int) := by omega
      have q3 : ((p1 : Int) + (k : Int)).toNat = p1 + k := by omega
      have q4 : (p1 : Int) ≤ (p1 : Int) + (k : Int) := by omega
      have q5 : (p1 : Int) + (k : Int) ≤ (s.length : Int) := by omega
      go_wp2
      have q1 : IntKind.i64.wrap ((p1 : Int) + (k : Int)) = (p1 : Int) + (k : Int) := IntWalk.i64_in _ (by omega)
      go_quiet (fail)
      clear q1 q3
      go_wp2
      go_ret
      rw [HE.out]
      exact ⟨rfl, (kp1.drewN _).set _ (by simp) _, H1.out.setPN _ (p1 + k) _ (by simp)⟩
    · have HE := Lib.hid (szR_bad s p k p1 c1 hc)
      have hn : (c1 != 0) = true := by rw [bne_iff_ne]; exact hc
      clear hc
      go_wp2
      go_ret
      rw [HE.out]
      exact ⟨rfl, (kp1.drewN _).set _ (by simp) _, (show Rdr (w1.drewN nq) b T s p1 c1 from H1.out).setP p⟩

theorem rBytes_walk (b T : Nat) (s : List UInt8) (p : Nat) (c n : Int) (ok : Ok s p c) (h0 : -9223372036854775808 ≤ n) (h1 : n ≤ 9223372036854775807) (w : World) (h : Rdr w b T s p c) :
    Calls Tryz.prog 63 #[.pointer (some ⟨b, 0, none⟩), .int .i64 n] w fun e w' => e = .returned (.string (bs (rdB s p c n).1)) ∧ Kp [b] w w' ∧ Rdr w' b T s (rdB s p c n).2.1 (rdB s p c n).2.2 := by
  rw [rdB_sz]
  have ok1 : Ok s p (toldC c n) := by
    refine ⟨ok.len, ok.at_, ?_, ?_⟩
    · unfold toldC newc; have := ok.lo; split <;> (try split) <;> omega
    · unfold toldC newc; have := ok.hi; split <;> (try split) <;> omega
  have hk : toldN n < 9223372036854775808 := by unfold toldN; omega
  have H := Lib.hid h; clear h
  go_enter Tryz.func63, Tryz.ntmps63
  go_wp2_with fail
  refine (sizedB_walk b T s p (toldN n) p c (toldC c n) n ok ok1 hk w H.out (told_walk b T s p c n w H.out)).mono ?_
  rintro e w1 ⟨rfl, kp, h2⟩
  go_wp2
  go_ret
  exact ⟨rfl, kp, h2⟩

theorem read_walk (s : List UInt8) (w : World) :
    Calls Tryz.prog 61 #[.string (bs s)] w fun e w' => e = .returned (.pointer (some ⟨w.heap.size, 0, none⟩)) ∧ Kp [] w w' ∧ w'.heap.size = w.heap.size + 1 ∧ Rdr w' w.heap.size 140 s 0 0 := by
  go_enter Tryz.func61, Tryz.ntmps61
  go_wp2
  go_ret
  exact ⟨rfl, (Kp.refl _ _).alloc _, by simp, rowNew w _⟩
def WLRel (l : List UInt8) (vn vi : Value) : Prop := ∃ i : Nat, ∃ x : Int, i ≤ l.length ∧ vn = .int .i64 x ∧ x = wrap64 (num (l.take i) : Nat) ∧ vi = .int .i64 i

set_option maxRecDepth 100000 in
theorem rWide_in (b T : Nat) (s : List UInt8) (p : Nat) (c k : Int) (ok : Ok s p c) (h1 : 1 ≤ k) (h8 : k ≤ 8) (w : World) (h : Rdr w b T s p c) :
    Calls Tryz.prog 62 #[.pointer (some ⟨b, 0, none⟩), .int .i64 k] w fun e w' => e = .returned (.int .i64 (rdW s p c k).1) ∧ Kp [b] w w' ∧ Rdr w' b T s (rdW s p c k).2.1 (rdW s p c k).2.2 := by
  obtain ⟨c0, c1, c2, f1, f2⟩ := h.cells
  have hlen := rdB_len s p c k h8
  have hyes := rdW_yes s p c k h1 h8
  have hnot := rdW_not s p c k h1 h8
  have H := Lib.hid h; have HY := Lib.hid hyes; have HN := Lib.hid hnot
  clear h hyes hnot
  go_enter Tryz.func62, Tryz.ntmps62
  go_wp2_with fail
  refine (rBytes_walk b T s p c k ok (by omega) (by omega) w H.out).mono ?_
  rintro e w1 ⟨rfl, kp1, h2⟩
  clear c0 c1 c2 f1 f2 H
  generalize (rdB s p c k).1 = l at *
  generalize (rdB s p c k).2.1 = p2 at *
  generalize (rdB s p c k).2.2 = d at *
  have hcv := Lib.run_convert_string_bytes (P := Tryz.prog) w1 9 124 5 (bs l) Tryz.underlying9 Tryz.underlying124 Tryz.underlying5
  have H2 := Lib.hid h2; clear h2
  go_wp2
  have kpb := kp1.bytes 5 (bs l)
  have hcb := bytes_cell w1 5 l
  have H3 : Hid (Rdr (Lib.bytesWorld w1 5 (bs l)) b T s p2 d) := Lib.hid (by
    have := H2.out
    unfold Rdr at *
    rw [Lib.bytesWorld_at_old _ _ _ _ (lt_of_block this)]; exact this)
  generalize Lib.bytesWorld w1 5 (bs l) = wb at *
  have HC := Lib.hid hcb
  clear hcb H2 hcv kp1
  go_loop [6, 26] (fun vn vi => WLRel l vn vi) (fun vn vi => l.length - (intOf vi).toNat)
  case atStart => exact ⟨0, 0, Nat.zero_le _, rfl, by simp [num, wrap64_eq], rfl⟩
  case round =>
    obtain ⟨i, x, hi, rfl, hx, rfl⟩ := hrel
    by_cases hlt : i < l.length
    · have hcell := HC.out i hlt
      have hnt := num_take l i hlt
      have hsm := num_take_lt l i hlen hlt
      have hbb := byt_lt l i
      obtain rfl : x = (num (l.take i) : Nat) := by rw [hx, wrap64_eq]; omega
      have hbo := bits_shl_or (num (l.take i)) (byt l i) hbb
      rw [← hnt] at hbo
      generalize num (l.take i) = m at *
      clear hx hnt
      have HB := Lib.hid hbo
      clear hbo
      go_wp2
      go_round
      case measure => simp [intOf]; omega
      case rel =>
        refine ⟨i + 1, _, by omega, rfl, HB.out, by simp⟩
    · obtain rfl : i = l.length := by omega
      rw [List.take_length] at hx
      have HX := Lib.hid hx
      clear hx hlt hi
      have h3 := H3.out
      obtain ⟨c0, c1, c2, f1, f2⟩ := h3.cells
      clear h3
      by_cases hk : numOk l = true
      · have hE := HY.out hk
        have hnn : 0 ≤ x := by
          have := num_ok_lt l hlen hk
          rw [HX.out, wrap64_eq]; omega
        have hxn : x = (num l : Nat) := by
          have := num_ok_lt l hlen hk
          rw [HX.out, wrap64_eq]; omega
        have HE := Lib.hid hE; have Hx := Lib.hid hxn
        clear hE hxn hk
        go_wp2
        go_ret
        rw [HE.out, ← Hx.out]
        exact ⟨rfl, kpb, H3.out⟩
      · rw [Bool.not_eq_true] at hk
        have hE := HN.out hk
        have hnn : x < 0 := by
          have := num_bad_ge l hk
          rw [HX.out, wrap64_eq]; omega
        have HE := Lib.hid hE
        clear hE hk
        go_wp2_with fail
        refine (refuse_walk b T s p d 1 _ (H3.out.setP p)).mono ?_
        rintro e w3 ⟨rfl, kp3, h4⟩
        have kp := (kpb.set ⟨b, 1, none⟩ (by simp) (.int .i64 p)).trans kp3
        clear c0 c1 c2 f1 f2 kp3 kpb
        go_wp2
        go_ret
        rw [HE.out]
        exact ⟨rfl, kp, h4⟩

theorem rWide_walk (b T : Nat) (s : List UInt8) (p : Nat) (c k : Int) (ok : Ok s p c) (w : World) (h : Rdr w b T s p c) :
    Calls Tryz.prog 62 #[.pointer (some ⟨b, 0, none⟩), .int .i64 k] w fun e w' => e = .returned (.int .i64 (rdW s p c k).1) ∧ Kp [b] w w' ∧ Rdr w' b T s (rdW s p c k).2.1 (rdW s p c k).2.2 := by
  by_cases hk : k < 1
  · rw [rdW_in s p c k (.inl hk)]
    have H := Lib.hid h; clear h
    go_enter Tryz.func62, Tryz.ntmps62
    go_wp2_with (go_at_call 88; refine (refuse_walk b T s p c 1 w H.out).mono ?_; rintro e w1 ⟨rfl, kp, h1'⟩)
    go_ret
    exact ⟨rfl, kp, h1'⟩
  · by_cases hk8 : 8 < k
    · rw [rdW_in s p c k (.inr hk8)]
      have H := Lib.hid h; clear h
      go_enter Tryz.func62, Tryz.ntmps62
      go_wp2_with (go_at_call 88; refine (refuse_walk b T s p c 1 w H.out).mono ?_; rintro e w1 ⟨rfl, kp, h1'⟩)
      go_ret
      exact ⟨rfl, kp, h1'⟩
    · exact rWide_in b T s p c k ok (by omega) (by omega) w h
end Go.Proofs.YtmdibafofdghgaaGreatDoor
/- ber's tags, lengths, Next, walked. -/
namespace Go.Proofs.YtmdibafofdghgaaGreatDoor
open Go.ChangeShapes Go.WideShapes Go.ChangeAt Go.RowKit K P1 B5
set_option linter.unusedVariables false

theorem and31 (t : Int) (h0 : 0 ≤ t) (h1 : t ≤ 255) : bits .and .i64 t 31 = t % 32 := by
  have h : ∀ i : Fin 256, bits .and .i64 (i.val : Int) 31 = (i.val : Int) % 32 := by decide +kernel
  obtain ⟨k, rfl⟩ := Int.eq_ofNat_of_zero_le h0
  exact h ⟨k, by omega⟩
theorem and32 (t : Nat) (h1 : t < 256) : (bits .and .i64 (t : Int) 32 == 0) = !isMade t := by
  have h : ∀ i : Fin 256, (bits .and .i64 (i.val : Int) 32 == 0) = !isMade i.val := by decide +kernel
  exact h ⟨t, h1⟩
theorem istag_walk (t : Int) (w : World) :
    Calls Tryz.prog 66 #[.int .i64 t] w fun e w' => e = .returned (.bool (isTi t)) ∧ w = w' := by
  by_cases h0 : 0 ≤ t
  · by_cases h1 : t ≤ 255
    · have e : isTi t = (t % 32 != 31) := by
        unfold isTi isTag
        rw [decide_eq_true h0, decide_eq_true h1, Bool.true_and, Bool.true_and, Bool.eq_iff_iff, bne_iff_ne, bne_iff_ne]; omega
      have hand := and31 t h0 h1
      rw [e]; clear e
      go_enter Tryz.func66, Tryz.ntmps66
      go_wp2
      all_goals (go_ret; exact ⟨rfl, rfl⟩)
    · have e : isTi t = false := by unfold isTi; rw [decide_eq_false h1, Bool.false_and, Bool.and_false]
      rw [e]
      have h1' : 256 ≤ t := by omega
      clear h1 e
      go_enter Tryz.func66, Tryz.ntmps66
      go_wp2
      go_ret
      exact ⟨rfl, rfl⟩
  · have e : isTi t = false := by unfold isTi; rw [decide_eq_false h0, Bool.false_and]
    rw [e]
    have h0' : t ≤ -1 := by omega
    clear h0 e
    go_enter Tryz.func66, Tryz.ntmps66
    go_wp2
    go_ret
    exact ⟨rfl, rfl⟩
theorem rdW_ok (s : List UInt8) (p : Nat) (c k : Int) (h : Ok s p c) : Ok s (rdW s p c k).2.1 (rdW s p c k).2.2 := by
  have h1 := h.at_
  unfold rdW
  split
  · exact h
  · split
    · exact ⟨h.len, h1, by simp, by simp⟩
    · split
      · exact ⟨h.len, h1, by simp, by simp⟩
      · split
        · exact ⟨h.len, by simp only []; omega, by simp, by simp⟩
        · exact ⟨h.len, h1, by simp, by simp⟩
theorem rdW_small (s : List UInt8) (p : Nat) (c : Int) : (rdW s p c 1).1 < 256 := by
  by_cases hc : c = 0
  · subst hc
    by_cases hp : p < s.length
    · rw [rdW_one s p hp]; exact byt_lt s p
    · rw [rdW_late s p (by omega)]; simp
  · rw [rdW_off _ _ _ _ hc]; simp
theorem rdW_bound (s : List UInt8) (p : Nat) (c k : Int) : (rdW s p c k).1 < 9223372036854775808 := by
  unfold rdW
  split
  · simp
  · split
    · simp
    · split
      · simp
      · split
        · next h =>
          simp only []
          unfold numOk at h
          have hl := num_lt ((s.drop p).take k.toNat)
          have hle : ((s.drop p).take k.toNat).length ≤ 8 := by rw [List.length_take]; omega
          by_cases h8 : ((s.drop p).take k.toNat).length = 8
          · rw [h8] at hl h
            simp at h
            match hs : (s.drop p).take k.toNat with
            | [] => rw [hs] at h8; simp at h8
            | a :: r =>
              rw [hs] at h8 h
              have hr : r.length = 7 := by simpa using h8
              have hb : byt (a :: r) 0 = a.toNat := by simp [byt]
              rw [hb] at h
              rw [num_cons, hr]
              have := num_lt r
              rw [hr] at this
              have : a.toNat * 256 ^ 7 ≤ 127 * 256 ^ 7 := Nat.mul_le_mul_right _ (by omega)
              omega
          · have : (256 : Nat) ^ ((s.drop p).take k.toNat).length ≤ 256 ^ 7 := Nat.pow_le_pow_right (by omega) (by omega)
            omega
        · simp
set_option maxRecDepth 100000 in
theorem length_walk (b T : Nat) (s : List UInt8) (p : Nat) (c : Int) (ok : Ok s p c) (w : World) (h : Rdr w b T s p c) :
    Calls Tryz.prog 64 #[.pointer (some ⟨b, 0, none⟩)] w fun e w' => e = .returned (.int .i64 (lenR s p c).1) ∧ Kp [b] w w' ∧ Rdr w' b T s (lenR s p c).2.1 (lenR s p c).2.2 := by
  have ok1 := rdW_ok s p c 1 ok
  have hsm := rdW_small s p c
  have HA := Lib.hid (rWide_walk b T s p c 1 ok w h)
  have hE : lenR s p c = if (rdW s p c 1).1 < 128 then rdW s p c 1 else rdW s (rdW s p c 1).2.1 (if 132 < (rdW s p c 1).1 then newc (rdW s p c 1).2.2 50 else (rdW s p c 1).2.2) (((rdW s p c 1).1 : Int) - 128) := rfl
  clear h ok
  generalize hq : rdW s p c 1 = q at *
  obtain ⟨n, p1, c1⟩ := q
  simp only [] at hE ok1 hsm HA
  clear hq
  by_cases h1 : n < 128
  · rw [if_pos h1] at hE
    have h1' : ((n : Nat) : Int) < 128 := by omega
    have HE := Lib.hid hE
    clear hE h1
    go_enter Tryz.func64, Tryz.ntmps64
    go_wp2_with fail
    refine HA.out.mono ?_
    rintro e w1 ⟨rfl, kp, r1⟩
    go_wp2
    go_ret
    rw [HE.out]
    exact ⟨rfl, kp, r1⟩
  · rw [if_neg h1] at hE
    have h1' : (128 : Int) ≤ ((n : Nat) : Int) := by omega
    by_cases h2 : 132 < n
    · rw [if_pos h2] at hE
      have h2' : (4 : Int) < ((n : Nat) : Int) - 128 := by omega
      have ok2 : Ok s p1 (newc c1 50) := ⟨ok1.len, ok1.at_, by unfold newc; have := ok1.lo; split <;> omega, by unfold newc; have := ok1.hi; split <;> omega⟩
      have HR := Lib.hid (fun w1 (h : Rdr w1 b T s p1 c1) => refuse_walk b T s p1 c1 50 w1 h)
      have HB := Lib.hid (fun w1 (h : Rdr w1 b T s p1 (newc c1 50)) => rWide_walk b T s p1 (newc c1 50) ((n : Int) - 128) ok2 w1 h)
      have HE := Lib.hid hE
      clear hE h1 h2
      go_enter Tryz.func64, Tryz.ntmps64
      go_wp2_with fail
      refine HA.out.mono ?_
      rintro e w1 ⟨rfl, kp, r1⟩
      go_wp2_with fail
      refine (HR.out w1 r1).mono ?_
      rintro e w2 ⟨rfl, kp2, r2⟩
      go_wp2_with fail
      refine (HB.out w2 r2).mono ?_
      rintro e w3 ⟨rfl, kp3, r3⟩
      go_wp2
      go_ret
      rw [HE.out]
      exact ⟨rfl, (kp.trans kp2).trans kp3, r3⟩
    · rw [if_neg h2] at hE
      have h2' : ((n : Nat) : Int) - 128 ≤ 4 := by omega
      have HB := Lib.hid (fun w1 (h : Rdr w1 b T s p1 c1) => rWide_walk b T s p1 c1 ((n : Int) - 128) ok1 w1 h)
      have HE := Lib.hid hE
      clear hE h1 h2
      go_enter Tryz.func64, Tryz.ntmps64
      go_wp2_with fail
      refine HA.out.mono ?_
      rintro e w1 ⟨rfl, kp, r1⟩
      go_wp2_with fail
      refine (HB.out w1 r1).mono ?_
      rintro e w3 ⟨rfl, kp3, r3⟩
      go_wp2
      go_ret
      rw [HE.out]
      exact ⟨rfl, kp.trans kp3, r3⟩
theorem lenR_ok (s : List UInt8) (p : Nat) (c : Int) (ok : Ok s p c) : Ok s (lenR s p c).2.1 (lenR s p c).2.2 ∧ (lenR s p c).1 < 9223372036854775808 := by
  have ok1 := rdW_ok s p c 1 ok
  unfold lenR
  by_cases h1 : (rdW s p c 1).1 < 128
  · rw [if_pos h1]; exact ⟨ok1, by omega⟩
  · rw [if_neg h1]
    refine ⟨rdW_ok _ _ _ _ ⟨ok1.len, ok1.at_, ?_, ?_⟩, rdW_bound _ _ _ _⟩
    · have := ok1.lo; unfold newc; split <;> (try split) <;> omega
    · have := ok1.hi; unfold newc; split <;> (try split) <;> omega
theorem nx_way (s : List UInt8) : (nxE s = 0 ∧ nxQ s = ((rA s).1, (rBd s).1, s.drop (rBd s).2.1) ∧ (rBd s).2.2 = 0 ∧ isTi ((rA s).1 : Nat) = true ∧ (rBd s).2.1 ≤ s.length) ∨
    (nxE s = 50 ∧ nxQ s = (0, [], []) ∧ (¬ (rBd s).2.2 = 0 ∨ ((rBd s).2.2 = 0 ∧ isTi ((rA s).1 : Nat) = false))) := by
  have hI : ∀ n : Nat, n < 256 → isTi (n : Int) = isTag n := by
    intro n hn
    unfold isTi; rw [decide_eq_true (by omega), decide_eq_true (by omega), Int.toNat_natCast]; rfl
  rcases nxr_all s with ⟨h, a1, a2, a3, a4, a5, a6, a7⟩ | ⟨h, a1, a2⟩
  · left
    refine ⟨by unfold nxE; rw [h, if_pos rfl], by unfold nxQ; rw [h, if_pos rfl, a1, a4, a6], a5, by rw [hI _ a3]; exact a2, a7⟩
  · right
    refine ⟨by unfold nxE; rw [h]; rfl, by unfold nxQ; rw [h]; rfl, ?_⟩
    rw [hI _ a1]; exact a2
/-- An element in block g. -/
def Prt (w : World) (g T : Nat) (t : Int) (b : List UInt8) : Prop := w.heap[g]? = some (.cells #[.int .i64 t, .string (bs b)] T (0, 0))
theorem Prt.cells {w : World} {g T : Nat} {t : Int} {b : List UInt8} (h : Prt w g T t b) :
    w.cell? ⟨g, 0, none⟩ = some (.int .i64 t) ∧ w.cell? ⟨g, 1, none⟩ = some (.string (bs b)) ∧ w.frozen? ⟨g, 0, none⟩ = false ∧ w.frozen? ⟨g, 1, none⟩ = false :=
  ⟨cellRow h 0, cellRow h 1, freeRow h 0, freeRow h 1⟩
theorem Prt.setT {w : World} {g T : Nat} {t : Int} {b : List UInt8} (h : Prt w g T t b) (t2 : Int) : Prt (w.setCell ⟨g, 0, none⟩ (.int .i64 t2)) g T t2 b := by
  have := rowSet h 0 (.int .i64 t2); simpa [Prt] using this
theorem Prt.setB {w : World} {g T : Nat} {t : Int} {b : List UInt8} (h : Prt w g T t b) (b2 : List UInt8) : Prt (w.setCell ⟨g, 1, none⟩ (.string (bs b2))) g T t b2 := by
  have := rowSet h 1 (.string (bs b2)); simpa [Prt] using this
theorem Prt.new (w : World) (T : Nat) (t : Int) (b : List UInt8) : Prt (w.alloc (.cells #[.int .i64 t, .string (bs b)] T)) w.heap.size T t b := rowNew w _
theorem Prt.kp {S : List Nat} {a w : World} {g T : Nat} {t : Int} {b : List UInt8} (h : Prt a g T t b) (k : Kp S a w) (hg : g ∉ S) : Prt w g T t b := k.heap h hg
theorem Rdr.setElse {w : World} {b T : Nat} {s : List UInt8} {p : Nat} {c : Int} (h : Rdr w b T s p c) (g i : Nat) (hg : b ≠ g) (u : Value) : Rdr (w.setCell ⟨g, i, none⟩ u) b T s p c :=
  (Below.heap_setCell _ _ _ _ hg).trans h
theorem results_cell_row3 {P : Program} {fn : Func} {p u v : Tmp} {ty : TypeId} (h : fn.results = #[.cell p ty, .tmp u, .tmp v]) (tmps : Array Value) (w : World) (g : Nat) (t : TypeId) (cs : Array Value) (fr : Nat × Nat) (d : TypeDesc)
    (hp : tmps.getD p undef = .pointer (some ⟨g, 0, none⟩)) (hg : w.heap[g]? = some (.cells cs t fr))
    (hu : P.underlying ty = some d) (hd : (match d with | .struct _ | .array _ _ => true | _ => false) = true) (hi : (P.info? ty).map (·.size) = some cs.size) :
    (results fn tmps).run P w = .ok (.tuple #[.agg cs, tmps.getD u undef, tmps.getD v undef]) w := by
  have hp' : tmps[p]?.getD undef = .pointer (some ⟨g, 0, none⟩) := by simpa using hp
  simp [results, h, hp', asAddr, run_loadVar_row w g t ty cs fr d hg hu hd hi]
theorem Below_drewNa {B : Nat} {a b : World} (h : Below B a b) (n : Nat) : Below B a (b.drewN n) := ⟨h.os, h.tape, h.output, h.size, h.block⟩
theorem quiet_dr {P : Program} {f : FuncId} {args : Array Value} {w : World} {n : Nat} {v : Value}
    (h : Calls P f args (w.drewN n) fun e w' => e = .returned v ∧ ∃ k, w' = (w.drewN n).drewN k) : Calls P f args (w.drewN n) fun e w'' => e = .returned v ∧ ∃ m, w'' = w.drewN m :=
  h.mono fun _ _ ⟨he, k, hk⟩ => ⟨he, n + k, by rw [hk]; unfold World.drewN; simp [Nat.add_assoc]⟩
set_option maxRecDepth 100000 in
set_option maxHeartbeats 1000000 in
theorem next_walk (s : List UInt8) (hs : s.length ≤ 140737488351232) (w : World) :
    Calls Tryz.prog 40 #[.string (bs s)] w fun e w' => e = .returned (.tuple #[.agg #[.int .i64 ((nxQ s).1 : Nat), .string (bs (nxQ s).2.1)], .string (bs (nxQ s).2.2), .int .i64 (nxE s : Nat)]) ∧ Below w.heap.size w w' := by
  have ok0 : Ok s 0 0 := ⟨hs, Nat.zero_le _, by omega, by omega⟩
  have hA := fun b w1 (h : Rdr w1 b 140 s 0 0) => rWide_walk b 140 s 0 0 1 ok0 w1 h
  have ok1 : Ok s (rA s).2.1 (rA s).2.2 := rdW_ok s 0 0 1 ok0
  have hL := fun b w1 (h : Rdr w1 b 140 s (rA s).2.1 (rA s).2.2) => length_walk b 140 s (rA s).2.1 (rA s).2.2 ok1 w1 h
  obtain ⟨ok2, hn2⟩ : Ok s (rL s).2.1 (rL s).2.2 ∧ (rL s).1 < 9223372036854775808 := lenR_ok s _ _ ok1
  have hB := fun b w1 (h : Rdr w1 b 140 s (rL s).2.1 (rL s).2.2) => rBytes_walk b 140 s (rL s).2.1 (rL s).2.2 (rL s).1 ok2 (by omega) (by omega) w1 h
  have ok3 : Ok s (rBd s).2.1 (rBd s).2.2 := rdB_ok s _ _ _ ok2
  have hC := fun b w1 (h : Rdr w1 b 140 s (rBd s).2.1 (rBd s).2.2) => code_walk b 140 s (rBd s).2.1 (rBd s).2.2 w1 h
  have hLf := fun b w1 (h : Rdr w1 b 140 s (rBd s).2.1 (rBd s).2.2) => left_walk b 140 s (rBd s).2.1 (rBd s).2.2 ok3 w1 h
  have hI := fun w1 => istag_walk ((rA s).1 : Nat) w1
  have hW := nx_way s
  rw [show rdW s 0 0 1 = rA s from rfl] at hA
  rw [show lenR s (rA s).2.1 (rA s).2.2 = rL s from rfl] at hL
  rw [show rdB s (rL s).2.1 (rL s).2.2 ((rL s).1 : Nat) = rBd s from rfl] at hB
  generalize rA s = qa at *
  generalize rL s = ql at *
  generalize rBd s = qb at *
  obtain ⟨t, p1, c1⟩ := qa
  obtain ⟨n, p2, c2⟩ := ql
  obtain ⟨bd, p3, c3⟩ := qb
  simp only [] at hA hL hB hC hLf hI hW
  have HA := Lib.hid hA; have HL := Lib.hid hL; have HB := Lib.hid hB; have HC := Lib.hid hC; have HLf := Lib.hid hLf; have HI := Lib.hid hI
  clear ok0 ok1 ok2 ok3 hA hL hB hC hLf hI hn2
  have HP := Lib.hid (Prt.new w 72 0 [])
  have b0 : Below w.heap.size w (w.alloc (.cells #[.int .i64 0, .string (bs [])] 72)) := (Below.refl _ _).alloc (Nat.le_refl _) _
  have HLT := Lib.hid (show w.heap.size < (w.alloc (.cells #[.int .i64 0, .string (bs [])] 72)).heap.size by simp)
  rcases hW with ⟨e1, e2, rfl, hti, hp3⟩ | ⟨e1, e2, hbad⟩
  · rw [e1, e2]
    simp only []
    rw [hti] at HI
    have hsub : ((s.length : Nat) : Int) - ((s.length - p3 : Nat) : Int) = (p3 : Nat) := by omega
    clear e1 e2 hti
    go_enter Tryz.func40, Tryz.ntmps40
    go_wp2_with fail
    change Calls _ _ _ (w.alloc (.cells #[.int .i64 0, .string (bs [])] 72)) _
    generalize w.alloc (.cells #[.int .i64 0, .string (bs [])] 72) = w0 at *
    have hlt := HLT.out
    generalize hgg : w.heap.size = g at *
    refine (read_walk s w0).mono ?_
    rintro e w1 ⟨rfl, k1, hsz, r1⟩
    have P1 := HP.out.kp k1 (by simp)
    generalize hrb : w0.heap.size = rb at *
    have hgb : rb ≠ g := by omega
    go_wp2_with fail
    refine (HA.out rb w1 r1).mono ?_
    rintro e w2 ⟨rfl, k2, r2⟩
    have P2 := P1.kp k2 (by simp; omega)
    obtain ⟨c0, c1', f0, f1⟩ := P2.cells
    have P2h := Lib.hid P2
    clear P1 P2
    go_wp2_with fail
    refine (HL.out rb _ (r2.setElse g 0 hgb _)).mono ?_
    rintro e w3 ⟨rfl, k3, r3⟩
    clear c0 c1' f0 f1
    go_wp2_with fail
    refine (HB.out rb _ r3).mono ?_
    rintro e w4 ⟨rfl, k4, r4⟩
    have P4 := ((P2h.out.setT t).kp k3 (by simp; omega)).kp k4 (by simp; omega)
    have b4 : Below g w w4 := by
      have q1 : Below g w w1 := b0.trans (k1.below (by rw [hrb]; omega) (by simp))
      have q2 : Below g w w2 := q1.trans (k2.below (by have := k1.size; omega) (by simp; omega))
      have q3 := q2.setCell (p := ⟨g, 0, none⟩) (Nat.le_refl g) (.int .i64 (t : Nat))
      have q4 : Below g w w3 := q3.trans (k3.below (by have := k2.size; have := k1.size; simp; omega) (by simp; omega))
      exact q4.trans (k4.below (by have := k3.size; have := k2.size; have := k1.size; simp at *; omega) (by simp; omega))
    obtain ⟨c0, c1', f0, f1⟩ := P4.cells
    have P4h := Lib.hid P4
    clear P4 k1 k2 k3 k4 r1 r2 r3 hsz P2h HA HL HB HP b0 HLT hrb
    have r5 := Lib.hid (r4.setElse g 1 hgb (.string (bs bd)))
    have P5 := P4h.out.setB bd
    have b5 := b4.setCell (p := ⟨g, 1, none⟩) (Nat.le_refl g) (.string (bs bd))
    clear r4 b4
    go_wp2_with fail
    generalize w4.setCell ⟨g, 1, none⟩ (.string (bs bd)) = w5 at *
    clear c0 c1' f0 f1 P4h
    obtain ⟨c0, c1', f0, f1⟩ := P5.cells
    have P5h := Lib.hid P5
    clear P5
    refine (HC.out rb _ r5.out).mono ?_
    rintro e w6 ⟨rfl, rfl⟩
    go_wp2_with fail
    refine (HI.out _).mono ?_
    rintro e w6 ⟨rfl, rfl⟩
    have hwr : IntKind.i64.wrap ((p3 : Nat) : Int) = (p3 : Nat) := IntWalk.i64_in _ (by omega)
    have hp3' : ((p3 : Nat) : Int) ≤ ((s.length : Nat) : Int) := by omega
    go_wp2_with fail
    go_region_with (first | (go_at_call 67; refine Calls.mono (HLf.out rb _ ?_) ?_; exact r5.out; rintro e x1 ⟨rfl, hx⟩; have d0 : x1.cell? ⟨g, 0, none⟩ = some (.int .i64 (t : Nat)) := (by obtain ⟨m, rfl⟩ := hx; exact c0); have d1 : x1.cell? ⟨g, 1, none⟩ = some (.string (bs bd)) := (by obtain ⟨m, rfl⟩ := hx; exact c1'); have d2 : x1.frozen? ⟨g, 0, none⟩ = false := (by obtain ⟨m, rfl⟩ := hx; exact f0); have d3 : x1.frozen? ⟨g, 1, none⟩ = false := (by obtain ⟨m, rfl⟩ := hx; exact f1)))
    all_goals
      obtain ⟨m, rfl⟩ := hx
      have bb := ((Below_drewNa b5 m).setCell (p := ⟨g, 0, none⟩) (Nat.le_refl g) (.int .i64 (t : Nat))).setCell (p := ⟨g, 1, none⟩) (Nat.le_refl g) (.string (bs bd))
      have PX := ((show Prt (w5.drewN m) g 72 (t : Nat) bd from P5h.out).setT (t : Nat)).setB bd
      go_wp2
      refine bodyPost_ret (results_cell_row3 rfl _ _ g _ #[.int .i64 (t : Nat), .string (bs bd)] _ _ rfl PX Tryz.underlying72 rfl (by kernel_rfl)) rfl ?_
      exact ⟨rfl, by rw [hgg]; exact ⟨bb.os, bb.tape, bb.output, bb.size, bb.block⟩⟩
  · rw [e1, e2]
    simp only []
    clear e1 e2
    go_enter Tryz.func40, Tryz.ntmps40
    go_wp2_with fail
    change Calls _ _ _ (w.alloc (.cells #[.int .i64 0, .string (bs [])] 72)) _
    generalize w.alloc (.cells #[.int .i64 0, .string (bs [])] 72) = w0 at *
    have hlt := HLT.out
    generalize hgg : w.heap.size = g at *
    refine (read_walk s w0).mono ?_
    rintro e w1 ⟨rfl, k1, hsz, r1⟩
    have P1 := HP.out.kp k1 (by simp)
    generalize hrb : w0.heap.size = rb at *
    have hgb : rb ≠ g := by omega
    go_wp2_with fail
    refine (HA.out rb w1 r1).mono ?_
    rintro e w2 ⟨rfl, k2, r2⟩
    have P2 := P1.kp k2 (by simp; omega)
    obtain ⟨c0, c1', f0, f1⟩ := P2.cells
    have P2h := Lib.hid P2
    clear P1 P2
    go_wp2_with fail
    refine (HL.out rb _ (r2.setElse g 0 hgb _)).mono ?_
    rintro e w3 ⟨rfl, k3, r3⟩
    clear c0 c1' f0 f1
    go_wp2_with fail
    refine (HB.out rb _ r3).mono ?_
    rintro e w4 ⟨rfl, k4, r4⟩
    have P4 := ((P2h.out.setT t).kp k3 (by simp; omega)).kp k4 (by simp; omega)
    have b4 : Below g w w4 := by
      have q1 : Below g w w1 := b0.trans (k1.below (by rw [hrb]; omega) (by simp))
      have q2 : Below g w w2 := q1.trans (k2.below (by have := k1.size; omega) (by simp; omega))
      have q3 := q2.setCell (p := ⟨g, 0, none⟩) (Nat.le_refl g) (.int .i64 (t : Nat))
      have q4 : Below g w w3 := q3.trans (k3.below (by have := k2.size; have := k1.size; simp; omega) (by simp; omega))
      exact q4.trans (k4.below (by have := k3.size; have := k2.size; have := k1.size; simp at *; omega) (by simp; omega))
    obtain ⟨c0, c1', f0, f1⟩ := P4.cells
    have P4h := Lib.hid P4
    clear P4 k1 k2 k3 k4 r1 r2 r3 hsz P2h HA HL HB HP b0 HLT hrb
    have r5 := Lib.hid (r4.setElse g 1 hgb (.string (bs bd)))
    have P5 := P4h.out.setB bd
    have b5 := b4.setCell (p := ⟨g, 1, none⟩) (Nat.le_refl g) (.string (bs bd))
    clear r4 b4
    go_wp2_with fail
    generalize w4.setCell ⟨g, 1, none⟩ (.string (bs bd)) = w5 at *
    clear c0 c1' f0 f1 P4h
    obtain ⟨c0, c1', f0, f1⟩ := P5.cells
    have P5h := Lib.hid P5
    clear P5
    refine (HC.out rb _ r5.out).mono ?_
    rintro e w6 ⟨rfl, rfl⟩
    rcases hbad with hc | ⟨rfl, hti⟩
    · have hn : (c3 != 0) = true := by rw [bne_iff_ne]; exact hc
      clear hc
      go_wp2
      have PE := (P5h.out.setT 0).setB []
      refine bodyPost_ret (results_cell_row3 rfl _ _ g _ _ _ _ rfl PE Tryz.underlying72 rfl (by kernel_rfl)) rfl ?_
      exact ⟨rfl, by rw [hgg]; exact (b5.setCell (p := ⟨g, 0, none⟩) (Nat.le_refl g) _).setCell (p := ⟨g, 1, none⟩) (Nat.le_refl g) _⟩
    · rw [hti] at HI
      clear hti
      go_wp2_with fail
      refine (HI.out _).mono ?_
      rintro e w6 ⟨rfl, rfl⟩
      go_wp2
      have PE := (P5h.out.setT 0).setB []
      refine bodyPost_ret (results_cell_row3 rfl _ _ g _ _ _ _ rfl PE Tryz.underlying72 rfl (by kernel_rfl)) rfl ?_
      exact ⟨rfl, by rw [hgg]; exact (b5.setCell (p := ⟨g, 0, none⟩) (Nat.le_refl g) _).setCell (p := ⟨g, 1, none⟩) (Nat.le_refl g) _⟩
end Go.Proofs.YtmdibafofdghgaaGreatDoor
