/- Texts on the program and on the document, joined: PaqC, ParR, ParS, ParI, ParJ, ParN, ParO, ParQ, ParK. -/
import Derived.Test.YtaeglmgpoboihaaGreatDoorMa08
import Derived.Test.YtaeglmgpoboihaaGreatDoorMa06
import Derived.Deep.LoopGhost
import Derived.RegionTactic
import Derived.Deep.RegionWith
import Derived.Deep.DeepCutAuto
/- The program's reader of rules: took, refuse, text, must, inside. -/
namespace Go.Proofs.YtaeglmgpoboihaaGreatDoor
open Go.ChangeShapes Go.WideShapes Go.ChangeAt Go.RowKit K L15
open L14 (Tk)
set_option linter.unusedVariables false
namespace PQ
/-- Whether the token that comes is that word or sign. -/
def tkB (T : List Tk) (s : Pi) (t : List UInt8) : Bool := (at_ T s 1 [] || at_ T s 5 []) && (txt T s == t)
theorem at_some {T : List Tk} {s : Pi} {k : Nat} {t : List UInt8} (ht : t ≠ []) : at_ T s k t = (at_ T s k [] && (txt T s == t)) := by
  unfold at_ txt cur
  cases hb : s.bad with
  | some l => rfl
  | none =>
    cases hg : T[s.p]? with
    | none => rfl
    | some x =>
      have : T.getD s.p noTk = x := by rw [List.getD_eq_getElem?_getD, hg]; rfl
      cases t with
      | nil => exact absurd rfl ht
      | cons a r => rw [this]; simp
theorem at_tok {T : List Tk} {s : Pi} {k : Nat} {t : List UInt8} (h : at_ T s k t = true) : ∃ x ∈ T, x.k = k ∧ x.t = txt T s := by
  obtain ⟨hb, hp⟩ := nx_in h
  have hx : T.getD s.p noTk = T[s.p] := by simp [List.getD_eq_getElem?_getD, hp]
  refine ⟨T[s.p], List.getElem_mem hp, ?_, by unfold txt; rw [hx]⟩
  rw [at_val hb hp, hx] at h
  simp at h
  exact h.1
theorem isT_word {t : List UInt8} (h : L14.isT 1 t = true) : ∃ c r, t = c :: r ∧ L14.ltN c.toNat = true := by
  unfold L14.isT at h
  rw [if_pos rfl] at h
  unfold L14.isW at h
  cases t with
  | nil => simp at h
  | cons c r => exact ⟨c, r, rfl, by simp at h; exact h.1⟩
theorem isT_sign {t : List UInt8} (h : L14.isT 5 t = true) : ∃ c, t = [c] := by
  unfold L14.isT at h
  rw [if_neg (by decide), if_neg (by decide), if_neg (by decide), if_neg (by decide), if_pos rfl] at h
  unfold L14.isS at h
  match t, h with
  | [c], _ => exact ⟨c, rfl⟩
theorem tk_word {T : List Tk} {s : Pi} {t : List UInt8} (hT : TOk T) (ht : 2 ≤ t.length) : tkB T s t = at_ T s 1 t := by
  rw [at_some (show t ≠ [] by intro e; subst e; simp at ht)]
  unfold tkB
  cases h5 : at_ T s 5 [] with
  | false => rw [Bool.or_false]
  | true =>
    obtain ⟨x, hx, e1, e2⟩ := at_tok h5
    have := hT x hx
    rw [e1] at this
    obtain ⟨c, hc⟩ := isT_sign this
    have hne : (txt T s == t) = false := by
      rw [beq_eq_false_iff_ne, ← e2, hc]
      intro e; subst e; simp at ht
    rw [hne, Bool.and_false, Bool.and_false]
theorem tk_sign {T : List Tk} {s : Pi} {c : UInt8} (hT : TOk T) (hc : L14.ltN c.toNat = false) : tkB T s [c] = at_ T s 5 [c] := by
  rw [at_some (by simp)]
  unfold tkB
  cases h1 : at_ T s 1 [] with
  | false => rw [Bool.false_or]
  | true =>
    obtain ⟨x, hx, e1, e2⟩ := at_tok h1
    have := hT x hx
    rw [e1] at this
    obtain ⟨d, r, hd, hl⟩ := isT_word this
    have hne : (txt T s == [c]) = false := by
      rw [beq_eq_false_iff_ne, ← e2, hd]
      intro e
      injection e with e _
      subst e
      rw [hc] at hl; cases hl
    rw [hne, Bool.and_false, Bool.and_false]
set_option maxRecDepth 100000 in
set_option maxHeartbeats 1500000 in
theorem took_walkP (b : Nat) (T : List Tk) (ao : Option Addr) (cap last : Nat) (s : Pi) (t : List UInt8) (w : World) (h : JnR w b T ao cap last s) :
    Calls Tryz.prog 23 #[.pointer (some ⟨b, 0, none⟩), .string (bs t)] w fun e w' => e = .returned (.bool (tkB T s t)) ∧ JnP w b T ao cap last (if tkB T s t then nx s else s) w' := by
  have HC := Lib.hid (fun k w1 h1 => comes_walk b T ao cap last s k w1 h1)
  have HH := Lib.hid h
  have H1 := HC.out 1
  have H5 := HC.out 5
  cases h1 : at_ T s 1 [] with
  | true =>
    have HE := Lib.hid (show tkB T s t = (txt T s == t) by unfold tkB; rw [h1]; rfl)
    rw [HE.out]
    rw [h1] at H1
    obtain ⟨hb, hp⟩ := nx_in h1
    have HT := Lib.hid (fun w1 h1 => ptake_walk b T ao cap last s hb hp w1 h1)
    have H1 := Lib.hid H1
    clear H5 HC HE h
    by_cases ht : txt T s = t
    · subst ht
      have hb1 : (txt T s == txt T s) = true := by simp
      rw [hb1]
      go_enter Tryz.func23, Tryz.ntmps23
      go_wp2_with fail
      refine (H1.out _ HH.out).mono ?_
      rintro e w1 ⟨rfl, p1⟩
      rcases p1.1.view with ⟨-, hno, -⟩ | ⟨-, -, g, o, c, hb2, -, -, -, -, k0, k1, k2⟩
      · rw [hno] at h1; cases h1
      have ht : txt T s = (T.getD s.p noTk).t := rfl
      rw [← ht] at k1
      have hpi : (0 : Int) < ((T.length - s.p : Nat) : Int) := by omega
      have c0 := cellRow hb2 0
      simp at c0
      have P1 := Lib.hid p1
      clear hb2 k0 k2 p1 ht
      generalize txt T s = x at *
      go_wp2_with fail
      clear c0 k1
      refine (HT.out _ P1.out.1).mono ?_
      rintro e w2 ⟨rfl, p2⟩
      have P2 := Lib.hid (JnP.then P1.out.2 p2)
      clear p2
      go_wp2
      go_ret
      exact ⟨rfl, P2.out⟩
    · have hb1 : (txt T s == t) = false := by rw [beq_eq_false_iff_ne]; exact ht
      rw [hb1]
      go_enter Tryz.func23, Tryz.ntmps23
      go_wp2_with fail
      refine (H1.out _ HH.out).mono ?_
      rintro e w1 ⟨rfl, p1⟩
      rcases p1.1.view with ⟨-, hno, -⟩ | ⟨-, -, g, o, c, hb2, -, -, -, -, k0, k1, k2⟩
      · rw [hno] at h1; cases h1
      have ht2 : txt T s = (T.getD s.p noTk).t := rfl
      rw [← ht2] at k1
      have hpi : (0 : Int) < ((T.length - s.p : Nat) : Int) := by omega
      have hq : (txt T s != t) = true := bne_iff_ne.2 ht
      have c0 := cellRow hb2 0
      simp at c0
      have P1 := Lib.hid p1
      clear hb2 k0 k2 p1 ht2
      generalize txt T s = x at *
      go_wp2
      go_ret
      exact ⟨rfl, P1.out⟩
  | false =>
    rw [h1] at H1
    cases h5 : at_ T s 5 [] with
    | true =>
      have HE := Lib.hid (show tkB T s t = (txt T s == t) by unfold tkB; rw [h1, h5]; rfl)
      rw [HE.out]
      rw [h5] at H5
      obtain ⟨hb, hp⟩ := nx_in h5
      have HT := Lib.hid (fun w1 h1 => ptake_walk b T ao cap last s hb hp w1 h1)
      have H1 := Lib.hid H1
      have H5 := Lib.hid H5
      clear HC HE h h1
      by_cases ht : txt T s = t
      · subst ht
        have hb1 : (txt T s == txt T s) = true := by simp
        rw [hb1]
        go_enter Tryz.func23, Tryz.ntmps23
        go_wp2_with fail
        refine (H1.out _ HH.out).mono ?_
        rintro e w0 ⟨rfl, p0⟩
        have P0 := Lib.hid p0
        clear p0
        go_wp2_with fail
        refine (H5.out _ P0.out.1).mono ?_
        rintro e w1 ⟨rfl, p1'⟩
        have p1 := JnP.then P0.out.2 p1'
        clear p1'
        rcases p1.1.view with ⟨-, hno, -⟩ | ⟨-, -, g, o, c, hb2, -, -, -, -, k0, k1, k2⟩
        · rw [hno] at h5; cases h5
        have ht : txt T s = (T.getD s.p noTk).t := rfl
        rw [← ht] at k1
        have hpi : (0 : Int) < ((T.length - s.p : Nat) : Int) := by omega
        have c0 := cellRow hb2 0
        simp at c0
        have P1 := Lib.hid p1
        clear hb2 k0 k2 p1 ht
        generalize txt T s = x at *
        go_wp2_with fail
        clear c0 k1
        refine (HT.out _ P1.out.1).mono ?_
        rintro e w2 ⟨rfl, p2⟩
        have P2 := Lib.hid (JnP.then P1.out.2 p2)
        clear p2
        go_wp2
        go_ret
        exact ⟨rfl, P2.out⟩
      · have hb1 : (txt T s == t) = false := by rw [beq_eq_false_iff_ne]; exact ht
        rw [hb1]
        go_enter Tryz.func23, Tryz.ntmps23
        go_wp2_with fail
        refine (H1.out _ HH.out).mono ?_
        rintro e w0 ⟨rfl, p0⟩
        have P0 := Lib.hid p0
        clear p0
        go_wp2_with fail
        refine (H5.out _ P0.out.1).mono ?_
        rintro e w1 ⟨rfl, p1'⟩
        have p1 := JnP.then P0.out.2 p1'
        clear p1'
        rcases p1.1.view with ⟨-, hno, -⟩ | ⟨-, -, g, o, c, hb2, -, -, -, -, k0, k1, k2⟩
        · rw [hno] at h5; cases h5
        have ht2 : txt T s = (T.getD s.p noTk).t := rfl
        rw [← ht2] at k1
        have hpi : (0 : Int) < ((T.length - s.p : Nat) : Int) := by omega
        have hq : (txt T s != t) = true := bne_iff_ne.2 ht
        have c0 := cellRow hb2 0
        simp at c0
        have P1 := Lib.hid p1
        clear hb2 k0 k2 p1 ht2
        generalize txt T s = x at *
        go_wp2
        go_ret
        exact ⟨rfl, P1.out⟩
    | false =>
      have HE := Lib.hid (show tkB T s t = false by unfold tkB; rw [h1, h5]; rfl)
      rw [HE.out]
      rw [h5] at H5
      have H1 := Lib.hid H1
      have H5 := Lib.hid H5
      clear HC HE h h1 h5
      go_enter Tryz.func23, Tryz.ntmps23
      go_wp2_with fail
      refine (H1.out _ HH.out).mono ?_
      rintro e w0 ⟨rfl, p0⟩
      have P0 := Lib.hid p0
      clear p0
      go_wp2_with fail
      refine (H5.out _ P0.out.1).mono ?_
      rintro e w1 ⟨rfl, p1'⟩
      have P1 := Lib.hid (JnP.then P0.out.2 p1')
      clear p1'
      go_wp2
      go_ret
      exact ⟨rfl, P1.out⟩
end PQ
end Go.Proofs.YtaeglmgpoboihaaGreatDoor
/- The document's reader of rules: which clause stands here. gen_parr.py writes it. -/
namespace Go.Proofs.YtaeglmgpoboihaaGreatDoor
open Go.ChangeShapes Go.WideShapes Go.ChangeAt Go.RowKit K L15 S3
open L14 (Tk)
set_option linter.unusedVariables false

/-- The clauses that were there, as bytes. -/
def sb (l : List Nat) : List UInt8 := l.map b8
theorem sb_len (l : List Nat) : (sb l).length = l.length := by simp [sb]
theorem sb_at {l : List Nat} (hl : ∀ i ∈ l, i < 5) {k : Nat} (hk : k < l.length) : byt (sb l) k = l.getD k 0 := by
  have h5 := hl l[k] (List.getElem_mem hk)
  simp [sb, byt, List.getD, hk, b8]
  omega
def atI (a : Option Nat) : Int := match a with | none => -1 | some i => (i : Nat)
theorem which_at (T : List Tk) (last : Nat) (seen : List Nat) (a : Option Nat) (s : Pi) : ∀ i, i < 5 → which T last seen (wClauses.drop i) i a s =
    if a.isNone && (word T (wClauses.getD i []) (again T last seen (wClauses.getD i []) i s)).1 then which T last seen (wClauses.drop (i + 1)) (i + 1) (some i) (nx (again T last seen (wClauses.getD i []) i s))
    else which T last seen (wClauses.drop (i + 1)) (i + 1) a (again T last seen (wClauses.getD i []) i s) := by
  intro i hi
  obtain rfl | rfl | rfl | rfl | rfl : i = 0 ∨ i = 1 ∨ i = 2 ∨ i = 3 ∨ i = 4 := by omega
  all_goals rfl
theorem which_end (T : List Tk) (last : Nat) (seen : List Nat) (a : Option Nat) (s : Pi) : which T last seen (wClauses.drop 5) 5 a s = (a, s) := rfl
/-- Looked through as far as k. -/
def agK (T : List Tk) (last : Nat) (seen : List Nat) (x : List UInt8) (i k : Nat) (s : Pi) : Pi := again T last (seen.take k) x i s
theorem agK_end (T : List Tk) (last : Nat) (seen : List Nat) (x : List UInt8) (i : Nat) (s : Pi) : agK T last seen x i seen.length s = again T last seen x i s := by unfold agK; rw [List.take_length]
theorem take_more {seen : List Nat} {k : Nat} (hk : k < seen.length) : seen.take (k + 1) = seen.take k ++ [seen.getD k 0] := by
  rw [List.take_add_one, List.getElem?_eq_getElem hk]
  simp [List.getD, hk]
theorem fail_bad' (T : List Tk) (last : Nat) (s : Pi) : (fail T last s).bad.isSome = true := by
  unfold fail
  cases h : s.bad with
  | none => rfl
  | some l => simp [h]
theorem at_fail (T : List Tk) (last : Nat) (s : Pi) (k : Nat) (t : List UInt8) : at_ T (fail T last s) k t = false := by
  unfold at_
  rw [cur_bad]
  have := fail_bad' T last s
  exact this
theorem agK_other {T : List Tk} {last : Nat} {seen : List Nat} {x : List UInt8} {i k : Nat} {s : Pi} (hk : k < seen.length) (h : seen.getD k 0 ≠ i) : agK T last seen x i (k + 1) s = agK T last seen x i k s := by
  unfold agK again
  rw [take_more hk]
  have : (seen.take k ++ [seen.getD k 0]).contains i = (seen.take k).contains i := by
    generalize seen.getD k 0 = y at h
    rw [List.contains_append, show [y].contains i = false by rw [List.contains_eq_mem]; simp; exact fun e => h e.symm, Bool.or_false]
  rw [this]
theorem agK_same {T : List Tk} {last : Nat} {seen : List Nat} {x : List UInt8} {i k : Nat} {s : Pi} (hk : k < seen.length) (h : seen.getD k 0 = i) : agK T last seen x i (k + 1) s = if at_ T (agK T last seen x i k s) 1 x then fail T last (agK T last seen x i k s) else agK T last seen x i k s := by
  have hc : (seen.take (k + 1)).contains i = true := by rw [take_more hk, h, List.contains_append]; simp
  unfold agK again
  rw [hc]
  simp only [Bool.true_and]
  cases ha : at_ T s 1 x with
  | false => simp [ha]
  | true =>
    cases hb : (seen.take k).contains i with
    | false => simp [ha]
    | true => simp [at_fail]
theorem again_p (T : List Tk) (last : Nat) (seen : List Nat) (x : List UInt8) (i : Nat) (s : Pi) : (again T last seen x i s).p = s.p := by
  unfold again
  split
  · exact fail_p T last s
  · rfl
theorem lw_at {wr : World} {lb : Nat} (h : wr.heap[lb]? = some (.cells #[.string { data := #[99, 108, 97, 115, 115] }, .string { data := #[111, 116, 104, 101, 114] }, .string { data := #[99, 111, 117, 110, 116] }, .string { data := #[119, 105, 110, 100, 111, 119] }, .string { data := #[114, 97, 105, 115, 101] }] 9 (0, 0))) : ∀ j, j < 5 → wr.cell? ⟨lb, j, none⟩ = some (.string (bs (wClauses.getD j []))) := by
  intro j hj
  refine (cellRow h j).trans ?_
  obtain rfl | rfl | rfl | rfl | rfl : j = 0 ∨ j = 1 ∨ j = 2 ∨ j = 3 ∨ j = 4 := by omega
  all_goals rfl
end Go.Proofs.YtaeglmgpoboihaaGreatDoor
/- The document's reader of rules: clause, walked. gen_pars.py writes it. -/
namespace Go.Proofs.YtaeglmgpoboihaaGreatDoor
open Go.ChangeShapes Go.WideShapes Go.ChangeAt Go.RowKit K L15 S3
open L14 (Tk)
set_option linter.unusedVariables false

theorem word_yes' {T : List Tk} {t : List UInt8} {s : Pi} (h : at_ T s 1 t = true) : word T t s = (true, nx s) := by unfold word; rw [if_pos h]
theorem word_no' {T : List Tk} {t : List UInt8} {s : Pi} (h : at_ T s 1 t = false) : word T t s = (false, s) := by unfold word; rw [h]; rfl
theorem row_drew {w : World} {r : Nat} {o : Obj} (h : w.heap[r]? = some o) : w.drew.heap[r]? = some o := h
theorem conv_cell {P : Program} (src e dst : TypeId) (hs : P.underlying src = some (.slice e)) (he : P.underlying e = some (.int .u8)) (hd : P.underlying dst = some .string) {w : World} {b : Nat} {x : Int} (h : w.cell? ⟨b, 0, none⟩ = some (.int .u8 x)) :
    (convert src dst (.slice (some ⟨b, 0, none⟩) 1 1)).run P w = .ok (.string (bs [b8 x.toNat])) w := by
  rw [run_convert_bytes_arg (P := P) w src e hs he b 0 1 1 [x] rfl _ dst hd]
  · rfl
  · intro i hi
    obtain rfl : i = 0 := by omega
    rw [Nat.zero_add, h]
    rfl
theorem row_ten {w : World} {r : Nat} {T : TypeId} {a0 a1 a2 a3 a4 a5 a6 a7 a8 a9 : Value} (h : w.heap[r]? = some (.cells #[a0, a1, a2, a3, a4, a5, a6, a7, a8, a9] T (0, 0))) (u0 u1 u2 u3 u4 u5 u6 u7 u8 u9 : Value) : ((((((((((w.setCell ⟨r, 0, none⟩ u0).setCell ⟨r, 1, none⟩ u1).setCell ⟨r, 2, none⟩ u2).setCell ⟨r, 3, none⟩ u3).setCell ⟨r, 4, none⟩ u4).setCell ⟨r, 5, none⟩ u5).setCell ⟨r, 6, none⟩ u6).setCell ⟨r, 7, none⟩ u7).setCell ⟨r, 8, none⟩ u8).setCell ⟨r, 9, none⟩ u9).heap[r]? = some (.cells #[u0, u1, u2, u3, u4, u5, u6, u7, u8, u9] T (0, 0)) := by
  have h0 := row_to (B := #[u0, a1, a2, a3, a4, a5, a6, a7, a8, a9]) (rowSet h 0 u0) rfl
  have h1 := row_to (B := #[u0, u1, a2, a3, a4, a5, a6, a7, a8, a9]) (rowSet h0 1 u1) rfl
  have h2 := row_to (B := #[u0, u1, u2, a3, a4, a5, a6, a7, a8, a9]) (rowSet h1 2 u2) rfl
  have h3 := row_to (B := #[u0, u1, u2, u3, a4, a5, a6, a7, a8, a9]) (rowSet h2 3 u3) rfl
  have h4 := row_to (B := #[u0, u1, u2, u3, u4, a5, a6, a7, a8, a9]) (rowSet h3 4 u4) rfl
  have h5 := row_to (B := #[u0, u1, u2, u3, u4, u5, a6, a7, a8, a9]) (rowSet h4 5 u5) rfl
  have h6 := row_to (B := #[u0, u1, u2, u3, u4, u5, u6, a7, a8, a9]) (rowSet h5 6 u6) rfl
  have h7 := row_to (B := #[u0, u1, u2, u3, u4, u5, u6, u7, a8, a9]) (rowSet h6 7 u7) rfl
  have h8 := row_to (B := #[u0, u1, u2, u3, u4, u5, u6, u7, u8, a9]) (rowSet h7 8 u8) rfl
  have h9 := row_to (B := #[u0, u1, u2, u3, u4, u5, u6, u7, u8, u9]) (rowSet h8 9 u9) rfl
  exact h9
def wtC (x : Wt) : Array Value := #[.string (bs x.n), .int .i64 x.l, .int .i64 x.k, .string (bs x.cl), .string (bs x.ot), .int .i64 x.ct, .int .i64 x.wn, .string (bs x.ra), .int .i64 x.lv, .string (bs x.tx)]
end Go.Proofs.YtaeglmgpoboihaaGreatDoor
/- The document's reader of rules: test, walked. gen_pari.py writes it. -/
namespace Go.Proofs.YtaeglmgpoboihaaGreatDoor
open Go.ChangeShapes Go.WideShapes Go.ChangeAt Go.RowKit K L15 S3
open L14 (Tk)
set_option linter.unusedVariables false

def testC (x : Ts) : Array Value := #[.string (bs x.f), .string (bs x.g), .bool x.n]
end Go.Proofs.YtaeglmgpoboihaaGreatDoor
/- The document's reader of rules: from, walked. gen_parj.py writes it. -/
namespace Go.Proofs.YtaeglmgpoboihaaGreatDoor
open Go.ChangeShapes Go.WideShapes Go.ChangeAt Go.RowKit K L15 S3
open L14 (Tk)
set_option linter.unusedVariables false

end Go.Proofs.YtaeglmgpoboihaaGreatDoor
/- The document's reader of rules: set, walked. gen_parn.py writes it. -/
namespace Go.Proofs.YtaeglmgpoboihaaGreatDoor
open Go.ChangeShapes Go.WideShapes Go.ChangeAt Go.RowKit K L15 S3
open L14 (Tk)
set_option linter.unusedVariables false

def pcRow (x : Pc) : List Value := [.int .i64 x.k, .string (bs x.t), .string (bs x.b)]
theorem pcinfo : (Tryz.prog.info? 50).map (fun i => (i.zero, i.size, i.bytes)) = some (some (.agg #[.int .i64 0, .string .empty, .string .empty]), 3, 40) := by kernel_rfl
theorem piece_p (T : List Tk) (last : Nat) (s : Pi) : s.p ≤ (piece T last s).2.p := by
  unfold piece
  split
  · exact text_p T last s
  · split
    · exact take_p T last 3 [] s
    · have h1 := take_p T last 1 [] s
      have h2 := sign_p T last [40] (L15.take T last 1 [] s).2
      have h3 := take_p T last 3 [] (sign T last [40] (L15.take T last 1 [] s).2)
      have h4 := sign_p T last [41] (L15.take T last 3 [] (sign T last [40] (L15.take T last 1 [] s).2)).2
      simp only
      omega
theorem pieces_go {T : List Tk} {last g : Nat} {s : Pi} (h : at_ T s 5 [43] = true) : pieces T last (g + 1) s = ((piece T last (sign T last [43] s)).1 :: (pieces T last g (piece T last (sign T last [43] s)).2).1, (pieces T last g (piece T last (sign T last [43] s)).2).2) := by
  rw [pieces, if_pos h]
theorem pieces_stop {T : List Tk} {last : Nat} {s : Pi} (h : at_ T s 5 [43] = false) : ∀ g, pieces T last g s = ([], s)
  | 0 => rfl
  | g + 1 => by rw [pieces, h]; rfl
theorem pieces_p {T : List Tk} {last : Nat} {s : Pi} (h : at_ T s 5 [43] = true) : s.p + 1 ≤ (piece T last (sign T last [43] s)).2.p := by
  have h1 := piece_p T last (sign T last [43] s)
  have h4 : sign T last [43] s = nx s := by unfold sign; rw [take_yes h]
  rw [h4] at h1 ⊢
  have : (nx s).p = s.p + 1 := rfl
  omega
end Go.Proofs.YtaeglmgpoboihaaGreatDoor
/- The document's reader of rules: sets among rows, a rule's clauses step by step. -/
namespace Go.Proofs.YtaeglmgpoboihaaGreatDoor
open Go.ChangeShapes Go.WideShapes Go.ChangeAt Go.RowKit K L15 S3
open L14 (Tk)
set_option linter.unusedVariables false

def tsRow (x : Ts) : List Value := [.string (bs x.f), .string (bs x.g), .bool x.n]
theorem tsinfo : (Tryz.prog.info? 83).map (fun i => (i.zero, i.size, i.bytes)) = some (some (.agg #[.string .empty, .string .empty, .bool false]), 3, 40) := by kernel_rfl
theorem stinfo : (Tryz.prog.info? 53).map (fun i => (i.zero, i.size, i.bytes)) = some (some (.agg #[.string .empty, .slice none 0 0]), 2, 40) := by kernel_rfl
/-- One set's row. -/
def StRow (w : World) (r : List Value) (s : St) : Prop := ∃ po pc, r = [.string (bs s.n), .slice po s.ps.length pc] ∧ RdRw w 50 3 po (s.ps.map pcRow)
/-- Sets' rows. -/
def SetsR (w : World) : List (List Value) → List St → Prop
  | [], [] => True
  | r :: rs, s :: ss => StRow w r s ∧ SetsR w rs ss
  | _, _ => False
theorem SetsR.keep {w w' : World} (k : ∀ po rows, RdRw w 50 3 po rows → RdRw w' 50 3 po rows) : ∀ {rs : List (List Value)} {ss : List St}, SetsR w rs ss → SetsR w' rs ss
  | [], [], _ => trivial
  | [], _ :: _, h => h
  | _ :: _, [], h => h
  | r :: rs, s :: ss, ⟨⟨po, pc, h1, h2⟩, h3⟩ => ⟨⟨po, pc, h1, k _ _ h2⟩, SetsR.keep k h3⟩
theorem SetsR.len {w : World} : ∀ {rs : List (List Value)} {ss : List St}, SetsR w rs ss → rs.length = ss.length
  | [], [], _ => rfl
  | [], _ :: _, h => h.elim
  | _ :: _, [], h => h.elim
  | r :: rs, s :: ss, ⟨_, h3⟩ => by rw [List.length_cons, List.length_cons, SetsR.len h3]
theorem SetsR.snoc {w : World} : ∀ {rs : List (List Value)} {ss : List St} {r : List Value} {s : St}, SetsR w rs ss → StRow w r s → SetsR w (rs ++ [r]) (ss ++ [s])
  | [], [], _, _, _, h => ⟨h, trivial⟩
  | [], _ :: _, _, _, h, _ => h.elim
  | _ :: _, [], _, _, h, _ => h.elim
  | r :: rs, s :: ss, _, _, ⟨h1, h3⟩, h => ⟨h1, SetsR.snoc h3 h⟩
theorem SetsR.below {w w' : World} {rs : List (List Value)} {ss : List St} (h : SetsR w rs ss) (k : Below w.heap.size w w') : SetsR w' rs ss := h.keep fun _ _ x => x.below k
theorem SetsR.set {w : World} {rs : List (List Value)} {ss : List St} (h : SetsR w rs ss) {U : TypeId} {r : Nat} {cs : Array Value} {fr : Nat × Nat} (hr : w.heap[r]? = some (.cells cs U fr)) (hT : 50 ≠ U) (i : Nat) (u : Value) : SetsR (w.setCell ⟨r, i, none⟩ u) rs ss := h.keep fun _ _ x => x.set hr hT i u
theorem SetsR.grown {w w' : World} {rs : List (List Value)} {ss : List St} (h : SetsR w rs ss) {U : TypeId} {n B m : Nat} {v : Value} {xs : List Value} (k : w.grownBy w' v.ownBlock) (ho : w.ownsRow B U n v m xs) (hT : 50 ≠ U) : SetsR w' rs ss := h.keep fun _ _ x => x.grown k ho hT
theorem liked_p (T : List Tk) (last : Nat) (s : Pi) : s.p ≤ (liked T last s).p := by
  unfold liked
  split
  · exact word_p T wUnlike s
  · split
    · exact word_p T wLike s
    · rw [fail_p]; exact Nat.le_refl _
theorem test_p (T : List Tk) (last : Nat) (s : Pi) : s.p ≤ (test T last s).2.p := by
  have h1 := take_p T last 3 [] s
  have h2 := liked_p T last (L15.take T last 3 [] s).2
  have h3 := text_p T last (liked T last (L15.take T last 3 [] s).2)
  have h4 := sign_p T last [59] (L15.text T last (liked T last (L15.take T last 3 [] s).2)).2
  show s.p ≤ (sign T last [59] (L15.text T last (liked T last (L15.take T last 3 [] s).2)).2).p
  omega
theorem pieces_p2 (T : List Tk) (last : Nat) : ∀ (g : Nat) (s : Pi), s.p ≤ (pieces T last g s).2.p
  | 0, s => Nat.le_refl _
  | g + 1, s => by
    rw [pieces]
    split
    · next h =>
      have h1 := pieces_p (last := last) h
      have h2 := pieces_p2 T last g (piece T last (sign T last [43] s)).2
      simp only
      omega
    · exact Nat.le_refl _
theorem set_p (T : List Tk) (last : Nat) (s : Pi) : s.p ≤ (L15.set T last s).2.p := by
  have h1 := take_p T last 1 [] s
  have h2 := sign_p T last [61] (L15.take T last 1 [] s).2
  have h3 := piece_p T last (sign T last [61] (L15.take T last 1 [] s).2)
  have h4 := pieces_p2 T last (T.length + 1) (piece T last (sign T last [61] (L15.take T last 1 [] s).2)).2
  have h5 := sign_p T last [59] (pieces T last (T.length + 1) (piece T last (sign T last [61] (L15.take T last 1 [] s).2)).2).2
  show s.p ≤ (sign T last [59] (pieces T last (T.length + 1) (piece T last (sign T last [61] (L15.take T last 1 [] s).2)).2).2).p
  omega
theorem word_yes {T : List Tk} {t : List UInt8} {s : Pi} (h : at_ T s 1 t = true) : word T t s = (true, nx s) := by unfold word; rw [if_pos h]
theorem word_no {T : List Tk} {t : List UInt8} {s : Pi} (h : at_ T s 1 t = false) : word T t s = (false, s) := by unfold word; rw [h]; rfl
theorem cl_stop {T : List Tk} {last : Nat} {s : Pi} (h : goOn T s = false) (ts : List Ts) (ss : List St) (d : Bool) : ∀ g, clauses T last g ts ss d s = (ts, ss, d, s)
  | 0 => rfl
  | g + 1 => by rw [clauses, h]; rfl
theorem cl_test {T : List Tk} {last g : Nat} {s : Pi} (h : goOn T s = true) (h1 : at_ T s 1 wTest = true) (ts : List Ts) (ss : List St) (d : Bool) : clauses T last (g + 1) ts ss d s = clauses T last g (ts ++ [(test T last (nx s)).1]) ss d (test T last (nx s)).2 := by
  rw [clauses, if_pos h, word_yes h1]; rfl
theorem cl_set {T : List Tk} {last g : Nat} {s : Pi} (h : goOn T s = true) (h1 : at_ T s 1 wTest = false) (h2 : at_ T s 1 wSet = true) (ts : List Ts) (ss : List St) (d : Bool) : clauses T last (g + 1) ts ss d s = clauses T last g ts (ss ++ [(L15.set T last (nx s)).1]) d (L15.set T last (nx s)).2 := by
  rw [clauses, if_pos h, word_no h1, word_yes h2]; rfl
theorem cl_drop {T : List Tk} {last g : Nat} {s : Pi} (h : goOn T s = true) (h1 : at_ T s 1 wTest = false) (h2 : at_ T s 1 wSet = false) (h3 : at_ T s 1 wDrop = true) (ts : List Ts) (ss : List St) : clauses T last (g + 1) ts ss false s = clauses T last g ts ss true (sign T last [59] (nx s)) := by
  rw [clauses, if_pos h, word_no h1, word_no h2, word_yes h3]; rfl
theorem cl_bad {T : List Tk} {last g : Nat} {s : Pi} (h : goOn T s = true) (h1 : at_ T s 1 wTest = false) (h2 : at_ T s 1 wSet = false) {d : Bool} (h3 : d = true ∨ at_ T s 1 wDrop = false) (ts : List Ts) (ss : List St) : clauses T last (g + 1) ts ss d s = clauses T last g ts ss d (fail T last s) := by
  rw [clauses, if_pos h, word_no h1, word_no h2]
  rcases h3 with h3 | h3
  · subst h3; rfl
  · rw [word_no h3]; cases d <;> rfl
theorem fail_bad (T : List Tk) (last : Nat) (s : Pi) : (fail T last s).bad ≠ none := by
  unfold fail
  cases h : s.bad with
  | none => simp
  | some l => simp [h]
theorem goOn_bad {T : List Tk} {s : Pi} (h : s.bad ≠ none) : goOn T s = false := by
  unfold goOn
  cases hb : s.bad with
  | none => exact absurd hb h
  | some _ => rfl
theorem goOn_at {T : List Tk} {s : Pi} (h : at_ T s 5 [125] = true) : goOn T s = false := by unfold goOn; rw [h]; simp
theorem goOn_yes {T : List Tk} {s : Pi} (hb : s.bad = none) (h : at_ T s 5 [125] = false) : goOn T s = true := by unfold goOn; rw [h, hb]; rfl
end Go.Proofs.YtaeglmgpoboihaaGreatDoor
/- The document's reader of rules: rule, walked. gen_parq.py writes it. -/
namespace Go.Proofs.YtaeglmgpoboihaaGreatDoor
open Go.ChangeShapes Go.WideShapes Go.ChangeAt Go.RowKit K L15 S3
open L14 (Tk)
set_option linter.unusedVariables false

end Go.Proofs.YtaeglmgpoboihaaGreatDoor
/- The document's reader of rules: kind, walked. -/
namespace Go.Proofs.YtaeglmgpoboihaaGreatDoor
open Go.ChangeShapes Go.WideShapes Go.ChangeAt Go.RowKit K L15 S3
open L14 (Tk)
set_option linter.unusedVariables false

theorem kindF_at (T : List Tk) (last : Nat) (s : Pi) : ∀ i, i < 4 → kindF T last (wKinds.drop i) i s = if (word T (wKinds.getD i []) s).1 then (((i : Nat) : Int) + 1, nx s) else kindF T last (wKinds.drop (i + 1)) (i + 1) s := by
  intro i hi
  obtain rfl | rfl | rfl | rfl : i = 0 ∨ i = 1 ∨ i = 2 ∨ i = 3 := by omega
  all_goals rfl
theorem kindF_end (T : List Tk) (last : Nat) (s : Pi) : kindF T last (wKinds.drop 4) 4 s = (0, fail T last s) := rfl
end Go.Proofs.YtaeglmgpoboihaaGreatDoor
