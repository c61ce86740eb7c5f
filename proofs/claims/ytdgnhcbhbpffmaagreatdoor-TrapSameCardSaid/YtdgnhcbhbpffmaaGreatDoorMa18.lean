/- Texts on the program and on the document, joined: TrpP, PduI, OidC, OidH, Blw. -/
import Derived.Test.YtdgnhcbhbpffmaaGreatDoorMa17
import Derived.Test.YtdgnhcbhbpffmaaGreatDoorMa10
import Derived.Test.YtdgnhcbhbpffmaaGreatDoorRows
import Derived.Test.YtdgnhcbhbpffmaaGreatDoorMa01
import Derived.Test.YtdgnhcbhbpffmaaGreatDoorShelf
import Derived.ProofKit
/- Traps and their messages: which may be, what is told, there and back, cut short: plain mathematics, of no program. -/
namespace Go.Proofs.YtdgnhcbhbpffmaaGreatDoor
open Go.RowKit K P1 B5
open D8 (Bd Un lst deU)
set_option linter.unusedVariables false
namespace T9

/-! ### An element with more behind it, and cut short -/
theorem byt_app {l : List UInt8} (h : l ≠ []) (r : List UInt8) : byt (l ++ r) 0 = byt l 0 := by
  cases l with
  | nil => exact absurd rfl h
  | cons a l => rfl
theorem l_app {l : List UInt8} (h : lOk l = true) (r : List UInt8) : lOk (l ++ r) = true ∧ lV (l ++ r) = lV l ∧ lK (l ++ r) = lK l := by
  obtain ⟨hne, hc⟩ := (lOk_iff l).1 h
  have h0 := byt_app hne r
  have hK : lK (l ++ r) = lK l := by unfold lK; rw [h0]
  refine ⟨(lOk_iff _).2 ⟨by simp [hne], ?_⟩, ?_, hK⟩
  · rw [hK, h0, List.length_append]
    rcases hc with h | ⟨a, b, c⟩
    · exact .inl h
    · exact .inr ⟨a, b, by omega⟩
  · unfold lV
    rw [h0]
    rcases hc with h | ⟨a, b, c⟩
    · rw [if_pos h, if_pos h]
    · have hk : lK l = 1 + (byt l 0 - 128) := by unfold lK; rw [if_neg (by omega)]
      have hl := List.length_pos_iff.2 hne
      rw [if_neg (by omega), if_neg (by omega), List.drop_append_of_le_length (by omega), List.take_append_of_le_length (by rw [List.length_drop]; omega)]
theorem nx_app {l : List UInt8} (h : nxOk l = true) (r : List UInt8) : nxOk (l ++ r) = true ∧ nxR (l ++ r) = nxR l ++ r := by
  obtain ⟨h1, h2, h3, h4⟩ := (nxOk_iff l).1 h
  have hl := List.length_pos_iff.2 h1
  obtain ⟨a, b, c⟩ := l_app h3 r
  have hd : (l ++ r).drop 1 = l.drop 1 ++ r := List.drop_append_of_le_length (by omega)
  refine ⟨(nxOk_iff _).2 ⟨by simp [h1], by rw [byt_app h1]; exact h2, by rw [hd]; exact a, ?_⟩, ?_⟩
  · rw [hd, b, c, List.length_append]; omega
  · unfold nxR
    rw [hd, b, c, List.drop_append_of_le_length h4]
/-- An element that is cut short is none. -/
theorem put_cut (t : Nat) (b : List UInt8) (ht : isTag t = true) (ht2 : t < 256) (hb : b.length < 4294967296) (k : Nat) (hk : k < (put t b).length) : nxOk ((put t b).take k) = false := by
  cases hx : nxOk ((put t b).take k)
  · rfl
  · obtain ⟨_, _, _, x4⟩ := nx_put t b [] ht ht2 hb
    obtain ⟨_, hr⟩ := nx_app hx ((put t b).drop k)
    rw [List.append_nil] at x4
    rw [List.take_append_drop, x4] at hr
    have := congrArg List.length hr
    rw [List.length_append, List.length_drop, List.length_nil] at this
    omega

/-! ### Traps -/
structure Tr where
  c : List UInt8
  f : Bool
  r : Int
  n : Int
  o : List UInt8
  l : List Bd
def UPT : List UInt8 := [49, 46, 51, 46, 54, 46, 49, 46, 50, 46, 49, 46, 49, 46, 51, 46, 48]
def IDO : List UInt8 := [49, 46, 51, 46, 54, 46, 49, 46, 54, 46, 51, 46, 49, 46, 49, 46, 52, 46, 49, 46, 48]
def bU (n : Int) : Bd := ⟨UPT, 67, n, []⟩
def bI (o : List UInt8) : Bd := ⟨IDO, 6, 0, o⟩
/-- A trap's unit, with a tag. -/
def Tr.as (t : Tr) (g : Int) : Un := ⟨g, t.r, 0, 0, bU t.n :: bI t.o :: t.l⟩
def Tr.tag (t : Tr) : Int := if t.f then 166 else 167
def Tr.un (t : Tr) : Un := t.as t.tag
def Tr.ok (t : Tr) : Bool := (decide (1 ≤ t.c.length) && decide (t.c.length ≤ 64)) && t.un.ok
theorem Tr.ok_iff (t : Tr) : t.ok = true ↔ (1 ≤ t.c.length ∧ t.c.length ≤ 64) ∧ t.un.ok = true := by
  unfold Tr.ok; rw [Bool.and_eq_true, Bool.and_eq_true, decide_eq_true_eq, decide_eq_true_eq]
def Tr.fits (t : Tr) : Prop := (-9223372036854775808 ≤ t.n ∧ t.n ≤ 9223372036854775807) ∧ ∀ x ∈ t.l, x.fits
theorem Tr.fit {t : Tr} (h : t.fits) (g : Int) : ∀ x ∈ (t.as g).l, x.fits := by
  intro x hx
  rcases List.mem_cons.1 hx with rfl | hx
  · exact h.1
  · rcases List.mem_cons.1 hx with rfl | hx
    · exact ⟨(show (-9223372036854775808 : Int) ≤ 0 by omega), (show (0 : Int) ≤ 9223372036854775807 by omega)⟩
    · exact h.2 x hx
theorem as_ok (t : Tr) {g k : Int} (hg : g = 162 ∨ g = 166 ∨ g = 167) (hk : k = 162 ∨ k = 166 ∨ k = 167) : (t.as g).ok = (t.as k).ok := by
  rw [Bool.eq_iff_iff, D8.Un.ok_iff, D8.Un.ok_iff]
  constructor
  · rintro ⟨_, h⟩; exact ⟨hk, h⟩
  · rintro ⟨_, h⟩; exact ⟨hg, h⟩
theorem tag_of (t : Tr) : t.tag = 166 ∨ t.tag = 167 := by
  unfold Tr.tag; cases t.f
  · exact .inr rfl
  · exact .inl rfl
/-- A message of a community and a unit. -/
def msgB (c : List UInt8) (u : Un) : List UInt8 := [2, 1, 1] ++ (put 4 c ++ u.el)
def msg (c : List UInt8) (u : Un) : List UInt8 := put 48 (msgB c u)
theorem el_bound {u : Un} (h : u.ok = true) : u.el.length ≤ 271700100 := by
  have h1 := (D8.un_parts h).2.2
  have h2 := D8.short_le8 u.body.length
  unfold Un.el
  rw [put_len]
  omega
theorem msg_len {c : List UInt8} {u : Un} (hc : c.length ≤ 64) (h : u.ok = true) : (put 4 c).length ≤ 70 ∧ (msgB c u).length ≤ 271700200 ∧ (msg c u).length ≤ 271700300 := by
  have h1 := el_bound h
  have h2 := D8.short_le8 c.length
  have h3 : (put 4 c).length ≤ 70 := by rw [put_len]; omega
  have h4 : (msgB c u).length ≤ 271700200 := by
    unfold msgB; rw [List.length_append, List.length_append, List.length_cons, List.length_cons, List.length_cons, List.length_nil]; omega
  have h5 := D8.short_le8 (msgB c u).length
  exact ⟨h3, h4, by unfold msg; rw [put_len]; omega⟩
theorem as_len (t : Tr) (g k : Int) : (msg t.c (t.as g)).length = (msg t.c (t.as k)).length := by
  have e : (t.as g).el.length = (t.as k).el.length := by
    have hb : (t.as g).body = (t.as k).body := rfl
    unfold Un.el; rw [hb, put_len, put_len]
  have e2 : (msgB t.c (t.as g)).length = (msgB t.c (t.as k)).length := by
    unfold msgB; simp only [List.length_append, e]
  unfold msg
  rw [put_len, put_len, e2]
theorem one_put : ([2, 1, 1] : List UInt8) = put 2 [1] := by decide
/-- What a message's parts are. -/
theorem msg_parts {c : List UInt8} {u : Un} (hc : c.length ≤ 64) (h : u.ok = true) : nxOk (msg c u) = true ∧ nxT (msg c u) = 48 ∧ nxB (msg c u) = msgB c u ∧ nxR (msg c u) = [] ∧ prt 0 (msgB c u) = .ok [(2, [1]), (4, c), (u.t.toNat, u.body)] := by
  obtain ⟨h1, h2, h3⟩ := msg_len hc h
  obtain ⟨x1, x2, x3, x4⟩ := nx_put 48 (msgB c u) [] (by decide) (by decide) (by omega)
  rw [List.append_nil] at x1 x2 x3 x4
  have hb := (D8.un_parts h).2.2
  obtain ⟨ht, _⟩ := (D8.Un.ok_iff u).1 h
  have hT : isTag u.t.toNat = true ∧ u.t.toNat < 256 := by rcases ht with h | h | h <;> (rw [h]; decide)
  refine ⟨x1, x2, x3, x4, ?_⟩
  have := prt_puts [(2, [1]), (4, c), (u.t.toNat, u.body)] 0 (by
    intro p hp
    simp only [List.mem_cons, List.not_mem_nil, or_false] at hp
    rcases hp with h | h | h
    · subst h; exact ⟨(show isTag 2 = true by decide), (show (2 : Nat) < 256 by decide), by show ([1] : List UInt8).length < _; simp⟩
    · subst h; exact ⟨(show isTag 4 = true by decide), (show (4 : Nat) < 256 by decide), by show c.length < _; omega⟩
    · subst h; exact ⟨hT.1, hT.2, by show u.body.length < _; omega⟩) (by simp)
  rw [← this]
  simp [msgB, Un.el, one_put]
/-- The community and the unit's part of a message. -/
def m3 (s : List UInt8) : Option (List UInt8 × (Nat × List UInt8)) :=
  if nxOk s = true ∧ nxR s = [] ∧ nxT s = 48 then
    match prt 0 (nxB s) with
    | .ok [p1, p2, p3] => if p1.1 = 2 ∧ p2.1 = 4 ∧ nOk p1.2 = true ∧ nv p1.2 = 1 then some (p2.2, p3) else none
    | _ => none
  else none
theorem m3_no {s : List UInt8} (h : ¬ (nxOk s = true ∧ nxR s = [])) : m3 s = none := by
  unfold m3; rw [if_neg (fun e => h ⟨e.1, e.2.1⟩)]
theorem m3_msg {c : List UInt8} {u : Un} (hc : c.length ≤ 64) (h : u.ok = true) : m3 (msg c u) = some (c, (u.t.toNat, u.body)) := by
  obtain ⟨x1, x2, x3, x4, x5⟩ := msg_parts hc h
  unfold m3
  rw [if_pos ⟨x1, x4, x2⟩, x3, x5]
  show (if (2 : Nat) = 2 ∧ (4 : Nat) = 4 ∧ nOk [1] = true ∧ nv [1] = 1 then some (c, (u.t.toNat, u.body)) else none) = _
  rw [if_pos ⟨rfl, rfl, by decide, by decide⟩]
theorem m3_more {c : List UInt8} {u : Un} (hc : c.length ≤ 64) (h : u.ok = true) {r : List UInt8} (hr : r ≠ []) : m3 (msg c u ++ r) = none := by
  refine m3_no fun e => hr ?_
  obtain ⟨x1, x2, x3, x4, x5⟩ := msg_parts hc h
  have := (nx_app x1 r).2
  rw [x4, e.2] at this
  simpa using this.symm
theorem m3_cut {c : List UInt8} {u : Un} (hc : c.length ≤ 64) (h : u.ok = true) {k : Nat} (hk : k < (msg c u).length) : m3 ((msg c u).take k) = none := by
  obtain ⟨h1, h2, h3⟩ := msg_len hc h
  refine m3_no fun e => ?_
  have := put_cut 48 (msgB c u) (by decide) (by decide) (by omega) k hk
  rw [show put 48 (msgB c u) = msg c u from rfl, e.1] at this
  cases this
/-- The trap of a community and a unit. -/
def ofU (c : List UInt8) (u : Un) : Option Tr :=
  match u.l with
  | a :: b :: l => if (u.t ≠ 162 ∧ a.o = UPT ∧ a.k = 67 ∧ b.o = IDO ∧ b.k = 6) ∧ Tr.ok ⟨c, u.t == 166, u.r, a.n, b.s, l⟩ = true then some ⟨c, u.t == 166, u.r, a.n, b.s, l⟩ else none
  | _ => none
theorem ofU_back (t : Tr) (h : t.ok = true) : ofU t.c t.un = some t := by
  obtain ⟨c, f, r, n, o, l⟩ := t
  have e : ((Tr.tag ⟨c, f, r, n, o, l⟩) == 166) = f := by cases f <;> rfl
  have e2 : Tr.tag ⟨c, f, r, n, o, l⟩ ≠ 162 := by
    rcases tag_of ⟨c, f, r, n, o, l⟩ with h | h <;> (rw [h]; decide)
  unfold ofU
  show (if (Tr.tag ⟨c, f, r, n, o, l⟩ ≠ 162 ∧ UPT = UPT ∧ (67 : Int) = 67 ∧ IDO = IDO ∧ (6 : Int) = 6) ∧ Tr.ok ⟨c, Tr.tag ⟨c, f, r, n, o, l⟩ == 166, r, n, o, l⟩ = true then some (⟨c, Tr.tag ⟨c, f, r, n, o, l⟩ == 166, r, n, o, l⟩ : Tr) else none) = _
  rw [e, if_pos ⟨⟨e2, rfl, rfl, rfl, rfl⟩, h⟩]
theorem ofU_no {c : List UInt8} {u : Un} (h : u.t = 162) : ofU c u = none := by
  unfold ofU
  split
  · rw [if_neg (fun e => e.1.1 h)]
  · rfl
theorem ofU_answer (c : List UInt8) (t : Tr) : ofU c (t.as 162) = none := ofU_no rfl
theorem ofU_ok {c : List UInt8} {u : Un} {t : Tr} (h : ofU c u = some t) : t.ok = true ∧ t.c = c := by
  unfold ofU at h
  split at h
  · split at h
    · next e => obtain rfl := Option.some.inj h; exact ⟨e.2, rfl⟩
    · cases h
  · cases h
/-- What a datagram tells. -/
def deM (s : List UInt8) : Option Tr :=
  match m3 s with
  | none => none
  | some m => match deU (m.2.1 : Nat) m.2.2 with
    | none => none
    | some u => ofU m.1 u
theorem deM_no {s : List UInt8} (h : m3 s = none) : deM s = none := by unfold deM; rw [h]
theorem deM_ok {s : List UInt8} {t : Tr} (h : deM s = some t) : t.ok = true := by
  unfold deM at h
  cases hm : m3 s with
  | none => rw [hm] at h; cases h
  | some m =>
    rw [hm] at h
    have h' : (match deU (m.2.1 : Nat) m.2.2 with | none => none | some u => ofU m.1 u) = some t := h
    cases hd : deU (m.2.1 : Nat) m.2.2 with
    | none => rw [hd] at h'; cases h'
    | some u => rw [hd] at h'; exact (ofU_ok h').1
theorem unit_is {t : Tr} {g : Int} (h : (t.as g).ok = true) (hf : t.fits) : (((t.as g).t.toNat : Nat) : Int) = (t.as g).t ∧ deU (t.as g).t (t.as g).body = some (t.as g) := by
  obtain ⟨ht, _⟩ := (D8.Un.ok_iff _).1 h
  exact ⟨by omega, D8.unit_back h (Tr.fit hf g)⟩
theorem deM_as {t : Tr} {g : Int} (hc : t.c.length ≤ 64) (h : (t.as g).ok = true) (hf : t.fits) : deM (msg t.c (t.as g)) = ofU t.c (t.as g) := by
  obtain ⟨e1, e2⟩ := unit_is h hf
  unfold deM
  rw [m3_msg hc h]
  show (match deU (((t.as g).t.toNat : Nat) : Int) (t.as g).body with | none => none | some u => ofU t.c u) = _
  rw [e1, e2]
/-- There and back. -/
theorem deM_back {t : Tr} (h : t.ok = true) (hf : t.fits) : deM (msg t.c t.un) = some t := by
  obtain ⟨⟨_, h2⟩, h3⟩ := (Tr.ok_iff t).1 h
  rw [show t.un = t.as t.tag from rfl] at *
  rw [deM_as h2 h3 hf]
  exact ofU_back t h
theorem deM_answer {t : Tr} (h : t.ok = true) (hf : t.fits) : deM (msg t.c (t.as 162)) = none := by
  obtain ⟨⟨_, h2⟩, h3⟩ := (Tr.ok_iff t).1 h
  have h4 : (t.as 162).ok = true := by
    rw [as_ok t (.inl rfl) (.inr (tag_of t))]; exact h3
  rw [deM_as h2 h4 hf, ofU_answer]
end T9
end Go.Proofs.YtdgnhcbhbpffmaaGreatDoor
/- pdu's areBinds, Check, walked. -/
namespace Go.Proofs.YtdgnhcbhbpffmaaGreatDoor
open Go.ChangeShapes Go.WideShapes Go.ChangeAt Go.RowKit K P1 B5
open D8 (Bd Un lst)
set_option linter.unusedVariables false

/-- Texts that are not too long for the program's walk. -/
def LimP (xs : List Bd) : Prop := ∀ x ∈ xs, x.o.length ≤ 1000000 ∧ x.s.length ≤ 1000000 ∧ x.fits
theorem LimP.lim {xs : List Bd} (h : LimP xs) : Lim xs := fun x hx => ⟨by have := (h x hx).1; omega, by have := (h x hx).2.1; omega, (h x hx).2.2⟩
theorem LimP.at {xs : List Bd} (h : LimP xs) {i : Nat} (hi : i < xs.length) : (xs.getD i nob).o.length ≤ 1000000 ∧ (xs.getD i nob).s.length ≤ 1000000 ∧ (xs.getD i nob).fits := by
  rw [List.getD_eq_getElem?_getD, List.getElem?_eq_getElem hi]
  exact h _ (List.getElem_mem hi)
set_option maxRecDepth 100000 in
set_option maxHeartbeats 1000000 in
theorem arebinds_walk (xs : List Bd) (ao : Option Addr) (cap : Nat) (hl : xs.length ≤ 140737488351232) (hx : LimP xs) (w : World) (T : Tabs w) (hr : RdB w ao xs) :
    Calls Tryz.prog 59 #[.slice ao xs.length cap] w fun e w' => e = .returned (.bool (decide (xs.length ≤ 4096) && xs.all Bd.ok)) ∧ Below w.heap.size w w' := by
  have HT := Lib.hid T
  clear T
  by_cases h4 : xs.length ≤ 4096
  · rw [decide_eq_true h4, Bool.true_and]
    have h4' : ((xs.length : Nat) : Int) ≤ 4096 := by omega
    go_enter Tryz.func59, Tryz.ntmps59
    go_wp2_with fail
    go_loopg [12] xs.length (fun g v wr => IbRel xs w g v wr)
    case atStart => exact ⟨0, by omega, rfl, rfl, Below.refl _ _⟩
    case round =>
      obtain ⟨i, hi, rfl, hall, hb⟩ := hrel
      cases gk with
      | zero =>
        obtain rfl : i = xs.length := by omega
        rw [List.take_length] at hall
        have HALL := Lib.hid hall
        clear hall
        go_wp2
        go_ret
        exact ⟨by rw [HALL.out]; rfl, hb⟩
      | succ g =>
        have hlt : i < xs.length := by omega
        obtain ⟨l1, l2, l3⟩ := hx.at hlt
        have HTK := Lib.hid (take_all hlt)
        have HNO := Lib.hid (fun h => all_not (xs := xs) hlt h)
        obtain ⟨x, hxe⟩ : ∃ x, xs.getD i nob = x := ⟨_, rfl⟩
        obtain ⟨b, off, rfl, hbl, c0, c1, c2, c3⟩ := (hr.below hb).at hlt hxe
        rw [hxe] at l1 l2 HTK HNO
        rw [hall] at HTK
        have hA := fun w1 (h : Tabs w1) => arcs_walk x.o l1 w1 h
        unfold ArPost at hA
        have hC := fun w1 (h : Tabs w1) => check_walk7 x.k x.n x.s l2 w1 h
        have hq := Bq.new wr x
        have ba := alloc_in wr (.cells #[.string (bs x.o), .int .i64 x.k, .int .i64 x.n, .string (bs x.s)] 48)
        have HTr := Lib.hid (HT.out.below (hb.trans (ba.mono hb.size)))
        clear hall hxe
        cases hx0 : O6.arcs x.o with
        | none =>
          have e : x.ok = false := by unfold Bd.ok; rw [hx0]; rfl
          have HAL := Lib.hid (HNO.out e)
          have e1 : (((arE x.o : Nat) : Int) != 0) = true := by rw [(ar_none hx0).1]; rfl
          have HA := Lib.hid hA
          clear hA hC e hx0 HTK HNO
          generalize arE x.o = E at *
          go_wp2_with fail
          refine (HA.out _ HTr.out).mono ?_
          rintro e w1 ⟨va, rfl, hoa, hb1⟩
          have hb2 := hb.trans ((Below_in hb1).mono hb.size)
          clear hb1
          go_wp2
          go_ret
          exact ⟨by rw [HAL.out]; rfl, hb2⟩
        | some l =>
          have e : x.ok = V7.ckV x.k x.n x.s := by unfold Bd.ok; rw [hx0]; rfl
          have e1 : arE x.o = 0 := (ar_some hx0).1
          rw [e1] at hA
          rw [e] at HTK HNO
          unfold V7.ckE at hC
          have HA := Lib.hid hA
          cases hk : V7.ckV x.k x.n x.s
          · have HAL := Lib.hid (HNO.out hk)
            rw [hk] at hC
            have HC := Lib.hid hC
            clear hA hC e e1 hx0 HTK HNO hk
            go_wp2_with fail
            refine (HA.out _ HTr.out).mono ?_
            rintro e w1 ⟨va, rfl, hoa, hb1⟩
            have HT1 := Lib.hid (HTr.out.below hb1)
            obtain ⟨z0, z1, z2, z3⟩ := (hq.below hb1).cells
            have hb2 := hb.trans ((Below_in hb1).mono hb.size)
            clear hb1
            go_wp2_with fail
            refine (HC.out _ HT1.out).mono ?_
            rintro e w2 ⟨rfl, d2⟩
            go_wp2
            go_ret
            exact ⟨by rw [HAL.out]; rfl, hb2.trans (d2.mono hb2.size)⟩
          · rw [hk] at hC HTK
            have HC := Lib.hid hC
            clear hA hC e e1 hx0 HNO hk
            go_wp2_with fail
            refine (HA.out _ HTr.out).mono ?_
            rintro e w1 ⟨va, rfl, hoa, hb1⟩
            have HT1 := Lib.hid (HTr.out.below hb1)
            obtain ⟨z0, z1, z2, z3⟩ := (hq.below hb1).cells
            have hb2 := hb.trans ((Below_in hb1).mono hb.size)
            clear hb1
            go_wp2_with fail
            refine (HC.out _ HT1.out).mono ?_
            rintro e w2 ⟨rfl, d2⟩
            go_wp2
            go_roundg g
            case measure => omega
            case rel => exact ⟨i + 1, by omega, by simp, HTK.out, hb2.trans (d2.mono hb2.size)⟩
  · have h4' : (4096 : Int) < ((xs.length : Nat) : Int) := by omega
    rw [decide_eq_false h4, Bool.false_and]
    go_enter Tryz.func59, Tryz.ntmps59
    go_wp2
    go_ret
    exact ⟨rfl, Below.refl _ _⟩
set_option maxRecDepth 100000 in
set_option maxHeartbeats 4000000 in
theorem check8_walk (u : Un) (ao : Option Addr) (cap : Nat) (hl : u.l.length ≤ 140737488351232) (hx : LimP u.l) (w : World) (T : Tp w) (hr : RdB w ao u.l) :
    Calls Tryz.prog 38 #[.agg #[.int .i64 u.t, .int .i64 u.r, .int .i64 u.a, .int .i64 u.i, .slice ao u.l.length cap]] w fun e w' => e = .returned (.int .i64 (ckU u : Nat)) ∧ Below w.heap.size w w' := by
  have hba := alloc_in w (.cells #[.int .i64 u.t, .int .i64 u.r, .int .i64 u.a, .int .i64 u.i, .slice ao u.l.length cap] 41)
  have huq := Uq.new 41 w u ao cap
  have hB := fun w1 (h : Tabs w1) (hr : RdB w1 ao u.l) => arebinds_walk u.l ao cap hl hx w1 h hr
  have HR := Lib.hid (hr.below hba)
  have HT := Lib.hid (T.below hba)
  have HN := Lib.hid (fun w1 => numbersof_walk u.t u.r u.a u.i ao u.l.length cap w1)
  have hM := fun w1 (h : Least w1) => maybe8_walk u.r u.a u.i w1 h
  have hI := fun w1 => istag8_walk u.t w1
  have he : u.ok = ((u.t == 162 || (u.t == 166 || u.t == 167)) && (nb u.r u.a u.i && (decide (u.l.length ≤ 4096) && u.l.all Bd.ok))) := by
    unfold Un.ok nb
    simp only [Bool.and_assoc]
  clear T hr
  unfold ckU
  rw [he]
  clear he
  cases hi : (u.t == 162 || (u.t == 166 || u.t == 167))
  · rw [hi] at hI
    have HI := Lib.hid hI
    rw [Bool.false_and]
    clear hI hM hB hi HN
    go_enter Tryz.func38, Tryz.ntmps38
    go_wp2_with fail
    refine (HI.out _).mono ?_
    rintro e w1 ⟨rfl, rfl⟩
    go_wp2
    go_ret
    exact ⟨rfl, hba⟩
  · rw [hi] at hI
    have HI := Lib.hid hI
    rw [Bool.true_and]
    cases hn : nb u.r u.a u.i
    · rw [hn] at hM
      have HM := Lib.hid hM
      rw [Bool.false_and]
      clear hI hM hB hi hn
      go_enter Tryz.func38, Tryz.ntmps38
      go_wp2_with fail
      refine (HI.out _).mono ?_
      rintro e w1 ⟨rfl, rfl⟩
      go_wp2_with fail
      refine (HN.out _).mono ?_
      rintro e w2 ⟨rfl, b2⟩
      go_wp2_with fail
      refine (HM.out _ (HT.out.2.below b2)).mono ?_
      rintro e w3 ⟨rfl, b3⟩
      go_wp2
      go_ret
      exact ⟨rfl, Below_in (b2.trans (b3.mono b2.size))⟩
    · rw [hn] at hM
      have HM := Lib.hid hM
      rw [Bool.true_and]
      cases hc : (decide (u.l.length ≤ 4096) && u.l.all Bd.ok)
      all_goals
        rw [hc] at hB
        have HB := Lib.hid hB
        clear hI hM hB hi hn hc
        go_enter Tryz.func38, Tryz.ntmps38
        go_wp2_with fail
        refine (HI.out _).mono ?_
        rintro e w1 ⟨rfl, rfl⟩
        go_wp2_with fail
        refine (HN.out _).mono ?_
        rintro e w2 ⟨rfl, b2⟩
        go_wp2_with fail
        refine (HM.out _ (HT.out.2.below b2)).mono ?_
        rintro e w3 ⟨rfl, b3⟩
        have b23 := b2.trans (b3.mono b2.size)
        obtain ⟨z0, z1, z2, z3, z4⟩ := (huq.below b23).cells
        go_wp2_with fail
        refine (HB.out _ (HT.out.1.below b23) (HR.out.below b23)).mono ?_
        rintro e w4 ⟨rfl, b4⟩
        go_wp2
        go_ret
        exact ⟨rfl, Below_in (b23.trans (b4.mono b23.size))⟩
end Go.Proofs.YtdgnhcbhbpffmaaGreatDoor
/- The document's own begins and Within, walked. -/
namespace Go.Proofs.YtdgnhcbhbpffmaaGreatDoor
open Go.ChangeShapes Go.WideShapes Go.ChangeAt Go.RowKit K O6
set_option linter.unusedVariables false

theorem Below_drewNc {B : Nat} {a b : World} (h : Below B a b) (n : Nat) : Below B a (b.drewN n) := ⟨h.os, h.tape, h.output, h.size, h.block⟩
theorem within_long {a b : List Nat} (h : b.length < a.length) : within a b = false := by
  cases hw : within a b with
  | false => rfl
  | true =>
    obtain ⟨t, rfl⟩ := (O6.within_iff a b).1 hw
    simp at h; omega
theorem within_diff {a b : List Nat} {i : Nat} (hi : i < a.length) (h : a.getD i 0 ≠ b.getD i 0) : within a b = false := by
  cases hw : within a b with
  | false => rfl
  | true =>
    obtain ⟨t, rfl⟩ := (O6.within_iff a b).1 hw
    refine absurd ?_ h
    rw [List.getD, List.getD, List.getElem?_append_left hi]
theorem within_same : ∀ {a b : List Nat}, a.length ≤ b.length → (∀ j, j < a.length → a.getD j 0 = b.getD j 0) → within a b = true
  | [], b, _, _ => (O6.within_iff [] b).2 ⟨b, rfl⟩
  | x :: a, [], h, _ => by simp at h
  | x :: a, y :: b, h, hj => by
    have h1 : x = y := hj 0 (by simp)
    obtain ⟨t, rfl⟩ := (O6.within_iff a b).1 (within_same (a := a) (b := b) (by simp at h; omega) (fun j h2 => by have := hj (j + 1) (by simp; omega); simpa using this))
    exact (O6.within_iff _ _).2 ⟨t, by rw [h1]; rfl⟩
def BeRel (a b : List Nat) (w : World) (g : Nat) (v4 : Value) (wr : World) : Prop :=
  ∃ i, i + g = a.length ∧ v4 = .int .i64 (i : Nat) ∧ (∀ j, j < i → a.getD j 0 = b.getD j 0) ∧ ∃ m, wr = w.drewN m
/-- Whether one text's arcs begin another's: false, if one is none's. -/
def wi (r s : List UInt8) : Bool := (arcs r).isSome && ((arcs s).isSome && within (arL r) (arL s))
theorem arL_len (s : List UInt8) : (arL s).length ≤ 128 := by
  unfold arL
  cases h : arcs s with
  | none => simp
  | some l => exact (isArcs_len ((arcs_iff s l).1 h).1).2
end Go.Proofs.YtdgnhcbhbpffmaaGreatDoor
/- The document's own Child, walked. -/
namespace Go.Proofs.YtdgnhcbhbpffmaaGreatDoor
open Go.ChangeShapes Go.WideShapes Go.ChangeAt Go.RowKit K O6
set_option linter.unusedVariables false

theorem ownI_empty (w : World) (B : Nat) (T : TypeId) (hB : B ≤ w.heap.size) : OwnI (w.alloc (.cells #[] T)) B T (.slice (some ⟨w.heap.size, 0, none⟩) 0 0) [] :=
  ⟨rfl, .inr ⟨w.heap.size, 0, _, rfl, hB, rowNew w _, Nat.le_refl _, by unfold maxLen; omega, rfl, rfl⟩⟩
theorem OwnI.putAll {w : World} {B : Nat} {T : TypeId} {v : Value} {cs ds : List Nat} (h : w.ownsRow B T 1 v (cs.length + ds.length) (nums cs ++ nums ds)) : OwnI w B T v (cs ++ ds) := by
  unfold OwnI
  rw [List.length_append, nums_app]
  exact h
def chE (s : List UInt8) (x : Int) : Nat := match arcs s with
  | none => 60
  | some l => if inR x then (if isArcs (l ++ [x.toNat]) then 0 else 60) else 1
def chS (s : List UInt8) (x : Int) : List UInt8 := match arcs s with
  | none => []
  | some l => if inR x then (if isArcs (l ++ [x.toNat]) then put (l ++ [x.toNat]) else []) else []
theorem ch_none {s : List UInt8} (h : arcs s = none) (x : Int) : chE s x = 60 ∧ chS s x = [] := by unfold chE chS; rw [h]; exact ⟨rfl, rfl⟩
theorem ch_far {s : List UInt8} {l : List Nat} (h : arcs s = some l) {x : Int} (hx : inR x = false) : chE s x = 1 ∧ chS s x = [] := by
  unfold chE chS; rw [h]; simp [hx]
theorem ch_some {s : List UInt8} {l : List Nat} (h : arcs s = some l) {x : Int} (hx : inR x = true) :
    chE s x = (if isArcs (l ++ [x.toNat]) then 0 else 60) ∧ chS s x = (if isArcs (l ++ [x.toNat]) then put (l ++ [x.toNat]) else []) := by
  unfold chE chS; rw [h]; simp [hx]
end Go.Proofs.YtdgnhcbhbpffmaaGreatDoor
/- strings.Builder's WriteString, walked at this translation. -/
namespace Go.Proofs.YtdgnhcbhbpffmaaGreatDoor
open Go.ChangeShapes Go.WideShapes Go.ChangeAt Go.RowKit K
set_option linter.unusedVariables false

/-- A builder in block b, that has these bytes, with all that is its own behind B. -/
def Bld (B b : Nat) (l : List UInt8) (w : World) : Prop := Lib.IsBuilder 126 5 B b (Lib.byteCells l) w
theorem bytes_cells (l : List UInt8) : Lib.strCells (bs l) = Lib.byteCells l := by
  unfold Lib.strCells Lib.byteCells
  rw [bs_toList]
theorem cells_app (a b : List UInt8) : Lib.byteCells (a ++ b) = Lib.byteCells a ++ Lib.byteCells b := by
  unfold Lib.byteCells; rw [List.map_append]
theorem cells_len (a : List UInt8) : (Lib.byteCells a).length = a.length := by
  unfold Lib.byteCells; rw [List.length_map]

theorem info_b : (Tryz.prog.info? 126).map (·.size) = some 2 := by kernel_rfl
theorem info_u : (Tryz.prog.info? 5).map (fun i => (i.zero, i.size, i.bytes)) = some (some (.int .u8 0), 1, 1) := by kernel_rfl
set_option maxHeartbeats 1000000 in
set_option maxRecDepth 100000 in
theorem check_used (b : Nat) (w : World) (h0 : w.cell? ⟨b, 0, none⟩ = some (.pointer (some ⟨b, 0, none⟩))) :
    Calls Tryz.prog 101 #[.pointer (some ⟨b, 0, none⟩)] w fun e w' => e = .returned (.tuple #[]) ∧ w' = w := by
  obtain ⟨j, hj, _⟩ := Option.map_eq_some_iff.1 info_b
  go_enter Tryz.func101, Tryz.ntmps101
  go_wp2
  rw [Lib.run_neq_ptr_same w _ Tryz.underlying123 hj]
  go_wp2
  go_end0
  exact ⟨rfl, rfl⟩
set_option maxHeartbeats 1000000 in
set_option maxRecDepth 100000 in
theorem check_fresh (b : Nat) (w : World) (h0 : w.cell? ⟨b, 0, none⟩ = some (.pointer none)) (hsh : w.shape? b = some (126, 2)) (hfz : w.frozen? ⟨b, 0, none⟩ = false) :
    Calls Tryz.prog 101 #[.pointer (some ⟨b, 0, none⟩)] w fun e w' => e = .returned (.tuple #[]) ∧ w' = w.setCell ⟨b, 0, none⟩ (.pointer (some ⟨b, 0, none⟩)) := by
  obtain ⟨j, hj, hjs⟩ := Option.map_eq_some_iff.1 info_b
  go_enter Tryz.func101, Tryz.ntmps101
  go_wp2
  rw [Lib.run_to_unsafe w ⟨b, 0, none⟩ Tryz.underlying123 Tryz.underlying163 hj (by rw [hjs]; decide) hsh (Nat.zero_lt_succ 1)]
  simp only [Result.andThen]
  rw [Oper.upon_value]
  go_wp2
  rw [run_callFunc_extern Tryz.func121 (by kernel_rfl) (by kernel_rfl) (by kernel_rfl) (e := Extern.AbiNoEscape.same) (by kernel_rfl)]
  rw [Lib.run_noEscape]
  simp only [Result.andThen]
  rw [Oper.upon_value]
  go_wp2
  rw [Lib.run_from_unsafe w ⟨b, 0, none⟩ Tryz.underlying163 Tryz.underlying123 hj hsh (by kernel_rfl)]
  simp only [Result.andThen]
  rw [Oper.upon_value]
  go_wp2
  go_end0
  exact ⟨rfl, rfl⟩
/-- Blocks of another type than a builder's bytes, but for block b, are as they were. -/
def Oth (b : Nat) (w w' : World) : Prop := ∀ (k : Nat) (cs : Array Value) (T : TypeId) (fr : Nat × Nat), w.heap[k]? = some (.cells cs T fr) → T ≠ 5 → k ≠ b → w'.heap[k]? = w.heap[k]?
theorem check_any (B b : Nat) (cs : List Value) (w : World) (h : Lib.IsBuilder 126 5 B b cs w) :
    Calls Tryz.prog 101 #[.pointer (some ⟨b, 0, none⟩)] w fun e w' => e = .returned (.tuple #[]) ∧ (Lib.BuilderAt 126 5 B b (.pointer (some ⟨b, 0, none⟩)) cs w' ∧ Below B w w' ∧ Oth b w w') := by
  rcases h with h | h
  · refine (check_fresh b w h.cell0 h.shape h.frozen0).mono ?_
    rintro e w' ⟨rfl, rfl⟩
    exact ⟨rfl, h.used _, (Below.refl B w).setCell (p := ⟨b, 0, none⟩) h.1 _, fun k _ _ _ _ _ hk => Below.heap_setCell _ _ _ _ hk⟩
  · refine (check_used b w h.cell0).mono ?_
    rintro e w' ⟨rfl, rfl⟩
    exact ⟨rfl, h, Below.refl B _, fun _ _ _ _ _ _ _ => rfl⟩
set_option maxHeartbeats 2000000 in
set_option maxRecDepth 100000 in
theorem wstr (B b : Nat) (l s : List UInt8) (w : World) (h : Bld B b l w) (hlen : l.length + s.length ≤ 140737488355328) (hBw : B ≤ w.heap.size) :
    Calls Tryz.prog 76 #[.pointer (some ⟨b, 0, none⟩), .string (bs s)] w fun e w' => e = .returned (.tuple #[.int .i64 (s.length : Nat), .nilIface]) ∧ (Bld B b (l ++ s) w' ∧ Below B w w' ∧ Oth b w w') := by
  unfold Bld at h
  have hlc := cells_len l
  obtain ⟨i0, hi, hz0, hz1, hz2⟩ := info_parts info_u
  have hcells : Lib.byteCells (l ++ s) = Lib.byteCells l ++ Lib.strCells (bs s) := by rw [cells_app, bytes_cells]
  have HCL := Lib.hid hcells
  have HB := Lib.hid (show ∀ w', Bld B b (l ++ s) w' = Lib.IsBuilder 126 5 B b (Lib.byteCells (l ++ s)) w' from fun _ => rfl)
  have hsz : (bs s).size = s.length := bs_size s
  generalize Lib.byteCells l = cs at *
  have hl2 : cs.length + (bs s).size ≤ 140737488355328 := by omega
  clear hcells hlc
  generalize Lib.byteCells (l ++ s) = ds at *
  have hs2 : s.length ≤ 140737488355328 := by omega
  have HSZ := Lib.hid hsz
  clear hsz
  go_enter Tryz.func76, Tryz.ntmps76
  go_wp2_with (go_at_call 101; refine (check_any B b cs _ h).mono ?_)
  rintro e w1 ⟨rfl, h1, hb1, ho1⟩
  obtain ⟨hB, v, hbk, hown, hne⟩ := h1
  have c0 : w1.cell? ⟨b, 0, none⟩ = some (.pointer (some ⟨b, 0, none⟩)) := by rw [Lib.cell_of_heap hbk]; rfl
  have c1 : w1.cell? ⟨b, 1, none⟩ = some v := by rw [Lib.cell_of_heap hbk]; rfl
  go_wp2_with (at_builtin; refine Lib.wpList_append_own_string _ rfl _ _ 124 9 rfl B 5 i0 Tryz.underlying124 Tryz.underlying9 hi hz0 hz1 hz2 _ _ _ rfl hown (bs s) rfl ?c3 ?c4 ?c5 ?_)
  case c3 => unfold maxLen; omega
  case c4 => omega
  case c5 => have := hb1.size; omega
  intro v' w2 hown' hgrow _
  have hlt : b < w1.heap.size := lt_of_block hbk
  have hb2 : w2.heap[b]? = some (.cells #[.pointer (some ⟨b, 0, none⟩), v] 126 (0, 0)) := by
    rw [hgrow.block b hlt (fun e => hne e.symm)]
    exact hbk
  have d0 : w2.cell? ⟨b, 0, none⟩ = some (.pointer (some ⟨b, 0, none⟩)) := by rw [Lib.cell_of_heap hb2]; rfl
  have d1 : w2.cell? ⟨b, 1, none⟩ = some v := by rw [Lib.cell_of_heap hb2]; rfl
  have f1 : w2.frozen? ⟨b, 1, none⟩ = false := Lib.frozen_of_heap hb2 1
  obtain ⟨ao, n', cap, rfl⟩ : ∃ ao n' cap, v' = .slice ao n' cap := by
    rcases hown'.2 with ⟨hv, _⟩ | ⟨g, cap, cur, hv, _⟩
    · exact ⟨_, _, _, hv⟩
    · exact ⟨_, _, _, hv⟩
  go_wp2
  go_ret2
  refine ⟨rfl, ?_, ?_, ?_⟩
  · rw [HB.out, HCL.out]
    exact .inr (Lib.BuilderAt.put (T := 126) (e := 5) hB hb2 (bs' := cs ++ Lib.strCells (bs s)) (by have hq := hown'; rw [← HSZ.out] at hq; simpa [Lib.strCells_length] using hq) (by decide))
  · exact (hb1.grown hgrow (by have := hb1.size; omega) (fun k hk => (hown.lt k hk).1)).setCell (p := ⟨b, 1, none⟩) hB _
  · intro k cs T fr hk hT hkb
    have h1 := ho1 k cs T fr hk hT hkb
    rw [Below.heap_setCell _ _ _ _ hkb, hgrow.block k (lt_of_block (h1.trans hk)) (fun e => Lib.ownBlock_ne hown (h1.trans hk) hT e.symm)]
    exact h1
/-- What a builder is, stays, whatever is made behind. -/
theorem own_below {w w' : World} {B : Nat} {T : TypeId} {n : Nat} {v : Value} {m : Nat} {xs : List Value} (h : w.ownsRow B T n v m xs) (k : Below w.heap.size w w') : w'.ownsRow B T n v m xs := by
  refine ⟨h.1, ?_⟩
  rcases h.2 with hn | ⟨g, cap, cur, h1, h2, h3, h4⟩
  · exact .inl hn
  · exact .inr ⟨g, cap, cur, h1, h2, (k.block g (lt_of_block h3)).trans h3, h4⟩
theorem bld_below {w w' : World} {B b : Nat} {l : List UInt8} (h : Bld B b l w) (k : Below w.heap.size w w') : Bld B b l w' := by
  unfold Bld at *
  rcases h with ⟨hB, v, hbk, hown, hne⟩ | ⟨hB, v, hbk, hown, hne⟩
  · exact .inl ⟨hB, v, (k.block b (lt_of_block hbk)).trans hbk, own_below hown k, hne⟩
  · exact .inr ⟨hB, v, (k.block b (lt_of_block hbk)).trans hbk, own_below hown k, hne⟩
theorem own_set {w : World} {B : Nat} {e : TypeId} {n : Nat} {v : Value} {m : Nat} {xs : List Value} (h : w.ownsRow B e n v m xs) {k : Nat} {cs : Array Value} {T : TypeId} {fr : Nat × Nat} (hk : w.heap[k]? = some (.cells cs T fr)) (hT : T ≠ e) (i : Nat) (u : Value) : (w.setCell ⟨k, i, none⟩ u).ownsRow B e n v m xs := by
  refine ⟨h.1, ?_⟩
  rcases h.2 with hn | ⟨g, cap, cur, h1, h2, h3, h4⟩
  · exact .inl hn
  · refine .inr ⟨g, cap, cur, h1, h2, (Below.heap_setCell _ _ _ _ ?_).trans h3, h4⟩
    intro hgk
    have hgk' : g = k := hgk
    rw [hgk', hk] at h3
    injection h3 with h3
    injection h3 with _ h3
    exact hT h3
theorem bld_set {w : World} {B b : Nat} {l : List UInt8} (h : Bld B b l w) {k : Nat} {cs : Array Value} {T : TypeId} {fr : Nat × Nat} (hk : w.heap[k]? = some (.cells cs T fr)) (hT : T ≠ 5) (hb : b ≠ k) (i : Nat) (u : Value) : Bld B b l (w.setCell ⟨k, i, none⟩ u) := by
  unfold Bld at *
  rcases h with ⟨hB, v, hbk, hown, hne⟩ | ⟨hB, v, hbk, hown, hne⟩
  · exact .inl ⟨hB, v, (Below.heap_setCell _ _ _ _ hb).trans hbk, own_set hown hk hT i u, hne⟩
  · exact .inr ⟨hB, v, (Below.heap_setCell _ _ _ _ hb).trans hbk, own_set hown hk hT i u, hne⟩
theorem bstr (B b : Nat) (l : List UInt8) (w : World) (h : Bld B b l w) (hBw : B ≤ w.heap.size) :
    Calls Tryz.prog 79 #[.pointer (some ⟨b, 0, none⟩)] w fun e w' => e = .returned (.string (bs l)) ∧ Below B w w' :=
  Tryz.Builder_String_any B b l w h hBw
end Go.Proofs.YtdgnhcbhbpffmaaGreatDoor
