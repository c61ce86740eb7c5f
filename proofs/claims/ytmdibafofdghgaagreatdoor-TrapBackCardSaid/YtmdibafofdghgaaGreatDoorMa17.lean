/- Texts on the program and on the document, joined: PduTb, PduQ, TrpP, PduI. -/
import Derived.Test.YtmdibafofdghgaaGreatDoorMa16
import Derived.Test.YtmdibafofdghgaaGreatDoorMa15
import Derived.Test.YtmdibafofdghgaaGreatDoorMa13
import Derived.Test.YtmdibafofdghgaaGreatDoorCards
import Derived.Test.YtmdibafofdghgaaGreatDoorTie
import Derived.Deep.DeepHandedRow
import Derived.Stop.LaidErr
/- What the variables hold, as the rows list them. -/
namespace Go.Proofs.YtmdibafofdghgaaGreatDoor
open Go.ChangeShapes Go.WideShapes Go.ChangeAt Go.RowKit K O6
set_option linter.unusedVariables false

theorem starE : "*" ++ "errors.errorString" = "*errors.errorString" := by decide
theorem rowE (u : TypeId) (h : Tryz.prog.typeName? 3 u = some "*errors.errorString") : u = 198 :=
  typeName_ptr_named (nm := "errors.errorString") (by rw [starE]; kernel_rfl) (by kernel_rfl) (by decide) u (by rw [starE]; exact h)
theorem pow_data : (Rows.laid_internal_strconv_uint64pow10 : DataW Unit) = Lib.tabData .u64 Lib.pow10Tab := rfl
/-- One of a row's errors. -/
theorem errOf {W : World} {n : String} {text : List UInt8} {r : List (String × DataW Unit)} {g : Nat} (h : laidMet Tryz.prog ((n, .iface "*errors.errorString" (.ptr (.agg [.lit (.string text)]))) :: r) W)
    (hg : Tryz.prog.globalNamed n = some g) (ht : (Tryz.prog.globals[g]?).map (·.type) = some 128) : ∃ te pe, W.cell? ⟨g, 0, none⟩ = some (.iface te pe) := by
  obtain ⟨a0, s0, hv0, -, -, -⟩ := laid_sentinel h hg ht Tryz.underlying128 rowE Tryz.underlying198 Tryz.underlying200 rfl rfl Tryz.underlying9 (by kernel_rfl) (by kernel_rfl)
  exact ⟨_, _, by have h0 := World.var?_cell hg hv0 0; simpa using h0⟩
theorem least_data : (Rows.laid_gong_pdu_least : DataW Unit) = Lib.tabData .i64 [-2147483648, 0, 0] := rfl
theorem leastOf {W : World} {L : List (String × DataW Unit)} (h : laidMetH Tryz.prog L W) (hp : (L.all fun x => x.2.handleName?.isNone) = true) (hm : ("gong/pdu.least", Rows.laid_gong_pdu_least) ∈ L) : Least W := by
  rw [least_data] at hm
  have hT := laid_tab h hp hm (by kernel_rfl : Tryz.prog.globalNamed "gong/pdu.least" = some 1) (by kernel_rfl : (Tryz.prog.globals[1]?).map (·.type) = some 81) Tryz.underlying81 Tryz.underlying3 (by kernel_rfl) (by kernel_rfl)
  have h0 := hT.cell (by kernel_rfl : Tryz.prog.globalNamed "gong/pdu.least" = some 1) 0 (by decide)
  have h1 := hT.cell (by kernel_rfl : Tryz.prog.globalNamed "gong/pdu.least" = some 1) 1 (by decide)
  have h2 := hT.cell (by kernel_rfl : Tryz.prog.globalNamed "gong/pdu.least" = some 1) 2 (by decide)
  exact ⟨h0, h1, h2⟩
theorem tabsOf {W : World} (h : laidMetH Tryz.prog [("math/bits.deBruijn32tab", Rows.laid_math_bits_deBruijn32tab), ("math/bits.deBruijn64tab", Rows.laid_math_bits_deBruijn64tab), ("internal/strconv.uint64pow10", Rows.laid_internal_strconv_uint64pow10), ("unicode/utf8.acceptRanges", Rows.laid_unicode_utf8_acceptRanges), ("strconv.ErrRange", Rows.laid_strconv_ErrRange), ("strconv.ErrSyntax", Rows.laid_strconv_ErrSyntax), ("gong/pdu.least", Rows.laid_gong_pdu_least), ("unicode/utf8.first", Rows.laid_unicode_utf8_first)] W) (hS : W.ShapedOpen Tryz.prog) : Tp W := by
  have hm : laidMet Tryz.prog [("math/bits.deBruijn32tab", Rows.laid_math_bits_deBruijn32tab), ("math/bits.deBruijn64tab", Rows.laid_math_bits_deBruijn64tab), ("internal/strconv.uint64pow10", Rows.laid_internal_strconv_uint64pow10), ("unicode/utf8.acceptRanges", Rows.laid_unicode_utf8_acceptRanges), ("strconv.ErrRange", Rows.laid_strconv_ErrRange), ("strconv.ErrSyntax", Rows.laid_strconv_ErrSyntax), ("gong/pdu.least", Rows.laid_gong_pdu_least), ("unicode/utf8.first", Rows.laid_unicode_utf8_first)] W := by
    have h2 := h
    rw [MakeChecks.laidMetH_plain _ _ _ (by kernel_rfl)] at h2
    exact h2
  have h5 := hm.tail.tail.tail.tail
  refine ⟨⟨Tryz.laysM147.s1_3 W hS, errOf h5.tail (by kernel_rfl) (by kernel_rfl), errOf h5 (by kernel_rfl) (by kernel_rfl), ?_⟩, leastOf h (by kernel_rfl) (List.Mem.tail _ (List.Mem.tail _ (List.Mem.tail _ (List.Mem.tail _ (List.Mem.tail _ (List.Mem.tail _ (List.Mem.head _)))))))⟩
  exact laid_tab (zs := Lib.pow10Tab) h (by kernel_rfl) (by rw [← pow_data]; exact (List.Mem.tail _ (List.Mem.tail _ (List.Mem.head _)))) (by kernel_rfl : Tryz.prog.globalNamed "internal/strconv.uint64pow10" = some 7) (by kernel_rfl : (Tryz.prog.globals[7]?).map (·.type) = some 207) Tryz.underlying207 Tryz.underlying149 (by kernel_rfl) (by kernel_rfl)
end Go.Proofs.YtmdibafofdghgaaGreatDoor
/- Units' elements are whole, and no longer than any that tells them: plain mathematics, of no program. -/
namespace Go.Proofs.YtmdibafofdghgaaGreatDoor
open Go.RowKit K P1 B5
set_option linter.unusedVariables false
namespace D8
theorem prs_parts : ∀ (n a c : Nat) (l : List UInt8) (ps : List (Nat × List UInt8)), l.length ≤ n → a ≤ 32 → prt c l = .ok ps → (∀ p ∈ ps, isMade p.1 = true → ∃ cs, prs (a + 1) p.2 = .ok cs) → ∃ f, prs a l = .ok f
  | n, a, c, l, ps, hn, ha, hp, hm => by
    by_cases hl : l = []
    · subst hl
      rw [prs_nil]
      exact ⟨_, rfl⟩
    · cases n with
      | zero => exact absurd (List.length_eq_zero_iff.1 (by omega)) hl
      | succ n =>
        obtain ⟨hx, q, hq, rfl⟩ := prt_inv8 hp hl
        obtain ⟨_, _, _, _, h5⟩ := nx_of hx
        obtain ⟨r, hr⟩ := prs_parts n a (c + 1) (nxR l) q (by omega) ha hq (fun p hp => hm p (List.mem_cons_of_mem _ hp))
        rw [prs_step hl, if_neg (by rw [hx]; simp), if_neg (by omega)]
        by_cases hmd : isMade (nxT l) = true
        · obtain ⟨cs, hcs⟩ := hm (nxT l, nxB l) (by simp) hmd
          have hcs' : prs (a + 1) (nxB l) = .ok cs := hcs
          rw [if_pos hmd, hcs', hr]
          exact ⟨_, rfl⟩
        · rw [if_neg hmd, hr]
          exact ⟨_, rfl⟩
theorem bind_whole {p : Nat × List UInt8} {x : Bd} (h : deB p = some x) {a : Nat} (ha : a ≤ 32) : ∃ cs, prs a p.2 = .ok cs := by
  obtain ⟨_, _, q1, q2, hp, c1, _, _, _, c5⟩ := bind_told h
  refine prs_parts _ a 0 p.2 _ (Nat.le_refl _) ha hp ?_
  intro q hq hm
  simp only [List.mem_cons, List.not_mem_nil, or_false] at hq
  rcases hq with rfl | rfl
  · rw [c1] at hm; exact absurd hm (by decide)
  · rw [c5] at hm; cases hm
theorem deL_mem : ∀ (ps : List (Nat × List UInt8)) (l : List Bd), deL ps = some l → ∀ p ∈ ps, ∃ x, deB p = some x
  | [], l, _, p, hp => by cases hp
  | q :: ps, l, h, p, hp => by
    have h' : (match deB q with | none => none | some x => match deL ps with | none => none | some l => some (x :: l)) = some l := h
    cases h1 : deB q with
    | none => rw [h1] at h'; cases h'
    | some x =>
      rw [h1] at h'
      cases h2 : deL ps with
      | none => rw [h2] at h'; cases h'
      | some l2 =>
        rcases List.mem_cons.1 hp with rfl | hp
        · exact ⟨x, h1⟩
        · exact deL_mem ps l2 h2 p hp
theorem deU_inv {t : Int} {b : List UInt8} {u : Un} (h : deU t b = some u) : ∃ (p1 p2 p3 p4 : Nat × List UInt8) (qs : List (Nat × List UInt8)), prt 0 b = .ok [p1, p2, p3, p4] ∧ (p1.1 = 2 ∧ p2.1 = 2 ∧ p3.1 = 2 ∧ p4.1 = 48 ∧ nOk p1.2 = true ∧ nOk p2.2 = true ∧ nOk p3.2 = true) ∧ prt 0 p4.2 = .ok qs ∧ deL qs = some u.l ∧ u = ⟨t, nv p1.2, nv p2.2, nv p3.2, u.l⟩ ∧ u.ok = true := by
  unfold deU at h
  cases hp : prt 0 b with
  | error e => rw [hp] at h; cases h
  | ok ps =>
    rw [hp] at h
    match ps, h with
    | [p1, p2, p3, p4], h =>
      have h' : (if p1.1 = 2 ∧ p2.1 = 2 ∧ p3.1 = 2 ∧ p4.1 = 48 ∧ nOk p1.2 = true ∧ nOk p2.2 = true ∧ nOk p3.2 = true then
          match prt 0 p4.2 with
          | .ok ps => match deL ps with
            | some l => if Un.ok ⟨t, nv p1.2, nv p2.2, nv p3.2, l⟩ then some ⟨t, nv p1.2, nv p2.2, nv p3.2, l⟩ else none
            | none => none
          | .error _ => none
        else none) = some u := h
      by_cases hc : p1.1 = 2 ∧ p2.1 = 2 ∧ p3.1 = 2 ∧ p4.1 = 48 ∧ nOk p1.2 = true ∧ nOk p2.2 = true ∧ nOk p3.2 = true
      · rw [if_pos hc] at h'
        cases hq : prt 0 p4.2 with
        | error e => rw [hq] at h'; cases h'
        | ok qs =>
          rw [hq] at h'
          have h2 : (match deL qs with
            | some l => if Un.ok ⟨t, nv p1.2, nv p2.2, nv p3.2, l⟩ then some ⟨t, nv p1.2, nv p2.2, nv p3.2, l⟩ else none
            | none => none) = some u := h'
          cases hl : deL qs with
          | none => rw [hl] at h2; cases h2
          | some l =>
            rw [hl] at h2
            have h3 : (if Un.ok ⟨t, nv p1.2, nv p2.2, nv p3.2, l⟩ then some (⟨t, nv p1.2, nv p2.2, nv p3.2, l⟩ : Un) else none) = some u := h2
            by_cases hk : Un.ok ⟨t, nv p1.2, nv p2.2, nv p3.2, l⟩ = true
            · rw [if_pos hk] at h3
              obtain rfl := Option.some.inj h3
              exact ⟨p1, p2, p3, p4, qs, rfl, hc, hq, hl, rfl, hk⟩
            · rw [if_neg hk] at h3; cases h3
      · rw [if_neg hc] at h'; cases h'
/-- An element that tells a unit is one element, whole; its shortest form is the unit's, and no longer. -/
theorem unit_whole {t : Int} {b : List UInt8} {u : Un} (hb : b.length < 4294967296) (h : deU t b = some u) : ∃ f, wh (put t.toNat b) = .ok f ∧ f.enc = u.el ∧ u.el.length ≤ (put t.toNat b).length := by
  obtain ⟨hok, ht, _⟩ := unit_told h
  obtain ⟨h1, _⟩ := (Un.ok_iff u).1 hok
  rw [ht] at h1
  have hT : isTag t.toNat = true ∧ t.toNat < 256 ∧ isMade t.toNat = true := by
    rcases h1 with h | h | h <;> (rw [h]; decide)
  obtain ⟨p1, p2, p3, p4, qs, hp, ⟨c1, c2, c3, c4, _⟩, hq, hl, _, _⟩ := deU_inv h
  obtain ⟨f4, hf4⟩ := prs_parts _ 3 0 p4.2 qs (Nat.le_refl _) (by omega) hq (fun p hp _ => by obtain ⟨x, hx⟩ := deL_mem _ _ hl p hp; exact bind_whole hx (by omega))
  obtain ⟨f2, hf2⟩ := prs_parts _ 2 0 b _ (Nat.le_refl _) (by omega) hp (by
    intro q hq hm
    simp only [List.mem_cons, List.not_mem_nil, or_false] at hq
    rcases hq with rfl | rfl | rfl | rfl
    · rw [c1] at hm; exact absurd hm (by decide)
    · rw [c2] at hm; exact absurd hm (by decide)
    · rw [c3] at hm; exact absurd hm (by decide)
    · exact ⟨f4, hf4⟩)
  obtain ⟨x1, x2, x3, x4⟩ := nx_put t.toNat b [] hT.1 hT.2.1 hb
  rw [List.append_nil] at x1 x2 x3 x4
  have hw : ∃ f, wh (put t.toNat b) = .ok f := by
    rw [wh_eq x1 x4, prs_step (nxOk_ne x1), if_neg (by rw [x1]; simp), if_neg (by omega), x2, x3, x4, if_pos hT.2.2, hf2, prs_nil]
    exact ⟨_, rfl⟩
  obtain ⟨f, hw⟩ := hw
  have he := unit_short hb h hw
  exact ⟨f, hw, he, by rw [← he]; exact (wh_again hw).2.1⟩
end D8
end Go.Proofs.YtmdibafofdghgaaGreatDoor
/- Traps and their messages: which may be, what is told, there and back, cut short: plain mathematics, of no program. -/
namespace Go.Proofs.YtmdibafofdghgaaGreatDoor
open Go.RowKit K P1 B5
open D8 (Bd Un lst deU)
set_option linter.unusedVariables false
namespace T9

/-! ### An element with more behind it, and cut short -/
theorem byt_app {l : List UInt8} (h : l ≠ []) (r : List UInt8) : byt (l ++ r) 0 = byt l 0 := by
  cases l with
  | nil => exact absurd rfl h
  | cons a l => rfl
theorem l_app {l : List UInt8} (h : lOk l = true) (r : List UInt8) : lOk (l ++ r) = true ∧ lV (l ++ r) = lV l ∧ lK (l ++ r) = lK l := by
  obtain ⟨hne, hc⟩ := (lOk_iff l).1 h
  have h0 := byt_app hne r
  have hK : lK (l ++ r) = lK l := by unfold lK; rw [h0]
  refine ⟨(lOk_iff _).2 ⟨by simp [hne], ?_⟩, ?_, hK⟩
  · rw [hK, h0, List.length_append]
    rcases hc with h | ⟨a, b, c⟩
    · exact .inl h
    · exact .inr ⟨a, b, by omega⟩
  · unfold lV
    rw [h0]
    rcases hc with h | ⟨a, b, c⟩
    · rw [if_pos h, if_pos h]
    · have hk : lK l = 1 + (byt l 0 - 128) := by unfold lK; rw [if_neg (by omega)]
      have hl := List.length_pos_iff.2 hne
      rw [if_neg (by omega), if_neg (by omega), List.drop_append_of_le_length (by omega), List.take_append_of_le_length (by rw [List.length_drop]; omega)]
theorem nx_app {l : List UInt8} (h : nxOk l = true) (r : List UInt8) : nxOk (l ++ r) = true ∧ nxR (l ++ r) = nxR l ++ r := by
  obtain ⟨h1, h2, h3, h4⟩ := (nxOk_iff l).1 h
  have hl := List.length_pos_iff.2 h1
  obtain ⟨a, b, c⟩ := l_app h3 r
  have hd : (l ++ r).drop 1 = l.drop 1 ++ r := List.drop_append_of_le_length (by omega)
  refine ⟨(nxOk_iff _).2 ⟨by simp [h1], by rw [byt_app h1]; exact h2, by rw [hd]; exact a, ?_⟩, ?_⟩
  · rw [hd, b, c, List.length_append]; omega
  · unfold nxR
    rw [hd, b, c, List.drop_append_of_le_length h4]
/-- An element that is cut short is none. -/
theorem put_cut (t : Nat) (b : List UInt8) (ht : isTag t = true) (ht2 : t < 256) (hb : b.length < 4294967296) (k : Nat) (hk : k < (put t b).length) : nxOk ((put t b).take k) = false := by
  cases hx : nxOk ((put t b).take k)
  · rfl
  · obtain ⟨_, _, _, x4⟩ := nx_put t b [] ht ht2 hb
    obtain ⟨_, hr⟩ := nx_app hx ((put t b).drop k)
    rw [List.append_nil] at x4
    rw [List.take_append_drop, x4] at hr
    have := congrArg List.length hr
    rw [List.length_append, List.length_drop, List.length_nil] at this
    omega

/-! ### Traps -/
structure Tr where
  c : List UInt8
  f : Bool
  r : Int
  n : Int
  o : List UInt8
  l : List Bd
def UPT : List UInt8 := [49, 46, 51, 46, 54, 46, 49, 46, 50, 46, 49, 46, 49, 46, 51, 46, 48]
def IDO : List UInt8 := [49, 46, 51, 46, 54, 46, 49, 46, 54, 46, 51, 46, 49, 46, 49, 46, 52, 46, 49, 46, 48]
def bU (n : Int) : Bd := ⟨UPT, 67, n, []⟩
def bI (o : List UInt8) : Bd := ⟨IDO, 6, 0, o⟩
/-- A trap's unit, with a tag. -/
def Tr.as (t : Tr) (g : Int) : Un := ⟨g, t.r, 0, 0, bU t.n :: bI t.o :: t.l⟩
def Tr.tag (t : Tr) : Int := if t.f then 166 else 167
def Tr.un (t : Tr) : Un := t.as t.tag
def Tr.ok (t : Tr) : Bool := (decide (1 ≤ t.c.length) && decide (t.c.length ≤ 64)) && t.un.ok
theorem Tr.ok_iff (t : Tr) : t.ok = true ↔ (1 ≤ t.c.length ∧ t.c.length ≤ 64) ∧ t.un.ok = true := by
  unfold Tr.ok; rw [Bool.and_eq_true, Bool.and_eq_true, decide_eq_true_eq, decide_eq_true_eq]
def Tr.fits (t : Tr) : Prop := (-9223372036854775808 ≤ t.n ∧ t.n ≤ 9223372036854775807) ∧ ∀ x ∈ t.l, x.fits
theorem Tr.fit {t : Tr} (h : t.fits) (g : Int) : ∀ x ∈ (t.as g).l, x.fits := by
  intro x hx
  rcases List.mem_cons.1 hx with rfl | hx
  · exact h.1
  · rcases List.mem_cons.1 hx with rfl | hx
    · exact ⟨(show (-9223372036854775808 : Int) ≤ 0 by omega), (show (0 : Int) ≤ 9223372036854775807 by omega)⟩
    · exact h.2 x hx
theorem as_ok (t : Tr) {g k : Int} (hg : g = 162 ∨ g = 166 ∨ g = 167) (hk : k = 162 ∨ k = 166 ∨ k = 167) : (t.as g).ok = (t.as k).ok := by
  rw [Bool.eq_iff_iff, D8.Un.ok_iff, D8.Un.ok_iff]
  constructor
  · rintro ⟨_, h⟩; exact ⟨hk, h⟩
  · rintro ⟨_, h⟩; exact ⟨hg, h⟩
theorem tag_of (t : Tr) : t.tag = 166 ∨ t.tag = 167 := by
  unfold Tr.tag; cases t.f
  · exact .inr rfl
  · exact .inl rfl
/-- A message of a community and a unit. -/
def msgB (c : List UInt8) (u : Un) : List UInt8 := [2, 1, 1] ++ (put 4 c ++ u.el)
def msg (c : List UInt8) (u : Un) : List UInt8 := put 48 (msgB c u)
theorem el_bound {u : Un} (h : u.ok = true) : u.el.length ≤ 271700100 := by
  have h1 := (D8.un_parts h).2.2
  have h2 := D8.short_le8 u.body.length
  unfold Un.el
  rw [put_len]
  omega
theorem msg_len {c : List UInt8} {u : Un} (hc : c.length ≤ 64) (h : u.ok = true) : (put 4 c).length ≤ 70 ∧ (msgB c u).length ≤ 271700200 ∧ (msg c u).length ≤ 271700300 := by
  have h1 := el_bound h
  have h2 := D8.short_le8 c.length
  have h3 : (put 4 c).length ≤ 70 := by rw [put_len]; omega
  have h4 : (msgB c u).length ≤ 271700200 := by
    unfold msgB; rw [List.length_append, List.length_append, List.length_cons, List.length_cons, List.length_cons, List.length_nil]; omega
  have h5 := D8.short_le8 (msgB c u).length
  exact ⟨h3, h4, by unfold msg; rw [put_len]; omega⟩
theorem as_len (t : Tr) (g k : Int) : (msg t.c (t.as g)).length = (msg t.c (t.as k)).length := by
  have e : (t.as g).el.length = (t.as k).el.length := by
    have hb : (t.as g).body = (t.as k).body := rfl
    unfold Un.el; rw [hb, put_len, put_len]
  have e2 : (msgB t.c (t.as g)).length = (msgB t.c (t.as k)).length := by
    unfold msgB; simp only [List.length_append, e]
  unfold msg
  rw [put_len, put_len, e2]
theorem one_put : ([2, 1, 1] : List UInt8) = put 2 [1] := by decide
/-- What a message's parts are. -/
theorem msg_parts {c : List UInt8} {u : Un} (hc : c.length ≤ 64) (h : u.ok = true) : nxOk (msg c u) = true ∧ nxT (msg c u) = 48 ∧ nxB (msg c u) = msgB c u ∧ nxR (msg c u) = [] ∧ prt 0 (msgB c u) = .ok [(2, [1]), (4, c), (u.t.toNat, u.body)] := by
  obtain ⟨h1, h2, h3⟩ := msg_len hc h
  obtain ⟨x1, x2, x3, x4⟩ := nx_put 48 (msgB c u) [] (by decide) (by decide) (by omega)
  rw [List.append_nil] at x1 x2 x3 x4
  have hb := (D8.un_parts h).2.2
  obtain ⟨ht, _⟩ := (D8.Un.ok_iff u).1 h
  have hT : isTag u.t.toNat = true ∧ u.t.toNat < 256 := by rcases ht with h | h | h <;> (rw [h]; decide)
  refine ⟨x1, x2, x3, x4, ?_⟩
  have := prt_puts [(2, [1]), (4, c), (u.t.toNat, u.body)] 0 (by
    intro p hp
    simp only [List.mem_cons, List.not_mem_nil, or_false] at hp
    rcases hp with h | h | h
    · subst h; exact ⟨(show isTag 2 = true by decide), (show (2 : Nat) < 256 by decide), by show ([1] : List UInt8).length < _; simp⟩
    · subst h; exact ⟨(show isTag 4 = true by decide), (show (4 : Nat) < 256 by decide), by show c.length < _; omega⟩
    · subst h; exact ⟨hT.1, hT.2, by show u.body.length < _; omega⟩) (by simp)
  rw [← this]
  simp [msgB, Un.el, one_put]
/-- The community and the unit's part of a message. -/
def m3 (s : List UInt8) : Option (List UInt8 × (Nat × List UInt8)) :=
  if nxOk s = true ∧ nxR s = [] ∧ nxT s = 48 then
    match prt 0 (nxB s) with
    | .ok [p1, p2, p3] => if p1.1 = 2 ∧ p2.1 = 4 ∧ nOk p1.2 = true ∧ nv p1.2 = 1 then some (p2.2, p3) else none
    | _ => none
  else none
theorem m3_no {s : List UInt8} (h : ¬ (nxOk s = true ∧ nxR s = [])) : m3 s = none := by
  unfold m3; rw [if_neg (fun e => h ⟨e.1, e.2.1⟩)]
theorem m3_msg {c : List UInt8} {u : Un} (hc : c.length ≤ 64) (h : u.ok = true) : m3 (msg c u) = some (c, (u.t.toNat, u.body)) := by
  obtain ⟨x1, x2, x3, x4, x5⟩ := msg_parts hc h
  unfold m3
  rw [if_pos ⟨x1, x4, x2⟩, x3, x5]
  show (if (2 : Nat) = 2 ∧ (4 : Nat) = 4 ∧ nOk [1] = true ∧ nv [1] = 1 then some (c, (u.t.toNat, u.body)) else none) = _
  rw [if_pos ⟨rfl, rfl, by decide, by decide⟩]
theorem m3_more {c : List UInt8} {u : Un} (hc : c.length ≤ 64) (h : u.ok = true) {r : List UInt8} (hr : r ≠ []) : m3 (msg c u ++ r) = none := by
  refine m3_no fun e => hr ?_
  obtain ⟨x1, x2, x3, x4, x5⟩ := msg_parts hc h
  have := (nx_app x1 r).2
  rw [x4, e.2] at this
  simpa using this.symm
theorem m3_cut {c : List UInt8} {u : Un} (hc : c.length ≤ 64) (h : u.ok = true) {k : Nat} (hk : k < (msg c u).length) : m3 ((msg c u).take k) = none := by
  obtain ⟨h1, h2, h3⟩ := msg_len hc h
  refine m3_no fun e => ?_
  have := put_cut 48 (msgB c u) (by decide) (by decide) (by omega) k hk
  rw [show put 48 (msgB c u) = msg c u from rfl, e.1] at this
  cases this
/-- The trap of a community and a unit. -/
def ofU (c : List UInt8) (u : Un) : Option Tr :=
  match u.l with
  | a :: b :: l => if (u.t ≠ 162 ∧ a.o = UPT ∧ a.k = 67 ∧ b.o = IDO ∧ b.k = 6) ∧ Tr.ok ⟨c, u.t == 166, u.r, a.n, b.s, l⟩ = true then some ⟨c, u.t == 166, u.r, a.n, b.s, l⟩ else none
  | _ => none
theorem ofU_back (t : Tr) (h : t.ok = true) : ofU t.c t.un = some t := by
  obtain ⟨c, f, r, n, o, l⟩ := t
  have e : ((Tr.tag ⟨c, f, r, n, o, l⟩) == 166) = f := by cases f <;> rfl
  have e2 : Tr.tag ⟨c, f, r, n, o, l⟩ ≠ 162 := by
    rcases tag_of ⟨c, f, r, n, o, l⟩ with h | h <;> (rw [h]; decide)
  unfold ofU
  show (if (Tr.tag ⟨c, f, r, n, o, l⟩ ≠ 162 ∧ UPT = UPT ∧ (67 : Int) = 67 ∧ IDO = IDO ∧ (6 : Int) = 6) ∧ Tr.ok ⟨c, Tr.tag ⟨c, f, r, n, o, l⟩ == 166, r, n, o, l⟩ = true then some (⟨c, Tr.tag ⟨c, f, r, n, o, l⟩ == 166, r, n, o, l⟩ : Tr) else none) = _
  rw [e, if_pos ⟨⟨e2, rfl, rfl, rfl, rfl⟩, h⟩]
theorem ofU_no {c : List UInt8} {u : Un} (h : u.t = 162) : ofU c u = none := by
  unfold ofU
  split
  · rw [if_neg (fun e => e.1.1 h)]
  · rfl
theorem ofU_answer (c : List UInt8) (t : Tr) : ofU c (t.as 162) = none := ofU_no rfl
theorem ofU_ok {c : List UInt8} {u : Un} {t : Tr} (h : ofU c u = some t) : t.ok = true ∧ t.c = c := by
  unfold ofU at h
  split at h
  · split at h
    · next e => obtain rfl := Option.some.inj h; exact ⟨e.2, rfl⟩
    · cases h
  · cases h
/-- What a datagram tells. -/
def deM (s : List UInt8) : Option Tr :=
  match m3 s with
  | none => none
  | some m => match deU (m.2.1 : Nat) m.2.2 with
    | none => none
    | some u => ofU m.1 u
theorem deM_no {s : List UInt8} (h : m3 s = none) : deM s = none := by unfold deM; rw [h]
theorem deM_ok {s : List UInt8} {t : Tr} (h : deM s = some t) : t.ok = true := by
  unfold deM at h
  cases hm : m3 s with
  | none => rw [hm] at h; cases h
  | some m =>
    rw [hm] at h
    have h' : (match deU (m.2.1 : Nat) m.2.2 with | none => none | some u => ofU m.1 u) = some t := h
    cases hd : deU (m.2.1 : Nat) m.2.2 with
    | none => rw [hd] at h'; cases h'
    | some u => rw [hd] at h'; exact (ofU_ok h').1
theorem unit_is {t : Tr} {g : Int} (h : (t.as g).ok = true) (hf : t.fits) : (((t.as g).t.toNat : Nat) : Int) = (t.as g).t ∧ deU (t.as g).t (t.as g).body = some (t.as g) := by
  obtain ⟨ht, _⟩ := (D8.Un.ok_iff _).1 h
  exact ⟨by omega, D8.unit_back h (Tr.fit hf g)⟩
theorem deM_as {t : Tr} {g : Int} (hc : t.c.length ≤ 64) (h : (t.as g).ok = true) (hf : t.fits) : deM (msg t.c (t.as g)) = ofU t.c (t.as g) := by
  obtain ⟨e1, e2⟩ := unit_is h hf
  unfold deM
  rw [m3_msg hc h]
  show (match deU (((t.as g).t.toNat : Nat) : Int) (t.as g).body with | none => none | some u => ofU t.c u) = _
  rw [e1, e2]
/-- There and back. -/
theorem deM_back {t : Tr} (h : t.ok = true) (hf : t.fits) : deM (msg t.c t.un) = some t := by
  obtain ⟨⟨_, h2⟩, h3⟩ := (Tr.ok_iff t).1 h
  rw [show t.un = t.as t.tag from rfl] at *
  rw [deM_as h2 h3 hf]
  exact ofU_back t h
theorem deM_answer {t : Tr} (h : t.ok = true) (hf : t.fits) : deM (msg t.c (t.as 162)) = none := by
  obtain ⟨⟨_, h2⟩, h3⟩ := (Tr.ok_iff t).1 h
  have h4 : (t.as 162).ok = true := by
    rw [as_ok t (.inl rfl) (.inr (tag_of t))]; exact h3
  rw [deM_as h2 h4 hf, ofU_answer]
end T9
end Go.Proofs.YtmdibafofdghgaaGreatDoor
/- pdu's areBinds, Check, walked. -/
namespace Go.Proofs.YtmdibafofdghgaaGreatDoor
open Go.ChangeShapes Go.WideShapes Go.ChangeAt Go.RowKit K P1 B5
open D8 (Bd Un lst)
set_option linter.unusedVariables false

/-- Texts that are not too long for the program's walk. -/
def LimP (xs : List Bd) : Prop := ∀ x ∈ xs, x.o.length ≤ 1000000 ∧ x.s.length ≤ 1000000 ∧ x.fits
theorem LimP.lim {xs : List Bd} (h : LimP xs) : Lim xs := fun x hx => ⟨by have := (h x hx).1; omega, by have := (h x hx).2.1; omega, (h x hx).2.2⟩
theorem LimP.at {xs : List Bd} (h : LimP xs) {i : Nat} (hi : i < xs.length) : (xs.getD i nob).o.length ≤ 1000000 ∧ (xs.getD i nob).s.length ≤ 1000000 ∧ (xs.getD i nob).fits := by
  rw [List.getD_eq_getElem?_getD, List.getElem?_eq_getElem hi]
  exact h _ (List.getElem_mem hi)
set_option maxRecDepth 100000 in
set_option maxHeartbeats 1000000 in
theorem arebinds_walk (xs : List Bd) (ao : Option Addr) (cap : Nat) (hl : xs.length ≤ 140737488351232) (hx : LimP xs) (w : World) (T : Tabs w) (hr : RdB w ao xs) :
    Calls Tryz.prog 59 #[.slice ao xs.length cap] w fun e w' => e = .returned (.bool (decide (xs.length ≤ 4096) && xs.all Bd.ok)) ∧ Below w.heap.size w w' := by
  have HT := Lib.hid T
  clear T
  by_cases h4 : xs.length ≤ 4096
  · rw [decide_eq_true h4, Bool.true_and]
    have h4' : ((xs.length : Nat) : Int) ≤ 4096 := by omega
    go_enter Tryz.func59, Tryz.ntmps59
    go_wp2_with fail
    go_loopg [12] xs.length (fun g v wr => IbRel xs w g v wr)
    case atStart => exact ⟨0, by omega, rfl, rfl, Below.refl _ _⟩
    case round =>
      obtain ⟨i, hi, rfl, hall, hb⟩ := hrel
      cases gk with
      | zero =>
        obtain rfl : i = xs.length := by omega
        rw [List.take_length] at hall
        have HALL := Lib.hid hall
        clear hall
        go_wp2
        go_ret
        exact ⟨by rw [HALL.out]; rfl, hb⟩
      | succ g =>
        have hlt : i < xs.length := by omega
        obtain ⟨l1, l2, l3⟩ := hx.at hlt
        have HTK := Lib.hid (take_all hlt)
        have HNO := Lib.hid (fun h => all_not (xs := xs) hlt h)
        obtain ⟨x, hxe⟩ : ∃ x, xs.getD i nob = x := ⟨_, rfl⟩
        obtain ⟨b, off, rfl, hbl, c0, c1, c2, c3⟩ := (hr.below hb).at hlt hxe
        rw [hxe] at l1 l2 HTK HNO
        rw [hall] at HTK
        have hA := fun w1 (h : Tabs w1) => arcs_walk x.o l1 w1 h
        unfold ArPost at hA
        have hC := fun w1 (h : Tabs w1) => check_walk7 x.k x.n x.s l2 w1 h
        have hq := Bq.new wr x
        have ba := alloc_in wr (.cells #[.string (bs x.o), .int .i64 x.k, .int .i64 x.n, .string (bs x.s)] 48)
        have HTr := Lib.hid (HT.out.below (hb.trans (ba.mono hb.size)))
        clear hall hxe
        cases hx0 : O6.arcs x.o with
        | none =>
          have e : x.ok = false := by unfold Bd.ok; rw [hx0]; rfl
          have HAL := Lib.hid (HNO.out e)
          have e1 : (((arE x.o : Nat) : Int) != 0) = true := by rw [(ar_none hx0).1]; rfl
          have HA := Lib.hid hA
          clear hA hC e hx0 HTK HNO
          generalize arE x.o = E at *
          go_wp2_with fail
          refine (HA.out _ HTr.out).mono ?_
          rintro e w1 ⟨va, rfl, hoa, hb1⟩
          have hb2 := hb.trans ((Below_in hb1).mono hb.size)
          clear hb1
          go_wp2
          go_ret
          exact ⟨by rw [HAL.out]; rfl, hb2⟩
        | some l =>
          have e : x.ok = V7.ckV x.k x.n x.s := by unfold Bd.ok; rw [hx0]; rfl
          have e1 : arE x.o = 0 := (ar_some hx0).1
          rw [e1] at hA
          rw [e] at HTK HNO
          unfold V7.ckE at hC
          have HA := Lib.hid hA
          cases hk : V7.ckV x.k x.n x.s
          · have HAL := Lib.hid (HNO.out hk)
            rw [hk] at hC
            have HC := Lib.hid hC
            clear hA hC e e1 hx0 HTK HNO hk
            go_wp2_with fail
            refine (HA.out _ HTr.out).mono ?_
            rintro e w1 ⟨va, rfl, hoa, hb1⟩
            have HT1 := Lib.hid (HTr.out.below hb1)
            obtain ⟨z0, z1, z2, z3⟩ := (hq.below hb1).cells
            have hb2 := hb.trans ((Below_in hb1).mono hb.size)
            clear hb1
            go_wp2_with fail
            refine (HC.out _ HT1.out).mono ?_
            rintro e w2 ⟨rfl, d2⟩
            go_wp2
            go_ret
            exact ⟨by rw [HAL.out]; rfl, hb2.trans (d2.mono hb2.size)⟩
          · rw [hk] at hC HTK
            have HC := Lib.hid hC
            clear hA hC e e1 hx0 HNO hk
            go_wp2_with fail
            refine (HA.out _ HTr.out).mono ?_
            rintro e w1 ⟨va, rfl, hoa, hb1⟩
            have HT1 := Lib.hid (HTr.out.below hb1)
            obtain ⟨z0, z1, z2, z3⟩ := (hq.below hb1).cells
            have hb2 := hb.trans ((Below_in hb1).mono hb.size)
            clear hb1
            go_wp2_with fail
            refine (HC.out _ HT1.out).mono ?_
            rintro e w2 ⟨rfl, d2⟩
            go_wp2
            go_roundg g
            case measure => omega
            case rel => exact ⟨i + 1, by omega, by simp, HTK.out, hb2.trans (d2.mono hb2.size)⟩
  · have h4' : (4096 : Int) < ((xs.length : Nat) : Int) := by omega
    rw [decide_eq_false h4, Bool.false_and]
    go_enter Tryz.func59, Tryz.ntmps59
    go_wp2
    go_ret
    exact ⟨rfl, Below.refl _ _⟩
set_option maxRecDepth 100000 in
set_option maxHeartbeats 4000000 in
theorem check8_walk (u : Un) (ao : Option Addr) (cap : Nat) (hl : u.l.length ≤ 140737488351232) (hx : LimP u.l) (w : World) (T : Tp w) (hr : RdB w ao u.l) :
    Calls Tryz.prog 38 #[.agg #[.int .i64 u.t, .int .i64 u.r, .int .i64 u.a, .int .i64 u.i, .slice ao u.l.length cap]] w fun e w' => e = .returned (.int .i64 (ckU u : Nat)) ∧ Below w.heap.size w w' := by
  have hba := alloc_in w (.cells #[.int .i64 u.t, .int .i64 u.r, .int .i64 u.a, .int .i64 u.i, .slice ao u.l.length cap] 41)
  have huq := Uq.new 41 w u ao cap
  have hB := fun w1 (h : Tabs w1) (hr : RdB w1 ao u.l) => arebinds_walk u.l ao cap hl hx w1 h hr
  have HR := Lib.hid (hr.below hba)
  have HT := Lib.hid (T.below hba)
  have HN := Lib.hid (fun w1 => numbersof_walk u.t u.r u.a u.i ao u.l.length cap w1)
  have hM := fun w1 (h : Least w1) => maybe8_walk u.r u.a u.i w1 h
  have hI := fun w1 => istag8_walk u.t w1
  have he : u.ok = ((u.t == 162 || (u.t == 166 || u.t == 167)) && (nb u.r u.a u.i && (decide (u.l.length ≤ 4096) && u.l.all Bd.ok))) := by
    unfold Un.ok nb
    simp only [Bool.and_assoc]
  clear T hr
  unfold ckU
  rw [he]
  clear he
  cases hi : (u.t == 162 || (u.t == 166 || u.t == 167))
  · rw [hi] at hI
    have HI := Lib.hid hI
    rw [Bool.false_and]
    clear hI hM hB hi HN
    go_enter Tryz.func38, Tryz.ntmps38
    go_wp2_with fail
    refine (HI.out _).mono ?_
    rintro e w1 ⟨rfl, rfl⟩
    go_wp2
    go_ret
    exact ⟨rfl, hba⟩
  · rw [hi] at hI
    have HI := Lib.hid hI
    rw [Bool.true_and]
    cases hn : nb u.r u.a u.i
    · rw [hn] at hM
      have HM := Lib.hid hM
      rw [Bool.false_and]
      clear hI hM hB hi hn
      go_enter Tryz.func38, Tryz.ntmps38
      go_wp2_with fail
      refine (HI.out _).mono ?_
      rintro e w1 ⟨rfl, rfl⟩
      go_wp2_with fail
      refine (HN.out _).mono ?_
      rintro e w2 ⟨rfl, b2⟩
      go_wp2_with fail
      refine (HM.out _ (HT.out.2.below b2)).mono ?_
      rintro e w3 ⟨rfl, b3⟩
      go_wp2
      go_ret
      exact ⟨rfl, Below_in (b2.trans (b3.mono b2.size))⟩
    · rw [hn] at hM
      have HM := Lib.hid hM
      rw [Bool.true_and]
      cases hc : (decide (u.l.length ≤ 4096) && u.l.all Bd.ok)
      all_goals
        rw [hc] at hB
        have HB := Lib.hid hB
        clear hI hM hB hi hn hc
        go_enter Tryz.func38, Tryz.ntmps38
        go_wp2_with fail
        refine (HI.out _).mono ?_
        rintro e w1 ⟨rfl, rfl⟩
        go_wp2_with fail
        refine (HN.out _).mono ?_
        rintro e w2 ⟨rfl, b2⟩
        go_wp2_with fail
        refine (HM.out _ (HT.out.2.below b2)).mono ?_
        rintro e w3 ⟨rfl, b3⟩
        have b23 := b2.trans (b3.mono b2.size)
        obtain ⟨z0, z1, z2, z3, z4⟩ := (huq.below b23).cells
        go_wp2_with fail
        refine (HB.out _ (HT.out.1.below b23) (HR.out.below b23)).mono ?_
        rintro e w4 ⟨rfl, b4⟩
        go_wp2
        go_ret
        exact ⟨rfl, Below_in (b23.trans (b4.mono b23.size))⟩
end Go.Proofs.YtmdibafofdghgaaGreatDoor
