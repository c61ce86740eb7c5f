/- The laws of patterns, on calls that keep their word: works, GlobEscape. -/
import Derived.Test.YtmhmipbbbccfgaaGlbP
import Derived.Test.YtmhmipbbbccfgaaBok
namespace Go.Proofs.Ytmhmipbbbccfgaa
open Go.ChangeShapes Go.WideShapes Go.ChangeAt Go.RowKit K G13
set_option linter.unusedVariables false

/-- Why a text is no pattern; its pieces; whether a text matches it. -/
def eG (p : List UInt8) : Nat := if 256 < p.length then 2 else if (pieces p).isNone then 130 else 0
def lG (p : List UInt8) : List Pc := (pieces p).getD []
def mG (p s : List UInt8) : Bool := if eG p = 0 then mt (lG p) s else false
/-- What the program's calls are known to answer, in any world of which I; PR: how the pattern of a text lies in a world. -/
structure GOk (I : World → Prop) (PR : World → Nat → List UInt8 → Prop) : Prop where
  keepI : ∀ a b, I a → Below a.heap.size a b → I b
  keep : ∀ {w w' : World} {b : Nat} {p : List UInt8}, PR w b p → Below w.heap.size w w' → PR w' b p
  parse : ∀ (p : List UInt8) (w : World), p.length ≤ 140737488355327 → I w → Calls Try.prog 7 #[.string (bs p)] w fun e w' => Below w.heap.size w w' ∧ ((eG p = 0 ∧ ∃ b, e = .returned (.tuple #[.pointer (some ⟨b, 0, none⟩), .int .i64 0]) ∧ PR w' b p) ∨ (eG p ≠ 0 ∧ e = .returned (.tuple #[.pointer none, .int .i64 (eG p : Nat)])))
  matches2 : ∀ (w : World) (b : Nat) (p s : List UInt8), I w → PR w b p → s.length ≤ 10000 → Calls Try.prog 12 #[.pointer (some ⟨b, 0, none⟩), .string (bs s)] w fun e w' => e = .returned (.bool (mt (lG p) s)) ∧ Below w.heap.size w w'
  matchP : ∀ (p s : List UInt8) (w : World), p.length ≤ 140737488355327 → s.length ≤ 10000 → I w → Calls Try.prog 10 #[.string (bs p), .string (bs s)] w fun e w' => e = .returned (.tuple #[.bool (mG p s), .int .i64 (eG p : Nat)]) ∧ Below w.heap.size w w'
  text : ∀ (w : World) (b : Nat) (p : List UInt8), I w → PR w b p → Calls Try.prog 17 #[.pointer (some ⟨b, 0, none⟩)] w fun e w' => e = .returned (.string (bs p)) ∧ Below w.heap.size w w'
  plain : ∀ (w : World) (b : Nat) (p : List UInt8), I w → PR w b p → Calls Try.prog 15 #[.pointer (some ⟨b, 0, none⟩)] w fun e w' => e = .returned (.tuple #[.string (bs ((G13.plain (lG p)).getD [])), .bool (G13.plain (lG p)).isSome]) ∧ Below w.heap.size w w'
  escape : ∀ (s : List UInt8) (w : World), s.length ≤ 10000 → I w → Calls Try.prog 13 #[.string (bs s)] w fun e w' => e = .returned (.string (bs (esc13 s))) ∧ Below w.heap.size w w'
def xp : List UInt8 := [99, 111, 114, 101, 45, 42, 91, 48, 45, 51, 93]
def x2 : List UInt8 := [99, 111, 114, 101, 45, 114, 116, 114, 50]
def x9 : List UInt8 := [99, 111, 114, 101, 45, 114, 116, 114, 57]
theorem ex13 : eG xp = 0 ∧ mG xp x2 = true ∧ mG xp x9 = false := by
  have h : eG xp = 0 ∧ mu (lG xp) x2 = true ∧ mu (lG xp) x9 = false := by decide +kernel
  obtain ⟨h1, h2, h3⟩ := h
  unfold mG
  rw [h1, if_pos rfl, if_pos rfl, mt_mu, mt_mu]
  exact ⟨rfl, h2, h3⟩
theorem esc_len : ∀ s : List UInt8, s.length ≤ (esc13 s).length ∧ (esc13 s).length ≤ 2 * s.length
  | [] => by simp [esc13]
  | b :: r => by
    have := esc_len r
    rw [esc13]; split <;> simp only [List.length_cons] <;> omega
set_option maxRecDepth 100000 in
set_option maxHeartbeats 1000000 in
theorem works13_walk (I : World → Prop) (PR : World → Nat → List UInt8 → Prop) (F : GOk I PR) (w : World) (hw : I w) :
    Calls Try.prog 9 #[] w fun e w' => e = .returned (.bool true) ∧ Below w.heap.size w w' := by
  obtain ⟨m1, m2, m3⟩ := ex13
  have h1 := F.matchP xp x2 w (by decide) (by decide) hw
  have h2 := fun wx (b : Below w.heap.size w wx) => F.matchP xp x9 wx (by decide) (by decide) (F.keepI w wx hw b)
  rw [m1, m2] at h1
  rw [m1, m3] at h2
  have HC1 : bs xp = ({ data := #[99, 111, 114, 101, 45, 42, 91, 48, 45, 51, 93] } : ByteArray) := rfl
  have HC2 : bs x2 = ({ data := #[99, 111, 114, 101, 45, 114, 116, 114, 50] } : ByteArray) := rfl
  have HC3 : bs x9 = ({ data := #[99, 111, 114, 101, 45, 114, 116, 114, 57] } : ByteArray) := rfl
  rw [HC1, HC2] at h1
  rw [HC1, HC3] at h2
  have H1 := Lib.hid h1
  have H2 := Lib.hid h2
  clear h1 h2 m1 m2 m3 HC1 HC2 HC3 F hw
  go_enter Try.func9, Try.ntmps9
  go_wp2_with fail
  refine H1.out.mono ?_
  rintro e w1 ⟨rfl, b1⟩
  go_wp2_with fail
  refine (H2.out _ b1).mono ?_
  rintro e w2 ⟨rfl, b2⟩
  go_wp2
  go_ret
  exact ⟨rfl, b1.trans (b2.mono b1.size)⟩
theorem eG_esc {s : List UInt8} (h : (esc13 s).length ≤ 256) : eG (esc13 s) = 0 ∧ lG (esc13 s) = s.map Pc.one := by
  unfold eG lG
  rw [if_neg (by omega), pieces_esc]
  exact ⟨rfl, rfl⟩
theorem eG_big {p : List UInt8} (h : 256 < p.length) : eG p = 2 := by
  unfold eG; rw [if_pos h]
theorem mG_big {p : List UInt8} (h : 256 < p.length) (s : List UInt8) : mG p s = false := by
  unfold mG; rw [eG_big h, if_neg (by decide)]
theorem mG_esc {s : List UInt8} (h : (esc13 s).length ≤ 256) (t : List UInt8) : mG (esc13 s) t = (s == t) := by
  unfold mG; rw [(eG_esc h).1, if_pos rfl, (eG_esc h).2, mt_ones]
set_option maxRecDepth 100000 in
set_option maxHeartbeats 1000000 in
theorem globEscape_walk (I : World → Prop) (PR : World → Nat → List UInt8 → Prop) (F : GOk I PR) (s t : List UInt8) (hs : s.length ≤ 140737488351232) (ht : t.length ≤ 140737488351232) (w : World) (hw : I w) :
    Calls Try.prog 4 #[.string (bs s), .string (bs t)] w fun e w' => e = .returned (.bool true) ∧ Below w.heap.size w w' := by
  have HW := Lib.hid (works13_walk I PR F w hw)
  have HI := Lib.hid (fun wx (b : Below w.heap.size w wx) => F.keepI w wx hw b)
  have HF := Lib.hid F
  clear F
  by_cases h1 : 600 < s.length ∨ 600 < t.length
  · rcases Nat.lt_or_ge 600 s.length with h2 | h2
    · have e1 : (600 : Int) < ((s.length : Nat) : Int) := by omega
      clear h1 h2
      go_enter Try.func4, Try.ntmps4
      go_wp2_with fail
      refine HW.out.mono ?_
      rintro e w1 ⟨rfl, b1⟩
      go_wp2
      go_ret
      exact ⟨rfl, b1⟩
    · have e1 : ¬ (600 : Int) < ((s.length : Nat) : Int) := by omega
      have e2 : (600 : Int) < ((t.length : Nat) : Int) := by omega
      clear h1 h2
      go_enter Try.func4, Try.ntmps4
      go_wp2_with fail
      refine HW.out.mono ?_
      rintro e w1 ⟨rfl, b1⟩
      go_wp2
      go_ret
      exact ⟨rfl, b1⟩
  have e1 : ¬ (600 : Int) < ((s.length : Nat) : Int) := by omega
  have e2 : ¬ (600 : Int) < ((t.length : Nat) : Int) := by omega
  have hE := fun wx (b : Below w.heap.size w wx) => HF.out.escape s wx (by omega) (HI.out wx b)
  have hel := esc_len s
  have h1' := fun wx (b : Below w.heap.size w wx) => HF.out.matchP (esc13 s) s wx (by omega) (by omega) (HI.out wx b)
  have h2' := fun wx (b : Below w.heap.size w wx) => HF.out.matchP (esc13 s) t wx (by omega) (by omega) (HI.out wx b)
  have hP' := fun wx (b : Below w.heap.size w wx) => HF.out.parse (esc13 s) wx (by omega) (HI.out wx b)
  by_cases h2 : 256 < (esc13 s).length
  · have e3 : (256 : Int) < (((esc13 s).length : Nat) : Int) := by omega
    rw [mG_big h2, eG_big h2] at h1' h2'
    rw [eG_big h2] at hP'
    have H1 := Lib.hid h1'
    have H2 := Lib.hid h2'
    have HP := Lib.hid hP'
    have HE := Lib.hid hE
    clear h1 h2 hel h1' h2' hP' hE
    generalize esc13 s = P at *
    go_enter Try.func4, Try.ntmps4
    go_wp2_with fail
    refine HW.out.mono ?_
    rintro e w1 ⟨rfl, b1⟩
    go_wp2_with fail
    refine (HE.out _ b1).mono ?_
    rintro e w2 ⟨rfl, d2⟩
    have b2 := b1.trans (d2.mono b1.size)
    clear d2
    go_wp2_with fail
    refine (H1.out _ b2).mono ?_
    rintro e w3 ⟨rfl, d3⟩
    have b3 := b2.trans (d3.mono b2.size)
    clear d3
    go_wp2_with fail
    refine (H2.out _ b3).mono ?_
    rintro e w4 ⟨rfl, d4⟩
    have b4 := b3.trans (d4.mono b3.size)
    clear d4
    go_wp2
    go_ret
    exact ⟨rfl, b4⟩
  · have e3 : ¬ (256 : Int) < (((esc13 s).length : Nat) : Int) := by omega
    have h3 : (esc13 s).length ≤ 256 := by omega
    obtain ⟨q1, q2⟩ := eG_esc h3
    rw [mG_esc h3, q1] at h1' h2'
    rw [q1] at hP'
    have hpl := fun wx b (h : PR wx b (esc13 s)) (hb : Below w.heap.size w wx) => HF.out.plain wx b _ (HI.out wx hb) h
    rw [q2, plain_ones] at hpl
    have hss : (s == s) = true := beq_self_eq_true s
    rw [hss] at h1'
    obtain ⟨v, hv, hv2⟩ : ∃ v : Bool, (s == t) = v ∧ (v = true ↔ s = t) := ⟨_, rfl, beq_iff_eq⟩
    rw [hv] at h2'
    have H1 := Lib.hid h1'
    have H2 := Lib.hid h2'
    have HP := Lib.hid hP'
    have HE := Lib.hid hE
    have HPL := Lib.hid hpl
    have HV := Lib.hid hv
    clear h1 h2 hel h1' h2' hP' hE h3 q1 q2 hpl hss hv
    generalize esc13 s = P at *
    have HV2 := Lib.hid hv2
    clear hv2
    go_enter Try.func4, Try.ntmps4
    go_wp2_with fail
    refine HW.out.mono ?_
    rintro e w1 ⟨rfl, b1⟩
    go_wp2_with fail
    refine (HE.out _ b1).mono ?_
    rintro e w2 ⟨rfl, d2⟩
    have b2 := b1.trans (d2.mono b1.size)
    clear d2
    go_wp2_with fail
    refine (H1.out _ b2).mono ?_
    rintro e w3 ⟨rfl, d3⟩
    have b3 := b2.trans (d3.mono b2.size)
    clear d3
    go_wp2_with fail
    refine (H2.out _ b3).mono ?_
    rintro e w4 ⟨rfl, d4⟩
    have b4 := b3.trans (d4.mono b3.size)
    clear d4
    go_wp2_with fail
    refine (HP.out _ b4).mono ?_
    rintro e w5 ⟨d5, (⟨-, b, rfl, h5⟩ | ⟨h, -⟩)⟩
    rotate_left
    · exact absurd rfl h
    have b5 := b4.trans (d5.mono b4.size)
    clear d5
    have HX := Lib.hid (HPL.out _ _ h5 b5)
    clear h5
    go_wp2_with fail
    refine HX.out.mono ?_
    rintro e w6 ⟨rfl, d6⟩
    have b6 := b5.trans (d6.mono b5.size)
    clear d6
    cases v
    · have hq : (!s == t) = true := by rw [HV.out]; rfl
      have HQ := Lib.hid hq
      clear hq
      have h1 : ¬ bs s = bs t := fun h => by have := HV2.out.2 (bs_inj h); cases this
      have h3 : ¬ s = t := fun h => h1 (by rw [h])
      have hd : decide (bs s = bs t) = false := decide_eq_false h1
      have hd2 : decide (s = t) = false := decide_eq_false h3
      go_wp2
      go_ret
      refine ⟨?_, b6⟩
      show Ending.returned (.bool (!s == t)) = _
      rw [HQ.out]
    · have h3 : s = t := HV2.out.1 rfl
      subst h3
      go_wp2
      go_ret
      exact ⟨rfl, b6⟩
end Go.Proofs.Ytmhmipbbbccfgaa
