/- The document's Match and Plain, walked. -/
import Derived.Test.YtmhmipbbbccfgaaGlbN
namespace Go.Proofs.Ytmhmipbbbccfgaa
open Go.ChangeShapes Go.WideShapes Go.ChangeAt Go.RowKit K G13
set_option linter.unusedVariables false

theorem pieces_len : ∀ (n : Nat) (p : List UInt8), p.length ≤ n → ∀ l, pieces p = some l → l.length ≤ p.length := by
  intro n
  induction n with
  | zero =>
    intro p hp l h
    have : p = [] := List.length_eq_zero_iff.1 (by omega)
    subst this
    injection h with h
    subst h; simp
  | succ n ih =>
    intro p hp l h
    cases p with
    | nil => injection h with h; subst h; simp
    | cons c t =>
      simp only [List.length_cons] at hp ⊢
      have go : ∀ (r : List UInt8) (x : Pc), r.length ≤ t.length → pieces (c :: t) = (pieces r).map (x :: ·) → l.length ≤ t.length + 1 := by
        intro r x hr e
        rw [e] at h
        obtain ⟨l', h1, rfl⟩ := Option.map_eq_some_iff.1 h
        have := ih r (by omega) l' h1
        simp only [List.length_cons]; omega
      by_cases c1 : c = 42
      · exact go t .any (Nat.le_refl _) (by rw [c1]; exact pieces_any t)
      by_cases c2 : c = 63
      · exact go t _ (Nat.le_refl _) (by rw [c2]; exact pieces_ask t)
      by_cases c3 : c = 91
      · cases hx : st13 t with
        | none => rw [c3, pieces_noset t hx] at h; cases h
        | some x =>
          obtain ⟨f, r⟩ := x
          have := st_len hx
          exact go r _ (by omega) (by rw [c3]; exact pieces_set t f r hx)
      by_cases c4 : c = 92
      · cases t with
        | nil => rw [c4, pieces_bare] at h; cases h
        | cons d q => exact go q _ (by simp) (by rw [c4]; exact pieces_esc d q)
      · exact go t _ (Nat.le_refl _) (pieces_own c t c1 c2 c3 c4)
theorem lG_len {p : List UInt8} (h : eG p = 0) : (lG p).length ≤ 256 := by
  unfold eG at h
  split at h
  · cases h
  · next h1 =>
    unfold lG
    cases hx : pieces p with
    | none => simp
    | some l => have := pieces_len p.length p (Nat.le_refl _) l hx; simp; omega
set_option maxRecDepth 100000 in
theorem qmatch_walk (p s : List UInt8) (hp : p.length ≤ 140737488355327) (hs : s.length ≤ 10000) (w : World) :
    Calls Try.prog 11 #[.string (bs p), .string (bs s)] w fun e w' => e = .returned (.tuple #[.bool (mG p s), .int .i64 (eG p : Nat)]) ∧ Below w.heap.size w w' := by
  have HP := Lib.hid (qpieces_walk p hp w)
  by_cases he : eG p = 0
  · have hm : mG p s = G13.mt (lG p) s := by unfold mG; rw [if_pos he]
    have HM := Lib.hid (fun ao cap w1 (h : RdG w1 ao (lG p)) => qmatches_walk (lG p) ao cap s hs (lG_len he) w1 h)
    have HE := Lib.hid he
    have HMM := Lib.hid hm
    clear hm
    go_enter Try.func11, Try.ntmps11
    go_wp2_with fail
    refine HP.out.mono ?_
    rintro e w1 ⟨b1, h1⟩
    rcases h1 with ⟨-, ao, cap, rfl, hr⟩ | ⟨hn, -⟩
    · have HR := Lib.hid hr
      have HB := Lib.hid b1
      clear hr b1 he
      go_wp2_with fail
      refine (HM.out _ _ _ HR.out).mono ?_
      rintro e w2 ⟨rfl, b2⟩
      go_wp2
      go_ret2
      rw [HMM.out, HE.out]
      exact ⟨rfl, HB.out.trans (b2.mono HB.out.size)⟩
    · exact absurd he hn
  · have hm : mG p s = false := by unfold mG; rw [if_neg he]
    have hne : ((((eG p : Nat) : Int)) == 0) = false := by rw [beq_eq_false_iff_ne]; omega
    have hne2 : ((((eG p : Nat) : Int)) != 0) = true := by rw [bne_iff_ne]; omega
    have HMM := Lib.hid hm
    have HNE := Lib.hid he
    clear hm he
    go_enter Try.func11, Try.ntmps11
    go_wp2_with fail
    refine HP.out.mono ?_
    rintro e w1 ⟨b1, h1⟩
    rcases h1 with ⟨h0, -⟩ | ⟨-, rfl⟩
    · exact absurd h0 HNE.out
    · have HB := Lib.hid b1
      clear b1
      go_wp2
      go_ret2
      rw [HMM.out]
      exact ⟨rfl, HB.out⟩
theorem own_one {p : Pc} (h : ownP p = true) : ∃ b, p = .one b := by
  cases p with
  | any => cases h
  | one b => exact ⟨b, rfl⟩
  | set f => cases h
theorem plain_snoc : ∀ (l : List Pc) (t : List UInt8) (b : UInt8), G13.plain l = some t → G13.plain (l ++ [.one b]) = some (t ++ [b])
  | [], t, b, h => by
    rw [G13.plain] at h
    injection h with h
    subst h
    rfl
  | .one x :: l, t, b, h => by
    rw [G13.plain] at h
    obtain ⟨t', h1, rfl⟩ := Option.map_eq_some_iff.1 h
    rw [List.cons_append, G13.plain, plain_snoc l t' b h1]
    rfl
  | .any :: l, t, b, h => by cases h
  | .set f :: l, t, b, h => by cases h
theorem plain_no : ∀ (l k : List Pc) (p : Pc), ownP p = false → G13.plain (l ++ p :: k) = none
  | [], k, .any, _ => rfl
  | [], k, .one b, h => by cases h
  | [], k, .set f, _ => rfl
  | .one x :: l, k, p, h => by rw [List.cons_append, G13.plain, plain_no l k p h]; rfl
  | .any :: l, k, p, h => rfl
  | .set f :: l, k, p, h => rfl
theorem hit_self (b : UInt8) (c : Nat) (hc : c < 256) : hitN (.one b) c = decide (c = b.toNat) := by
  show (b == UInt8.ofNat c) = _
  rw [Bool.eq_iff_iff, beq_iff_eq, decide_eq_true_eq]
  constructor
  · rintro rfl; rw [UInt8.toNat_ofNat']; omega
  · rintro rfl; simp
/-- The rounds over the pieces, and over the bytes. -/
def PlRel (l : List Pc) (w : World) (g : Nat) (v4 v5 : Value) (wx : World) : Prop :=
  ∃ i t, i + g = l.length ∧ v5 = .int .i64 (i : Nat) ∧ v4 = .string (bs t) ∧ t.length ≤ i ∧ G13.plain (l.take i) = some t ∧ Below w.heap.size w wx
def PbRel (t : List UInt8) (b : UInt8) (w : World) (g : Nat) (v4 v6 : Value) (wx : World) : Prop :=
  ∃ c, c + g = 256 ∧ v6 = .int .i64 (c : Nat) ∧ v4 = .string (bs (if b.toNat < c then t ++ [b] else t)) ∧ Below w.heap.size w wx
set_option maxRecDepth 100000 in
set_option maxHeartbeats 1000000 in
theorem qplain_walk (l : List Pc) (ao : Option Addr) (cap : Nat) (hl : l.length ≤ 256) (w : World) (hr : RdG w ao l) :
    Calls Try.prog 16 #[.slice ao l.length cap] w fun e w' => e = .returned (.tuple #[.string (bs ((G13.plain l).getD [])), .bool (G13.plain l).isSome]) ∧ Below w.heap.size w w' := by
  have HR := Lib.hid hr
  clear hr
  go_enter Try.func16, Try.ntmps16
  go_wp2
  go_loopg [4, 5] l.length (fun g v4 v5 wx => PlRel l w g v4 v5 wx)
  case atStart => exact ⟨0, [], by omega, rfl, rfl, Nat.le_refl _, rfl, Below.refl _ _⟩
  case round =>
    obtain ⟨i, t, hig, rfl, rfl, htl, hpl, hb⟩ := hrel
    by_cases hi : i < l.length
    · obtain ⟨G, rfl⟩ : ∃ G, gk = G + 1 := ⟨gk - 1, by omega⟩
      obtain ⟨g, rfl, hg, -, a1, a2⟩ := (HR.out.below hb).at hi
      have hi2 : ((i : Nat) : Int) < ((l.length : Nat) : Int) := by omega
      cases hown : ownP (l.getD i .any)
      · rw [hown] at a1
        have HN := Lib.hid (show G13.plain l = none by
          have : l = l.take i ++ l.getD i .any :: l.drop (i + 1) := by
            conv => lhs; rw [← List.take_append_drop i l]
            rw [List.drop_eq_getElem_cons hi]
            simp [List.getD, List.getElem?_eq_getElem hi]
          rw [this]
          exact plain_no _ _ _ hown)
        have HB := Lib.hid hb
        clear hb hpl hown a2
        go_wp2
        go_ret2
        rw [HN.out]
        exact ⟨rfl, HB.out⟩
      · obtain ⟨b, hbo⟩ := own_one hown
        rw [hown] at a1
        have HB := Lib.hid hb
        have HA2 := Lib.hid a2
        have HBO := Lib.hid hbo
        have HPL := Lib.hid hpl
        clear hb hpl hown a2 hbo
        rename World => W0
        go_wp2_with fail
        go_loopg [4, 6] 256 (fun g v4 v6 wx => PbRel t b W0 g v4 v6 wx)
        case atStart => exact ⟨0, rfl, rfl, by rw [if_neg (by omega)], Below.refl _ _⟩
        case round =>
          obtain ⟨c, hcg, rfl, rfl, hb⟩ := hrel
          by_cases hc : c < 256
          · obtain ⟨G2, rfl⟩ : ∃ G2, gk = G2 + 1 := ⟨gk - 1, by omega⟩
            have a3 := (HA2.out c hc)
            have a4 := (hb.cell (p := ⟨g, i * 258 + 2 + c, none⟩) hg).trans a3
            rw [HBO.out, hit_self b c hc] at a4
            have hc2 : ((c : Nat) : Int) < 256 := by omega
            clear a3
            by_cases hcb : c = b.toNat
            · rw [decide_eq_true hcb] at a4
              have HB1 := Lib.hid hb
              have HT := Lib.hid (show (if b.toNat < c then t ++ [b] else t) = t ∧ (if b.toNat < c + 1 then t ++ [b] else t) = t ++ [b] from ⟨if_neg (by omega), if_pos (by omega)⟩)
              have HCB := Lib.hid hcb
              rw [if_neg (by omega)]
              have rc1 := run_conv_one (P := Try.prog) 64 5 9 Try.underlying64 Try.underlying5 Try.underlying9
              have HBB := Lib.hid (show b8 c = b by unfold b8; rw [hcb]; simp)
              have HBL := Lib.hid (hb.alloc (hb.size) (.cells #[.int .u8 (c : Nat)] 5))
              have hcat : ¬ (9223372036854775807 < t.length + 1) := by omega
              clear hcb hb
              go_wp2
              go_roundg G2
              case measure => omega
              case rel =>
                rw [HBB.out]
                exact ⟨c + 1, by omega, rfl, by rw [HT.out.2], HBL.out⟩
            · rw [decide_eq_false hcb] at a4
              have HB1 := Lib.hid hb
              have HT := Lib.hid (show (if b.toNat < c then t ++ [b] else t) = (if b.toNat < c + 1 then t ++ [b] else t) by
                by_cases h : b.toNat < c
                · rw [if_pos h, if_pos (by omega)]
                · rw [if_neg h, if_neg (by omega)])
              clear hcb hb
              generalize (if b.toNat < c then t ++ [b] else t) = t1 at *
              go_wp2
              go_roundg G2
              case measure => omega
              case rel => exact ⟨c + 1, by omega, rfl, by rw [← HT.out], HB1.out⟩
          · obtain rfl : c = 256 := by omega
            have hb2 : b.toNat < 256 := b.toNat_lt
            rw [if_pos hb2]
            have HX := Lib.hid (show PlRel l w G (.string (bs (t ++ [b]))) (.int .i64 ((i : Nat) + 1)) wr from ⟨i + 1, t ++ [b], by omega, rfl, rfl, by simp; omega, by rw [take_next l hi, HBO.out]; exact plain_snoc _ _ _ HPL.out, HB.out.trans (hb.mono HB.out.size)⟩)
            clear hb hb2
            generalize t ++ [b] = t1 at *
            go_wp2
            go_roundg G
            case measure => omega
            case rel => exact HX.out
    · have hi2 : ¬ ((i : Nat) : Int) < ((l.length : Nat) : Int) := by omega
      rw [List.take_of_length_le (by omega)] at hpl
      have HPL := Lib.hid hpl
      have HB := Lib.hid hb
      clear hpl hb
      go_wp2
      go_ret2
      rw [HPL.out]
      exact ⟨rfl, HB.out⟩
end Go.Proofs.Ytmhmipbbbccfgaa
