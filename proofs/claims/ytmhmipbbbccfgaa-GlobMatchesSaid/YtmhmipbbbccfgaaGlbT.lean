/- GlobMatches, walked on calls that keep their word. gen_globt.py writes it. -/
import Derived.Test.YtmhmipbbbccfgaaGlbR
import Derived.Test.YtmhmipbbbccfgaaTxt
namespace Go.Proofs.Ytmhmipbbbccfgaa
open Go.ChangeShapes Go.WideShapes Go.ChangeAt Go.RowKit K G13
set_option linter.unusedVariables false

/-- What a world holds while GlobMatches looks on. -/
structure Gm (I : World → Prop) (PR : World → Nat → List UInt8 → Prop) (w : World) (p : List UInt8) (PV : Value) (wb x : World) : Prop where
  I : I x
  B : Below w.heap.size w x
  P : eG p = 0 → ∃ b, PV = .pointer (some ⟨b, 0, none⟩) ∧ PR x b p
  X : Below wb.heap.size wb x
theorem Gm.next {I : World → Prop} {PR : World → Nat → List UInt8 → Prop} (F : GOk I PR) {w wb x y : World} {p : List UInt8} {PV : Value} (h : Gm I PR w p PV wb x) (k : Below x.heap.size x y) : Gm I PR w p PV wb y :=
  ⟨F.keepI x y h.I k, h.B.trans (k.mono h.B.size), fun e => let ⟨b, h1, h2⟩ := h.P e; ⟨b, h1, F.keep h2 k⟩, h.X.trans (k.mono h.X.size)⟩
theorem Gm.base {I : World → Prop} {PR : World → Nat → List UInt8 → Prop} {w wb x : World} {p : List UInt8} {PV : Value} (h : Gm I PR w p PV wb x) : Gm I PR w p PV x x := ⟨h.I, h.B, h.P, Below.refl _ _⟩
def GmRel (I : World → Prop) (PR : World → Nat → List UInt8 → Prop) (w : World) (p : List UInt8) (PV : Value) (wb : World) (len : Nat) (g : Nat) (v9 : Value) (x : World) : Prop :=
  ∃ i, i + g = 30 ∧ i ≤ len ∧ v9 = .int .i64 (i : Nat) ∧ Gm I PR w p PV wb x
theorem gm_match {I : World → Prop} {PR : World → Nat → List UInt8 → Prop} (F : GOk I PR) {w wb W : World} {p s : List UInt8} {PV : Value} (h : Gm I PR w p PV wb W) {n : Nat} {b0 m : Bool} (hn : eG p = n) (hb : (((n : Nat) : Int) == 0) = b0) (hm : mG p s = m) (hs : s.length ≤ 10000) :
    b0 = true → ∀ x, Below W.heap.size W x → Calls Try.prog 12 #[PV, .string (bs s)] x fun e w' => e = .returned (.bool m) ∧ Below x.heap.size x w' := by
  intro e x hx
  have h0 : eG p = 0 := by
    rw [e, beq_iff_eq] at hb
    omega
  obtain ⟨b, hp, hq⟩ := h.P h0
  have := F.matches2 x b p s (F.keepI W x h.I hx) (F.keep hq hx) hs
  rw [hp]
  unfold mG at hm
  rw [if_pos h0] at hm
  rw [hm] at this
  exact this
set_option maxRecDepth 100000 in
set_option maxHeartbeats 4000000 in
theorem globMatches_walk (I : World → Prop) (PR : World → Nat → List UInt8 → Prop) (F : GOk I PR) (p : List UInt8) (hp : p.length ≤ 140737488355327) (ls : List (List UInt8)) (ao : Option Addr) (cap : Nat) (w : World) (hw : I w) (hr : RdS w ao ls) (hls : ls.length ≤ 140737488355327) :
    Calls Try.prog 3 #[.string (bs p), .slice ao ls.length cap] w fun e w' => e = .returned (.bool true) ∧ Below w.heap.size w w' := by
  have HPa := Lib.hid (F.parse p w hp hw)
  have HPi := Lib.hid (fun x => qpieces_walk p hp x)
  have HW := Lib.hid (fun x (h : I x) => works13_walk I PR F x h)
  have HMP := Lib.hid (fun s x (hs : s.length ≤ 10000) (h : I x) => F.matchP p s x hp hs h)
  have HMQ := Lib.hid (fun s x (hs : s.length ≤ 10000) => qmatch_walk p s hp hs x)
  have HF := Lib.hid F
  have HI := Lib.hid hw
  have HR := Lib.hid hr
  clear hr hw F
  obtain ⟨len, hlen⟩ : ∃ len, ls.length = len := ⟨_, rfl⟩
  have HLEN := Lib.hid hlen
  rw [hlen] at hls
  rw [hlen]
  clear hlen
  obtain ⟨n, hn⟩ : ∃ n, eG p = n := ⟨_, rfl⟩
  have HN := Lib.hid hn
  by_cases he : n = 0
  · subst he
    go_enter Try.func3, Try.ntmps3
    go_wp2_with fail
    refine HPa.out.mono ?_
    rintro e w1 ⟨b1, h1⟩
    rcases h1 with ⟨-, b, rfl, hq⟩ | ⟨h0, -⟩
    rotate_left
    · exact absurd HN.out h0
    have G1 := Lib.hid (show Gm I PR w p (.pointer (some ⟨b, 0, none⟩)) w1 w1 from ⟨HF.out.keepI w w1 HI.out b1, b1, fun _ => ⟨b, rfl, hq⟩, Below.refl _ _⟩)
    clear b1 hq
    go_wp2_with fail
    refine (HPi.out _).mono ?_
    rintro e w2 ⟨b2, h2⟩
    rcases h2 with ⟨-, po, pc, rfl, hrg⟩ | ⟨h0, -⟩
    rotate_left
    · exact absurd HN.out h0
    have G2 := Lib.hid (G1.out.next HF.out b2)
    have HRG2 := Lib.hid hrg
    clear b2 hrg
    go_wp2_with fail
    refine (HW.out _ G2.out.I).mono ?_
    rintro e wb ⟨rfl, b3⟩
    have G3 := Lib.hid (G2.out.next HF.out b3).base
    have HRG := Lib.hid (HRG2.out.below b3)
    have HPL := Lib.hid (fun x (h : RdG x po (lG p)) => qplain_walk (lG p) po pc (lG_len HN.out) x h)
    clear b3
    go_wp2_with fail
    go_loopg [9] 30 (fun g v9 x => GmRel I PR w p (.pointer (some ⟨b, 0, none⟩)) wb len g v9 x)
    case atStart => exact ⟨0, rfl, by omega, rfl, G3.out⟩
    case round =>
      obtain ⟨i, hig, hil, rfl, hg⟩ := hrel
      by_cases hl : i < len
      · by_cases h30 : i < 30
        · obtain ⟨G, rfl⟩ : ∃ G, gk = G + 1 := ⟨gk - 1, by omega⟩
          obtain ⟨s, hs⟩ : ∃ s, ls.getD i [] = s := ⟨_, rfl⟩
          obtain ⟨lb, lo, rfl, hlb, hc⟩ := (HR.out.below hg.B).at (by rw [HLEN.out]; exact hl) hs
          have hl2 : ((i : Nat) : Int) < ((len : Nat) : Int) := by omega
          have h302 : ((i : Nat) : Int) < 30 := by omega
          clear hs
          by_cases h500 : 500 < s.length
          · have h5 : (500 : Int) < ((s.length : Nat) : Int) := by omega
            have HG := Lib.hid (show GmRel I PR w p (.pointer (some ⟨b, 0, none⟩)) wb len G (.int .i64 ((i : Nat) + 1)) wr from ⟨i + 1, by omega, by omega, rfl, hg⟩)
            clear hg
            go_wp2
            go_roundg G
            case measure => omega
            case rel => exact HG.out
          · have h5 : ¬ (500 : Int) < ((s.length : Nat) : Int) := by omega
            have hs5 : s.length ≤ 10000 := by omega
            obtain ⟨m, hm⟩ : ∃ m, mG p s = m := ⟨_, rfl⟩
            have hmp := fun x (h : I x) => HMP.out s x hs5 h
            have hmq := fun x => HMQ.out s x hs5
            rw [hm, HN.out] at hmp hmq
            have HMP1 := Lib.hid hmp
            have HMQ1 := Lib.hid hmq
            have HM := Lib.hid hm
            have HG := Lib.hid hg
            have HLB := Lib.hid hlb
            have HC0 := Lib.hid hc
            clear hmp hmq hm hg hlb
            go_wp2_with fail
            refine (HMP1.out _ HG.out.I).mono ?_
            rintro e x1 ⟨rfl, k1⟩
            have HG1 := Lib.hid (HG.out.next HF.out k1)
            have hc1 := (k1.cell (p := ⟨lb, lo + i, none⟩) HLB.out).trans HC0.out
            have HLB1 := Lib.hid (Nat.lt_of_lt_of_le HLB.out k1.size)
            have HC1 := Lib.hid hc1
            clear k1 hc
            go_wp2_with fail
            refine (HMQ1.out _).mono ?_
            rintro e x2 ⟨rfl, k2⟩
            have HG2 := Lib.hid (HG1.out.next HF.out k2)
            have HC2 := Lib.hid ((k2.cell (p := ⟨lb, lo + i, none⟩) HLB1.out).trans HC1.out)
            have HLB2 := Lib.hid (Nat.lt_of_lt_of_le HLB1.out k2.size)
            clear k2 hc1
            have hbd : Below x2.heap.size x2 x2.drew := ⟨rfl, rfl, rfl, Nat.le_refl _, fun _ _ => rfl⟩
            have HO := Lib.hid (gm_obl lb lo i 0 len cap (.pointer (some ⟨b, 0, none⟩)) s (esc13 s) m true x2)
            have HON := Lib.hid (gm_on lb lo i 0 len cap (.pointer (some ⟨b, 0, none⟩)) s (esc13 s) m true)
            have HS1 := Lib.hid (show ∀ x, Below x2.heap.size x2 x → x.cell? ⟨lb, lo + i, none⟩ = some (.string (bs s)) from fun x k => (k.cell (p := ⟨lb, lo + i, none⟩) HLB2.out).trans HC2.out)
            have HS2 := Lib.hid (gm_match HF.out HG2.out HN.out (by decide : (((0 : Nat) : Int) == 0) = true) HM.out hs5)
            have HS3 := Lib.hid (fun x (k : Below x2.heap.size x2 x) => HF.out.escape s x hs5 (HF.out.keepI x2 x HG2.out.I k))
            have HS4 := Lib.hid (fun x (k : Below x2.heap.size x2 x) => qescape13_walk s (by omega) x)
            go_wp2_with fail
            refine wp_region_fun (fun x => Below x2.heap.size x2 x) GML _ _ GMK (by kernel_rfl) ?_ (by kernel_rfl) (by decide) gmk_lt hbd HON.out (HO.out _ _ hl HS1.out HS2.out HS3.out HS4.out (by decide : (((0 : Nat) : Int) == 0) = true) rfl rfl rfl rfl rfl rfl rfl) ?_
            · exact ⟨⟨_, rfl, rfl, rfl, rfl, by kernel_rfl⟩, ⟨⟨_, rfl, rfl, rfl, rfl, by kernel_rfl⟩, ⟨⟨_, rfl, rfl, rfl, rfl, by kernel_rfl⟩, ⟨⟨_, rfl, rfl, rfl, rfl, by kernel_rfl⟩, ⟨⟨_, rfl, rfl, rfl, rfl, by kernel_rfl⟩, ⟨⟨_, rfl, rfl, rfl, rfl, by kernel_rfl⟩, ⟨⟨_, rfl, rfl, rfl, rfl, by kernel_rfl⟩, ⟨⟨_, rfl, rfl, rfl, rfl, by kernel_rfl⟩, ⟨⟨_, rfl, rfl, rfl, rfl, by kernel_rfl⟩, ⟨⟨_, rfl, rfl, rfl, rfl, by kernel_rfl⟩, ⟨⟨_, rfl, rfl, rfl, rfl, by kernel_rfl⟩, ⟨⟨_, rfl, rfl, rfl, rfl, by kernel_rfl⟩, ⟨⟨_, rfl, rfl, rfl, rfl, by kernel_rfl⟩, ⟨⟨_, rfl, rfl, rfl, rfl, by kernel_rfl⟩, ⟨⟨_, rfl, rfl, rfl, rfl, by kernel_rfl⟩, ⟨⟨_, rfl, rfl, rfl, rfl, by kernel_rfl⟩, ⟨⟨_, rfl, rfl, rfl, rfl, by kernel_rfl⟩, ⟨⟨_, rfl, rfl, rfl, rfl, by kernel_rfl⟩, ⟨⟨_, rfl, rfl, rfl, rfl, by kernel_rfl⟩, ⟨⟨_, rfl, rfl, rfl, rfl, by kernel_rfl⟩, ⟨⟨_, rfl, rfl, rfl, rfl, by kernel_rfl⟩, ⟨⟨_, rfl, rfl, rfl, rfl, by kernel_rfl⟩, ⟨⟨_, rfl, rfl, rfl, rfl, by kernel_rfl⟩, ⟨⟨_, rfl, rfl, rfl, rfl, by kernel_rfl⟩, ⟨⟨_, rfl, rfl, rfl, rfl, by kernel_rfl⟩, ⟨⟨_, rfl, rfl, rfl, rfl, by kernel_rfl⟩, ⟨⟨_, rfl, rfl, rfl, rfl, by kernel_rfl⟩, ⟨⟨_, rfl, rfl, rfl, rfl, by kernel_rfl⟩, ⟨⟨_, rfl, rfl, rfl, rfl, by kernel_rfl⟩, ⟨⟨_, rfl, rfl, rfl, rfl, by kernel_rfl⟩, ⟨⟨_, rfl, rfl, rfl, rfl, by kernel_rfl⟩, ⟨⟨_, rfl, rfl, rfl, rfl, by kernel_rfl⟩, ⟨⟨_, rfl, rfl, rfl, rfl, by kernel_rfl⟩, ⟨⟨_, rfl, rfl, rfl, rfl, by kernel_rfl⟩, ⟨⟨_, rfl, rfl, rfl, rfl, by kernel_rfl⟩, rfl⟩⟩⟩⟩⟩⟩⟩⟩⟩⟩⟩⟩⟩⟩⟩⟩⟩⟩⟩⟩⟩⟩⟩⟩⟩⟩⟩⟩⟩⟩⟩⟩⟩⟩⟩
            · intro a x3 hJ hFr hV
              have v112 : slot a 112 = .bool false := by
                have := hV 34 (by decide) rfl
                exact this
              have HG3 := Lib.hid (show GmRel I PR w p (.pointer (some ⟨b, 0, none⟩)) wb len G (.int .i64 ((i : Nat) + 1)) x3 from ⟨i + 1, by omega, by omega, rfl, HG2.out.next HF.out hJ⟩)
              rw [hFr.eq]
              simp only [puts, GMK, List.foldl, Act.put, List.setIfInBounds_toArray, List.set_cons_succ, List.set_cons_zero]
              rw [v112]
              clear hJ hFr hV
              go_wp2
              go_roundg G
              case measure => omega
              case rel => exact HG3.out
        · have h302 : ¬ ((i : Nat) : Int) < 30 := by omega
          have hl2 : ((i : Nat) : Int) < ((len : Nat) : Int) := by omega
          have HG := Lib.hid hg
          clear hg
          go_wp2_with fail
          refine (HF.out.plain _ b p HG.out.I (by obtain ⟨b', e1, e2⟩ := HG.out.P HN.out; injection e1 with e1; injection e1 with e1; injection e1 with e1; subst e1; exact e2)).mono ?_
          rintro e y1 ⟨rfl, k1⟩
          have HG1 := Lib.hid (HG.out.next HF.out k1)
          clear k1
          go_wp2_with fail
          refine (HPL.out _ (HRG.out.below HG1.out.X)).mono ?_
          rintro e y2 ⟨rfl, k2⟩
          have HG2 := Lib.hid (HG1.out.next HF.out k2)
          clear k2
          generalize (G13.plain (lG p)).getD [] = pl at *
          generalize (G13.plain (lG p)).isSome = pb at *
          go_wp2_with fail
          refine (HF.out.text _ b p HG2.out.I (by obtain ⟨b', e1, e2⟩ := HG2.out.P HN.out; injection e1 with e1; injection e1 with e1; injection e1 with e1; subst e1; exact e2)).mono ?_
          rintro e y3 ⟨rfl, k3⟩
          have HG3 := Lib.hid (HG2.out.next HF.out k3)
          clear k3
          go_wp2
          go_ret
          exact ⟨rfl, HG3.out.B⟩
      · have hl2 : ¬ ((i : Nat) : Int) < ((len : Nat) : Int) := by omega
        have HG := Lib.hid hg
        clear hg
        go_wp2_with fail
        refine (HF.out.plain _ b p HG.out.I (by obtain ⟨b', e1, e2⟩ := HG.out.P HN.out; injection e1 with e1; injection e1 with e1; injection e1 with e1; subst e1; exact e2)).mono ?_
        rintro e y1 ⟨rfl, k1⟩
        have HG1 := Lib.hid (HG.out.next HF.out k1)
        clear k1
        go_wp2_with fail
        refine (HPL.out _ (HRG.out.below HG1.out.X)).mono ?_
        rintro e y2 ⟨rfl, k2⟩
        have HG2 := Lib.hid (HG1.out.next HF.out k2)
        clear k2
        generalize (G13.plain (lG p)).getD [] = pl at *
        generalize (G13.plain (lG p)).isSome = pb at *
        go_wp2_with fail
        refine (HF.out.text _ b p HG2.out.I (by obtain ⟨b', e1, e2⟩ := HG2.out.P HN.out; injection e1 with e1; injection e1 with e1; injection e1 with e1; subst e1; exact e2)).mono ?_
        rintro e y3 ⟨rfl, k3⟩
        have HG3 := Lib.hid (HG2.out.next HF.out k3)
        clear k3
        go_wp2
        go_ret
        exact ⟨rfl, HG3.out.B⟩
  · have hne : ((((n : Nat) : Int)) == 0) = false := by rw [beq_eq_false_iff_ne]; omega
    have hne2 : ((((n : Nat) : Int)) != 0) = true := by rw [bne_iff_ne]; omega
    have HNE := Lib.hid he
    clear he hn
    go_enter Try.func3, Try.ntmps3
    go_wp2_with fail
    refine HPa.out.mono ?_
    rintro e w1 ⟨b1, h1⟩
    rcases h1 with ⟨h0, -⟩ | ⟨-, rfl⟩
    · exact absurd (HN.out.symm.trans h0) HNE.out
    rw [HN.out]
    have G1 := Lib.hid (show Gm I PR w p (.pointer none) w1 w1 from ⟨HF.out.keepI w w1 HI.out b1, b1, fun e => absurd (HN.out.symm.trans e) HNE.out, Below.refl _ _⟩)
    clear b1
    go_wp2_with fail
    refine (HPi.out _).mono ?_
    rintro e w2 ⟨b2, h2⟩
    rcases h2 with ⟨h0, -⟩ | ⟨-, rfl⟩
    · exact absurd (HN.out.symm.trans h0) HNE.out
    rw [HN.out]
    have G2 := Lib.hid (G1.out.next HF.out b2)
    clear b2
    go_wp2_with fail
    refine (HW.out _ G2.out.I).mono ?_
    rintro e wb ⟨rfl, b3⟩
    have G3 := Lib.hid (G2.out.next HF.out b3).base
    clear b3
    go_wp2_with fail
    go_loopg [9] 30 (fun g v9 x => GmRel I PR w p (.pointer none) wb len g v9 x)
    case atStart => exact ⟨0, rfl, by omega, rfl, G3.out⟩
    case round =>
      obtain ⟨i, hig, hil, rfl, hg⟩ := hrel
      by_cases hl : i < len
      · by_cases h30 : i < 30
        · obtain ⟨G, rfl⟩ : ∃ G, gk = G + 1 := ⟨gk - 1, by omega⟩
          obtain ⟨s, hs⟩ : ∃ s, ls.getD i [] = s := ⟨_, rfl⟩
          obtain ⟨lb, lo, rfl, hlb, hc⟩ := (HR.out.below hg.B).at (by rw [HLEN.out]; exact hl) hs
          have hl2 : ((i : Nat) : Int) < ((len : Nat) : Int) := by omega
          have h302 : ((i : Nat) : Int) < 30 := by omega
          clear hs
          by_cases h500 : 500 < s.length
          · have h5 : (500 : Int) < ((s.length : Nat) : Int) := by omega
            have HG := Lib.hid (show GmRel I PR w p (.pointer none) wb len G (.int .i64 ((i : Nat) + 1)) wr from ⟨i + 1, by omega, by omega, rfl, hg⟩)
            clear hg
            go_wp2
            go_roundg G
            case measure => omega
            case rel => exact HG.out
          · have h5 : ¬ (500 : Int) < ((s.length : Nat) : Int) := by omega
            have hs5 : s.length ≤ 10000 := by omega
            obtain ⟨m, hm⟩ : ∃ m, mG p s = m := ⟨_, rfl⟩
            have hmp := fun x (h : I x) => HMP.out s x hs5 h
            have hmq := fun x => HMQ.out s x hs5
            rw [hm, HN.out] at hmp hmq
            have HMP1 := Lib.hid hmp
            have HMQ1 := Lib.hid hmq
            have HM := Lib.hid hm
            have HG := Lib.hid hg
            have HLB := Lib.hid hlb
            have HC0 := Lib.hid hc
            clear hmp hmq hm hg hlb
            go_wp2_with fail
            refine (HMP1.out _ HG.out.I).mono ?_
            rintro e x1 ⟨rfl, k1⟩
            have HG1 := Lib.hid (HG.out.next HF.out k1)
            have hc1 := (k1.cell (p := ⟨lb, lo + i, none⟩) HLB.out).trans HC0.out
            have HLB1 := Lib.hid (Nat.lt_of_lt_of_le HLB.out k1.size)
            have HC1 := Lib.hid hc1
            clear k1 hc
            go_wp2_with fail
            refine (HMQ1.out _).mono ?_
            rintro e x2 ⟨rfl, k2⟩
            have HG2 := Lib.hid (HG1.out.next HF.out k2)
            have HC2 := Lib.hid ((k2.cell (p := ⟨lb, lo + i, none⟩) HLB1.out).trans HC1.out)
            have HLB2 := Lib.hid (Nat.lt_of_lt_of_le HLB1.out k2.size)
            clear k2 hc1
            have hbd : Below x2.heap.size x2 x2.drew := ⟨rfl, rfl, rfl, Nat.le_refl _, fun _ _ => rfl⟩
            have HO := Lib.hid (gm_obl lb lo i n len cap (.pointer none) s (esc13 s) m false x2)
            have HON := Lib.hid (gm_on lb lo i n len cap (.pointer none) s (esc13 s) m false)
            have HS1 := Lib.hid (show ∀ x, Below x2.heap.size x2 x → x.cell? ⟨lb, lo + i, none⟩ = some (.string (bs s)) from fun x k => (k.cell (p := ⟨lb, lo + i, none⟩) HLB2.out).trans HC2.out)
            have HS2 := Lib.hid (gm_match HF.out HG2.out HN.out hne HM.out hs5)
            have HS3 := Lib.hid (fun x (k : Below x2.heap.size x2 x) => HF.out.escape s x hs5 (HF.out.keepI x2 x HG2.out.I k))
            have HS4 := Lib.hid (fun x (k : Below x2.heap.size x2 x) => qescape13_walk s (by omega) x)
            go_wp2_with fail
            refine wp_region_fun (fun x => Below x2.heap.size x2 x) GML _ _ GMK (by kernel_rfl) ?_ (by kernel_rfl) (by decide) gmk_lt hbd HON.out (HO.out _ _ hl HS1.out HS2.out HS3.out HS4.out hne rfl rfl rfl rfl rfl rfl rfl) ?_
            · exact ⟨⟨_, rfl, rfl, rfl, rfl, by kernel_rfl⟩, ⟨⟨_, rfl, rfl, rfl, rfl, by kernel_rfl⟩, ⟨⟨_, rfl, rfl, rfl, rfl, by kernel_rfl⟩, ⟨⟨_, rfl, rfl, rfl, rfl, by kernel_rfl⟩, ⟨⟨_, rfl, rfl, rfl, rfl, by kernel_rfl⟩, ⟨⟨_, rfl, rfl, rfl, rfl, by kernel_rfl⟩, ⟨⟨_, rfl, rfl, rfl, rfl, by kernel_rfl⟩, ⟨⟨_, rfl, rfl, rfl, rfl, by kernel_rfl⟩, ⟨⟨_, rfl, rfl, rfl, rfl, by kernel_rfl⟩, ⟨⟨_, rfl, rfl, rfl, rfl, by kernel_rfl⟩, ⟨⟨_, rfl, rfl, rfl, rfl, by kernel_rfl⟩, ⟨⟨_, rfl, rfl, rfl, rfl, by kernel_rfl⟩, ⟨⟨_, rfl, rfl, rfl, rfl, by kernel_rfl⟩, ⟨⟨_, rfl, rfl, rfl, rfl, by kernel_rfl⟩, ⟨⟨_, rfl, rfl, rfl, rfl, by kernel_rfl⟩, ⟨⟨_, rfl, rfl, rfl, rfl, by kernel_rfl⟩, ⟨⟨_, rfl, rfl, rfl, rfl, by kernel_rfl⟩, ⟨⟨_, rfl, rfl, rfl, rfl, by kernel_rfl⟩, ⟨⟨_, rfl, rfl, rfl, rfl, by kernel_rfl⟩, ⟨⟨_, rfl, rfl, rfl, rfl, by kernel_rfl⟩, ⟨⟨_, rfl, rfl, rfl, rfl, by kernel_rfl⟩, ⟨⟨_, rfl, rfl, rfl, rfl, by kernel_rfl⟩, ⟨⟨_, rfl, rfl, rfl, rfl, by kernel_rfl⟩, ⟨⟨_, rfl, rfl, rfl, rfl, by kernel_rfl⟩, ⟨⟨_, rfl, rfl, rfl, rfl, by kernel_rfl⟩, ⟨⟨_, rfl, rfl, rfl, rfl, by kernel_rfl⟩, ⟨⟨_, rfl, rfl, rfl, rfl, by kernel_rfl⟩, ⟨⟨_, rfl, rfl, rfl, rfl, by kernel_rfl⟩, ⟨⟨_, rfl, rfl, rfl, rfl, by kernel_rfl⟩, ⟨⟨_, rfl, rfl, rfl, rfl, by kernel_rfl⟩, ⟨⟨_, rfl, rfl, rfl, rfl, by kernel_rfl⟩, ⟨⟨_, rfl, rfl, rfl, rfl, by kernel_rfl⟩, ⟨⟨_, rfl, rfl, rfl, rfl, by kernel_rfl⟩, ⟨⟨_, rfl, rfl, rfl, rfl, by kernel_rfl⟩, ⟨⟨_, rfl, rfl, rfl, rfl, by kernel_rfl⟩, rfl⟩⟩⟩⟩⟩⟩⟩⟩⟩⟩⟩⟩⟩⟩⟩⟩⟩⟩⟩⟩⟩⟩⟩⟩⟩⟩⟩⟩⟩⟩⟩⟩⟩⟩⟩
            · intro a x3 hJ hFr hV
              have v112 : slot a 112 = .bool false := by
                have := hV 34 (by decide) rfl
                exact this
              have HG3 := Lib.hid (show GmRel I PR w p (.pointer none) wb len G (.int .i64 ((i : Nat) + 1)) x3 from ⟨i + 1, by omega, by omega, rfl, HG2.out.next HF.out hJ⟩)
              rw [hFr.eq]
              simp only [puts, GMK, List.foldl, Act.put, List.setIfInBounds_toArray, List.set_cons_succ, List.set_cons_zero]
              rw [v112]
              clear hJ hFr hV
              go_wp2
              go_roundg G
              case measure => omega
              case rel => exact HG3.out
        · have h302 : ¬ ((i : Nat) : Int) < 30 := by omega
          have hl2 : ((i : Nat) : Int) < ((len : Nat) : Int) := by omega
          have HG := Lib.hid hg
          clear hg
          go_wp2
          go_ret
          exact ⟨rfl, HG.out.B⟩
      · have hl2 : ¬ ((i : Nat) : Int) < ((len : Nat) : Int) := by omega
        have HG := Lib.hid hg
        clear hg
        go_wp2
        go_ret
        exact ⟨rfl, HG.out.B⟩
end Go.Proofs.Ytmhmipbbbccfgaa
