/- Texts on the program and on the document, joined: OidT, Tab. -/
import Derived.Test.YtgjmnlgjdgjdbaaDoorMa12
import Derived.BigQuiet
import Derived.Deep.QuietTactic
import Derived.Test.YtgjmnlgjdgjdbaaDoorMa01
import Derived.Lib.LaidTab
import Derived.OpenShut
import Derived.MakeChecks
import Derived.Lay
/- oid's isArc, mostSecond, areArcs, walked. -/
namespace Go.Proofs.YtgjmnlgjdgjdbaaDoor
open Go.ChangeShapes Go.WideShapes Go.ChangeAt Go.RowKit K O6
set_option linter.unusedVariables false

theorem isArc_walk (x : Int) (w : World) : Calls Tryd.prog 12 #[.int .i64 x] w fun e w' => e = .returned (.bool (inR x)) ∧ w = w' := by
  have hcs : (0 ≤ x ∧ x ≤ 4294967295) ∨ x < 0 ∨ (0 ≤ x ∧ 4294967295 < x) := by omega
  rcases hcs with ⟨c0, c1⟩ | c0 | ⟨c0, c1⟩
  · have HF := Lib.hid (show inR x = true by unfold inR; rw [decide_eq_true c0, decide_eq_true c1]; rfl)
    go_enter Tryd.func12, Tryd.ntmps12
    go_wp2
    go_ret
    rw [HF.out]
    exact ⟨rfl, rfl⟩
  · have HF := Lib.hid (show inR x = false by unfold inR; rw [decide_eq_false (by omega : ¬ 0 ≤ x), Bool.false_and])
    go_enter Tryd.func12, Tryd.ntmps12
    go_wp2
    go_ret
    rw [HF.out]
    exact ⟨rfl, rfl⟩
  · have HF := Lib.hid (show inR x = false by unfold inR; rw [decide_eq_false (by omega : ¬ x ≤ 4294967295), Bool.and_false])
    have c2 : ¬ x ≤ 4294967295 := by omega
    go_enter Tryd.func12, Tryd.ntmps12
    go_wp2
    go_ret
    rw [HF.out]
    exact ⟨by simp, rfl⟩
def mSec (x : Int) : Int := if x = 2 then 4294967215 else 39
theorem mostSecond_walk (x : Int) (w : World) : Calls Tryd.prog 39 #[.int .i64 x] w fun e w' => e = .returned (.int .i64 (mSec x)) ∧ w = w' := by
  by_cases h : x = 2
  · subst h
    have HF := Lib.hid (show mSec 2 = 4294967215 from rfl)
    go_enter Tryd.func39, Tryd.ntmps39
    go_wp2
    go_ret
    rw [HF.out]
    exact ⟨rfl, rfl⟩
  · have HF := Lib.hid (show mSec x = 39 from if_neg h)
    have hb : (x == 2) = false := by rw [beq_eq_false_iff_ne]; exact h
    go_enter Tryd.func39, Tryd.ntmps39
    go_wp2
    go_ret
    rw [HF.out]
    exact ⟨rfl, rfl⟩
def IsRelW (n : Nat) (f : Nat → Int) (w : World) (g : Nat) (v : Value) (wr : World) : Prop :=
  ∃ i, i + g = n ∧ v = .int .i64 (i : Nat) ∧ (∀ j, j < i → inR (f j) = true) ∧ wr = w
set_option maxRecDepth 100000 in
set_option maxHeartbeats 1000000 in
theorem areArcs_walk (ao : Option Addr) (n cap : Nat) (f : Nat → Int) (hn : n ≤ 140737488351232) (w : World) (h : RdZ w ao n f) :
    Calls Tryd.prog 26 #[.slice ao n cap] w fun e w' => e = .returned (.bool (isZ n f)) ∧ ∃ m, w' = w.drewN m := by
  by_cases hl : n < 2 ∨ (2 ≤ n ∧ 128 < n)
  · have e : isZ n f = false := by
      unfold isZ
      rcases hl with h1 | ⟨_, h1⟩
      · rw [decide_eq_false (by omega), Bool.false_and]
      · rw [decide_eq_false (by omega : ¬ n ≤ 128), Bool.false_and, Bool.and_false]
    rw [e]
    clear e
    rcases hl with h1 | ⟨h0, h1⟩
    · have h1' : (n : Int) < 2 := by omega
      clear h h1
      go_enter Tryd.func26, Tryd.ntmps26
      go_wp2
      go_ret
      exact ⟨rfl, 0, rfl⟩
    · have h1' : (128 : Int) < n := by omega
      have h0' : (2 : Int) ≤ n := by omega
      clear h h1 h0
      go_enter Tryd.func26, Tryd.ntmps26
      go_wp2
      go_ret
      exact ⟨rfl, 0, rfl⟩
  · have hn2 : 2 ≤ n := by omega
    have hn3 : n ≤ 128 := by omega
    have hn2' : (2 : Int) ≤ n := by omega
    have hn3' : (n : Int) ≤ 128 := by omega
    rcases h with h | ⟨b, off, rfl, hbk, hc⟩
    · omega
    · have HC := Lib.hid hc
      clear hl hc
      go_enter Tryd.func26, Tryd.ntmps26
      go_wp2
      go_loopg [15] n (fun g v15 wr => IsRelW n f w g v15 wr)
      case atStart => exact ⟨0, by omega, rfl, fun j hj => by omega, rfl⟩
      case round =>
        obtain ⟨i, hig, rfl, hall, rfl⟩ := hrel
        cases gk with
        | succ g =>
          have hin : i < n := by omega
          have hcell := HC.out i hin
          have HAL := Lib.hid hall
          have HNO := Lib.hid (fun h => @isZ_no n f i hin h)
          clear hall
          have HI := Lib.hid (fun x w1 => isArc_walk x w1)
          cases hx : inR (f i)
          · have HF := Lib.hid (HNO.out hx)
            have HX := Lib.hid hx
            clear hx
            generalize f i = x at *
            go_wp2_with (go_at_call 12; refine (HI.out x _).mono ?_; rw [HX.out]; rintro e wz ⟨rfl, rfl⟩)
            go_ret
            rw [HF.out]
            exact ⟨rfl, 0, rfl⟩
          · have HX := Lib.hid hx
            clear hx
            generalize hfx : f i = x at *
            have HFX := Lib.hid hfx
            clear hfx
            go_wp2_with (go_at_call 12; refine (HI.out x _).mono ?_; rw [HX.out]; rintro e wz ⟨rfl, rfl⟩)
            go_roundg g
            case measure => omega
            case rel =>
              refine ⟨i + 1, by omega, by simp, fun j hj => ?_, rfl⟩
              rcases Nat.lt_or_ge j i with h1 | h1
              · exact HAL.out j h1
              · obtain rfl : j = i := by omega
                rw [HFX.out]; exact HX.out
        | zero =>
          obtain rfl : i = n := by omega
          have c0 := HC.out 0 (by omega)
          have c1 := HC.out 1 (by omega)
          rw [Nat.add_zero] at c0
          have hb0 := hall 0 (by omega)
          have hb1 := hall 1 (by omega)
          have e : isZ i f = ((decide (f 0 < 2) && decide (f 1 ≤ 39)) || (f 0 == 2 && decide (f 1 ≤ 4294967215))) := by
            have : (List.range i).all (fun i => inR (f i)) = true := by
              rw [List.all_eq_true]
              intro j hj
              exact hall j (List.mem_range.1 hj)
            unfold isZ; rw [this, decide_eq_true hn2, decide_eq_true hn3]; simp
          have HE := Lib.hid e
          unfold inR at hb0 hb1
          simp only [Bool.and_eq_true, decide_eq_true_eq] at hb0 hb1
          clear e hall hig HC
          generalize f 0 = x at *
          generalize f 1 = y at *
          obtain ⟨x0, x1⟩ := hb0
          obtain ⟨y0, y1⟩ := hb1
          by_cases h2 : x ≤ 2
          · have HZ := Lib.hid (show isZ i f = decide (y ≤ mSec x) by
              rw [HE.out]
              unfold mSec
              by_cases hx2 : x = 2
              · rw [if_pos hx2, decide_eq_false (by omega : ¬ x < 2), beq_iff_eq.2 hx2]; simp
              · rw [if_neg hx2, decide_eq_true (by omega : x < 2), beq_eq_false_iff_ne.2 hx2]; simp)
            have HM := Lib.hid (fun w1 => mostSecond_walk x w1)
            generalize mSec x = z at *
            clear HE
            go_wp2_with fail
            go_quiet (first | (go_at_call 39; refine Calls.quiet_mk (HM.out _)))
            go_wp2
            go_ret
            rw [HZ.out]
            exact ⟨rfl, nq, rfl⟩
          · have HF := Lib.hid (show isZ i f = false by rw [HE.out, decide_eq_false (by omega : ¬ x < 2), beq_eq_false_iff_ne.2 (by omega : x ≠ 2)]; rfl)
            have HM := Lib.hid (fun w1 => mostSecond_walk x w1)
            generalize mSec x = z at *
            have h3 : 2 < x := by omega
            have h4 : (x ≤ 2) = False := eq_false h2
            clear HE h2
            go_wp2_with fail
            go_quiet (first | (go_at_call 39; refine Calls.quiet_mk (HM.out _)))
            go_wp2
            go_ret
            rw [HF.out]
            exact ⟨rfl, nq, rfl⟩
end Go.Proofs.YtgjmnlgjdgjdbaaDoor
/- From a row's list of tables to the cells of one of them. Of no program. -/
namespace Go.Proofs.YtgjmnlgjdgjdbaaDoor
open Go.RowKit
namespace K
theorem tup3 {a b c a' b' c' : Value} (h1 : a = a') (h2 : b = b') (h3 : c = c') : Ending.returned (.tuple #[a, b, c]) = .returned (.tuple #[a', b', c']) := by rw [h1, h2, h3]
theorem tup2 {a b a' b' : Value} (h1 : a = a') (h2 : b = b') : Ending.returned (.tuple #[a, b]) = .returned (.tuple #[a', b']) := by rw [h1, h2]
theorem one {a a' : Value} (h : a = a') : Ending.returned a = .returned a' := by rw [h]
theorem laidVars_at {P : Program} {W : World} : ∀ {L : List (String × DataW Unit)} {ps : List MemPlace}, DataW.LaidVars P W L ps → ∀ {n : String} {d : DataW Unit}, (n, d) ∈ L →
    ∃ g t cs fuel p, P.globalNamed n = some g ∧ (P.globals[g]?).map (·.type) = some t ∧ W.var? P n = some cs ∧ DataW.trod (fun _ => ()) P W 0 (fun _ => true) false fuel t cs.toList = some (d, p)
  | [], _, _, n, d, hm => by cases hm
  | (m, e) :: r, ps, h, n, d, hm => by
    obtain ⟨g, t, cs, fuel, p, q, h1, h2, h3, h4, hr, _⟩ := h
    rcases List.mem_cons.1 hm with h5 | h5
    · cases h5; exact ⟨g, t, cs, fuel, p, h1, h2, h3, h4⟩
    · exact laidVars_at hr h5
/-- One of a row's listed variables: its cells read as what is listed. -/
theorem laid_at {P : Program} {W : World} {L : List (String × DataW Unit)} (h : laidMetH P L W) (hp : (L.all fun x => x.2.handleName?.isNone) = true) {n : String} {d : DataW Unit} (hm : (n, d) ∈ L) {g : Nat} {t : TypeId}
    (hg : P.globalNamed n = some g) (ht : (P.globals[g]?).map (·.type) = some t) :
    ∃ cs fuel p, W.var? P n = some cs ∧ DataW.trod (fun _ => ()) P W 0 (fun _ => true) false fuel t cs.toList = some (d, p) := by
  rw [MakeChecks.laidMetH_plain _ _ _ hp] at h
  obtain ⟨ps, hl, _, _⟩ := h
  obtain ⟨g', t', cs, fuel, p, h1, h2, h3, h4⟩ := laidVars_at hl hm
  obtain rfl := Option.some.inj (hg.symm.trans h1)
  obtain rfl := Option.some.inj (ht.symm.trans h2)
  exact ⟨cs, fuel, p, h3, h4⟩
/-- A table of integers. -/
theorem laid_tab {P : Program} {W : World} {L : List (String × DataW Unit)} (h : laidMetH P L W) (hp : (L.all fun x => x.2.handleName?.isNone) = true) {n : String} {k : IntKind} {zs : List Int} (hm : (n, (Lib.tabData k zs : DataW Unit)) ∈ L)
    {g : Nat} {t e : TypeId} {N : Nat} (hg : P.globalNamed n = some g) (ht : (P.globals[g]?).map (·.type) = some t) (hu : P.underlying t = some (.array N e)) (he : P.underlying e = some (.int k)) (hce : P.cellsOf e = 1) (hct : P.cellsOf t = N) :
    Lib.TabIs P W n k zs := by
  obtain ⟨cs, fuel, p, hv, hd⟩ := laid_at h hp hm hg ht
  unfold Lib.TabIs
  rw [hv, ← Lib.cells_of_tab hu he hce hct hd]
/-- A table stays as long as only newer memory turns. -/
theorem tab_below {P : Program} {w w' : World} {n : String} {k : IntKind} {zs : List Int} (h : Lib.TabIs P w n k zs) (hb : Below w.heap.size w w') : Lib.TabIs P w' n k zs := by
  unfold Lib.TabIs World.var? at *
  cases hg : P.globalNamed n with
  | none => rw [hg] at h; simp at h
  | some g =>
    rw [hg] at h
    simp only [Option.bind_some] at h ⊢
    have hlt : g < w.heap.size := by
      rcases Nat.lt_or_ge g w.heap.size with h' | h'
      · exact h'
      · rw [Array.getElem?_eq_none h'] at h; simp at h
    rw [hb.block g hlt]; exact h
/-- A struct of a text and a number, as it is listed. -/
theorem pair_of {H : Type} {enc : TypeId × Value → H} {P : Program} {w : World} {base : Nat} {sp : Nat → Bool} {held : Bool} {fuel : Nat} {t ts ti : TypeId} {k : IntKind} {fs : Array Field} {cs : List Value} {s : List UInt8} {z : Int} {p : List MemPlace} {f0 f1 : Field}
    (ht : P.underlying t = some (.struct fs)) (h0 : fs[0]? = some f0) (h1 : fs[1]? = some f1) (e0 : f0.type = ts) (e1 : f1.type = ti) (o0 : f0.offset = 0) (o1 : f1.offset = 1) (hts : P.underlying ts = some .string) (hti : P.underlying ti = some (.int k))
    (c0 : P.cellsOf ts = 1) (c1 : P.cellsOf ti = 1) (hc : P.cellsOf t = 2)
    (h : DataW.trod enc P w base sp held fuel t cs = some (.agg [.lit (.string s), .lit (.int k z)], p)) : cs = [.string (bs s), .int k z] := by
  obtain ⟨xs, n, _, hx, hl, hlen, hf⟩ := DataW.trod_struct ht h
  have g0 := hf 0 f0 h0
  have g1 := hf 1 f1 h1
  rw [e0, o0, c0] at g0
  rw [e1, o1, c1] at g1
  rw [hc] at hl
  have hx1 : xs.map (·.1) = [.lit (.string s), .lit (.int k z)] := (DataW.agg.inj (Prod.mk.inj hx).1).symm
  have hxl : xs.length = 2 := by have := congrArg List.length hx1; simpa using this
  rw [List.getElem?_eq_getElem (by omega)] at g0 g1
  obtain ⟨a, ea, ea2, _⟩ := DataW.trod_string hts g0
  obtain ⟨b, eb, eb2, _⟩ := DataW.trod_int hti g1
  have m0 : (xs.map (·.1))[0]? = some (.lit (.string s)) := by rw [hx1]; rfl
  have m1 : (xs.map (·.1))[1]? = some (.lit (.int k z)) := by rw [hx1]; rfl
  rw [List.getElem?_map, List.getElem?_eq_getElem (by omega), ea2] at m0
  rw [List.getElem?_map, List.getElem?_eq_getElem (by omega), eb2] at m1
  simp only [Option.map_some, Option.some.injEq, DataW.lit.injEq, Lit.string.injEq, Lit.int.injEq, true_and] at m0 m1
  match cs, hl with
  | [x, y], _ =>
    simp at ea eb
    subst m0 m1
    rw [ea, eb, bs_of]
theorem pairs_of {H : Type} {enc : TypeId × Value → H} {P : Program} {w : World} {base : Nat} {sp : Nat → Bool} {held : Bool} {fuel : Nat} {t e ts ti : TypeId} {N : Nat} {k : IntKind} {fs : Array Field} {cs : List Value} {zs : List (List UInt8 × Int)} {p : List MemPlace} {f0 f1 : Field}
    (hu : P.underlying t = some (.array N e)) (ht : P.underlying e = some (.struct fs)) (h0 : fs[0]? = some f0) (h1 : fs[1]? = some f1) (e0 : f0.type = ts) (e1 : f1.type = ti) (o0 : f0.offset = 0) (o1 : f1.offset = 1) (hts : P.underlying ts = some .string) (hti : P.underlying ti = some (.int k))
    (c0 : P.cellsOf ts = 1) (c1 : P.cellsOf ti = 1) (hc : P.cellsOf e = 2) (hct : P.cellsOf t = 2 * N)
    (h : DataW.trod enc P w base sp held fuel t cs = some (.agg (zs.map fun z => .agg [.lit (.string z.1), .lit (.int k z.2)]), p)) :
    cs.length = 2 * N ∧ ∀ i z, zs[i]? = some z → (cs.drop (2 * i)).take 2 = [.string (bs z.1), .int k z.2] := by
  obtain ⟨xs, m, _, hx, hl, hlen, hf⟩ := DataW.trod_array hu h
  have hx1 : xs.map (·.1) = zs.map fun z => .agg [.lit (.string z.1), .lit (.int k z.2)] := (DataW.agg.inj (Prod.mk.inj hx).1).symm
  have hzl : zs.length = N := by have := congrArg List.length hx1; simp at this; omega
  refine ⟨by rw [hl, hct], fun i z hz => ?_⟩
  have hi : i < N := by
    have := (List.getElem?_eq_some_iff.1 hz).1; omega
  have hE := hf i hi
  rw [hc, List.getElem?_eq_getElem (by omega), Nat.mul_comm] at hE
  have m0 : (xs.map (·.1))[i]? = some (.agg [.lit (.string z.1), .lit (.int k z.2)]) := by rw [hx1, List.getElem?_map, hz]; rfl
  rw [List.getElem?_map, List.getElem?_eq_getElem (by omega)] at m0
  simp only [Option.map_some, Option.some.injEq] at m0
  have hE2 : DataW.trod enc P w base sp held m e ((cs.drop (2 * i)).take 2) = some (.agg [.lit (.string z.1), .lit (.int k z.2)], (xs[i]'(by omega)).2) := by rw [hE, ← m0]
  exact pair_of ht h0 h1 e0 e1 o0 o1 hts hti c0 c1 hc hE2
end K
end Go.Proofs.YtgjmnlgjdgjdbaaDoor
