/- From a row's list of tables to the cells of one of them. Of no program. -/
import Derived.Test.YtndinelljmjfaaaDoorLib
import Derived.Lib.LaidTab
import Derived.OpenShut
import Derived.MakeChecks
import Derived.Lay
namespace Go.Proofs.YtndinelljmjfaaaDoor
open Go.RowKit
namespace K
theorem tup3 {a b c a' b' c' : Value} (h1 : a = a') (h2 : b = b') (h3 : c = c') : Ending.returned (.tuple #[a, b, c]) = .returned (.tuple #[a', b', c']) := by rw [h1, h2, h3]
theorem tup2 {a b a' b' : Value} (h1 : a = a') (h2 : b = b') : Ending.returned (.tuple #[a, b]) = .returned (.tuple #[a', b']) := by rw [h1, h2]
theorem one {a a' : Value} (h : a = a') : Ending.returned a = .returned a' := by rw [h]
theorem laidVars_at {P : Program} {W : World} : ∀ {L : List (String × DataW Unit)} {ps : List MemPlace}, DataW.LaidVars P W L ps → ∀ {n : String} {d : DataW Unit}, (n, d) ∈ L →
    ∃ g t cs fuel p, P.globalNamed n = some g ∧ (P.globals[g]?).map (·.type) = some t ∧ W.var? P n = some cs ∧ DataW.trod (fun _ => ()) P W 0 (fun _ => true) false fuel t cs.toList = some (d, p)
  | [], _, _, n, d, hm => by cases hm
  | (m, e) :: r, ps, h, n, d, hm => by
    obtain ⟨g, t, cs, fuel, p, q, h1, h2, h3, h4, hr, _⟩ := h
    rcases List.mem_cons.1 hm with h5 | h5
    · cases h5; exact ⟨g, t, cs, fuel, p, h1, h2, h3, h4⟩
    · exact laidVars_at hr h5
/-- One of a row's listed variables: its cells read as what is listed. -/
theorem laid_at {P : Program} {W : World} {L : List (String × DataW Unit)} (h : laidMetH P L W) (hp : (L.all fun x => x.2.handleName?.isNone) = true) {n : String} {d : DataW Unit} (hm : (n, d) ∈ L) {g : Nat} {t : TypeId}
    (hg : P.globalNamed n = some g) (ht : (P.globals[g]?).map (·.type) = some t) :
    ∃ cs fuel p, W.var? P n = some cs ∧ DataW.trod (fun _ => ()) P W 0 (fun _ => true) false fuel t cs.toList = some (d, p) := by
  rw [MakeChecks.laidMetH_plain _ _ _ hp] at h
  obtain ⟨ps, hl, _, _⟩ := h
  obtain ⟨g', t', cs, fuel, p, h1, h2, h3, h4⟩ := laidVars_at hl hm
  obtain rfl := Option.some.inj (hg.symm.trans h1)
  obtain rfl := Option.some.inj (ht.symm.trans h2)
  exact ⟨cs, fuel, p, h3, h4⟩
/-- A table of integers. -/
theorem laid_tab {P : Program} {W : World} {L : List (String × DataW Unit)} (h : laidMetH P L W) (hp : (L.all fun x => x.2.handleName?.isNone) = true) {n : String} {k : IntKind} {zs : List Int} (hm : (n, (Lib.tabData k zs : DataW Unit)) ∈ L)
    {g : Nat} {t e : TypeId} {N : Nat} (hg : P.globalNamed n = some g) (ht : (P.globals[g]?).map (·.type) = some t) (hu : P.underlying t = some (.array N e)) (he : P.underlying e = some (.int k)) (hce : P.cellsOf e = 1) (hct : P.cellsOf t = N) :
    Lib.TabIs P W n k zs := by
  obtain ⟨cs, fuel, p, hv, hd⟩ := laid_at h hp hm hg ht
  unfold Lib.TabIs
  rw [hv, ← Lib.cells_of_tab hu he hce hct hd]
/-- A table stays as long as only newer memory turns. -/
theorem tab_below {P : Program} {w w' : World} {n : String} {k : IntKind} {zs : List Int} (h : Lib.TabIs P w n k zs) (hb : Below w.heap.size w w') : Lib.TabIs P w' n k zs := by
  unfold Lib.TabIs World.var? at *
  cases hg : P.globalNamed n with
  | none => rw [hg] at h; simp at h
  | some g =>
    rw [hg] at h
    simp only [Option.bind_some] at h ⊢
    have hlt : g < w.heap.size := by
      rcases Nat.lt_or_ge g w.heap.size with h' | h'
      · exact h'
      · rw [Array.getElem?_eq_none h'] at h; simp at h
    rw [hb.block g hlt]; exact h
/-- A struct of a text and a number, as it is listed. -/
theorem pair_of {H : Type} {enc : TypeId × Value → H} {P : Program} {w : World} {base : Nat} {sp : Nat → Bool} {held : Bool} {fuel : Nat} {t ts ti : TypeId} {k : IntKind} {fs : Array Field} {cs : List Value} {s : List UInt8} {z : Int} {p : List MemPlace} {f0 f1 : Field}
    (ht : P.underlying t = some (.struct fs)) (h0 : fs[0]? = some f0) (h1 : fs[1]? = some f1) (e0 : f0.type = ts) (e1 : f1.type = ti) (o0 : f0.offset = 0) (o1 : f1.offset = 1) (hts : P.underlying ts = some .string) (hti : P.underlying ti = some (.int k))
    (c0 : P.cellsOf ts = 1) (c1 : P.cellsOf ti = 1) (hc : P.cellsOf t = 2)
    (h : DataW.trod enc P w base sp held fuel t cs = some (.agg [.lit (.string s), .lit (.int k z)], p)) : cs = [.string (bs s), .int k z] := by
  obtain ⟨xs, n, _, hx, hl, hlen, hf⟩ := DataW.trod_struct ht h
  have g0 := hf 0 f0 h0
  have g1 := hf 1 f1 h1
  rw [e0, o0, c0] at g0
  rw [e1, o1, c1] at g1
  rw [hc] at hl
  have hx1 : xs.map (·.1) = [.lit (.string s), .lit (.int k z)] := (DataW.agg.inj (Prod.mk.inj hx).1).symm
  have hxl : xs.length = 2 := by have := congrArg List.length hx1; simpa using this
  rw [List.getElem?_eq_getElem (by omega)] at g0 g1
  obtain ⟨a, ea, ea2, _⟩ := DataW.trod_string hts g0
  obtain ⟨b, eb, eb2, _⟩ := DataW.trod_int hti g1
  have m0 : (xs.map (·.1))[0]? = some (.lit (.string s)) := by rw [hx1]; rfl
  have m1 : (xs.map (·.1))[1]? = some (.lit (.int k z)) := by rw [hx1]; rfl
  rw [List.getElem?_map, List.getElem?_eq_getElem (by omega), ea2] at m0
  rw [List.getElem?_map, List.getElem?_eq_getElem (by omega), eb2] at m1
  simp only [Option.map_some, Option.some.injEq, DataW.lit.injEq, Lit.string.injEq, Lit.int.injEq, true_and] at m0 m1
  match cs, hl with
  | [x, y], _ =>
    simp at ea eb
    subst m0 m1
    rw [ea, eb, bs_of]
theorem pairs_of {H : Type} {enc : TypeId × Value → H} {P : Program} {w : World} {base : Nat} {sp : Nat → Bool} {held : Bool} {fuel : Nat} {t e ts ti : TypeId} {N : Nat} {k : IntKind} {fs : Array Field} {cs : List Value} {zs : List (List UInt8 × Int)} {p : List MemPlace} {f0 f1 : Field}
    (hu : P.underlying t = some (.array N e)) (ht : P.underlying e = some (.struct fs)) (h0 : fs[0]? = some f0) (h1 : fs[1]? = some f1) (e0 : f0.type = ts) (e1 : f1.type = ti) (o0 : f0.offset = 0) (o1 : f1.offset = 1) (hts : P.underlying ts = some .string) (hti : P.underlying ti = some (.int k))
    (c0 : P.cellsOf ts = 1) (c1 : P.cellsOf ti = 1) (hc : P.cellsOf e = 2) (hct : P.cellsOf t = 2 * N)
    (h : DataW.trod enc P w base sp held fuel t cs = some (.agg (zs.map fun z => .agg [.lit (.string z.1), .lit (.int k z.2)]), p)) :
    cs.length = 2 * N ∧ ∀ i z, zs[i]? = some z → (cs.drop (2 * i)).take 2 = [.string (bs z.1), .int k z.2] := by
  obtain ⟨xs, m, _, hx, hl, hlen, hf⟩ := DataW.trod_array hu h
  have hx1 : xs.map (·.1) = zs.map fun z => .agg [.lit (.string z.1), .lit (.int k z.2)] := (DataW.agg.inj (Prod.mk.inj hx).1).symm
  have hzl : zs.length = N := by have := congrArg List.length hx1; simp at this; omega
  refine ⟨by rw [hl, hct], fun i z hz => ?_⟩
  have hi : i < N := by
    have := (List.getElem?_eq_some_iff.1 hz).1; omega
  have hE := hf i hi
  rw [hc, List.getElem?_eq_getElem (by omega), Nat.mul_comm] at hE
  have m0 : (xs.map (·.1))[i]? = some (.agg [.lit (.string z.1), .lit (.int k z.2)]) := by rw [hx1, List.getElem?_map, hz]; rfl
  rw [List.getElem?_map, List.getElem?_eq_getElem (by omega)] at m0
  simp only [Option.map_some, Option.some.injEq] at m0
  have hE2 : DataW.trod enc P w base sp held m e ((cs.drop (2 * i)).take 2) = some (.agg [.lit (.string z.1), .lit (.int k z.2)], (xs[i]'(by omega)).2) := by rw [hE, ← m0]
  exact pair_of ht h0 h1 e0 e1 o0 o1 hts hti c0 c1 hc hE2
end K
end Go.Proofs.YtndinelljmjfaaaDoor
