/- Texts on the program and on the document, joined: Tab, OidU. -/
import Derived.Test.YtdgnhcbhbpffmaaGreatDoorMa01
import Derived.Lib.LaidTab
import Derived.OpenShut
import Derived.MakeChecks
import Derived.Lay
import Derived.Test.YtdgnhcbhbpffmaaGreatDoorMa15
import Derived.Test.YtdgnhcbhbpffmaaGreatDoorShelf
/- From a row's list of tables to the cells of one of them. Of no program. -/
namespace Go.Proofs.YtdgnhcbhbpffmaaGreatDoor
open Go.RowKit
namespace K
theorem tup3 {a b c a' b' c' : Value} (h1 : a = a') (h2 : b = b') (h3 : c = c') : Ending.returned (.tuple #[a, b, c]) = .returned (.tuple #[a', b', c']) := by rw [h1, h2, h3]
theorem tup2 {a b a' b' : Value} (h1 : a = a') (h2 : b = b') : Ending.returned (.tuple #[a, b]) = .returned (.tuple #[a', b']) := by rw [h1, h2]
theorem one {a a' : Value} (h : a = a') : Ending.returned a = .returned a' := by rw [h]
theorem laidVars_at {P : Program} {W : World} : ∀ {L : List (String × DataW Unit)} {ps : List MemPlace}, DataW.LaidVars P W L ps → ∀ {n : String} {d : DataW Unit}, (n, d) ∈ L →
    ∃ g t cs fuel p, P.globalNamed n = some g ∧ (P.globals[g]?).map (·.type) = some t ∧ W.var? P n = some cs ∧ DataW.trod (fun _ => ()) P W 0 (fun _ => true) false fuel t cs.toList = some (d, p)
  | [], _, _, n, d, hm => by cases hm
  | (m, e) :: r, ps, h, n, d, hm => by
    obtain ⟨g, t, cs, fuel, p, q, h1, h2, h3, h4, hr, _⟩ := h
    rcases List.mem_cons.1 hm with h5 | h5
    · cases h5; exact ⟨g, t, cs, fuel, p, h1, h2, h3, h4⟩
    · exact laidVars_at hr h5
/-- One of a row's listed variables: its cells read as what is listed. -/
theorem laid_at {P : Program} {W : World} {L : List (String × DataW Unit)} (h : laidMetH P L W) (hp : (L.all fun x => x.2.handleName?.isNone) = true) {n : String} {d : DataW Unit} (hm : (n, d) ∈ L) {g : Nat} {t : TypeId}
    (hg : P.globalNamed n = some g) (ht : (P.globals[g]?).map (·.type) = some t) :
    ∃ cs fuel p, W.var? P n = some cs ∧ DataW.trod (fun _ => ()) P W 0 (fun _ => true) false fuel t cs.toList = some (d, p) := by
  rw [MakeChecks.laidMetH_plain _ _ _ hp] at h
  obtain ⟨ps, hl, _, _⟩ := h
  obtain ⟨g', t', cs, fuel, p, h1, h2, h3, h4⟩ := laidVars_at hl hm
  obtain rfl := Option.some.inj (hg.symm.trans h1)
  obtain rfl := Option.some.inj (ht.symm.trans h2)
  exact ⟨cs, fuel, p, h3, h4⟩
/-- A table of integers. -/
theorem laid_tab {P : Program} {W : World} {L : List (String × DataW Unit)} (h : laidMetH P L W) (hp : (L.all fun x => x.2.handleName?.isNone) = true) {n : String} {k : IntKind} {zs : List Int} (hm : (n, (Lib.tabData k zs : DataW Unit)) ∈ L)
    {g : Nat} {t e : TypeId} {N : Nat} (hg : P.globalNamed n = some g) (ht : (P.globals[g]?).map (·.type) = some t) (hu : P.underlying t = some (.array N e)) (he : P.underlying e = some (.int k)) (hce : P.cellsOf e = 1) (hct : P.cellsOf t = N) :
    Lib.TabIs P W n k zs := by
  obtain ⟨cs, fuel, p, hv, hd⟩ := laid_at h hp hm hg ht
  unfold Lib.TabIs
  rw [hv, ← Lib.cells_of_tab hu he hce hct hd]
/-- A table stays as long as only newer memory turns. -/
theorem tab_below {P : Program} {w w' : World} {n : String} {k : IntKind} {zs : List Int} (h : Lib.TabIs P w n k zs) (hb : Below w.heap.size w w') : Lib.TabIs P w' n k zs := by
  unfold Lib.TabIs World.var? at *
  cases hg : P.globalNamed n with
  | none => rw [hg] at h; simp at h
  | some g =>
    rw [hg] at h
    simp only [Option.bind_some] at h ⊢
    have hlt : g < w.heap.size := by
      rcases Nat.lt_or_ge g w.heap.size with h' | h'
      · exact h'
      · rw [Array.getElem?_eq_none h'] at h; simp at h
    rw [hb.block g hlt]; exact h
/-- A struct of a text and a number, as it is listed. -/
theorem pair_of {H : Type} {enc : TypeId × Value → H} {P : Program} {w : World} {base : Nat} {sp : Nat → Bool} {held : Bool} {fuel : Nat} {t ts ti : TypeId} {k : IntKind} {fs : Array Field} {cs : List Value} {s : List UInt8} {z : Int} {p : List MemPlace} {f0 f1 : Field}
    (ht : P.underlying t = some (.struct fs)) (h0 : fs[0]? = some f0) (h1 : fs[1]? = some f1) (e0 : f0.type = ts) (e1 : f1.type = ti) (o0 : f0.offset = 0) (o1 : f1.offset = 1) (hts : P.underlying ts = some .string) (hti : P.underlying ti = some (.int k))
    (c0 : P.cellsOf ts = 1) (c1 : P.cellsOf ti = 1) (hc : P.cellsOf t = 2)
    (h : DataW.trod enc P w base sp held fuel t cs = some (.agg [.lit (.string s), .lit (.int k z)], p)) : cs = [.string (bs s), .int k z] := by
  obtain ⟨xs, n, _, hx, hl, hlen, hf⟩ := DataW.trod_struct ht h
  have g0 := hf 0 f0 h0
  have g1 := hf 1 f1 h1
  rw [e0, o0, c0] at g0
  rw [e1, o1, c1] at g1
  rw [hc] at hl
  have hx1 : xs.map (·.1) = [.lit (.string s), .lit (.int k z)] := (DataW.agg.inj (Prod.mk.inj hx).1).symm
  have hxl : xs.length = 2 := by have := congrArg List.length hx1; simpa using this
  rw [List.getElem?_eq_getElem (by omega)] at g0 g1
  obtain ⟨a, ea, ea2, _⟩ := DataW.trod_string hts g0
  obtain ⟨b, eb, eb2, _⟩ := DataW.trod_int hti g1
  have m0 : (xs.map (·.1))[0]? = some (.lit (.string s)) := by rw [hx1]; rfl
  have m1 : (xs.map (·.1))[1]? = some (.lit (.int k z)) := by rw [hx1]; rfl
  rw [List.getElem?_map, List.getElem?_eq_getElem (by omega), ea2] at m0
  rw [List.getElem?_map, List.getElem?_eq_getElem (by omega), eb2] at m1
  simp only [Option.map_some, Option.some.injEq, DataW.lit.injEq, Lit.string.injEq, Lit.int.injEq, true_and] at m0 m1
  match cs, hl with
  | [x, y], _ =>
    simp at ea eb
    subst m0 m1
    rw [ea, eb, bs_of]
theorem pairs_of {H : Type} {enc : TypeId × Value → H} {P : Program} {w : World} {base : Nat} {sp : Nat → Bool} {held : Bool} {fuel : Nat} {t e ts ti : TypeId} {N : Nat} {k : IntKind} {fs : Array Field} {cs : List Value} {zs : List (List UInt8 × Int)} {p : List MemPlace} {f0 f1 : Field}
    (hu : P.underlying t = some (.array N e)) (ht : P.underlying e = some (.struct fs)) (h0 : fs[0]? = some f0) (h1 : fs[1]? = some f1) (e0 : f0.type = ts) (e1 : f1.type = ti) (o0 : f0.offset = 0) (o1 : f1.offset = 1) (hts : P.underlying ts = some .string) (hti : P.underlying ti = some (.int k))
    (c0 : P.cellsOf ts = 1) (c1 : P.cellsOf ti = 1) (hc : P.cellsOf e = 2) (hct : P.cellsOf t = 2 * N)
    (h : DataW.trod enc P w base sp held fuel t cs = some (.agg (zs.map fun z => .agg [.lit (.string z.1), .lit (.int k z.2)]), p)) :
    cs.length = 2 * N ∧ ∀ i z, zs[i]? = some z → (cs.drop (2 * i)).take 2 = [.string (bs z.1), .int k z.2] := by
  obtain ⟨xs, m, _, hx, hl, hlen, hf⟩ := DataW.trod_array hu h
  have hx1 : xs.map (·.1) = zs.map fun z => .agg [.lit (.string z.1), .lit (.int k z.2)] := (DataW.agg.inj (Prod.mk.inj hx).1).symm
  have hzl : zs.length = N := by have := congrArg List.length hx1; simp at this; omega
  refine ⟨by rw [hl, hct], fun i z hz => ?_⟩
  have hi : i < N := by
    have := (List.getElem?_eq_some_iff.1 hz).1; omega
  have hE := hf i hi
  rw [hc, List.getElem?_eq_getElem (by omega), Nat.mul_comm] at hE
  have m0 : (xs.map (·.1))[i]? = some (.agg [.lit (.string z.1), .lit (.int k z.2)]) := by rw [hx1, List.getElem?_map, hz]; rfl
  rw [List.getElem?_map, List.getElem?_eq_getElem (by omega)] at m0
  simp only [Option.map_some, Option.some.injEq] at m0
  have hE2 : DataW.trod enc P w base sp held m e ((cs.drop (2 * i)).take 2) = some (.agg [.lit (.string z.1), .lit (.int k z.2)], (xs[i]'(by omega)).2) := by rw [hE, ← m0]
  exact pair_of ht h0 h1 e0 e1 o0 o1 hts hti c0 c1 hc hE2
end K
end Go.Proofs.YtdgnhcbhbpffmaaGreatDoor
/- oid's number, walked; what the tables hold. -/
namespace Go.Proofs.YtdgnhcbhbpffmaaGreatDoor
open Go.ChangeShapes Go.WideShapes Go.ChangeAt Go.RowKit K O6
set_option linter.unusedVariables false

/-- What the library's variables hold. -/
def Tabs (w : World) : Prop :=
  (∃ m, w.cell? ⟨2, 0, none⟩ = some (.int .i64 m)) ∧ (∃ te pe, w.cell? ⟨3, 0, none⟩ = some (.iface te pe)) ∧ (∃ te pe, w.cell? ⟨4, 0, none⟩ = some (.iface te pe)) ∧
    Lib.TabIs Tryz.prog w "internal/strconv.uint64pow10" .u64 Lib.pow10Tab
theorem Tabs.below {w w' : World} (h : Tabs w) (k : Below w.heap.size w w') : Tabs w' := by
  obtain ⟨⟨m, h1⟩, ⟨t1, p1, h2⟩, ⟨t2, p2, h3⟩, h4⟩ := h
  refine ⟨⟨m, (k.cell (p := ⟨2, 0, none⟩) (World.block_lt_of_cell? w _ h1)).trans h1⟩, ⟨t1, p1, (k.cell (p := ⟨3, 0, none⟩) (World.block_lt_of_cell? w _ h2)).trans h2⟩,
    ⟨t2, p2, (k.cell (p := ⟨4, 0, none⟩) (World.block_lt_of_cell? w _ h3)).trans h3⟩, tab_below h4 k⟩
theorem nr_bad {l : List UInt8} (h : ∀ u, Lib.parseUintB 32 l ≠ .ok u) : nr l = none := by
  unfold nr
  cases hp : Lib.parseUintB 32 l with
  | ok u => exact absurd hp (h u)
  | _ => rfl
theorem nr_ok {l : List UInt8} {u : Nat} (h : Lib.parseUintB 32 l = .ok u) : l ≠ [] ∧ u ≤ 4294967295 ∧ nr l = if byt l 0 = 48 ∧ l ≠ [48] then none else some u := by
  refine ⟨?_, ?_, ?_⟩
  · intro e; subst e; unfold Lib.parseUintB at h; rw [if_pos rfl] at h; cases h
  · unfold Lib.parseUintB at h
    by_cases hl : l = []
    · rw [if_pos hl] at h; cases h
    · rw [if_neg hl] at h
      exact (pum_inv l 0 u (by omega) h).2.2
  · unfold nr; rw [h]
/-- What number tells of a word. -/
def NrPost (l : List UInt8) (w : World) (e : Ending) (w' : World) : Prop :=
  e = .returned (.tuple #[.int .i64 (((nr l).getD 0 : Nat) : Int), .bool (nr l).isSome]) ∧ Below w.heap.size w w'
set_option maxRecDepth 100000 in
set_option maxHeartbeats 1000000 in
theorem onumber_no (l : List UInt8) (hl : l.length ≤ 1000000) (w : World) (T : Tabs w) (h : ∀ u, Lib.parseUintB 32 l ≠ .ok u) :
    Calls Tryz.prog 111 #[.string (bs l)] w (NrPost l w) := by
  obtain ⟨-, ⟨t1, p1, h2⟩, ⟨t2, p2, h3⟩, -⟩ := T
  unfold NrPost
  rw [nr_bad h]
  cases hp : Lib.parseUintB 32 l with
  | ok u => exact absurd hp (h u)
  | range =>
    have HC := Lib.hid (Tryz.strconv_ParseUint_10_at32_range (bs l) (by rw [bs_size]; omega) (by rw [bs_toList]; exact hp) _ w h3 (.inr ⟨_, _, rfl⟩))
    clear hp h2 h3 h
    go_enter Tryz.func111, Tryz.ntmps111
    go_wp2_with fail
    refine HC.out.mono ?_
    rintro e w1 ⟨n, rfl, -, -, b1⟩
    go_wp2
    go_ret2
    exact ⟨rfl, b1⟩
  | _ =>
    have HC := Lib.hid (Tryz.strconv_ParseUint_10_at32_syntax (bs l) (by rw [bs_size]; omega) (by rw [bs_toList]; exact hp) _ w h2 (.inr ⟨_, _, rfl⟩))
    clear hp h2 h3 h
    go_enter Tryz.func111, Tryz.ntmps111
    go_wp2_with fail
    refine HC.out.mono ?_
    rintro e w1 ⟨n, rfl, -, -, b1⟩
    go_wp2
    go_ret2
    exact ⟨rfl, b1⟩
set_option maxRecDepth 100000 in
set_option maxHeartbeats 1000000 in
theorem onumber_yes (l : List UInt8) (hl : l.length ≤ 1000000) (u : Nat) (w : World) (h : Lib.parseUintB 32 l = .ok u) :
    Calls Tryz.prog 111 #[.string (bs l)] w (NrPost l w) := by
  obtain ⟨hne, hu, hnr⟩ := nr_ok h
  unfold NrPost
  have hC := Tryz.strconv_ParseUint_10_at32_ok (bs l) (by rw [bs_size]; omega) u (by rw [bs_toList]; exact h) w
  have HC := Lib.hid (hC.mono (fun e w' (hh : e = .returned (.tuple #[.int .u64 u, .nilIface]) ∧ (w' = w ∨ w' = Lib.bytesWorld w 5 (bs l))) => (⟨hh.1, by
    rcases hh.2 with h1 | h1
    · rw [h1]; exact Below.refl _ _
    · rw [h1]; exact (Kp.bytes (Kp.refl [] w) 5 (bs l)).below (Nat.le_refl _) (by simp)⟩ : e = .returned (.tuple #[.int .u64 u, .nilIface]) ∧ Below w.heap.size w w')))
  clear hC h
  have hp : 0 < l.length := List.length_pos_iff.2 hne
  have hp' : (0 : Int) < ((l.length : Nat) : Int) := by omega
  by_cases h48 : byt l 0 = 48
  · have hb : (((byt l 0 : Nat) : Int) == 48) = true := by rw [h48]; rfl
    by_cases hl48 : l = [48]
    · have he : (l == [48]) = true := beq_iff_eq.2 hl48
      have HN := Lib.hid (show nr l = some u by rw [hnr, if_neg (by rintro ⟨_, h⟩; exact h hl48)])
      clear hnr h48 hl48 hne hp
      go_enter Tryz.func111, Tryz.ntmps111
      go_wp2_with fail
      refine HC.out.mono ?_
      rintro e w1 ⟨rfl, b1⟩
      go_wp2
      go_ret2
      rw [HN.out]
      exact ⟨rfl, b1⟩
    · have he : (l == [48]) = false := beq_eq_false_iff_ne.2 hl48
      have HN := Lib.hid (show nr l = none by rw [hnr, if_pos ⟨h48, hl48⟩])
      clear hnr h48 hl48 hne hp
      go_enter Tryz.func111, Tryz.ntmps111
      go_wp2_with fail
      refine HC.out.mono ?_
      rintro e w1 ⟨rfl, b1⟩
      go_wp2
      go_ret2
      rw [HN.out]
      exact ⟨rfl, b1⟩
  · have hb : (((byt l 0 : Nat) : Int) == 48) = false := by rw [beq_eq_false_iff_ne]; omega
    have HN := Lib.hid (show nr l = some u by rw [hnr, if_neg (by rintro ⟨h, _⟩; exact h48 h)])
    clear hnr h48 hne hp
    go_enter Tryz.func111, Tryz.ntmps111
    go_wp2_with fail
    refine HC.out.mono ?_
    rintro e w1 ⟨rfl, b1⟩
    go_wp2
    go_ret2
    rw [HN.out]
    exact ⟨rfl, b1⟩
theorem onumber_walk (l : List UInt8) (hl : l.length ≤ 1000000) (w : World) (T : Tabs w) :
    Calls Tryz.prog 111 #[.string (bs l)] w (NrPost l w) := by
  cases hp : Lib.parseUintB 32 l with
  | ok u => exact onumber_yes l hl u w hp
  | _ => exact onumber_no l hl w T (fun u h => by rw [hp] at h; cases h)

/-! ### Arcs -/
theorem made_info : (Tryz.prog.info? 3).map (fun i => (i.zero, i.size, i.bytes)) = some (some (.int .i64 0), 1, 8) := by kernel_rfl
theorem pcsB (s : List UInt8) : (Lib.splitB (bs [46]) 0 (min 129 ((bs s).size + 1) - 1) (bs s)).map (fun x => x.data.toList) = pcs s := by
  rw [Lib.splitB_data, bs_toList, bs_toList, bs_size]; rfl
/-- The words as they lie. -/
def Wds (w : World) (g : Nat) (ps : List (List UInt8)) : Prop := g < w.heap.size ∧ ∀ i, i < ps.length → w.cell? ⟨g, i, none⟩ = some (.string (bs (ps.getD i [])))
theorem Wds.below {w w' : World} {g : Nat} {ps : List (List UInt8)} (h : Wds w g ps) (k : Below w.heap.size w w') : Wds w' g ps :=
  ⟨Nat.lt_of_lt_of_le h.1 k.size, fun i hi => (k.cell (p := ⟨g, i, none⟩) h.1).trans (h.2 i hi)⟩
theorem Wds.new (s : List UInt8) (w : World) (T : TypeId) : Wds (w.alloc (.cells (Lib.cellsOf (Lib.splitB (bs [46]) 0 (min 129 ((bs s).size + 1) - 1) (bs s)) (min 129 ((bs s).size + 1))) T)) w.heap.size (pcs s) := by
  have hp := pcsB s
  refine ⟨by simp, fun i hi => ?_⟩
  rw [cellRow (rowNew w _)]
  rw [← hp] at hi ⊢
  rw [List.length_map] at hi
  generalize Lib.splitB (bs [46]) 0 (min 129 ((bs s).size + 1) - 1) (bs s) = ps at *
  unfold Lib.cellsOf
  rw [List.getElem?_toArray, List.getElem?_append_left (by simpa using hi), List.getElem?_map, List.getElem?_eq_getElem hi]
  simp [List.getD, List.getElem?_eq_getElem hi, bs]
theorem pcs_le (s : List UInt8) : ∀ x ∈ pcs s, x.length ≤ s.length := by
  have h : ∀ (k : Nat) (l : List UInt8), ∀ x ∈ Lib.splitK [46] 0 k l, x.length ≤ l.length := by
    intro k
    induction k with
    | zero =>
      intro l x hx
      have : x = l := by simpa [Lib.splitK] using hx
      rw [this]; exact Nat.le_refl _
    | succ k ih =>
      intro l x hx
      rcases dot_or l with h | ⟨a, r, rfl, h⟩
      · rw [spk_none _ _ h] at hx
        have : x = l := by simpa using hx
        rw [this]; exact Nat.le_refl _
      · rw [spk_some k a r h] at hx
        rw [List.length_append, List.length_cons]
        rcases List.mem_cons.1 hx with h1 | h1
        · rw [h1]; omega
        · have := ih r x h1; omega
  exact h _ s
theorem getD_mem {l : List (List UInt8)} {i : Nat} (hi : i < l.length) : l.getD i [] ∈ l := by
  simp [List.getD, List.getElem?_eq_getElem hi]
/-- The list of numbers while it is filled. -/
def fil (done : List Nat) (n : Nat) : Array Value := (nums (done ++ List.replicate (n - done.length) 0)).toArray
theorem fil_size (done : List Nat) (n : Nat) (h : done.length ≤ n) : (fil done n).size = n := by simp [fil, nums]; omega
theorem fil_nil (n : Nat) : madeCells #[.int .i64 0] n = fil [] n := by
  apply Array.ext
  · simp [fil, madeCells, nums]
  · intro i h1 h2
    simp [fil, madeCells, nums, Nat.mod_one]
theorem set_mid : ∀ (a : List Value) (x v : Value) (c : List Value), (a ++ x :: c).set a.length v = a ++ v :: c
  | [], _, _, _ => rfl
  | y :: a, x, v, c => by
    show y :: (a ++ x :: c).set a.length v = y :: (a ++ v :: c)
    rw [set_mid a x v c]
theorem fil_set (done : List Nat) (n v : Nat) (h : done.length < n) : (fil done n).setIfInBounds done.length (.int .i64 (v : Nat)) = fil (done ++ [v]) n := by
  obtain ⟨m, rfl⟩ : ∃ m, n = done.length + (m + 1) := ⟨n - done.length - 1, by omega⟩
  have e1 : done.length + (m + 1) - done.length = m + 1 := by omega
  have e2 : done.length + (m + 1) - (done ++ [v]).length = m := by rw [List.length_append, List.length_singleton]; omega
  unfold fil
  rw [e1, e2, List.setIfInBounds_toArray, List.replicate_succ, nums_app, nums_app, nums_app, List.append_assoc]
  have hs := set_mid (nums done) (.int .i64 ((0 : Nat) : Int)) (.int .i64 (v : Nat)) (nums (List.replicate m 0))
  rw [nums_len] at hs
  exact congrArg List.toArray hs
theorem fil_full (done : List Nat) : fil done done.length = (nums done).toArray := by simp [fil]
theorem fil_own {w : World} {B g : Nat} {T : TypeId} {done : List Nat} (hB : B ≤ g) (hm : done.length ≤ 1000) (h : w.heap[g]? = some (.cells (fil done done.length) T (0, 0))) : OwnI w B T (.slice (some ⟨g, 0, none⟩) done.length done.length) done := by
  rw [fil_full] at h
  refine ⟨by simp [nums], .inr ⟨g, done.length, _, rfl, hB, h, Nat.le_refl _, by unfold maxLen; omega, by simp [nums], ?_⟩⟩
  rw [Nat.mul_one]
  exact List.take_of_length_le (by simp [nums])
theorem RdZ.ofOwn {w : World} {B : Nat} {T : TypeId} {v : Value} {cs : List Nat} (h : OwnI w B T v cs) : ∃ ao cap, v = .slice ao cs.length cap ∧ RdZ w ao cs.length (fz cs) := by
  obtain ⟨ao, cap, hv, hc⟩ := h.form
  refine ⟨ao, cap, hv, ?_⟩
  rcases hc with h0 | ⟨g, ha, _, hg, hcell⟩
  · exact .inl h0
  · exact .inr ⟨g, 0, ha, hg, fun i hi => by rw [Nat.zero_add]; exact (hcell i hi).1⟩
def ArLp (s : List UInt8) (w : World) (gw ga g : Nat) (v : Value) (wr : World) : Prop :=
  ∃ done : List Nat, done.length + g = (pcs s).length ∧ v = .int .i64 (done.length : Nat) ∧ (∀ j, j < done.length → nr ((pcs s).getD j []) = some (done.getD j 0)) ∧ Wds wr gw (pcs s) ∧
    wr.heap[ga]? = some (.cells (fil done (pcs s).length) 3 (0, 0)) ∧ Below w.heap.size w wr
set_option maxRecDepth 100000 in
set_option maxHeartbeats 1000000 in
theorem arcs_walk (s : List UInt8) (hs : s.length ≤ 1000000) (w : World) (T : Tabs w) :
    Calls Tryz.prog 85 #[.string (bs s)] w (ArPost s w) := by
  obtain ⟨⟨m, hm⟩, -⟩ := id T
  have hSP := Tryz.strings_SplitN (bs s) (bs [46]) 129 m w (by rw [bs_size]; omega) hm (by rw [bs_size]; decide) (by decide) (by decide)
  have hW := fun T => Wds.new s w T
  have hpl := pcs_len s
  have hlen : (Lib.splitB (bs [46]) 0 (min 129 ((bs s).size + 1) - 1) (bs s)).length = (pcs s).length := by rw [← pcsB s, List.length_map]
  rw [hlen] at hSP
  have HSP := Lib.hid hSP
  have HW := Lib.hid hW
  clear hSP hW hlen
  have HN := Lib.hid (fun x (hx : x ∈ pcs s) w1 (h : Tabs w1) => onumber_walk x (Nat.le_trans (pcs_le s x hx) hs) w1 h)
  have HT := Lib.hid T
  have HPL := Lib.hid hpl
  have hmk := run_make_row' (P := Tryz.prog) 134 3 (.int .i64 0) 8 Tryz.underlying134 made_info rfl .i64 .i64 (pcs s).length (by omega) (by omega)
  have hn1 : ((pcs s).length : Int) ≤ 129 := by omega
  unfold ArPost
  clear hpl T hm
  go_enter Tryz.func85, Tryz.ntmps85
  go_wp2_with (go_at_call 110; refine HSP.out.mono ?_)
  rintro e w1 ⟨rfl, hw1⟩
  have hA1 : Wds w1 w.heap.size (pcs s) := by rw [hw1]; exact HW.out _
  have hb1 : Below w.heap.size w w1 := by rw [hw1]; exact (Below.refl _ _).alloc (Nat.le_refl _) _
  have hga : w.heap.size < w1.heap.size := hA1.1
  clear hw1 HSP HW
  go_wp2
  have hF : (w1.alloc (.cells (madeCells #[.int .i64 0] (pcs s).length) 3)).heap[w1.heap.size]? = some (.cells (fil [] (pcs s).length) 3 (0, 0)) := by rw [← fil_nil]; exact rowNew w1 _
  have hA2 := hA1.below ((Below.refl w1.heap.size w1).alloc (Nat.le_refl _) (.cells (madeCells #[.int .i64 0] (pcs s).length) 3))
  have hb2 := hb1.alloc hb1.size (.cells (madeCells #[.int .i64 0] (pcs s).length) 3)
  clear hmk hA1 hb1
  generalize w1.alloc (.cells (madeCells #[.int .i64 0] (pcs s).length) 3) = w2 at *
  generalize w1.heap.size = ga at *
  go_loopg [17] (pcs s).length (fun g v17 wr => ArLp s w w.heap.size ga g v17 wr)
  case atStart => exact ⟨[], by simp, rfl, fun j hj => by simp at hj, hA2, hF, hb2⟩
  case round =>
    clear hA2 hF hb2
    obtain ⟨done, hig, rfl, hall, hA, hF, hb⟩ := hrel
    have HAL := Lib.hid hall
    clear hall
    cases gk with
    | succ g =>
      have hin : done.length < (pcs s).length := by omega
      have hcell := hA.2 done.length hin
      have hTr := HT.out.below hb
      have hNr := HN.out _ (getD_mem hin) wr hTr
      unfold NrPost at hNr
      have HBAD := Lib.hid (fun (h : nr ((pcs s).getD done.length []) = none) => nrs_bad (getD_mem hin) h)
      cases hx : nr ((pcs s).getD done.length []) with
      | none =>
        rw [hx] at hNr
        have har : arcs s = none := by rw [arcs_pcs, HBAD.out hx]
        have HAR := Lib.hid (ar_none har)
        have HNR := Lib.hid hNr
        clear hNr hx HBAD har hF hA hTr
        generalize (pcs s).getD done.length [] = x at *
        go_wp2_with fail
        refine HNR.out.mono ?_
        rintro e w3 ⟨rfl, b3⟩
        have hb3 := hb.trans (b3.mono hb.size)
        go_wp2
        go_ret2
        rw [HAR.out.1, HAR.out.2]
        exact ⟨_, rfl, OwnI.nil _ _ _, hb3⟩
      | some v =>
        rw [hx] at hNr
        have HX := Lib.hid hx
        have HNR := Lib.hid hNr
        have hA' := Lib.hid hA
        have hF' := Lib.hid hF
        clear hNr HBAD hTr hA hF
        generalize hgx : (pcs s).getD done.length [] = x at hcell HNR
        have HGX := Lib.hid hgx
        clear hgx hx
        go_wp2_with fail
        refine HNR.out.mono ?_
        rintro e w3 ⟨rfl, b3⟩
        have hb3 := hb.trans (b3.mono hb.size)
        have hA3 := hA'.out.below b3
        have hF3 := (b3.block ga (lt_of_block hF'.out)).trans hF'.out
        have HF3 := Lib.hid hF3
        have HA3 := Lib.hid hA3
        have hfs := fil_size done (pcs s).length (by omega)
        obtain ⟨y, hc0⟩ : ∃ x, w3.cell? ⟨ga, done.length, none⟩ = some x := ⟨(fil done (pcs s).length)[done.length]'(by omega), by simp [World.cell?, hF3, hfs, hin]⟩
        have hfr : w3.frozen? ⟨ga, done.length, none⟩ = false := freeRow hF3 done.length
        clear hF3 hA3 hcell hF' hA' hb b3 hfs HNR
        go_wp2
        go_roundg g
        case measure => omega
        case rel =>
          refine ⟨done ++ [v], by simp; omega, by simp, fun j hj => ?_, ?_, ?_, hb3.setCell (p := ⟨ga, done.length, none⟩) (Nat.le_of_lt hga) _⟩
          · rw [List.length_append, List.length_singleton] at hj
            rcases Nat.lt_or_ge j done.length with h1 | h1
            · rw [HAL.out j h1]
              simp [List.getD, List.getElem?_append_left h1]
            · obtain rfl : j = done.length := by omega
              rw [HX.out]
              simp [List.getD]
          · exact ⟨by have := HA3.out.1; simpa using this, fun i hi => (World.cell?_of_block (Below.heap_setCell _ _ _ _ (by show w.heap.size ≠ ga; omega))).trans (HA3.out.2 i hi)⟩
          · rw [← fil_set done _ v hin]
            exact rowSet HF3.out _ _
    | zero =>
      have hlen : (pcs s).length = done.length := by omega
      have hnrs := nrs_good hlen (fun i hi => HAL.out i hi)
      have har : arcs s = if isArcs done then some done else none := by rw [arcs_pcs, hnrs]
      have hd : done.length ≤ 129 := by omega
      rw [hlen] at hF
      have hO := fil_own (B := w.heap.size) (Nat.le_of_lt hga) (by omega) hF
      have hz := isZ_fz done
      have hAr := Lib.hid (fun w1 (h : OwnI w1 w.heap.size 3 (.slice (some ⟨ga, 0, none⟩) done.length done.length) done) => areArcs_walk (some ⟨ga, 0, none⟩) done.length done.length (fz done) (by omega) w1 (by
        obtain ⟨ao, cap, hv, hr⟩ := RdZ.ofOwn h
        injection hv with h1 h2 h3
        rw [h1]; exact hr))
      clear hA hF hnrs HN HAL HPL hig
      rw [hz] at hAr
      generalize (pcs s).length = N at *
      subst hlen
      cases hi : isArcs done
      · rw [hi] at hAr har
        have HAR := Lib.hid (ar_none har)
        clear har hi hz
        go_wp2_with fail
        refine (hAr.out wr hO).mono ?_
        rintro e w3 ⟨rfl, q, rfl⟩
        have hb3 := Below_drewNg hb q
        go_wp2
        go_ret2
        rw [HAR.out.1, HAR.out.2]
        exact ⟨_, rfl, OwnI.nil _ _ _, hb3⟩
      · rw [hi] at hAr har
        have HAR := Lib.hid (ar_some har)
        clear har hi hz
        go_wp2_with fail
        refine (hAr.out wr hO).mono ?_
        rintro e w3 ⟨rfl, q, rfl⟩
        have hb3 := Below_drewNg hb q
        have hO3 := hO.drewN q
        go_wp2
        go_ret2
        rw [HAR.out.1, HAR.out.2]
        exact ⟨_, rfl, hO3, hb3⟩
end Go.Proofs.YtdgnhcbhbpffmaaGreatDoor
