/- Texts on the program and on the document, joined: Arg, Arr. -/
import Derived.Test.YtaeglmgpoboihaaGreatDoorMa01
import Derived.SizedLaws
import Derived.Deep.Slices
import Derived.Deep.Fields
import Derived.WideShapes
import Derived.ChangeArms
import Derived.OpenShut
/- What an argument's reading gives: its cells, typed, and that no string, slice or map takes more than the reach. Of no program. -/
namespace Go.Proofs.YtaeglmgpoboihaaGreatDoor
open Go.RowKit
namespace K
set_option linter.unusedVariables false

/-- These cells read as a value of type t, and what is read lies within the reach. -/
def Rdg (P : Program) (w : World) (t : TypeId) (cs : List Value) : Prop :=
  ∃ (H : Type) (enc : TypeId × Value → H) (fuel : Nat) (x : DataW H × List MemPlace), DataW.trod enc P w 0 (fun _ => true) true fuel t cs = some x ∧ ∀ n ∈ x.1.weights P t, n ≤ reachBytes

theorem Rdg.of {H : Type} {enc : TypeId × Value → H} {P : Program} {w : World} {t : TypeId} {v : Value} {d : DataW H} {p : List MemPlace} (h : DataW.Trod enc P w 0 (fun _ => true) true t v d p)
    {ts : List TypeId} {ds : List (DataW H)} (hs : (DataW.weightsEach P ts ds).all (· ≤ reachBytes) = true) {j : Nat} (ht : ts[j]? = some t) (hd : ds[j]? = some d) : Rdg P w t v.cells.toList := by
  obtain ⟨fuel, hf⟩ := h
  refine ⟨H, enc, fuel, (d, p), hf, fun n hn => ?_⟩
  have := List.all_eq_true.1 hs n (DataW.weights_mem_each ht hd n hn)
  simpa using this

section
variable {P : Program} {w : World} {t e : TypeId} {cs : List Value}

theorem Rdg.int {k : IntKind} (h : Rdg P w t cs) (ht : P.underlying t = some (.int k)) : ∃ n, cs = [.int k n] ∧ (Lit.int k n).wf = true := by
  obtain ⟨H, enc, fuel, x, hx, _⟩ := h
  obtain ⟨n, h1, _, h2⟩ := DataW.trod_int ht hx
  exact ⟨n, h1, h2⟩

theorem Rdg.string (h : Rdg P w t cs) (ht : P.underlying t = some .string) : ∃ l : List UInt8, cs = [.string (bs l)] ∧ l.length ≤ reachBytes := by
  obtain ⟨H, enc, fuel, x, hx, hw⟩ := h
  obtain ⟨s, h1, h2, _⟩ := DataW.trod_string ht hx
  subst h2
  refine ⟨s.data.toList, by rw [bs_of]; exact h1, hw _ (by simp [DataW.weights])⟩

theorem Rdg.bool (h : Rdg P w t cs) (ht : P.underlying t = some .bool) : ∃ b, cs = [.bool b] := by
  obtain ⟨H, enc, fuel, x, hx, _⟩ := h
  cases fuel with
  | zero => simp [DataW.trod] at hx
  | succ n =>
    unfold DataW.trod at hx
    rw [ht] at hx
    split at hx <;> simp_all

/-- Cells of a slice's elements, one behind the other. -/
def Row (w : World) (b off : Nat) (n : Nat) (f : Nat → Value) : Prop := b < w.heap.size ∧ ∀ i, i < n → w.cell? ⟨b, off + i, none⟩ = some (f i)

theorem Rdg.slice {C : Nat} (h : Rdg P w t cs) (ht : P.underlying t = some (.slice e)) (hC : P.cellsOf e = C) (hpos : 0 < C) :
    ∃ (ao : Option Addr) (len cap : Nat), cs = [.slice ao len cap] ∧ len ≤ cap ∧ cap * P.bytesOf e ≤ reachBytes ∧ cap ≤ maxLen ∧
      (len = 0 ∨ ∃ b off f, ao = some ⟨b, off, none⟩ ∧ Row w b off (len * C) f ∧ ∀ i, i < len → Rdg P w e ((List.range C).map fun j => f (i * C + j))) := by
  obtain ⟨H, enc, fuel, x, hx, hw⟩ := h
  rcases Deep.open_slice ht hx with ⟨rfl, rfl⟩ | ⟨a, len, cap, m, n, D, Pl, hcs, _, hl, hm, hmm, hxx, hi⟩
  · exact ⟨none, 0, 0, rfl, Nat.le_refl _, by simp, by simp, .inl rfl⟩
  · subst hcs
    subst hxx
    simp only [if_true] at hmm
    subst hmm
    have hw0 := hw ((((List.range len).map D).length + ((List.range (m - len)).map fun j => D (len + j)).length) * P.bytesOf e) (by simp [DataW.weights, ht])
    simp only [List.length_map, List.length_range] at hw0
    rw [show len + (m - len) = m by omega] at hw0
    refine ⟨some a, len, m, rfl, hl, hw0, hm, ?_⟩
    rcases Nat.eq_zero_or_pos len with h0 | h0
    · exact .inl h0
    · right
      have hcell : ∀ i j, i < m → j < C → ∃ v, w.cell? ((a.add (i * C)).add j) = some v := by
        intro i j hi' hj
        obtain ⟨cs', h1, _⟩ := hi i hi'
        rw [hC] at h1
        obtain ⟨_, h2, h3⟩ := World.cells?_some h1
        exact ⟨_, (h3 j hj).trans (List.getElem?_eq_getElem (by omega))⟩
      obtain ⟨v0, hv0⟩ := hcell 0 0 (by omega) hpos
      have hadd0 : (a.add (0 * C)).add 0 = a := by simp [Addr.add]
      rw [hadd0] at hv0
      have hsp : a.spot = none := by
        cases hs : a.spot with
        | none => rfl
        | some s =>
          exfalso
          unfold World.cell? at hv0
          split at hv0
          · simp [hs] at hv0
          · cases hv0
      have ha : a = ⟨a.block, a.off, none⟩ := by cases a; simp_all
      have hadd : ∀ k, a.add k = ⟨a.block, a.off + k, none⟩ := by
        intro k
        rw [ha]
        unfold Addr.add
        split
        · subst_vars; rfl
        · rfl
      have hlin : ∀ i j, (a.add (i * C)).add j = ⟨a.block, a.off + (i * C + j), none⟩ := by
        intro i j; rw [Deep.add_add, hadd]
      refine ⟨a.block, a.off, fun k => (w.cell? ⟨a.block, a.off + k, none⟩).getD undef, by rw [← ha], ⟨World.block_lt_of_cell? w a hv0, ?_⟩, ?_⟩
      · intro k hk
        have hd : k / C < len := Nat.div_lt_of_lt_mul (by rw [Nat.mul_comm]; exact hk)
        obtain ⟨v, hv⟩ := hcell (k / C) (k % C) (by omega) (Nat.mod_lt _ hpos)
        rw [hlin, Nat.mul_comm, Nat.div_add_mod] at hv
        show _ = some ((w.cell? ⟨a.block, a.off + k, none⟩).getD undef)
        rw [hv]; rfl
      · intro i hil
        obtain ⟨cs', h1, h2⟩ := hi i (by omega)
        rw [hC] at h1
        obtain ⟨_, h3, h4⟩ := World.cells?_some h1
        have e1 : cs' = (List.range C).map fun j => (w.cell? ⟨a.block, a.off + (i * C + j), none⟩).getD undef := by
          apply List.ext_getElem
          · simp [h3]
          · intro j hj1 hj2
            have hj : j < C := by omega
            have := h4 j hj
            rw [hlin] at this
            simp [this, List.getElem?_eq_getElem hj1]
        refine ⟨H, enc, n, (D i, Pl i), by rw [← e1]; exact h2, fun q hq => hw q ?_⟩
        simp only [DataW.weights, ht, List.mem_cons, List.mem_append]
        right; left
        have hmem : ∀ (l : List (DataW H)), D i ∈ l → q ∈ DataW.weightsAll P e l := by
          intro l
          induction l with
          | nil => intro hm; simp at hm
          | cons d l ih =>
            intro hm
            simp only [DataW.weightsAll, List.mem_append]
            rcases List.mem_cons.1 hm with h5 | h5
            · left; rw [← h5]; exact hq
            · right; exact ih h5
        exact hmem _ (List.mem_map.2 ⟨i, by simpa using hil, rfl⟩)

theorem Rdg.struct {fs : Array Field} (h : Rdg P w t cs) (ht : P.underlying t = some (.struct fs)) :
    cs.length = P.cellsOf t ∧ ∀ (i : Nat) (f : Field), fs[i]? = some f → Rdg P w f.type ((cs.drop f.offset).take (P.cellsOf f.type)) := by
  obtain ⟨H, enc, fuel, x, hx, hw⟩ := h
  obtain ⟨xs, n, _, hxx, hl, hlen, hf⟩ := DataW.trod_struct ht hx
  refine ⟨hl, fun i f hi => ?_⟩
  have h1 := hf i f hi
  have hil : i < fs.size := (Array.getElem?_eq_some_iff.1 hi).1
  rw [List.getElem?_eq_getElem (by omega)] at h1
  refine ⟨H, enc, n, _, h1, fun q hq => hw q ?_⟩
  subst hxx
  simp only [DataW.weights, ht]
  refine DataW.weights_mem_each (j := i) (t := f.type) (d := (xs[i]'(by omega)).1) ?_ ?_ q hq
  · simp [hi]
  · simp [List.getElem?_eq_getElem (show i < xs.length by omega)]

theorem Rdg.fields {fs : Array Field} (h : Rdg P w t cs) (ht : P.underlying t = some (.struct fs)) (hone : Deep.oneCellFields P fs = true) :
    cs.length = P.cellsOf t ∧ ∀ (i : Nat) (T : TypeId), (fs[i]?).map (·.type) = some T → i < cs.length → ∃ v, cs[i]? = some v ∧ Rdg P w T [v] := by
  obtain ⟨hl, hf⟩ := h.struct ht
  refine ⟨hl, fun i T hi hlt => ?_⟩
  obtain ⟨f, hfi, rfl⟩ := Option.map_eq_some_iff.1 hi
  obtain ⟨ho, hk⟩ := Deep.hone_of hone i f hfi
  have h1 := hf i f hfi
  rw [ho, hk] at h1
  refine ⟨cs[i], List.getElem?_eq_getElem hlt, ?_⟩
  have : (cs.drop i).take 1 = [cs[i]] := by
    rw [List.drop_eq_getElem_cons hlt]; rfl
  rw [this] at h1
  exact h1
/-- A struct of two integers. -/
theorem Rdg.ints2 {fs : Array Field} {k : IntKind} {T : TypeId} {v0 v1 : Value} (h : Rdg P w t [v0, v1]) (ht : P.underlying t = some (.struct fs)) (hone : Deep.oneCellFields P fs = true)
    (h0 : (fs[0]?).map (·.type) = some T) (h1 : (fs[1]?).map (·.type) = some T) (hT : P.underlying T = some (.int k)) :
    ∃ x y, v0 = .int k x ∧ v1 = .int k y ∧ (Lit.int k x).wf = true ∧ (Lit.int k y).wf = true := by
  obtain ⟨_, hf⟩ := h.fields ht hone
  obtain ⟨u0, e0, r0⟩ := hf 0 T h0 (by simp)
  obtain ⟨u1, e1, r1⟩ := hf 1 T h1 (by simp)
  obtain ⟨x, ex, wx⟩ := r0.int hT
  obtain ⟨y, ey, wy⟩ := r1.int hT
  simp at e0 e1 ex ey
  exact ⟨x, y, by rw [e0, ex], by rw [e1, ey], wx, wy⟩

/-- A list of integers, and of texts, that came in. -/
def Nums (k : IntKind) (w : World) (ao : Option Addr) (len : Nat) (ns : Nat → Int) : Prop :=
  len ≤ 140737488351232 ∧ (len = 0 ∨ ∃ b off, ao = some ⟨b, off, none⟩ ∧ Row w b off len (fun i => .int k (ns i))) ∧ ∀ i, (Lit.int k (ns i)).wf = true
def Strs (w : World) (ao : Option Addr) (len : Nat) (ss : Nat → List UInt8) : Prop :=
  len ≤ 140737488351232 ∧ (len = 0 ∨ ∃ b off, ao = some ⟨b, off, none⟩ ∧ Row w b off len (fun i => .string (bs (ss i)))) ∧ ∀ i, (ss i).length ≤ 140737488351232
def intOf0 : Value → Int | .int _ n => n | _ => 0
def strOf0 : Value → List UInt8 | .string s => s.data.toList | _ => []

theorem Rdg.nums {k : IntKind} {ao : Option Addr} {len cap : Nat} (h : Rdg P w t [.slice ao len cap]) (ht : P.underlying t = some (.slice e)) (he : P.underlying e = some (.int k)) (hC : P.cellsOf e = 1) (hB : 0 < P.bytesOf e) (h0 : (Lit.int k 0).wf = true) :
    ∃ ns, Nums k w ao len ns := by
  obtain ⟨ao', len', cap', hcs, hl, hb, _, hr⟩ := h.slice (C := 1) ht hC (by omega)
  simp only [List.cons.injEq, Value.slice.injEq, and_true] at hcs
  obtain ⟨rfl, rfl, rfl⟩ := hcs
  have hle : len ≤ 140737488351232 := by
    unfold reachBytes at hb
    have := Nat.le_mul_of_pos_right cap hB
    omega
  rcases hr with h1 | ⟨b, off, f, ha, hrow, hel⟩
  · exact ⟨fun _ => 0, hle, .inl h1, fun _ => h0⟩
  · have hty : ∀ i, i < len → ∃ n, f i = .int k n ∧ (Lit.int k n).wf = true := by
      intro i hi
      obtain ⟨n, e, wf⟩ := (show Rdg P w _ [f (i * 1 + 0)] from hel i hi).int he
      simp only [Nat.mul_one, Nat.add_zero, List.cons.injEq, and_true] at e
      exact ⟨n, e, wf⟩
    refine ⟨fun i => if i < len then intOf0 (f i) else 0, hle, .inr ⟨b, off, ha, hrow.1, fun i hi => ?_⟩, fun i => ?_⟩
    · have h2 := hrow.2 i (by omega)
      obtain ⟨n, e, _⟩ := hty i hi
      rw [h2]; simp only [if_pos hi, e, intOf0]
    · by_cases hi : i < len
      · obtain ⟨n, e, b1⟩ := hty i hi
        simp only [if_pos hi, e, intOf0]; exact b1
      · simp only [if_neg hi]; exact h0

theorem Rdg.strs {ao : Option Addr} {len cap : Nat} (h : Rdg P w t [.slice ao len cap]) (ht : P.underlying t = some (.slice e)) (he : P.underlying e = some .string) (hC : P.cellsOf e = 1) (hB : 0 < P.bytesOf e) :
    ∃ ss, Strs w ao len ss := by
  obtain ⟨ao', len', cap', hcs, hl, hb, _, hr⟩ := h.slice (C := 1) ht hC (by omega)
  simp only [List.cons.injEq, Value.slice.injEq, and_true] at hcs
  obtain ⟨rfl, rfl, rfl⟩ := hcs
  have hle : len ≤ 140737488351232 := by
    unfold reachBytes at hb
    have := Nat.le_mul_of_pos_right cap hB
    omega
  rcases hr with h1 | ⟨b, off, f, ha, hrow, hel⟩
  · exact ⟨fun _ => [], hle, .inl h1, fun _ => by simp⟩
  · have hty : ∀ i, i < len → ∃ l : List UInt8, f i = .string (bs l) ∧ l.length ≤ 140737488351232 := by
      intro i hi
      obtain ⟨l, e, hl⟩ := (show Rdg P w _ [f (i * 1 + 0)] from hel i hi).string he
      simp only [Nat.mul_one, Nat.add_zero, List.cons.injEq, and_true] at e
      exact ⟨l, e, by unfold reachBytes at hl; omega⟩
    refine ⟨fun i => if i < len then strOf0 (f i) else [], hle, .inr ⟨b, off, ha, hrow.1, fun i hi => ?_⟩, fun i => ?_⟩
    · have h2 := hrow.2 i (by omega)
      obtain ⟨l, e, _⟩ := hty i hi
      rw [h2]; simp only [if_pos hi, e, strOf0, bs_of]
    · by_cases hi : i < len
      · obtain ⟨l, e, b1⟩ := hty i hi
        simp only [if_pos hi, e, strOf0, bs_toList]; exact b1
      · simp only [if_neg hi]; simp

theorem Row.kept {b off n : Nat} {f : Nat → Value} {w' : World} (h : Row w b off n f) (hk : w'.heap[b]? = w.heap[b]?) (hs : w.heap.size ≤ w'.heap.size) : Row w' b off n f :=
  ⟨Nat.lt_of_lt_of_le h.1 hs, fun i hi => by rw [← h.2 i hi]; exact World.cell?_of_block (a := ⟨b, off + i, none⟩) hk⟩
theorem Row.below {b off n : Nat} {f : Nat → Value} {w' : World} {B : Nat} (h : Row w b off n f) (hb : Below B w w') (hB : w.heap.size ≤ B) : Row w' b off n f :=
  h.kept (hb.block _ (Nat.lt_of_lt_of_le h.1 hB)) hb.size
end
end K
end Go.Proofs.YtaeglmgpoboihaaGreatDoor
/- An array among the arguments, and a slice that is nil or not: what the reading gives. Of no program. -/
namespace Go.Proofs.YtaeglmgpoboihaaGreatDoor
open Go.RowKit
namespace K
set_option linter.unusedVariables false
section
variable {P : Program} {w : World} {t e : TypeId} {cs : List Value}
theorem okWide_agg {n : Nat} {r : Reach} {base : Nat} {v : Value} (ht : P.underlying t = some (.array n e)) (h : Value.okWide P w r base t v) : ∃ xs : Array Value, v = .agg xs ∧ xs.size = P.cellsOf t := by
  unfold Value.okWide at h
  rw [ht] at h
  obtain ⟨xs, h1, h2, _⟩ := h
  exact ⟨xs, h1, h2⟩
theorem Rdg.array {n : Nat} (h : Rdg P w t cs) (ht : P.underlying t = some (.array n e)) :
    cs.length = P.cellsOf t ∧ ∀ i, i < n → Rdg P w e ((cs.drop (i * P.cellsOf e)).take (P.cellsOf e)) := by
  obtain ⟨H, enc, fuel, x, hx, hw⟩ := h
  obtain ⟨xs, m, _, hxx, hl, hn, hf⟩ := DataW.trod_array ht hx
  refine ⟨hl, fun i hi => ?_⟩
  have h1 := hf i hi
  have hil : i < xs.length := by omega
  rw [List.getElem?_eq_getElem hil] at h1
  refine ⟨H, enc, m, _, h1, fun q hq => hw q ?_⟩
  subst hxx
  simp only [DataW.weights, ht]
  have hrep : ∀ (ds : List (DataW H)) (i : Nat) (d : DataW H), ds[i]? = some d → ∀ q ∈ d.weights P e, q ∈ DataW.weightsAll P e ds := by
    intro ds
    induction ds with
    | nil => intro i d h; simp at h
    | cons a ds ih =>
      intro i d h q hq
      cases i with
      | zero => simp at h; subst h; simp [DataW.weightsAll, hq]
      | succ i => simp at h; simp [DataW.weightsAll, ih i d h q hq]
  exact hrep _ i _ (by simp [List.getElem?_eq_getElem hil]) q hq
/-- Two texts. -/
theorem Rdg.strs2 {x y : Value} (h : Rdg P w t [x, y]) (ht : P.underlying t = some (.array 2 e)) (he : P.underlying e = some .string) (hC : P.cellsOf e = 1) :
    ∃ a b : List UInt8, x = .string (bs a) ∧ y = .string (bs b) ∧ a.length ≤ reachBytes ∧ b.length ≤ reachBytes := by
  obtain ⟨_, hf⟩ := h.array ht
  rw [hC] at hf
  obtain ⟨a, ea, la⟩ := (show Rdg P w e [x] from hf 0 (by omega)).string he
  obtain ⟨b, eb, lb⟩ := (show Rdg P w e [y] from hf 1 (by omega)).string he
  simp at ea eb
  exact ⟨a, b, ea, eb, la, lb⟩
/-- A slice is nil, or has a place. -/
theorem Rdg.shape {ao : Option Addr} {len cap : Nat} (h : Rdg P w t [.slice ao len cap]) (ht : P.underlying t = some (.slice e)) : (ao = none ∧ len = 0 ∧ cap = 0) ∨ ∃ a, ao = some a := by
  obtain ⟨H, enc, fuel, x, hx, hw⟩ := h
  rcases Deep.open_slice ht hx with ⟨h1, _⟩ | ⟨a, len', cap', m, n, D, Pl, hcs, _⟩
  · simp at h1; exact .inl h1
  · simp at hcs; exact .inr ⟨a, hcs.1⟩
end
end K
end Go.Proofs.YtaeglmgpoboihaaGreatDoor
