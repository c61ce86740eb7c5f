/- What an argument's reading gives, and that no string, slice or map takes more than a number of one's own: for the statements that bound all that comes in. -/
import Derived.Test.YtkobjbmjefkmgaaDoorArg
import Derived.Test.YtkobjbmjefkmgaaDoorRows
namespace Go.Proofs.YtkobjbmjefkmgaaDoor
open Go.RowKit
namespace K
set_option linter.unusedVariables false

/-! ### What a bound on the bulk gives -/
section
variable {H : Type} {P : Program} {M : Nat} {S : TypeId → Prop}
theorem bulk_pos (d : DataW H) : 1 ≤ Rows.uptoBulk d := by
  cases d with
  | lit l => cases l <;> simp [Rows.uptoBulk]
  | nil => simp [Rows.uptoBulk]
  | ptr d => simp [Rows.uptoBulk]
  | slice elems spare => simp [Rows.uptoBulk]
  | agg parts => simp [Rows.uptoBulk]
  | iface t d => simp [Rows.uptoBulk]
  | map entries => simp [Rows.uptoBulk]
  | held h => simp [Rows.uptoBulk]
theorem bulk_len : ∀ l : List (DataW H), l.length ≤ Rows.uptoBulkAll l
  | [] => by simp
  | x :: r => by
    have := bulk_pos x
    have := bulk_len r
    simp only [Rows.uptoBulkAll, List.length_cons]; omega
theorem bulk_entry (x : Lit × DataW H) : 1 ≤ Rows.uptoBulkEntry x := by
  obtain ⟨l, d⟩ := x
  cases l <;> simp [Rows.uptoBulkEntry]
theorem bulk_lenE : ∀ l : List (Lit × DataW H), l.length ≤ Rows.uptoBulkEntries l
  | [] => by simp
  | x :: r => by
    have := bulk_entry x
    have := bulk_lenE r
    simp only [Rows.uptoBulkEntries, List.length_cons]; omega
theorem bulk_le {d : DataW H} : ∀ {l : List (DataW H)}, d ∈ l → Rows.uptoBulk d ≤ Rows.uptoBulkAll l
  | [], h => by cases h
  | x :: r, h => by
    simp only [Rows.uptoBulkAll]
    rcases List.mem_cons.1 h with e | e
    · subst e; omega
    · have := bulk_le e; omega
theorem mul_up {a b c : Nat} (h : a ≤ b) : c * a ≤ c * b := Nat.mul_le_mul_left c h
/-- Types that lead to none but themselves, of elements of at most M bytes. -/
def Clos (P : Program) (M : Nat) (S : TypeId → Prop) : Prop := ∀ t, S t → match P.underlying t with
  | some (.pointer e) => S e
  | some (.slice e) => S e ∧ P.bytesOf e ≤ M
  | some (.struct fs) => ∀ f ∈ fs.toList, S f.type
  | some (.array _ e) => S e
  | some (.map k e) => S e ∧ P.bytesOf k ≤ M ∧ P.bytesOf e ≤ M
  | _ => True
mutual
theorem wgt (hM : Clos P M S) (h1 : 1 ≤ M) : ∀ (d : DataW H) (t : TypeId), S t → ∀ n ∈ d.weights P t, n ≤ 2 * M * Rows.uptoBulk d
  | .lit l, t, hS, n, hn => by
    cases l with
    | string b =>
      simp only [DataW.weights, List.mem_singleton] at hn
      have h2 := Nat.le_mul_of_pos_left (b.length + 1) (show 0 < 2 * M by omega)
      simp only [Rows.uptoBulk]; omega
    | _ => simp [DataW.weights] at hn
  | .nil, t, hS, n, hn => by simp [DataW.weights] at hn
  | .held _, t, hS, n, hn => by simp [DataW.weights] at hn
  | .iface _ _, t, hS, n, hn => by simp [DataW.weights] at hn
  | .ptr d, t, hS, n, hn => by
    simp only [DataW.weights] at hn
    have h2 : 2 * M * Rows.uptoBulk d ≤ 2 * M * (Rows.uptoBulk d + 1) := mul_up (by omega)
    simp only [Rows.uptoBulk]
    have hC := hM t hS
    split at hn
    · next e hu =>
      rw [hu] at hC
      have := wgt hM h1 d _ hC n hn; omega
    · cases hn
  | .slice elems spare, t, hS, n, hn => by
    simp only [DataW.weights] at hn
    simp only [Rows.uptoBulk]
    have ha : 2 * M * Rows.uptoBulkAll elems ≤ 2 * M * (Rows.uptoBulkAll elems + Rows.uptoBulkAll spare + 1) := mul_up (by omega)
    have hb : 2 * M * Rows.uptoBulkAll spare ≤ 2 * M * (Rows.uptoBulkAll elems + Rows.uptoBulkAll spare + 1) := mul_up (by omega)
    have hC := hM t hS
    split at hn
    · next e hu =>
      rw [hu] at hC
      simp only at hC
      rcases List.mem_cons.1 hn with hn | hn
      · have h3 := bulk_len elems
        have h4 := bulk_len spare
        have h5 : (elems.length + spare.length) * P.bytesOf e ≤ (Rows.uptoBulkAll elems + Rows.uptoBulkAll spare + 1) * (2 * M) := Nat.mul_le_mul (by omega) (by have := hC.2; omega)
        rw [Nat.mul_comm (2 * M)]; omega
      · rcases List.mem_append.1 hn with hn | hn
        · have := wgtAll hM h1 elems e hC.1 n hn; omega
        · have := wgtAll hM h1 spare e hC.1 n hn; omega
    · cases hn
  | .agg parts, t, hS, n, hn => by
    simp only [DataW.weights] at hn
    simp only [Rows.uptoBulk]
    have ha : 2 * M * Rows.uptoBulkAll parts ≤ 2 * M * (Rows.uptoBulkAll parts + 1) := mul_up (by omega)
    have hC := hM t hS
    split at hn
    · next fs hu =>
      rw [hu] at hC
      have := wgtEach hM h1 parts _ (fun t ht => by obtain ⟨f, hf, rfl⟩ := List.mem_map.1 ht; exact hC f hf) n hn; omega
    · next k e hu =>
      rw [hu] at hC
      have := wgtAll hM h1 parts _ hC n hn; omega
    · cases hn
  | .map entries, t, hS, n, hn => by
    simp only [DataW.weights] at hn
    simp only [Rows.uptoBulk]
    have ha : 2 * M * Rows.uptoBulkEntries entries ≤ 2 * M * (Rows.uptoBulkEntries entries + 1) := mul_up (by omega)
    have hC := hM t hS
    split at hn
    · next k e hu =>
      rw [hu] at hC
      simp only at hC
      rcases List.mem_cons.1 hn with hn | hn
      · have h3 := bulk_lenE entries
        have h5 : entries.length * (P.bytesOf k + P.bytesOf e) ≤ (Rows.uptoBulkEntries entries + 1) * (2 * M) := Nat.mul_le_mul (by omega) (by have := hC.2.1; have := hC.2.2; omega)
        rw [Nat.mul_comm (2 * M)]; omega
      · have := wgtEntries hM h1 entries e hC.1 n hn; omega
    · cases hn
theorem wgtAll (hM : Clos P M S) (h1 : 1 ≤ M) : ∀ (l : List (DataW H)) (e : TypeId), S e → ∀ n ∈ DataW.weightsAll P e l, n ≤ 2 * M * Rows.uptoBulkAll l
  | [], e, hS, n, hn => by simp [DataW.weightsAll] at hn
  | d :: r, e, hS, n, hn => by
    simp only [DataW.weightsAll] at hn
    simp only [Rows.uptoBulkAll, Nat.mul_add]
    rcases List.mem_append.1 hn with hn | hn
    · have := wgt hM h1 d e hS n hn; omega
    · have := wgtAll hM h1 r e hS n hn; omega
theorem wgtEach (hM : Clos P M S) (h1 : 1 ≤ M) : ∀ (l : List (DataW H)) (ts : List TypeId), (∀ t ∈ ts, S t) → ∀ n ∈ DataW.weightsEach P ts l, n ≤ 2 * M * Rows.uptoBulkAll l
  | [], ts, hS, n, hn => by cases ts <;> simp [DataW.weightsEach] at hn
  | d :: r, [], hS, n, hn => by simp [DataW.weightsEach] at hn
  | d :: r, t :: ts, hS, n, hn => by
    simp only [DataW.weightsEach] at hn
    simp only [Rows.uptoBulkAll, Nat.mul_add]
    rcases List.mem_append.1 hn with hn | hn
    · have := wgt hM h1 d t (hS t (List.mem_cons_self ..)) n hn; omega
    · have := wgtEach hM h1 r ts (fun x hx => hS x (List.mem_cons_of_mem _ hx)) n hn; omega
theorem wgtEntries (hM : Clos P M S) (h1 : 1 ≤ M) : ∀ (l : List (Lit × DataW H)) (e : TypeId), S e → ∀ n ∈ DataW.weightsEntries P e l, n ≤ 2 * M * Rows.uptoBulkEntries l
  | [], e, hS, n, hn => by simp [DataW.weightsEntries] at hn
  | x :: r, e, hS, n, hn => by
    simp only [DataW.weightsEntries] at hn
    simp only [Rows.uptoBulkEntries, Nat.mul_add]
    rcases List.mem_append.1 hn with hn | hn
    · have := wgtEntry hM h1 x e hS n hn; omega
    · have := wgtEntries hM h1 r e hS n hn; omega
theorem wgtEntry (hM : Clos P M S) (h1 : 1 ≤ M) : ∀ (x : Lit × DataW H) (e : TypeId), S e → ∀ n ∈ DataW.weightsEntry P e x, n ≤ 2 * M * Rows.uptoBulkEntry x
  | (.string b, d), e, hS, n, hn => by
    simp only [DataW.weightsEntry] at hn
    simp only [Rows.uptoBulkEntry, Nat.mul_add]
    rcases List.mem_cons.1 hn with hn | hn
    · have h2 := Nat.le_mul_of_pos_left b.length (show 0 < 2 * M by omega)
      omega
    · have := wgt hM h1 d e hS n hn; omega
  | (.int k v, d), e, hS, n, hn => by
    simp only [DataW.weightsEntry] at hn
    simp only [Rows.uptoBulkEntry, Nat.mul_add]
    have := wgt hM h1 d e hS n hn; omega
  | (.bool b, d), e, hS, n, hn => by
    simp only [DataW.weightsEntry] at hn
    simp only [Rows.uptoBulkEntry, Nat.mul_add]
    have := wgt hM h1 d e hS n hn; omega
  | (.float k v, d), e, hS, n, hn => by
    simp only [DataW.weightsEntry] at hn
    simp only [Rows.uptoBulkEntry, Nat.mul_add]
    have := wgt hM h1 d e hS n hn; omega
  | (.nil, d), e, hS, n, hn => by
    simp only [DataW.weightsEntry] at hn
    simp only [Rows.uptoBulkEntry, Nat.mul_add]
    have := wgt hM h1 d e hS n hn; omega
end
end
/-- These cells read as a value of type t, and what is read lies within the reach. -/
def Rdu (R : Nat) (P : Program) (w : World) (t : TypeId) (cs : List Value) : Prop :=
  ∃ (H : Type) (enc : TypeId × Value → H) (fuel : Nat) (x : DataW H × List MemPlace), DataW.trod enc P w 0 (fun _ => true) true fuel t cs = some x ∧ ∀ n ∈ x.1.weights P t, n ≤ R

theorem Rdu.of {R : Nat} {H : Type} {enc : TypeId × Value → H} {P : Program} {w : World} {t : TypeId} {v : Value} {d : DataW H} {p : List MemPlace} (h : DataW.Trod enc P w 0 (fun _ => true) true t v d p)
    {ts : List TypeId} {ds : List (DataW H)} (hs : (DataW.weightsEach P ts ds).all (· ≤ R) = true) {j : Nat} (ht : ts[j]? = some t) (hd : ds[j]? = some d) : Rdu R P w t v.cells.toList := by
  obtain ⟨fuel, hf⟩ := h
  refine ⟨H, enc, fuel, (d, p), hf, fun n hn => ?_⟩
  have := List.all_eq_true.1 hs n (DataW.weights_mem_each ht hd n hn)
  simpa using this

section
variable {R : Nat} {P : Program} {w : World} {t e : TypeId} {cs : List Value}

theorem Rdu.int {k : IntKind} (h : Rdu R P w t cs) (ht : P.underlying t = some (.int k)) : ∃ n, cs = [.int k n] ∧ (Lit.int k n).wf = true := by
  obtain ⟨H, enc, fuel, x, hx, _⟩ := h
  obtain ⟨n, h1, _, h2⟩ := DataW.trod_int ht hx
  exact ⟨n, h1, h2⟩

theorem Rdu.string (h : Rdu R P w t cs) (ht : P.underlying t = some .string) : ∃ l : List UInt8, cs = [.string (bs l)] ∧ l.length ≤ R := by
  obtain ⟨H, enc, fuel, x, hx, hw⟩ := h
  obtain ⟨s, h1, h2, _⟩ := DataW.trod_string ht hx
  subst h2
  refine ⟨s.data.toList, by rw [bs_of]; exact h1, hw _ (by simp [DataW.weights])⟩

theorem Rdu.bool (h : Rdu R P w t cs) (ht : P.underlying t = some .bool) : ∃ b, cs = [.bool b] := by
  obtain ⟨H, enc, fuel, x, hx, _⟩ := h
  cases fuel with
  | zero => simp [DataW.trod] at hx
  | succ n =>
    unfold DataW.trod at hx
    rw [ht] at hx
    split at hx <;> simp_all

theorem Rdu.slice {C : Nat} (h : Rdu R P w t cs) (ht : P.underlying t = some (.slice e)) (hC : P.cellsOf e = C) (hpos : 0 < C) :
    ∃ (ao : Option Addr) (len cap : Nat), cs = [.slice ao len cap] ∧ len ≤ cap ∧ cap * P.bytesOf e ≤ R ∧ cap ≤ maxLen ∧
      (len = 0 ∨ ∃ b off f, ao = some ⟨b, off, none⟩ ∧ Row w b off (len * C) f ∧ ∀ i, i < len → Rdu R P w e ((List.range C).map fun j => f (i * C + j))) := by
  obtain ⟨H, enc, fuel, x, hx, hw⟩ := h
  rcases Deep.open_slice ht hx with ⟨rfl, rfl⟩ | ⟨a, len, cap, m, n, D, Pl, hcs, _, hl, hm, hmm, hxx, hi⟩
  · exact ⟨none, 0, 0, rfl, Nat.le_refl _, by simp, by simp, .inl rfl⟩
  · subst hcs
    subst hxx
    simp only [if_true] at hmm
    subst hmm
    have hw0 := hw ((((List.range len).map D).length + ((List.range (m - len)).map fun j => D (len + j)).length) * P.bytesOf e) (by simp [DataW.weights, ht])
    simp only [List.length_map, List.length_range] at hw0
    rw [show len + (m - len) = m by omega] at hw0
    refine ⟨some a, len, m, rfl, hl, hw0, hm, ?_⟩
    rcases Nat.eq_zero_or_pos len with h0 | h0
    · exact .inl h0
    · right
      have hcell : ∀ i j, i < m → j < C → ∃ v, w.cell? ((a.add (i * C)).add j) = some v := by
        intro i j hi' hj
        obtain ⟨cs', h1, _⟩ := hi i hi'
        rw [hC] at h1
        obtain ⟨_, h2, h3⟩ := World.cells?_some h1
        exact ⟨_, (h3 j hj).trans (List.getElem?_eq_getElem (by omega))⟩
      obtain ⟨v0, hv0⟩ := hcell 0 0 (by omega) hpos
      have hadd0 : (a.add (0 * C)).add 0 = a := by simp [Addr.add]
      rw [hadd0] at hv0
      have hsp : a.spot = none := by
        cases hs : a.spot with
        | none => rfl
        | some s =>
          exfalso
          unfold World.cell? at hv0
          split at hv0
          · simp [hs] at hv0
          · cases hv0
      have ha : a = ⟨a.block, a.off, none⟩ := by cases a; simp_all
      have hadd : ∀ k, a.add k = ⟨a.block, a.off + k, none⟩ := by
        intro k
        rw [ha]
        unfold Addr.add
        split
        · subst_vars; rfl
        · rfl
      have hlin : ∀ i j, (a.add (i * C)).add j = ⟨a.block, a.off + (i * C + j), none⟩ := by
        intro i j; rw [Deep.add_add, hadd]
      refine ⟨a.block, a.off, fun k => (w.cell? ⟨a.block, a.off + k, none⟩).getD undef, by rw [← ha], ⟨World.block_lt_of_cell? w a hv0, ?_⟩, ?_⟩
      · intro k hk
        have hd : k / C < len := Nat.div_lt_of_lt_mul (by rw [Nat.mul_comm]; exact hk)
        obtain ⟨v, hv⟩ := hcell (k / C) (k % C) (by omega) (Nat.mod_lt _ hpos)
        rw [hlin, Nat.mul_comm, Nat.div_add_mod] at hv
        show _ = some ((w.cell? ⟨a.block, a.off + k, none⟩).getD undef)
        rw [hv]; rfl
      · intro i hil
        obtain ⟨cs', h1, h2⟩ := hi i (by omega)
        rw [hC] at h1
        obtain ⟨_, h3, h4⟩ := World.cells?_some h1
        have e1 : cs' = (List.range C).map fun j => (w.cell? ⟨a.block, a.off + (i * C + j), none⟩).getD undef := by
          apply List.ext_getElem
          · simp [h3]
          · intro j hj1 hj2
            have hj : j < C := by omega
            have := h4 j hj
            rw [hlin] at this
            simp [this, List.getElem?_eq_getElem hj1]
        refine ⟨H, enc, n, (D i, Pl i), by rw [← e1]; exact h2, fun q hq => hw q ?_⟩
        simp only [DataW.weights, ht, List.mem_cons, List.mem_append]
        right; left
        have hmem : ∀ (l : List (DataW H)), D i ∈ l → q ∈ DataW.weightsAll P e l := by
          intro l
          induction l with
          | nil => intro hm; simp at hm
          | cons d l ih =>
            intro hm
            simp only [DataW.weightsAll, List.mem_append]
            rcases List.mem_cons.1 hm with h5 | h5
            · left; rw [← h5]; exact hq
            · right; exact ih h5
        exact hmem _ (List.mem_map.2 ⟨i, by simpa using hil, rfl⟩)

theorem Rdu.struct {fs : Array Field} (h : Rdu R P w t cs) (ht : P.underlying t = some (.struct fs)) :
    cs.length = P.cellsOf t ∧ ∀ (i : Nat) (f : Field), fs[i]? = some f → Rdu R P w f.type ((cs.drop f.offset).take (P.cellsOf f.type)) := by
  obtain ⟨H, enc, fuel, x, hx, hw⟩ := h
  obtain ⟨xs, n, _, hxx, hl, hlen, hf⟩ := DataW.trod_struct ht hx
  refine ⟨hl, fun i f hi => ?_⟩
  have h1 := hf i f hi
  have hil : i < fs.size := (Array.getElem?_eq_some_iff.1 hi).1
  rw [List.getElem?_eq_getElem (by omega)] at h1
  refine ⟨H, enc, n, _, h1, fun q hq => hw q ?_⟩
  subst hxx
  simp only [DataW.weights, ht]
  refine DataW.weights_mem_each (j := i) (t := f.type) (d := (xs[i]'(by omega)).1) ?_ ?_ q hq
  · simp [hi]
  · simp [List.getElem?_eq_getElem (show i < xs.length by omega)]

theorem Rdu.fields {fs : Array Field} (h : Rdu R P w t cs) (ht : P.underlying t = some (.struct fs)) (hone : Deep.oneCellFields P fs = true) :
    cs.length = P.cellsOf t ∧ ∀ (i : Nat) (T : TypeId), (fs[i]?).map (·.type) = some T → i < cs.length → ∃ v, cs[i]? = some v ∧ Rdu R P w T [v] := by
  obtain ⟨hl, hf⟩ := h.struct ht
  refine ⟨hl, fun i T hi hlt => ?_⟩
  obtain ⟨f, hfi, rfl⟩ := Option.map_eq_some_iff.1 hi
  obtain ⟨ho, hk⟩ := Deep.hone_of hone i f hfi
  have h1 := hf i f hfi
  rw [ho, hk] at h1
  refine ⟨cs[i], List.getElem?_eq_getElem hlt, ?_⟩
  have : (cs.drop i).take 1 = [cs[i]] := by
    rw [List.drop_eq_getElem_cons hlt]; rfl
  rw [this] at h1
  exact h1
end
end K
end Go.Proofs.YtkobjbmjefkmgaaDoor
