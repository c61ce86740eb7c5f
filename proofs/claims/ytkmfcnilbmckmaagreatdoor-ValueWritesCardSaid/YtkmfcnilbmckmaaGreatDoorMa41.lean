/- Texts on the program and on the document, joined: Arg, BerH, BerX, BerY, BerK. -/
import Derived.Test.YtkmfcnilbmckmaaGreatDoorMa01
import Derived.SizedLaws
import Derived.Deep.Slices
import Derived.Deep.Fields
import Derived.WideShapes
import Derived.ChangeArms
import Derived.Test.YtkmfcnilbmckmaaGreatDoorRows
import Derived.Test.YtkmfcnilbmckmaaGreatDoorMa40
import Derived.Test.YtkmfcnilbmckmaaGreatDoorMa38
import Derived.ProofKit
import Derived.IntWalk
import Derived.Deep.LoopGhost
import Derived.Deep.DeepCutAuto
import Derived.Deep.CutBlock
import Derived.Test.YtkmfcnilbmckmaaGreatDoorMa08
import Derived.Test.YtkmfcnilbmckmaaGreatDoorMa28
import Derived.BigQuiet
import Derived.Deep.QuietTactic
import Derived.Test.YtkmfcnilbmckmaaGreatDoorMa10
/- What an argument's reading gives: its cells, typed, and that no string, slice or map takes more than the reach. Of no program. -/
namespace Go.Proofs.YtkmfcnilbmckmaaGreatDoor
open Go.RowKit
namespace K
set_option linter.unusedVariables false

/-- These cells read as a value of type t, and what is read lies within the reach. -/
def Rdg (P : Program) (w : World) (t : TypeId) (cs : List Value) : Prop :=
  ∃ (H : Type) (enc : TypeId × Value → H) (fuel : Nat) (x : DataW H × List MemPlace), DataW.trod enc P w 0 (fun _ => true) true fuel t cs = some x ∧ ∀ n ∈ x.1.weights P t, n ≤ reachBytes

theorem Rdg.of {H : Type} {enc : TypeId × Value → H} {P : Program} {w : World} {t : TypeId} {v : Value} {d : DataW H} {p : List MemPlace} (h : DataW.Trod enc P w 0 (fun _ => true) true t v d p)
    {ts : List TypeId} {ds : List (DataW H)} (hs : (DataW.weightsEach P ts ds).all (· ≤ reachBytes) = true) {j : Nat} (ht : ts[j]? = some t) (hd : ds[j]? = some d) : Rdg P w t v.cells.toList := by
  obtain ⟨fuel, hf⟩ := h
  refine ⟨H, enc, fuel, (d, p), hf, fun n hn => ?_⟩
  have := List.all_eq_true.1 hs n (DataW.weights_mem_each ht hd n hn)
  simpa using this

section
variable {P : Program} {w : World} {t e : TypeId} {cs : List Value}

theorem Rdg.int {k : IntKind} (h : Rdg P w t cs) (ht : P.underlying t = some (.int k)) : ∃ n, cs = [.int k n] ∧ (Lit.int k n).wf = true := by
  obtain ⟨H, enc, fuel, x, hx, _⟩ := h
  obtain ⟨n, h1, _, h2⟩ := DataW.trod_int ht hx
  exact ⟨n, h1, h2⟩

theorem Rdg.string (h : Rdg P w t cs) (ht : P.underlying t = some .string) : ∃ l : List UInt8, cs = [.string (bs l)] ∧ l.length ≤ reachBytes := by
  obtain ⟨H, enc, fuel, x, hx, hw⟩ := h
  obtain ⟨s, h1, h2, _⟩ := DataW.trod_string ht hx
  subst h2
  refine ⟨s.data.toList, by rw [bs_of]; exact h1, hw _ (by simp [DataW.weights])⟩

theorem Rdg.bool (h : Rdg P w t cs) (ht : P.underlying t = some .bool) : ∃ b, cs = [.bool b] := by
  obtain ⟨H, enc, fuel, x, hx, _⟩ := h
  cases fuel with
  | zero => simp [DataW.trod] at hx
  | succ n =>
    unfold DataW.trod at hx
    rw [ht] at hx
    split at hx <;> simp_all

/-- Cells of a slice's elements, one behind the other. -/
def Row (w : World) (b off : Nat) (n : Nat) (f : Nat → Value) : Prop := b < w.heap.size ∧ ∀ i, i < n → w.cell? ⟨b, off + i, none⟩ = some (f i)

theorem Rdg.slice {C : Nat} (h : Rdg P w t cs) (ht : P.underlying t = some (.slice e)) (hC : P.cellsOf e = C) (hpos : 0 < C) :
    ∃ (ao : Option Addr) (len cap : Nat), cs = [.slice ao len cap] ∧ len ≤ cap ∧ cap * P.bytesOf e ≤ reachBytes ∧ cap ≤ maxLen ∧
      (len = 0 ∨ ∃ b off f, ao = some ⟨b, off, none⟩ ∧ Row w b off (len * C) f ∧ ∀ i, i < len → Rdg P w e ((List.range C).map fun j => f (i * C + j))) := by
  obtain ⟨H, enc, fuel, x, hx, hw⟩ := h
  rcases Deep.open_slice ht hx with ⟨rfl, rfl⟩ | ⟨a, len, cap, m, n, D, Pl, hcs, _, hl, hm, hmm, hxx, hi⟩
  · exact ⟨none, 0, 0, rfl, Nat.le_refl _, by simp, by simp, .inl rfl⟩
  · subst hcs
    subst hxx
    simp only [if_true] at hmm
    subst hmm
    have hw0 := hw ((((List.range len).map D).length + ((List.range (m - len)).map fun j => D (len + j)).length) * P.bytesOf e) (by simp [DataW.weights, ht])
    simp only [List.length_map, List.length_range] at hw0
    rw [show len + (m - len) = m by omega] at hw0
    refine ⟨some a, len, m, rfl, hl, hw0, hm, ?_⟩
    rcases Nat.eq_zero_or_pos len with h0 | h0
    · exact .inl h0
    · right
      have hcell : ∀ i j, i < m → j < C → ∃ v, w.cell? ((a.add (i * C)).add j) = some v := by
        intro i j hi' hj
        obtain ⟨cs', h1, _⟩ := hi i hi'
        rw [hC] at h1
        obtain ⟨_, h2, h3⟩ := World.cells?_some h1
        exact ⟨_, (h3 j hj).trans (List.getElem?_eq_getElem (by omega))⟩
      obtain ⟨v0, hv0⟩ := hcell 0 0 (by omega) hpos
      have hadd0 : (a.add (0 * C)).add 0 = a := by simp [Addr.add]
      rw [hadd0] at hv0
      have hsp : a.spot = none := by
        cases hs : a.spot with
        | none => rfl
        | some s =>
          exfalso
          unfold World.cell? at hv0
          split at hv0
          · simp [hs] at hv0
          · cases hv0
      have ha : a = ⟨a.block, a.off, none⟩ := by cases a; simp_all
      have hadd : ∀ k, a.add k = ⟨a.block, a.off + k, none⟩ := by
        intro k
        rw [ha]
        unfold Addr.add
        split
        · subst_vars; rfl
        · rfl
      have hlin : ∀ i j, (a.add (i * C)).add j = ⟨a.block, a.off + (i * C + j), none⟩ := by
        intro i j; rw [Deep.add_add, hadd]
      refine ⟨a.block, a.off, fun k => (w.cell? ⟨a.block, a.off + k, none⟩).getD undef, by rw [← ha], ⟨World.block_lt_of_cell? w a hv0, ?_⟩, ?_⟩
      · intro k hk
        have hd : k / C < len := Nat.div_lt_of_lt_mul (by rw [Nat.mul_comm]; exact hk)
        obtain ⟨v, hv⟩ := hcell (k / C) (k % C) (by omega) (Nat.mod_lt _ hpos)
        rw [hlin, Nat.mul_comm, Nat.div_add_mod] at hv
        show _ = some ((w.cell? ⟨a.block, a.off + k, none⟩).getD undef)
        rw [hv]; rfl
      · intro i hil
        obtain ⟨cs', h1, h2⟩ := hi i (by omega)
        rw [hC] at h1
        obtain ⟨_, h3, h4⟩ := World.cells?_some h1
        have e1 : cs' = (List.range C).map fun j => (w.cell? ⟨a.block, a.off + (i * C + j), none⟩).getD undef := by
          apply List.ext_getElem
          · simp [h3]
          · intro j hj1 hj2
            have hj : j < C := by omega
            have := h4 j hj
            rw [hlin] at this
            simp [this, List.getElem?_eq_getElem hj1]
        refine ⟨H, enc, n, (D i, Pl i), by rw [← e1]; exact h2, fun q hq => hw q ?_⟩
        simp only [DataW.weights, ht, List.mem_cons, List.mem_append]
        right; left
        have hmem : ∀ (l : List (DataW H)), D i ∈ l → q ∈ DataW.weightsAll P e l := by
          intro l
          induction l with
          | nil => intro hm; simp at hm
          | cons d l ih =>
            intro hm
            simp only [DataW.weightsAll, List.mem_append]
            rcases List.mem_cons.1 hm with h5 | h5
            · left; rw [← h5]; exact hq
            · right; exact ih h5
        exact hmem _ (List.mem_map.2 ⟨i, by simpa using hil, rfl⟩)

theorem Rdg.struct {fs : Array Field} (h : Rdg P w t cs) (ht : P.underlying t = some (.struct fs)) :
    cs.length = P.cellsOf t ∧ ∀ (i : Nat) (f : Field), fs[i]? = some f → Rdg P w f.type ((cs.drop f.offset).take (P.cellsOf f.type)) := by
  obtain ⟨H, enc, fuel, x, hx, hw⟩ := h
  obtain ⟨xs, n, _, hxx, hl, hlen, hf⟩ := DataW.trod_struct ht hx
  refine ⟨hl, fun i f hi => ?_⟩
  have h1 := hf i f hi
  have hil : i < fs.size := (Array.getElem?_eq_some_iff.1 hi).1
  rw [List.getElem?_eq_getElem (by omega)] at h1
  refine ⟨H, enc, n, _, h1, fun q hq => hw q ?_⟩
  subst hxx
  simp only [DataW.weights, ht]
  refine DataW.weights_mem_each (j := i) (t := f.type) (d := (xs[i]'(by omega)).1) ?_ ?_ q hq
  · simp [hi]
  · simp [List.getElem?_eq_getElem (show i < xs.length by omega)]

theorem Rdg.fields {fs : Array Field} (h : Rdg P w t cs) (ht : P.underlying t = some (.struct fs)) (hone : Deep.oneCellFields P fs = true) :
    cs.length = P.cellsOf t ∧ ∀ (i : Nat) (T : TypeId), (fs[i]?).map (·.type) = some T → i < cs.length → ∃ v, cs[i]? = some v ∧ Rdg P w T [v] := by
  obtain ⟨hl, hf⟩ := h.struct ht
  refine ⟨hl, fun i T hi hlt => ?_⟩
  obtain ⟨f, hfi, rfl⟩ := Option.map_eq_some_iff.1 hi
  obtain ⟨ho, hk⟩ := Deep.hone_of hone i f hfi
  have h1 := hf i f hfi
  rw [ho, hk] at h1
  refine ⟨cs[i], List.getElem?_eq_getElem hlt, ?_⟩
  have : (cs.drop i).take 1 = [cs[i]] := by
    rw [List.drop_eq_getElem_cons hlt]; rfl
  rw [this] at h1
  exact h1
/-- A struct of two integers. -/
theorem Rdg.ints2 {fs : Array Field} {k : IntKind} {T : TypeId} {v0 v1 : Value} (h : Rdg P w t [v0, v1]) (ht : P.underlying t = some (.struct fs)) (hone : Deep.oneCellFields P fs = true)
    (h0 : (fs[0]?).map (·.type) = some T) (h1 : (fs[1]?).map (·.type) = some T) (hT : P.underlying T = some (.int k)) :
    ∃ x y, v0 = .int k x ∧ v1 = .int k y ∧ (Lit.int k x).wf = true ∧ (Lit.int k y).wf = true := by
  obtain ⟨_, hf⟩ := h.fields ht hone
  obtain ⟨u0, e0, r0⟩ := hf 0 T h0 (by simp)
  obtain ⟨u1, e1, r1⟩ := hf 1 T h1 (by simp)
  obtain ⟨x, ex, wx⟩ := r0.int hT
  obtain ⟨y, ey, wy⟩ := r1.int hT
  simp at e0 e1 ex ey
  exact ⟨x, y, by rw [e0, ex], by rw [e1, ey], wx, wy⟩

/-- A list of integers, and of texts, that came in. -/
def Nums (k : IntKind) (w : World) (ao : Option Addr) (len : Nat) (ns : Nat → Int) : Prop :=
  len ≤ 140737488351232 ∧ (len = 0 ∨ ∃ b off, ao = some ⟨b, off, none⟩ ∧ Row w b off len (fun i => .int k (ns i))) ∧ ∀ i, (Lit.int k (ns i)).wf = true
def Strs (w : World) (ao : Option Addr) (len : Nat) (ss : Nat → List UInt8) : Prop :=
  len ≤ 140737488351232 ∧ (len = 0 ∨ ∃ b off, ao = some ⟨b, off, none⟩ ∧ Row w b off len (fun i => .string (bs (ss i)))) ∧ ∀ i, (ss i).length ≤ 140737488351232
def intOf0 : Value → Int | .int _ n => n | _ => 0
def strOf0 : Value → List UInt8 | .string s => s.data.toList | _ => []

theorem Rdg.nums {k : IntKind} {ao : Option Addr} {len cap : Nat} (h : Rdg P w t [.slice ao len cap]) (ht : P.underlying t = some (.slice e)) (he : P.underlying e = some (.int k)) (hC : P.cellsOf e = 1) (hB : 0 < P.bytesOf e) (h0 : (Lit.int k 0).wf = true) :
    ∃ ns, Nums k w ao len ns := by
  obtain ⟨ao', len', cap', hcs, hl, hb, _, hr⟩ := h.slice (C := 1) ht hC (by omega)
  simp only [List.cons.injEq, Value.slice.injEq, and_true] at hcs
  obtain ⟨rfl, rfl, rfl⟩ := hcs
  have hle : len ≤ 140737488351232 := by
    unfold reachBytes at hb
    have := Nat.le_mul_of_pos_right cap hB
    omega
  rcases hr with h1 | ⟨b, off, f, ha, hrow, hel⟩
  · exact ⟨fun _ => 0, hle, .inl h1, fun _ => h0⟩
  · have hty : ∀ i, i < len → ∃ n, f i = .int k n ∧ (Lit.int k n).wf = true := by
      intro i hi
      obtain ⟨n, e, wf⟩ := (show Rdg P w _ [f (i * 1 + 0)] from hel i hi).int he
      simp only [Nat.mul_one, Nat.add_zero, List.cons.injEq, and_true] at e
      exact ⟨n, e, wf⟩
    refine ⟨fun i => if i < len then intOf0 (f i) else 0, hle, .inr ⟨b, off, ha, hrow.1, fun i hi => ?_⟩, fun i => ?_⟩
    · have h2 := hrow.2 i (by omega)
      obtain ⟨n, e, _⟩ := hty i hi
      rw [h2]; simp only [if_pos hi, e, intOf0]
    · by_cases hi : i < len
      · obtain ⟨n, e, b1⟩ := hty i hi
        simp only [if_pos hi, e, intOf0]; exact b1
      · simp only [if_neg hi]; exact h0

theorem Rdg.strs {ao : Option Addr} {len cap : Nat} (h : Rdg P w t [.slice ao len cap]) (ht : P.underlying t = some (.slice e)) (he : P.underlying e = some .string) (hC : P.cellsOf e = 1) (hB : 0 < P.bytesOf e) :
    ∃ ss, Strs w ao len ss := by
  obtain ⟨ao', len', cap', hcs, hl, hb, _, hr⟩ := h.slice (C := 1) ht hC (by omega)
  simp only [List.cons.injEq, Value.slice.injEq, and_true] at hcs
  obtain ⟨rfl, rfl, rfl⟩ := hcs
  have hle : len ≤ 140737488351232 := by
    unfold reachBytes at hb
    have := Nat.le_mul_of_pos_right cap hB
    omega
  rcases hr with h1 | ⟨b, off, f, ha, hrow, hel⟩
  · exact ⟨fun _ => [], hle, .inl h1, fun _ => by simp⟩
  · have hty : ∀ i, i < len → ∃ l : List UInt8, f i = .string (bs l) ∧ l.length ≤ 140737488351232 := by
      intro i hi
      obtain ⟨l, e, hl⟩ := (show Rdg P w _ [f (i * 1 + 0)] from hel i hi).string he
      simp only [Nat.mul_one, Nat.add_zero, List.cons.injEq, and_true] at e
      exact ⟨l, e, by unfold reachBytes at hl; omega⟩
    refine ⟨fun i => if i < len then strOf0 (f i) else [], hle, .inr ⟨b, off, ha, hrow.1, fun i hi => ?_⟩, fun i => ?_⟩
    · have h2 := hrow.2 i (by omega)
      obtain ⟨l, e, _⟩ := hty i hi
      rw [h2]; simp only [if_pos hi, e, strOf0, bs_of]
    · by_cases hi : i < len
      · obtain ⟨l, e, b1⟩ := hty i hi
        simp only [if_pos hi, e, strOf0, bs_toList]; exact b1
      · simp only [if_neg hi]; simp

theorem Row.kept {b off n : Nat} {f : Nat → Value} {w' : World} (h : Row w b off n f) (hk : w'.heap[b]? = w.heap[b]?) (hs : w.heap.size ≤ w'.heap.size) : Row w' b off n f :=
  ⟨Nat.lt_of_lt_of_le h.1 hs, fun i hi => by rw [← h.2 i hi]; exact World.cell?_of_block (a := ⟨b, off + i, none⟩) hk⟩
theorem Row.below {b off n : Nat} {f : Nat → Value} {w' : World} {B : Nat} (h : Row w b off n f) (hb : Below B w w') (hB : w.heap.size ≤ B) : Row w' b off n f :=
  h.kept (hb.block _ (Nat.lt_of_lt_of_le h.1 hB)) hb.size
end
end K
end Go.Proofs.YtkmfcnilbmckmaaGreatDoor
/- gonglaw05.grown, walked: on whatever Wrap answers as it should. -/
namespace Go.Proofs.YtkmfcnilbmckmaaGreatDoor
open Go.ChangeShapes Go.WideShapes Go.ChangeAt Go.RowKit K P1 B5
set_option linter.unusedVariables false

def sst (st : List Fo) : List (List UInt8) := st.reverse.map Fo.enc
theorem sst_cons (t : Fo) (r : List Fo) : sst (t :: r) = sst r ++ [t.enc] := by simp [sst]
theorem sst_len (st : List Fo) : (sst st).length = st.length := by simp [sst]
theorem get_end (a : List (List UInt8)) (x : List UInt8) (b : List (List UInt8)) : (a ++ x :: b).getD a.length [] = x := by simp [List.getD]
theorem set_end (a : List (List UInt8)) (x y : List UInt8) : (a ++ [x]).set a.length y = a ++ [y] := by simp
theorem tot_head {t : Fo} {r : List Fo} : t.enc.length + 6 ≤ tot (t :: r) := by simp only [tot]; omega
theorem tot_two {t p : Fo} {r : List Fo} : t.enc.length + p.enc.length + 12 ≤ tot (t :: p :: r) := by simp only [tot]; omega

theorem wf_i64 {t : Int} (wt : (Lit.int .i64 t).wf = true) : -9223372036854775808 ≤ t ∧ t ≤ 9223372036854775807 := by
  simp [Lit.wf, IntKind.min, IntKind.max, IntKind.bits, IntKind.signed] at wt; omega
/-- What Wrap is known to answer. -/
def WrapOk (I : World → Prop) : Prop := (∀ a b, I a → Below a.heap.size a b → I b) ∧ ∀ (t : Nat) (b : List UInt8) (w : World), isTag t = true → t < 256 → b.length ≤ 16777216 → I w →
  Calls Tryz.prog 25 #[.int .i64 t, .string (bs b)] w fun e w' => e = .returned (.tuple #[.string (bs (put t b)), .int .i64 0]) ∧ Below w.heap.size w w'
theorem str_info : (Tryz.prog.info? 9).map (fun i => (i.zero, i.size, i.bytes)) = some (some (.string .empty), 1, 16) := by kernel_rfl

def GwRel (w : World) (G : Nat → List Fo) (I g : Nat) (v3 v4 : Value) (wr : World) : Prop :=
  ∃ i gb cap, i + g = I ∧ v3 = .slice (some ⟨gb, 0, none⟩) (G i).length cap ∧ v4 = .int .i64 (i : Nat) ∧ StkAt wr w.heap.size 9 gb cap (sst (G i)) ∧ Below w.heap.size w wr
def GcRel (w : World) (F : Fo) (gb cap g : Nat) (v3 : Value) (wr : World) : Prop :=
  ∃ t q, gcl t q = F ∧ q.length = g ∧ g ≤ 20 ∧ v3 = .slice (some ⟨gb, 0, none⟩) (g + 1) cap ∧ tot (t :: q) ≤ 20000 ∧ StkAt wr w.heap.size 9 gb cap (sst (t :: q)) ∧ Below w.heap.size w wr
theorem grow_enc (t : Fo) (q : List Fo) : (grow (t :: q)).enc = put 48 (gcl t q).enc := by
  show put 48 (gcl t q).enc ++ [] = _; rw [List.append_nil]
end Go.Proofs.YtkmfcnilbmckmaaGreatDoor
/- The laws of ber, walked on calls that keep their word. -/
namespace Go.Proofs.YtkmfcnilbmckmaaGreatDoor
open Go.ChangeShapes Go.WideShapes Go.ChangeAt Go.RowKit K P1 B5
set_option linter.unusedVariables false

theorem wr_yes (t : Nat) (b : List UInt8) (ht : t < 256) (h2 : isTag t = true) (hb : b.length ≤ 16777216) : wrT (t : Int) b = put t b ∧ wrE (t : Int) b = 0 := by
  have hi : isTi (t : Int) = true := by
    unfold isTi; rw [decide_eq_true (by omega), decide_eq_true (by omega), Int.toNat_natCast, h2]; rfl
  unfold wrT wrE
  rw [hi, if_pos rfl, if_pos rfl, if_neg (by omega), if_neg (by omega)]
  exact ⟨by simp, rfl⟩
theorem canon_good {l : List UInt8} {f : Fo} (h : wh l = .ok f) : whE l = 0 ∧ whD l = f.dep ∧ whC l = f.enc ∧ f.enc.length ≤ l.length ∧ whE f.enc = 0 ∧ whD f.enc = f.dep ∧ whC f.enc = f.enc ∧ f.dep ≤ 32 := by
  obtain ⟨a1, a2, a3⟩ := wh_ok h
  obtain ⟨c1, c2, c3, c4⟩ := wh_again h
  obtain ⟨d1, d2, d3⟩ := wh_ok c1
  exact ⟨a1, a2, a3, c2, d1, d2, d3, c4⟩
theorem prs_codes : ∀ (n a : Nat) (l : List UInt8) (e : Nat), l.length ≤ n → prs a l = .error e → e = 50 ∨ e = 51
  | 0, a, l, e, hn, h => by
    obtain rfl : l = [] := List.length_eq_zero_iff.1 (by omega)
    rw [prs_nil] at h; cases h
  | n + 1, a, l, e, hn, h => by
    by_cases he : l = []
    · subst he; rw [prs_nil] at h; cases h
    · rw [prs_step he] at h
      by_cases hx : nxOk l = true
      · rw [if_neg (by rw [hx]; simp)] at h
        obtain ⟨_, _, _, _, h5⟩ := nx_of hx
        by_cases ha : 32 < a
        · rw [if_pos ha] at h; cases h; exact .inr rfl
        · rw [if_neg ha] at h
          by_cases hm : isMade (nxT l) = true
          · rw [if_pos hm] at h
            cases h1 : prs (a + 1) (nxB l) with
            | error e1 => rw [h1] at h; cases h; exact prs_codes n _ _ _ (by omega) h1
            | ok cs =>
              rw [h1] at h
              cases h2 : prs a (nxR l) with
              | error e2 => rw [h2] at h; cases h; exact prs_codes n _ _ _ (by omega) h2
              | ok r => rw [h2] at h; cases h
          · rw [if_neg hm] at h
            cases h2 : prs a (nxR l) with
            | error e2 => rw [h2] at h; cases h; exact prs_codes n _ _ _ (by omega) h2
            | ok r => rw [h2] at h; cases h
      · rw [Bool.not_eq_true] at hx
        rw [if_pos hx] at h; cases h; exact .inl rfl
theorem wh_codes {l : List UInt8} {e : Nat} (h : wh l = .error e) : e = 50 ∨ e = 51 := by
  unfold wh at h
  by_cases hx : nxOk l = true
  · rw [if_neg (by rw [hx]; simp)] at h
    unfold hd1 at h
    by_cases hm : isMade (nxT l) = true
    · rw [if_pos hm] at h
      cases h1 : prs 2 (nxB l) with
      | error e1 => rw [h1] at h; cases h; exact prs_codes _ _ _ _ (Nat.le_refl _) h1
      | ok cs =>
        rw [h1] at h
        by_cases hr : nxR l = []
        · simp [hr] at h
        · simp [hr] at h; exact .inl h.symm
    · rw [if_neg hm] at h
      by_cases hr : nxR l = []
      · simp [hr] at h
      · simp [hr] at h; exact .inl h.symm
  · rw [Bool.not_eq_true] at hx
    rw [if_pos hx] at h; cases h; exact .inl rfl
theorem tower_zero (b : List UInt8) : (tower b 0).enc = put 4 b := by show put 4 b ++ [] = _; rw [List.append_nil]
def TwRel (w : World) (b : List UInt8) (M g : Nat) (v5 v6 v22 : Value) (wr : World) : Prop :=
  ∃ i, i + g = M ∧ v5 = .string (bs (tower b i).enc) ∧ v6 = .int .i64 0 ∧ v22 = .int .i64 (i : Nat) ∧ Below w.heap.size w wr
end Go.Proofs.YtkmfcnilbmckmaaGreatDoor
/- The law on ber's there and back, walked on calls that keep their word. -/
namespace Go.Proofs.YtkmfcnilbmckmaaGreatDoor
open Go.ChangeShapes Go.WideShapes Go.ChangeAt Go.RowKit K P1 B5
set_option linter.unusedVariables false

def puts (ps : List (Nat × List UInt8)) : List UInt8 := ps.flatMap fun p => put p.1 p.2
theorem puts_app (a b : List (Nat × List UInt8)) : puts (a ++ b) = puts a ++ puts b := by simp [puts]
theorem puts_one (t : Nat) (b : List UInt8) : puts [(t, b)] = put t b := by simp [puts]
def PtPost (ps : List (Nat × List UInt8)) (w : World) (e : Ending) (w' : World) : Prop :=
  ∃ v, e = .returned (.tuple #[v, .int .i64 0]) ∧ OwnP w' w.heap.size 29 v ps ∧ Below w.heap.size w w'
theorem Below_drewNb {B : Nat} {a b : World} (h : Below B a b) (n : Nat) : Below B a (b.drewN n) := ⟨h.os, h.tape, h.output, h.size, h.block⟩
/-- The tag of a number. -/
def tgN (x : Int) : Nat := if belowN x 256 % 32 = 31 then (belowN x 256 - 1).toNat else (belowN x 256).toNat
theorem tgN_ok (x : Int) : isTag (tgN x) = true ∧ tgN x < 256 := by
  have h := belowN_bounds x 256 (by omega)
  unfold tgN isTag
  by_cases h1 : belowN x 256 % 32 = 31
  · rw [if_pos h1]
    exact ⟨by rw [bne_iff_ne]; omega, by omega⟩
  · rw [if_neg h1]
    exact ⟨by rw [bne_iff_ne]; omega, by omega⟩
def wl (ns : Nat → Int) (b : List UInt8) (i : Nat) : List (Nat × List UInt8) := (List.range i).map fun j => (tgN (ns j), b)
theorem wl_succ (ns : Nat → Int) (b : List UInt8) (i : Nat) : wl ns b (i + 1) = wl ns b i ++ [(tgN (ns i), b)] := by
  unfold wl; rw [List.range_succ, List.map_append]; rfl
theorem wl_len (ns : Nat → Int) (b : List UInt8) (i : Nat) : (wl ns b i).length = i := by simp [wl]
theorem wl_ok (ns : Nat → Int) (b : List UInt8) (hb : b.length ≤ 300) (i : Nat) : ∀ p ∈ wl ns b i, isTag p.1 = true ∧ p.1 < 256 ∧ p.2.length ≤ 300 := by
  intro p hp
  unfold wl at hp
  obtain ⟨j, _, rfl⟩ := List.mem_map.1 hp
  exact ⟨(tgN_ok _).1, (tgN_ok _).2, hb⟩
theorem part_info : (Tryz.prog.info? 29).map (fun i => (i.zero, i.size, i.bytes)) = some (some (.agg #[.int .i64 0, .string .empty]), 2, 24) := by kernel_rfl
def BbRel (w : World) (ns : Nat → Int) (b : List UInt8) (I g : Nat) (v7 v8 v35 : Value) (wr : World) : Prop :=
  ∃ i, i + g = I ∧ v7 = .string (bs (puts (wl ns b i))) ∧ v35 = .int .i64 (i : Nat) ∧ OwnP wr w.heap.size 29 v8 (wl ns b i) ∧ Below w.heap.size w wr ∧ (puts (wl ns b i)).length ≤ i * 310
def BcRel (w : World) (n g : Nat) (v107 : Value) (wr : World) : Prop := ∃ i, i + g = n ∧ v107 = .int .i64 (i : Nat) ∧ ∃ m, wr = w.drewN m
theorem works_vals : whC [2, 130, 0, 1, 5] = [2, 1, 5] ∧ whE [2, 130, 0, 1, 5] = 0 ∧ put 2 [5] ++ [] = [2, 1, 5] ∧ nOk [5] = true ∧ nv [5] = 5 ∧ isTag 2 = true := by decide +kernel
end Go.Proofs.YtkmfcnilbmckmaaGreatDoor
/- ber.Canon, walked; all calls keep their word. -/
namespace Go.Proofs.YtkmfcnilbmckmaaGreatDoor
open Go.ChangeShapes Go.WideShapes Go.ChangeAt Go.RowKit K P1 B5
set_option linter.unusedVariables false

theorem canon_walk (l : List UInt8) (hl : l.length ≤ 100000000) (w : World) :
    Calls Tryz.prog 17 #[.string (bs l)] w fun e w' => e = .returned (.tuple #[.string (bs (whC l)), .int .i64 (whE l : Nat)]) ∧ Below w.heap.size w w' := by
  have hD := deep_walk l hl w
  cases hwh : wh l with
  | error e =>
    obtain ⟨a1, a2, a3⟩ := wh_bad hwh
    have hec := wh_codes hwh
    rw [a1, a2] at hD
    rw [a1, a3]
    have hne : (((e : Nat) : Int) != 0) = true := by rw [bne_iff_ne]; omega
    have HD := Lib.hid hD
    clear hD hwh a1 a2 a3 hec
    go_enter Tryz.func17, Tryz.ntmps17
    go_wp2_with fail
    refine HD.out.mono ?_
    rintro e w1 ⟨rfl, b1⟩
    go_wp2
    go_ret2
    exact ⟨rfl, b1⟩
  | ok f =>
    obtain ⟨a1, a2, a3⟩ := wh_ok hwh
    rw [a1, a2] at hD
    rw [a1, a3]
    have hS : ∀ w1 : World, Calls Tryz.prog 44 #[.string (bs l)] w1 fun e w' => e = .returned (.string (bs f.enc)) ∧ Below w1.heap.size w1 w' := short_walk l.length 1 l f (Nat.le_refl _) hl (wh_inv hwh).2.2
    have HS := Lib.hid hS
    have HD := Lib.hid hD
    clear hD hS hwh a1 a2 a3
    generalize f.enc = X at *
    go_enter Tryz.func17, Tryz.ntmps17
    go_wp2_with fail
    refine HD.out.mono ?_
    rintro e w1 ⟨rfl, b1⟩
    go_wp2_with fail
    refine (HS.out _).mono ?_
    rintro e w2 ⟨rfl, b2⟩
    go_wp2
    go_ret2
    exact ⟨rfl, b1.trans (b2.mono b1.size)⟩
theorem next_put (t : Nat) (b r : List UInt8) (w : World) (ht : isTag t = true) (ht2 : t < 256) (hb : b.length ≤ 300) (hr : r.length ≤ 300) :
    Calls Tryz.prog 16 #[.string (bs (put t b ++ r))] w fun e w' => e = .returned (.tuple #[.agg #[.int .i64 t, .string (bs b)], .string (bs r), .int .i64 0]) ∧ Below w.heap.size w w' := by
  obtain ⟨x1, x2, x3, x4⟩ := nx_put t b r ht ht2 (by omega)
  have hl : (put t b ++ r).length ≤ 140737488351232 := by
    rw [List.length_append, put_len]; have := short_le b.length; omega
  have h := next_ok (put t b ++ r) hl x1 w
  rw [x2, x3, x4] at h
  exact h
theorem number_yes (l : List UInt8) (w : World) (h : nOk l = true) : Calls Tryz.prog 46 #[.string (bs l)] w fun e w' => e = .returned (.tuple #[.int .i64 (nv l), .int .i64 0]) ∧ Below w.heap.size w w' := by
  have hl : l.length ≤ 8 := by
    unfold nOk at h
    simp only [Bool.and_eq_true, decide_eq_true_eq] at h
    exact h.2.1
  have := number_walk l (by omega) w
  rw [show nuV l = nv l by unfold nuV; rw [h]; rfl, show nuE l = 0 by unfold nuE; rw [h]; rfl] at this
  exact this
theorem unsigned_yes (l : List UInt8) (w : World) (h : uOk l = true) : Calls Tryz.prog 19 #[.string (bs l)] w fun e w' => e = .returned (.tuple #[.int .u64 (uv l), .int .i64 0]) ∧ Below w.heap.size w w' := by
  have hl : l.length ≤ 9 := by
    unfold uOk nOk at h
    simp only [Bool.or_eq_true, Bool.and_eq_true, decide_eq_true_eq, beq_iff_eq] at h
    rcases h with h | h
    · omega
    · have := h.1.2.1; omega
  have := unsigned_walk l (by omega) w
  rw [show uuV l = uv l by unfold uuV; rw [h]; rfl, show uuE l = 0 by unfold uuE; rw [h]; rfl] at this
  exact this
end Go.Proofs.YtkmfcnilbmckmaaGreatDoor
