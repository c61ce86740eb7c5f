/- Rows of pieces: a piece's 258 cells, a list of them that a call makes, and reads. -/
import Derived.Test.YtmhmipbbbccfgaaGlbE
import Derived.Test.YtmhmipbbbccfgaaRow
import Derived.Great.BuildSlice
namespace Go.Proofs.Ytmhmipbbbccfgaa
open Go.ChangeShapes Go.WideShapes Go.ChangeAt Go.RowKit K G13
set_option linter.unusedVariables false

def hitN (p : Pc) (i : Nat) : Bool := p.hit (UInt8.ofNat i)
def ownP : Pc → Bool
  | .one _ => true
  | _ => false
def rowP (a o : Bool) (g : Nat → Bool) : Array Value := #[.bool a, .bool o] ++ tabB g
theorem rowP_size (a o : Bool) (g : Nat → Bool) : (rowP a o g).size = 258 := by
  unfold rowP; rw [Array.size_append, tabB_size]; rfl
theorem rowP_0 (a o : Bool) (g : Nat → Bool) : (rowP a o g)[0]? = some (.bool a) := by
  unfold rowP; rw [Array.getElem?_append_left (by simp)]; rfl
theorem rowP_1 (a o : Bool) (g : Nat → Bool) : (rowP a o g)[1]? = some (.bool o) := by
  unfold rowP; rw [Array.getElem?_append_left (by simp)]; rfl
theorem rowP_2 (a o : Bool) (g : Nat → Bool) {i : Nat} (h : i < 256) : (rowP a o g)[2 + i]? = some (.bool (g i)) := by
  unfold rowP; rw [Array.getElem?_append_right (by simp)]
  simp only [List.size_toArray, List.length_cons, List.length_nil, Nat.add_sub_cancel_left]
  exact tabB_get g h
theorem rowP_all (a o : Bool) (g : Nat → Bool) : (rowP a o g).all (·.oneCell') = true := by
  unfold rowP; rw [Array.all_append, tabB_all, Bool.and_true]; rw [Array.all_eq_true_iff_forall_mem]; intro x hx; simp at hx; rcases hx with rfl | rfl <;> rfl
theorem row_ext {x : Array Value} {a o : Bool} {g : Nat → Bool} (hs : x.size = 258) (h0 : x[0]? = some (.bool a)) (h1 : x[1]? = some (.bool o)) (h2 : ∀ i, i < 256 → x[2 + i]? = some (.bool (g i))) : x = rowP a o g := by
  apply Array.ext_getElem?
  intro i
  match i with
  | 0 => rw [h0, rowP_0]
  | 1 => rw [h1, rowP_1]
  | n + 2 =>
    by_cases h : n < 256
    · rw [show n + 2 = 2 + n by omega, h2 n h, rowP_2 a o g h]
    · rw [Array.getElem?_eq_none (by omega), Array.getElem?_eq_none (by rw [rowP_size]; omega)]
theorem rowP_congr {a o : Bool} {g k : Nat → Bool} (e : ∀ i, i < 256 → g i = k i) : rowP a o g = rowP a o k := by
  unfold rowP; rw [tabB_congr e]
theorem rowP_set0 (a o x : Bool) (g : Nat → Bool) : (rowP a o g).setIfInBounds 0 (.bool x) = rowP x o g := by
  refine row_ext (by rw [Array.size_setIfInBounds, rowP_size]) ?_ ?_ fun i hi => ?_
  · rw [Array.getElem?_setIfInBounds_self_of_lt (by rw [rowP_size]; omega)]
  · rw [Array.getElem?_setIfInBounds_ne (by omega), rowP_1]
  · rw [Array.getElem?_setIfInBounds_ne (by omega), rowP_2 a o g hi]
theorem rowP_set1 (a o x : Bool) (g : Nat → Bool) : (rowP a o g).setIfInBounds 1 (.bool x) = rowP a x g := by
  refine row_ext (by rw [Array.size_setIfInBounds, rowP_size]) ?_ ?_ fun i hi => ?_
  · rw [Array.getElem?_setIfInBounds_ne (by omega), rowP_0]
  · rw [Array.getElem?_setIfInBounds_self_of_lt (by rw [rowP_size]; omega)]
  · rw [Array.getElem?_setIfInBounds_ne (by omega), rowP_2 a o g hi]
theorem rowP_set2 (a o x : Bool) (g : Nat → Bool) (c : Nat) (hc : c < 256) : (rowP a o g).setIfInBounds (2 + c) (.bool x) = rowP a o fun i => if i = c then x else g i := by
  refine row_ext (by rw [Array.size_setIfInBounds, rowP_size]) ?_ ?_ fun i hi => ?_
  · rw [Array.getElem?_setIfInBounds_ne (by omega), rowP_0]
  · rw [Array.getElem?_setIfInBounds_ne (by omega), rowP_1]
  · by_cases h : i = c
    · subst h; rw [Array.getElem?_setIfInBounds_self_of_lt (by rw [rowP_size]; omega), if_pos rfl]
    · rw [Array.getElem?_setIfInBounds_ne (by omega), rowP_2 a o g hi, if_neg h]
theorem rowP_zero : Array.replicate 258 (Value.bool false) = rowP false false fun _ => false := by
  refine row_ext (by simp) ?_ ?_ fun i hi => ?_
  all_goals rw [Array.getElem?_replicate, if_pos (by omega)]
/-- A piece's cells. -/
def pcA (p : Pc) : Array Value := rowP p.isAny (ownP p) (hitN p)
theorem pcA_size (p : Pc) : (pcA p).size = 258 := rowP_size _ _ _
theorem pcA_one (b : UInt8) : pone b.toNat = pcA (.one b) := by
  have hb : b.toNat < 256 := b.toNat_lt
  unfold pone
  rw [rowP_zero, rowP_set1, rowP_set2 _ _ _ _ _ hb]
  refine rowP_congr fun i hi => ?_
  show (if i = b.toNat then true else false) = (b == UInt8.ofNat i)
  by_cases h : i = b.toNat
  · subst h; simp
  · rw [if_neg h]
    refine (beq_eq_false_iff_ne.2 fun e => h ?_).symm
    rw [e, UInt8.toNat_ofNat']; omega
theorem pcA_all : rowP false false (fun _ => true) = pcA (.set fun _ => true) := rfl
theorem pcA_set (f : UInt8 → Bool) : rowP false false (fun i => f (UInt8.ofNat i)) = pcA (.set f) := rfl
theorem zinfo : (Try.prog.info? 57).map (fun i => (i.zero, i.size, i.bytes)) = some (some (.agg (Array.replicate 258 (.bool false))), 258, 258) := by kernel_rfl
theorem pbuilt (parts : List (Nat × Value)) : Try.prog.built 57 parts = Instr.fill (#[(0, 1), (1, 1), (2, 256)][·]?) (rowP false false fun _ => false) parts := by
  obtain ⟨it, h1, h2, _, _⟩ := info_of zinfo
  have hm : (match Try.prog.underlying 57 with | some (.struct fields) => fields.toList.mapM (fun f => (Try.prog.info? f.type).map fun i => (f.offset, i.size)) | _ => none) = some [(0, 1), (1, 1), (2, 256)] := by kernel_rfl
  unfold Program.built
  rw [h1]
  rw [Try.underlying57] at hm ⊢
  simp only at hm ⊢
  rw [h2, hm, ← rowP_zero]
  rfl
theorem run_pany (w : World) : (Instr.build 57 #[(0, .bool true)]).run Try.prog w = .ok (.agg (pcA .any)) w := by
  refine run_build w _ _ _ ?_
  rw [pbuilt]
  have e : (Value.bool true).cells = #[.bool true] := rfl
  simp only [Instr.fill, List.getElem?_toArray, List.getElem?_cons_zero, e, rowP_size]
  simp [rowP_set0]
  rfl
theorem run_pnone (w : World) : (Instr.build 57 #[]).run Try.prog w = .ok (.agg (rowP false false fun _ => false)) w := by
  refine run_build w _ _ _ ?_
  rw [pbuilt]; rfl
theorem run_pset (g : Nat → Bool) (w : World) : (Instr.build 57 #[(2, .agg (tabB g))]).run Try.prog w = .ok (.agg (rowP false false g)) w := by
  refine run_build w _ _ _ ?_
  rw [pbuilt]
  have e : (Value.agg (tabB g)).cells = tabB g := rfl
  simp only [Instr.fill, List.getElem?_toArray, List.getElem?_cons_zero, List.getElem?_cons_succ, e, rowP_size, tabB_size]
  simp only [ne_eq, not_true_eq_false, decide_false, Bool.false_or, decide_eq_true_eq]
  rw [if_neg (by simp)]
  congr 1
  have hf := Great.foldl_set 2 (tabB g).toList 0 (rowP false false fun _ => false)
  have hz : (tabB g).zipIdx.foldl (fun cs (x : Value × Nat) => cs.setIfInBounds (2 + x.2) x.1) (rowP false false fun _ => false) = ((tabB g).toList.zipIdx 0).foldl (fun cs (x : Value × Nat) => cs.setIfInBounds (2 + x.2) x.1) (rowP false false fun _ => false) := by
    rw [← Array.foldl_toList]; simp
  have hl : (tabB g).toList.length = 256 := by rw [Array.length_toList, tabB_size]
  refine (show _ = _ from hz).trans ?_
  refine row_ext (by rw [hf.1, rowP_size]) ?_ ?_ fun i hi => ?_
  · rw [hf.2, if_neg (by omega), rowP_0]
  · rw [hf.2, if_neg (by omega), rowP_1]
  · rw [hf.2, if_pos (by rw [hl, rowP_size]; omega), show 2 + i - (2 + 0) = i by omega]
    simpa using tabB_get g hi
theorem run_pslice (p : Pc) (w : World) : (Instr.buildSlice 27 1 #[(0, .agg (pcA p))]).run Try.prog w = .ok (.slice (some ⟨w.heap.size, 0, none⟩) 1 1) (w.alloc (.cells (pcA p) 57)) := by
  obtain ⟨it, h1, h2, h3, _⟩ := info_of zinfo
  refine run_buildSlice w _ 57 1 _ (pcA p) it _ Try.underlying27 h1 h2 (by rw [h3]; decide) (by rw [h3]; decide) ?_
  have := Great.fill_whole (s := 258) (by omega) [.agg (pcA p)] ((Array.range (1 * it.size)).map ((Value.agg (Array.replicate 258 (Value.bool false))).cells[· % (Value.agg (Array.replicate 258 (Value.bool false))).cells.size]!)) (fun v hv => by simp at hv; subst hv; exact pcA_size p) (by rw [h3]; simp)
  rw [h3] at this ⊢
  refine this.trans ?_
  congr 1
  show ([Value.agg (pcA p)].flatMap fun v => v.cells.toList).toArray = pcA p
  simp [Value.cells]
attribute [irreducible] rowP
/-! ### Lists of pieces -/
def rowsG (l : List Pc) : List Value := l.flatMap fun p => (pcA p).toList
theorem rowsG_app (a b : List Pc) : rowsG (a ++ b) = rowsG a ++ rowsG b := by simp [rowsG]
theorem rowsG_len : ∀ l : List Pc, (rowsG l).length = l.length * 258
  | [] => rfl
  | x :: xs => by
    show ((pcA x).toList ++ rowsG xs).length = _
    rw [List.length_append, rowsG_len xs, List.length_cons, Array.length_toList, pcA_size]; omega
theorem rowsG_get : ∀ (l : List Pc) (i j : Nat), i < l.length → j < 258 → (rowsG l)[i * 258 + j]? = (pcA (l.getD i .any))[j]?
  | [], i, j, h, _ => by simp at h
  | x :: xs, 0, j, _, hj => by
    show ((pcA x).toList ++ rowsG xs)[0 * 258 + j]? = _
    rw [Nat.zero_mul, Nat.zero_add, List.getElem?_append_left (by rw [Array.length_toList, pcA_size]; exact hj)]; simp
  | x :: xs, i + 1, j, h, hj => by
    have ih := rowsG_get xs i j (by simpa using h) hj
    show ((pcA x).toList ++ rowsG xs)[(i + 1) * 258 + j]? = _
    rw [List.getElem?_append_right (by rw [Array.length_toList, pcA_size]; omega), Array.length_toList, pcA_size, show (i + 1) * 258 + j - 258 = i * 258 + j by omega, ih]
    simp [List.getD]
theorem rowsG_one (l : List Pc) : ∀ u ∈ rowsG l, u.oneCell' = true := by
  intro u hu
  obtain ⟨p, _, hp⟩ := List.mem_flatMap.1 hu
  have := rowP_all p.isAny (ownP p) (hitN p)
  rw [Array.all_eq_true_iff_forall_mem] at this
  exact this u (by simpa [pcA] using hp)
def OwnG (w : World) (B : Nat) (v : Value) (l : List Pc) : Prop := w.ownsRow B 57 258 v l.length (rowsG l)
theorem OwnG.nil (w : World) (B : Nat) : OwnG w B (.slice none 0 0) [] := World.ownsRow_nil w B _ _
theorem OwnG.below {w w' : World} {B : Nat} {v : Value} {l : List Pc} (h : OwnG w B v l) (k : Below w.heap.size w w') : OwnG w' B v l := by
  refine ⟨h.1, ?_⟩
  rcases h.2 with hn | ⟨g, cap, cur, h1, h2, h3, h4⟩
  · exact .inl hn
  · exact .inr ⟨g, cap, cur, h1, h2, (k.block g (lt_of_block h3)).trans h3, h4⟩
theorem OwnG.put {w : World} {B : Nat} {v : Value} {l : List Pc} {p : Pc} (h : w.ownsRow B 57 258 v (l.length + 1) (rowsG l ++ (pcA p).toList)) : OwnG w B v (l ++ [p]) := by
  unfold OwnG
  rw [List.length_append, rowsG_app]
  simpa [rowsG] using h
/-- Pieces as a call reads them. -/
def RdG (w : World) (ao : Option Addr) (l : List Pc) : Prop := l.length = 0 ∨ ∃ g, ao = some ⟨g, 0, none⟩ ∧ g < w.heap.size ∧ ∀ i, i < l.length → ∀ j, j < 258 → w.cell? ⟨g, i * 258 + j, none⟩ = (pcA (l.getD i .any))[j]?
theorem RdG.below {w w' : World} {ao : Option Addr} {l : List Pc} (h : RdG w ao l) (k : Below w.heap.size w w') : RdG w' ao l := by
  rcases h with h | ⟨g, h1, h2, h3⟩
  · exact .inl h
  · exact .inr ⟨g, h1, Nat.lt_of_lt_of_le h2 k.size, fun i hi j hj => (k.cell (p := ⟨g, i * 258 + j, none⟩) h2).trans (h3 i hi j hj)⟩
theorem OwnG.form {w : World} {B : Nat} {v : Value} {l : List Pc} (h : OwnG w B v l) : ∃ ao cap, v = .slice ao l.length cap ∧ RdG w ao l := by
  rcases h.2 with ⟨hv, h0⟩ | ⟨g, cap, cur, hv, hB, hh, hle, hm, hs, ht⟩
  · exact ⟨none, 0, by rw [hv, h0], .inl h0⟩
  · refine ⟨some ⟨g, 0, none⟩, cap, hv, .inr ⟨g, rfl, lt_of_block hh, fun i hi j hj => ?_⟩⟩
    rw [cellRow hh, ← Array.getElem?_toList, ← rowsG_get l i j hi hj, ← ht, List.getElem?_take_of_lt]
    have : (i + 1) * 258 ≤ l.length * 258 := Nat.mul_le_mul_right _ hi
    omega
end Go.Proofs.Ytmhmipbbbccfgaa
