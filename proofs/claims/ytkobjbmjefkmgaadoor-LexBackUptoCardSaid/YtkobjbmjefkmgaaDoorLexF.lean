/- The document's tokens as they lie; Split's lines. -/
import Derived.Test.YtkobjbmjefkmgaaDoorLexE
import Derived.Test.YtkobjbmjefkmgaaDoorLexR
namespace Go.Proofs.YtkobjbmjefkmgaaDoor
open Go.ChangeShapes Go.WideShapes Go.ChangeAt Go.RowKit K L14
set_option linter.unusedVariables false

/-- A token's cells. -/
def tkC (x : Tk) : List Value := [.int .i64 (x.k : Nat), .string (bs x.t), .int .i64 (x.l : Nat)]
def tkL (l : List Tk) : List Value := l.flatMap tkC
theorem tkL_app (a b : List Tk) : tkL (a ++ b) = tkL a ++ tkL b := by simp [tkL]
theorem tkL_len : ∀ l : List Tk, (tkL l).length = l.length * 3
  | [] => rfl
  | x :: xs => by
    show (tkC x ++ tkL xs).length = _
    rw [List.length_append, tkL_len xs, List.length_cons]; simp [tkC]; omega
def noT : Tk := ⟨0, [], 0⟩
theorem tkL_get : ∀ (l : List Tk) (i j : Nat), i < l.length → j < 3 → (tkL l)[i * 3 + j]? = (tkC (l.getD i noT))[j]?
  | [], i, j, h, _ => by simp at h
  | x :: xs, 0, j, _, hj => by
    show (tkC x ++ tkL xs)[0 * 3 + j]? = _
    rw [Nat.zero_mul, Nat.zero_add, List.getElem?_append_left (by simpa [tkC] using hj)]; rfl
  | x :: xs, i + 1, j, h, hj => by
    have ih := tkL_get xs i j (by simpa using h) hj
    show (tkC x ++ tkL xs)[(i + 1) * 3 + j]? = _
    rw [List.getElem?_append_right (by simp [tkC]; omega), show (i + 1) * 3 + j - (tkC x).length = i * 3 + j by simp [tkC]; omega, ih]
    simp [List.getD]
theorem tkL_one (l : List Tk) : ∀ u ∈ tkL l, u.oneCell' = true := by
  intro u hu
  obtain ⟨x, _, hx⟩ := List.mem_flatMap.1 hu
  simp [tkC] at hx
  rcases hx with rfl | rfl | rfl <;> rfl
/-- Tokens of type T, in a list that a call made itself. -/
def OwnK (w : World) (B : Nat) (T : TypeId) (v : Value) (l : List Tk) : Prop := w.ownsRow B T 3 v l.length (tkL l)
theorem OwnK.nil (w : World) (B : Nat) (T : TypeId) : OwnK w B T (.slice none 0 0) [] := World.ownsRow_nil w B _ _
theorem OwnK.below {w w' : World} {B : Nat} {T : TypeId} {v : Value} {l : List Tk} (h : OwnK w B T v l) (k : Below w.heap.size w w') : OwnK w' B T v l := by
  refine ⟨h.1, ?_⟩
  rcases h.2 with hn | ⟨g, cap, cur, h1, h2, h3, h4⟩
  · exact .inl hn
  · exact .inr ⟨g, cap, cur, h1, h2, (k.block g (lt_of_block h3)).trans h3, h4⟩
/-- Tokens as a call reads them. -/
def RdK (w : World) (ao : Option Addr) (l : List Tk) : Prop := l.length = 0 ∨ ∃ g o, ao = some ⟨g, o, none⟩ ∧ g < w.heap.size ∧ ∀ i, i < l.length → ∀ j, j < 3 → w.cell? ⟨g, o + i * 3 + j, none⟩ = (tkC (l.getD i noT))[j]?
theorem RdK.below {w w' : World} {ao : Option Addr} {l : List Tk} (h : RdK w ao l) (k : Below w.heap.size w w') : RdK w' ao l := by
  rcases h with h | ⟨g, o, h1, h2, h3⟩
  · exact .inl h
  · exact .inr ⟨g, o, h1, Nat.lt_of_lt_of_le h2 k.size, fun i hi j hj => (k.cell (p := ⟨g, o + i * 3 + j, none⟩) h2).trans (h3 i hi j hj)⟩
theorem RdK.at {w : World} {ao : Option Addr} {l : List Tk} (h : RdK w ao l) {i : Nat} (hi : i < l.length) : ∃ g o, ao = some ⟨g, o, none⟩ ∧ g < w.heap.size ∧ w.cell? ⟨g, o + i * 3, none⟩ = some (.int .i64 ((l.getD i noT).k : Nat)) ∧ w.cell? ⟨g, o + i * 3 + 1, none⟩ = some (.string (bs (l.getD i noT).t)) ∧ w.cell? ⟨g, o + i * 3 + 2, none⟩ = some (.int .i64 ((l.getD i noT).l : Nat)) := by
  rcases h with h | ⟨g, o, h1, h2, h3⟩
  · omega
  · exact ⟨g, o, h1, h2, (h3 i hi 0 (by omega)), (h3 i hi 1 (by omega)), (h3 i hi 2 (by omega))⟩
theorem OwnK.form {w : World} {B : Nat} {T : TypeId} {v : Value} {l : List Tk} (h : OwnK w B T v l) : ∃ ao cap, v = .slice ao l.length cap ∧ RdK w ao l := by
  rcases h.2 with ⟨hv, h0⟩ | ⟨g, cap, cur, hv, hB, hh, hle, hm, hs, ht⟩
  · exact ⟨none, 0, by rw [hv, h0], .inl h0⟩
  · refine ⟨some ⟨g, 0, none⟩, cap, hv, .inr ⟨g, 0, rfl, lt_of_block hh, fun i hi j hj => ?_⟩⟩
    rw [Nat.zero_add, cellRow hh, ← Array.getElem?_toList, ← tkL_get l i j hi hj, ← ht, List.getElem?_take_of_lt]
    have : (i + 1) * 3 ≤ l.length * 3 := Nat.mul_le_mul_right _ hi
    omega
theorem tinfo : (Tryd.prog.info? 52).map (fun i => (i.zero, i.size, i.bytes)) = some (some (.agg #[.int .i64 0, .string .empty, .int .i64 0]), 3, 32) := by kernel_rfl
/-- One more token. -/
theorem appK {ops : Array Oper} {rest : List Oper} {o : Oper} {a : Act} {Q : Exit → Act → World → Prop} {W : World} (hgd : o.guard = none) {s x : Operand} (ho : o.op = .call { callee := .builtin .append, args := #[s, x], argTypes := #[27, 27] })
    {B : Nat} {v : Value} {l : List Tk} {p : Tk} (hs : a.eval s = v) (hO : OwnK W B 52 v l) (hx : a.eval x = .slice (some ⟨W.heap.size, 0, none⟩) 1 1) (hn : l.length ≤ 1000000) (hB : B ≤ W.heap.size)
    (h : ∀ v' w', OwnK w' B 52 v' (l ++ [p]) → (∀ y, Below B y W → Below B y w') → wpList Tryd.prog ops Q rest (a.put o.dst v') w') : wpList Tryd.prog ops Q (o :: rest) a (W.alloc (.cells #[.int .i64 (p.k : Nat), .string (bs p.t), .int .i64 (p.l : Nat)] 52)) := by
  obtain ⟨i0, hi, hz0, hz1, hz2⟩ := info_of tinfo
  have hC := rowNew W (.cells #[.int .i64 (p.k : Nat), .string (bs p.t), .int .i64 (p.l : Nat)] 52)
  have hsz : (W.alloc (.cells #[.int .i64 (p.k : Nat), .string (bs p.t), .int .i64 (p.l : Nat)] 52)).heap.size = W.heap.size + 1 := by simp
  refine wpList_append_own _ hgd s x 27 ho B 52 i0 (.agg #[.int .i64 0, .string .empty, .int .i64 0]) 3 32 Tryd.underlying27 hi hz0 hz1 hz2 rfl (by decide) v l.length (tkL l) hs (World.ownsRow.alloc hO _) ⟨W.heap.size, 0, none⟩ 1 1 (tkC p) hx rfl ?_ ?_ (by unfold maxLen; omega) (by omega) (by rw [hsz]; omega) ?_
  · intro j u hj
    have hc := cellRow hC j
    have ha : (⟨W.heap.size, 0, none⟩ : Addr).add j = ⟨W.heap.size, j, none⟩ := by
      by_cases h : j = 0
      · subst h; simp [Addr.add]
      · simp [Addr.add, h]
    rw [ha, hc, ← Array.getElem?_toList]
    exact hj
  · have := tkL_one [p]
    simpa [tkL] using this
  · intro v' w' hown hg _
    refine h v' w' ?_ fun y b => ?_
    · unfold OwnK
      rw [List.length_append, tkL_app]
      simpa [tkL] using hown
    · exact (b.alloc hB _).grown hg (by rw [hsz]; omega) (fun k hk => (World.ownsRow.lt hO k hk).1)
theorem nls_next (s : List UInt8) (a m : Nat) (h : a + m < s.length) : nls ((s.drop a).take (m + 1)) = nls ((s.drop a).take m) + (if byt s (a + m) = 10 then 1 else 0) := by
  have h1 : m < (s.drop a).length := by rw [List.length_drop]; omega
  rw [List.take_succ_eq_append_getElem h1, nls_app]
  congr 1
  rw [byt_get s (a + m) h, List.getElem_drop]
  unfold nls
  rw [List.countP_singleton]
  by_cases hc : s[a + m] = 10
  · rw [hc]; rfl
  · rw [if_neg (by simpa using hc), if_neg (fun e : s[a + m].toNat = 10 => hc (UInt8.toNat_inj.1 e))]
end Go.Proofs.YtkobjbmjefkmgaaDoor
