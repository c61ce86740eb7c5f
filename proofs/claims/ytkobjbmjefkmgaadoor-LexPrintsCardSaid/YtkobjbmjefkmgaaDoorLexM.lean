/- The law's of: the document's tokens. -/
import Derived.Test.YtkobjbmjefkmgaaDoorLexK
namespace Go.Proofs.YtkobjbmjefkmgaaDoor
open Go.ChangeShapes Go.WideShapes Go.ChangeAt Go.RowKit K L14
set_option linter.unusedVariables false

def tqL (l : List Tq) : List Value := l.flatMap tqC
theorem tqL_app (a b : List Tq) : tqL (a ++ b) = tqL a ++ tqL b := by simp [tqL]
theorem tqL_len : ∀ l : List Tq, (tqL l).length = l.length * 3
  | [] => rfl
  | x :: xs => by
    show (tqC x ++ tqL xs).length = _
    rw [List.length_append, tqL_len xs, List.length_cons]; simp [tqC]; omega
theorem tqL_get : ∀ (l : List Tq) (i j : Nat), i < l.length → j < 3 → (tqL l)[i * 3 + j]? = (tqC (l.getD i noQ))[j]?
  | [], i, j, h, _ => by simp at h
  | x :: xs, 0, j, _, hj => by
    show (tqC x ++ tqL xs)[0 * 3 + j]? = _
    rw [Nat.zero_mul, Nat.zero_add, List.getElem?_append_left (by simpa [tqC] using hj)]; rfl
  | x :: xs, i + 1, j, h, hj => by
    have ih := tqL_get xs i j (by simpa using h) hj
    show (tqC x ++ tqL xs)[(i + 1) * 3 + j]? = _
    rw [List.getElem?_append_right (by simp [tqC]; omega), show (i + 1) * 3 + j - (tqC x).length = i * 3 + j by simp [tqC]; omega, ih]
    simp [List.getD]
theorem tqL_one (l : List Tq) : ∀ u ∈ tqL l, u.oneCell' = true := by
  intro u hu
  obtain ⟨x, _, hx⟩ := List.mem_flatMap.1 hu
  simp [tqC] at hx
  rcases hx with rfl | rfl | rfl <;> rfl
/-- Tokens of type T, in a list that a call made itself. -/
def OwnQ (w : World) (B : Nat) (T : TypeId) (v : Value) (l : List Tq) : Prop := w.ownsRow B T 3 v l.length (tqL l)
theorem OwnQ.nil (w : World) (B : Nat) (T : TypeId) : OwnQ w B T (.slice none 0 0) [] := World.ownsRow_nil w B _ _
theorem OwnQ.below {w w' : World} {B : Nat} {T : TypeId} {v : Value} {l : List Tq} (h : OwnQ w B T v l) (k : Below w.heap.size w w') : OwnQ w' B T v l := by
  refine ⟨h.1, ?_⟩
  rcases h.2 with hn | ⟨g, cap, cur, h1, h2, h3, h4⟩
  · exact .inl hn
  · exact .inr ⟨g, cap, cur, h1, h2, (k.block g (lt_of_block h3)).trans h3, h4⟩
theorem OwnQ.form {w : World} {B : Nat} {T : TypeId} {v : Value} {l : List Tq} (h : OwnQ w B T v l) : ∃ ao cap, v = .slice ao l.length cap ∧ RdQ w ao l := by
  rcases h.2 with ⟨hv, h0⟩ | ⟨g, cap, cur, hv, hB, hh, hle, hm, hs, ht⟩
  · exact ⟨none, 0, by rw [hv, h0], .inl h0⟩
  · refine ⟨some ⟨g, 0, none⟩, cap, hv, .inr ⟨g, 0, rfl, lt_of_block hh, fun i hi j hj => ?_⟩⟩
    rw [Nat.zero_add, cellRow hh, ← Array.getElem?_toList, ← tqL_get l i j hi hj, ← ht, List.getElem?_take_of_lt]
    have : (i + 1) * 3 ≤ l.length * 3 := Nat.mul_le_mul_right _ hi
    omega
/-- One more token. -/
theorem appT {o : Oper} {a : Act} {K : Act → World → Prop} {Q : Exit → Act → World → Prop} {W : World} {s x : Operand} (ho : o.op = .call { callee := .builtin .append, args := #[s, x], argTypes := #[27, 27] })
    {B : Nat} {v : Value} {l : List Tq} {p : Tq} (hs : a.eval s = v) (hO : OwnQ W B 52 v l) (hx : a.eval x = .slice (some ⟨W.heap.size, 0, none⟩) 1 1) (hn : l.length ≤ 1000000) (hB : B ≤ W.heap.size)
    (h : ∀ v' w', OwnQ w' B 52 v' (l ++ [p]) → (∀ y, Below B y W → Below B y w') → K (a.put o.dst v') w') : o.wp Tryd.prog a (W.alloc (.cells #[.int .i64 p.k, .string (bs p.t), .int .i64 p.l] 52)) K Q := by
  obtain ⟨i0, hi, hz0, hz1, hz2⟩ := info_of tinfo
  have hC := rowNew W (.cells #[.int .i64 p.k, .string (bs p.t), .int .i64 p.l] 52)
  have hsz : (W.alloc (.cells #[.int .i64 p.k, .string (bs p.t), .int .i64 p.l] 52)).heap.size = W.heap.size + 1 := by simp
  refine wp_append_own _ s x 27 ho B 52 i0 (.agg #[.int .i64 0, .string .empty, .int .i64 0]) 3 32 Tryd.underlying27 hi hz0 hz1 hz2 rfl (by decide) v l.length (tqL l) hs (World.ownsRow.alloc hO _) ⟨W.heap.size, 0, none⟩ 1 1 (tqC p) hx rfl ?_ ?_ (by unfold maxLen; omega) (by omega) (by rw [hsz]; omega) ?_
  · intro j u hj
    have hc := cellRow hC j
    have ha : (⟨W.heap.size, 0, none⟩ : Addr).add j = ⟨W.heap.size, j, none⟩ := by
      by_cases h : j = 0
      · subst h; simp [Addr.add]
      · simp [Addr.add, h]
    rw [ha, hc, ← Array.getElem?_toList]
    exact hj
  · have := tqL_one [p]
    simpa [tqL] using this
  · intro v' w' hown hg _
    refine h v' w' ?_ fun y b => ?_
    · unfold OwnQ
      rw [List.length_append, tqL_app]
      simpa [tqL] using hown
    · exact (b.alloc hB _).grown hg (by rw [hsz]; omega) (fun k hk => (World.ownsRow.lt hO k hk).1)
/-- The rounds. -/
def OfRel (l : List Tq) (w : World) (g : Nat) (v2 v3 : Value) (wr : World) : Prop :=
  ∃ i : Nat, i + g = l.length ∧ v3 = .int .i64 (i : Nat) ∧ OwnQ wr w.heap.size 52 v2 (l.take i) ∧ Below w.heap.size w wr
set_option maxRecDepth 100000 in
set_option maxHeartbeats 1000000 in
theorem of14_walk (l : List Tq) (hl : l.length ≤ 1000000) (ao : Option Addr) (cap : Nat) (w : World) (h : RdQ w ao l) : Calls Tryd.prog 13 #[.slice ao l.length cap] w fun e w' => Below w.heap.size w w' ∧ ∃ bo cb, e = .returned (.slice bo l.length cb) ∧ RdQ w' bo l := by
  have HRQ := Lib.hid h
  clear h
  go_enter Tryd.func13, Tryd.ntmps13
  go_wp2
  have H0 := Lib.hid (show OfRel l w l.length (.slice none 0 0) (.int .i64 (0 : Nat)) w from ⟨0, by omega, rfl, OwnQ.nil _ _ _, Below.refl _ _⟩)
  go_loopg [3, 4] l.length (fun g v3 v4 wr => OfRel l w g v3 v4 wr)
  case atStart => exact H0.out
  case round =>
    obtain ⟨i, hig, rfl, hown, hb⟩ := hrel
    clear H0
    have HB := Lib.hid hb
    have hBs := hb.size
    by_cases hi : i < l.length
    · obtain ⟨G, rfl⟩ : ∃ G, gk = G + 1 := ⟨gk - 1, by omega⟩
      have hi2 : ((i : Nat) : Int) < ((l.length : Nat) : Int) := by omega
      obtain ⟨q, o, rfl, hqs, a0, a1, a2⟩ := HRQ.out.at hi
      obtain ⟨x, hx⟩ : ∃ x, l.getD i noQ = x := ⟨_, rfl⟩
      rw [hx] at a0 a1 a2
      have HC := Lib.hid (show ∀ y, Below w.heap.size w y → y.cell? ⟨q, o + i * 3, none⟩ = some (.int .i64 x.k) ∧ y.cell? ⟨q, o + i * 3 + 1, none⟩ = some (.string (bs x.t)) ∧ y.cell? ⟨q, o + i * 3 + 2, none⟩ = some (.int .i64 x.l) from fun y b => ⟨(b.cell (p := ⟨q, o + i * 3, none⟩) hqs).trans a0, (b.cell (p := ⟨q, o + i * 3 + 1, none⟩) hqs).trans a1, (b.cell (p := ⟨q, o + i * 3 + 2, none⟩) hqs).trans a2⟩)
      clear a0 a1 a2
      have HTK := Lib.hid (show l.take i ++ [x] = l.take (i + 1) by
        rw [List.take_succ_eq_append_getElem hi, ← hx]; simp [List.getD, hi])
      have hts : (l.take i).length ≤ 1000000 := by rw [List.length_take]; omega
      have HIG := Lib.hid hig
      clear hx hb hig
      generalize l.take i = ts at *
      have bd : Below wr.heap.size wr wr.drew := ⟨rfl, rfl, rfl, Nat.le_refl _, fun _ _ => rfl⟩
      have hownD := hown.below bd
      have HBD := Lib.hid (HB.out.trans (bd.mono hBs))
      have hBsD : w.heap.size ≤ wr.drew.heap.size := hBs
      have zS := HC.out _ HB.out
      have zS1 := fun X => HC.out _ (HBD.out.alloc hBsD X)
      clear bd
      go_wp2_with fail
      go_region_held3 (fun y => y.cell? ⟨q, o + i * 3, none⟩ = some (.int .i64 x.k) ∧ y.cell? ⟨q, o + i * 3 + 1, none⟩ = some (.string (bs x.t)) ∧ y.cell? ⟨q, o + i * 3 + 2, none⟩ = some (.int .i64 x.l)) (first | exact zS | exact zS1 _ | exact zS3)
        (first
          | (rw [if_pos (by rfl)]
             refine appT (p := x) (by rfl) (by rfl) hownD (by rfl) hts hBsD ?_
             intro v' w' hown2 hbb
             have zS3 := HC.out _ (hbb _ HBD.out)))
      rw [HTK.out] at hown2
      have HX := Lib.hid (show OfRel l w G v' (.int .i64 ((i : Int) + 1)) w' from ⟨i + 1, by have := HIG.out; omega, rfl, hown2, hbb _ HBD.out⟩)
      clear hown2 hbb hown zS zS1 zS3
      go_wp2
      go_roundg G
      case measure => omega
      case rel => exact HX.out
    · have hi2 : ¬ ((i : Nat) : Int) < ((l.length : Nat) : Int) := by omega
      rw [List.take_of_length_le (by omega)] at hown
      obtain ⟨bo, cb, rfl, hrd⟩ := hown.form
      have HRD := Lib.hid hrd
      clear hrd hown
      go_wp2
      go_ret
      exact ⟨HB.out, bo, ⟨cb, rfl⟩, HRD.out⟩
end Go.Proofs.YtkobjbmjefkmgaaDoor
