/- Texts on the program and on the document, joined: TrpA. -/
import Derived.Test.YtmdibafofdghgaaGreatDoorMa17
import Derived.Test.YtmdibafofdghgaaGreatDoorMa20
import Derived.Test.YtmdibafofdghgaaGreatDoorMa26
/- A trap's block; the document's unit of a trap, walked. -/
namespace Go.Proofs.YtmdibafofdghgaaGreatDoor
open Go.ChangeShapes Go.WideShapes Go.ChangeAt Go.RowKit K P1 B5
open D8 (Bd Un lst)
open T9 (Tr bU bI)
set_option linter.unusedVariables false

/-- A trap's six cells in block b. -/
def Tq (w : World) (b : Nat) (t : Tr) (ao : Option Addr) (cap : Nat) : Prop := w.heap[b]? = some (.cells #[.string (bs t.c), .bool t.f, .int .i64 t.r, .int .i64 t.n, .string (bs t.o), .slice ao t.l.length cap] 27 (0, 0))
theorem Tq.new (w : World) (t : Tr) (ao : Option Addr) (cap : Nat) : Tq (w.alloc (.cells #[.string (bs t.c), .bool t.f, .int .i64 t.r, .int .i64 t.n, .string (bs t.o), .slice ao t.l.length cap] 27)) w.heap.size t ao cap := rowNew w _
theorem Tq.below {w w' : World} {b : Nat} {t : Tr} {ao : Option Addr} {cap : Nat} (h : Tq w b t ao cap) (k : Below w.heap.size w w') : Tq w' b t ao cap := (k.block b (lt_of_block h)).trans h
theorem Tq.cells {w : World} {b : Nat} {t : Tr} {ao : Option Addr} {cap : Nat} (h : Tq w b t ao cap) : w.cell? ⟨b, 0, none⟩ = some (.string (bs t.c)) ∧ w.cell? ⟨b, 1, none⟩ = some (.bool t.f) ∧ w.cell? ⟨b, 2, none⟩ = some (.int .i64 t.r) ∧ w.cell? ⟨b, 3, none⟩ = some (.int .i64 t.n) ∧ w.cell? ⟨b, 4, none⟩ = some (.string (bs t.o)) ∧ w.cell? ⟨b, 5, none⟩ = some (.slice ao t.l.length cap) :=
  ⟨cellRow h 0, cellRow h 1, cellRow h 2, cellRow h 3, cellRow h 4, cellRow h 5⟩
theorem Tq.free {w : World} {b : Nat} {t : Tr} {ao : Option Addr} {cap : Nat} (h : Tq w b t ao cap) (i : Nat) : w.frozen? ⟨b, i, none⟩ = false := freeRow h i
def not9 : Tr := ⟨[], false, 0, 0, [], []⟩
/-- The two blocks of unit: the trap, and what is handed back. -/
theorem two_blocksT (w : World) (t : Tr) (ao : Option Addr) (cap : Nat) (U : TypeId) : ∃ w2, (w.alloc (.cells #[.string (bs t.c), .bool t.f, .int .i64 t.r, .int .i64 t.n, .string (bs t.o), .slice ao t.l.length cap] 27)).alloc (.cells #[.int .i64 0, .int .i64 0, .int .i64 0, .int .i64 0, .slice none 0 0] U) = w2 ∧
    Uq U w2 (w.heap.size + 1) nou none 0 ∧ Tq w2 w.heap.size t ao cap ∧ Below w.heap.size w w2 ∧ w2.heap.size = w.heap.size + 2 := by
  have hr := (Tq.new w t ao cap).below (alloc_in _ (.cells #[.int .i64 0, .int .i64 0, .int .i64 0, .int .i64 0, .slice none 0 0] U))
  refine ⟨_, rfl, ?_, hr, ((Below.refl _ _).alloc (Nat.le_refl _) _).alloc (by simp) _, by simp⟩
  have := Uq.new U (w.alloc (.cells #[.string (bs t.c), .bool t.f, .int .i64 t.r, .int .i64 t.n, .string (bs t.o), .slice ao t.l.length cap] 27)) nou none 0
  rw [show (w.alloc (.cells #[.string (bs t.c), .bool t.f, .int .i64 t.r, .int .i64 t.n, .string (bs t.o), .slice ao t.l.length cap] 27)).heap.size = w.heap.size + 1 by simp] at this
  exact this
/-- What unit has made ahead of its first append. -/
theorem unit_worlds (w : World) (t : Tr) (g : Int) {f : Bool} (hf : t.f = f) (ao : Option Addr) (cap : Nat) : ∃ W, (((w.alloc (.cells #[.string (bs t.c), .bool f, .int .i64 t.r, .int .i64 t.n, .string (bs t.o), .slice ao t.l.length cap] 27)).alloc (.cells #[.int .i64 0, .int .i64 0, .int .i64 0, .int .i64 0, .slice none 0 0] 60)).alloc (.cells #[.int .i64 g, .int .i64 t.r, .int .i64 0, .int .i64 0, .slice none 0 0] 60)).alloc (.cells #[.string { data := #[49, 46, 51, 46, 54, 46, 49, 46, 50, 46, 49, 46, 49, 46, 51, 46, 48] }, .int .i64 67, .int .i64 t.n, .string { data := #[] }] 48) = W ∧
    W.heap[w.heap.size + 2]? = some (.cells #[.int .i64 g, .int .i64 t.r, .int .i64 0, .int .i64 0, .slice none 0 0] 60 (0, 0)) ∧
    Uq 60 W (w.heap.size + 1) nou none 0 ∧ Tq W w.heap.size t ao cap ∧ Bq W (w.heap.size + 3) (bU t.n) ∧ Below w.heap.size w W ∧ w.heap.size + 2 ≤ W.heap.size := by
  obtain ⟨w2, hw2, hq, htq, bw, hsz⟩ := two_blocksT w t ao cap 60
  rw [hf] at hw2
  rw [hw2]
  have k3 := alloc_in w2 (.cells #[.int .i64 g, .int .i64 t.r, .int .i64 0, .int .i64 0, .slice none 0 0] 60)
  have hU := rowNew w2 (.cells #[.int .i64 g, .int .i64 t.r, .int .i64 0, .int .i64 0, .slice none 0 0] 60)
  rw [hsz] at hU
  have hq3 := hq.below k3
  have ht3 := htq.below k3
  have b3 := bw.trans (k3.mono bw.size)
  have hs3 : (w2.alloc (.cells #[.int .i64 g, .int .i64 t.r, .int .i64 0, .int .i64 0, .slice none 0 0] 60)).heap.size = w.heap.size + 3 := by simp [hsz]
  generalize w2.alloc (.cells #[.int .i64 g, .int .i64 t.r, .int .i64 0, .int .i64 0, .slice none 0 0] 60) = w3 at *
  have k5 := alloc_in w3 (.cells #[.string { data := #[49, 46, 51, 46, 54, 46, 49, 46, 50, 46, 49, 46, 49, 46, 51, 46, 48] }, .int .i64 67, .int .i64 t.n, .string { data := #[] }] 48)
  have hB := Bq.new w3 (bU t.n)
  rw [hs3] at hB
  exact ⟨_, rfl, (k5.block _ (lt_of_block hU)).trans hU, hq3.below k5, ht3.below k5, hB, b3.trans (k5.mono b3.size), by have := k5.size; rw [hs3] at this; exact Nat.le_trans (by omega) this⟩
set_option maxRecDepth 100000 in
set_option maxHeartbeats 4000000 in
theorem qunit9_walk (t : Tr) (ao : Option Addr) (cap : Nat) (hl : t.l.length ≤ 1000000) (hsh : (ao = none ∧ t.l.length = 0 ∧ cap = 0) ∨ ∃ a, ao = some a) (w : World) (hr : RdB w ao t.l) :
    Calls Tryz.prog 36 #[.agg #[.string (bs t.c), .bool t.f, .int .i64 t.r, .int .i64 t.n, .string (bs t.o), .slice ao t.l.length cap]] w fun e w' => ∃ bo cb, e = .returned (.agg #[.int .i64 t.tag, .int .i64 t.r, .int .i64 0, .int .i64 0, .slice bo (t.l.length + 2) cb]) ∧ RdB w' bo (t.as 0).l ∧ Below w.heap.size w w' := by
  obtain ⟨i0, hi, hz0, hz1, hz2⟩ := bind_parts
  obtain ⟨g, hg, hfg⟩ : ∃ g : Int, t.tag = g ∧ ((t.f = true ∧ g = 166) ∨ (t.f = false ∧ g = 167)) := ⟨_, rfl, by unfold Tr.tag; cases t.f <;> simp⟩
  rw [hg]
  clear hg
  rcases hfg with ⟨hf, rfl⟩ | ⟨hf, rfl⟩
  · obtain ⟨W, hW, hU, hq, ht, hB, bw, hsz⟩ := unit_worlds w t 166 hf ao cap
    have HW := Lib.hid hW
    have HRD := Lib.hid hr
    obtain ⟨z0, z1, z2, z3, z4, z5⟩ := ht.cells
    rw [hf]
    clear hW hr z0 z1 z2 z3 z4 z5
    go_enter Tryz.func36, Tryz.ntmps36
    go_wp2_with (at_builtin; go_loud (refine wpList_append_own _ rfl _ _ 25 rfl w.heap.size 48 i0 (.agg #[.string .empty, .int .i64 0, .int .i64 0, .string .empty]) 4 48 Tryz.underlying25 hi hz0 hz1 hz2 rfl (by decide) _ _ _ rfl (OwnB.nil _ _ _) _ 1 1 (cellsB (bU t.n)) rfl rfl ?c1 ?c2 ?c3 ?c4 ?c5 ?_))
    case c1 => rw [HW.out]; exact hB.each
    case c2 => exact one_cell (bU t.n)
    case c3 => show 0 + 1 ≤ maxLen; unfold maxLen; omega
    case c4 => show (0 + 1) * 48 ≤ _; omega
    case c5 => rw [HW.out]; exact bw.size
    intro v7 w7 hown hgrow _
    rw [HW.out] at hgrow
    have ho7 : OwnB w7 w.heap.size 48 v7 [bU t.n] := OwnB.put (xs := []) hown
    have hn0 := OwnB.nil W w.heap.size 48
    have hU7 := spread_keep hn0 hgrow hU (by decide)
    have hq7 := spread_keep hn0 hgrow hq (by decide)
    have ht7 := spread_keep hn0 hgrow ht (by decide)
    have b7 := bw.grown hgrow (by omega) (fun k hk => by simp [Value.ownBlock] at hk)
    obtain ⟨g7, c7, rfl, hg7, _, _⟩ := own_some ho7 (by simp)
    rw [show ([bU t.n] : List Bd).length = 1 from rfl] at ho7 ⊢
    clear hown hgrow HW hB bw hsz hU hq ht hn0
    have y0 : w7.cell? ⟨w.heap.size + 1 + 1, 0, none⟩ = some (.int .i64 166) := cellRow hU7 0
    have y1 : w7.cell? ⟨w.heap.size + 1 + 1, 1, none⟩ = some (.int .i64 t.r) := cellRow hU7 1
    have y2 : w7.cell? ⟨w.heap.size + 1 + 1, 2, none⟩ = some (.int .i64 0) := cellRow hU7 2
    have y3 : w7.cell? ⟨w.heap.size + 1 + 1, 3, none⟩ = some (.int .i64 0) := cellRow hU7 3
    have y4 : w7.cell? ⟨w.heap.size + 1 + 1, 4, none⟩ = some (.slice none 0 0) := cellRow hU7 4
    have f4 : w7.frozen? ⟨w.heap.size + 1 + 1, 4, none⟩ = false := freeRow hU7 4
    have z4 : w7.cell? ⟨w.heap.size, 4, none⟩ = some (.string (bs t.o)) := cellRow ht7 4
    have z5 : w7.cell? ⟨w.heap.size, 5, none⟩ = some (.slice ao t.l.length cap) := cellRow ht7 5
    have hU8 : (w7.setCell ⟨w.heap.size + 1 + 1, 4, none⟩ (.slice (some ⟨g7, 0, none⟩) 1 c7)).heap[w.heap.size + 2]? = some (.cells #[.int .i64 166, .int .i64 t.r, .int .i64 0, .int .i64 0, .slice (some ⟨g7, 0, none⟩) 1 c7] 60 (0, 0)) := by
      have := rowSet hU7 4 (.slice (some ⟨g7, 0, none⟩) 1 c7)
      simpa using this
    have ho8 := own_set ho7 hU7 (by decide) 4 (.slice (some ⟨g7, 0, none⟩) 1 c7)
    have hq8 : Uq 60 (w7.setCell ⟨w.heap.size + 1 + 1, 4, none⟩ (.slice (some ⟨g7, 0, none⟩) 1 c7)) (w.heap.size + 1) nou none 0 := (Below.heap_setCell _ _ _ _ (by show w.heap.size + 1 ≠ w.heap.size + 1 + 1; omega)).trans hq7
    have ht8 : Tq (w7.setCell ⟨w.heap.size + 1 + 1, 4, none⟩ (.slice (some ⟨g7, 0, none⟩) 1 c7)) w.heap.size t ao cap := (Below.heap_setCell _ _ _ _ (by show w.heap.size ≠ w.heap.size + 1 + 1; omega)).trans ht7
    have b8 := b7.setCell (p := ⟨w.heap.size + 1 + 1, 4, none⟩) (by show w.heap.size ≤ w.heap.size + 1 + 1; omega) (.slice (some ⟨g7, 0, none⟩) 1 c7)
    have hs8 : (w7.setCell ⟨w.heap.size + 1 + 1, 4, none⟩ (.slice (some ⟨g7, 0, none⟩) 1 c7)).heap.size = w7.heap.size := by simp
    have a9 := alloc_in (w7.setCell ⟨w.heap.size + 1 + 1, 4, none⟩ (.slice (some ⟨g7, 0, none⟩) 1 c7)) (.cells #[.string { data := #[49, 46, 51, 46, 54, 46, 49, 46, 54, 46, 51, 46, 49, 46, 49, 46, 52, 46, 49, 46, 48] }, .int .i64 6, .int .i64 0, .string (bs t.o)] 48)
    have hl9 := (Bq.new (w7.setCell ⟨w.heap.size + 1 + 1, 4, none⟩ (.slice (some ⟨g7, 0, none⟩) 1 c7)) (bI t.o)).each
    rw [hs8] at hl9
    have hU8b := (a9.block _ (lt_of_block hU8)).trans hU8
    have hq8b := hq8.below a9
    have ht8b := ht8.below a9
    have b8b := b8.trans (a9.mono b8.size)
    have ho8b : ((w7.setCell ⟨w.heap.size + 1 + 1, 4, none⟩ (.slice (some ⟨g7, 0, none⟩) 1 c7)).alloc (.cells #[.string { data := #[49, 46, 51, 46, 54, 46, 49, 46, 54, 46, 51, 46, 49, 46, 49, 46, 52, 46, 49, 46, 48] }, .int .i64 6, .int .i64 0, .string (bs t.o)] 48)).ownsRow w.heap.size 48 4 (.slice (some ⟨g7, 0, none⟩) 1 c7) 1 (bnds [bU t.n]) := World.ownsRow.alloc ho8 _
    have hs8b := b8b.size
    clear hU7 hq7 ht7 ho7 b7 a9 hU8 hq8 ht8 b8 ho8 hs8
    go_wp2_with (at_builtin; go_loud (refine wpList_append_own _ rfl _ _ 25 rfl w.heap.size 48 i0 (.agg #[.string .empty, .int .i64 0, .int .i64 0, .string .empty]) 4 48 Tryz.underlying25 hi hz0 hz1 hz2 rfl (by decide) _ _ _ rfl ho8b _ 1 1 (cellsB (bI t.o)) rfl rfl ?d1 ?d2 ?d3 ?d4 ?d5 ?_))
    case d1 => exact hl9
    case d2 => exact one_cell (bI t.o)
    case d3 => show 1 + 1 ≤ maxLen; unfold maxLen; omega
    case d4 => show (1 + 1) * 48 ≤ _; omega
    case d5 => exact hs8b
    intro v9 w9 hown hgrow _
    have ho9 : OwnB w9 w.heap.size 48 v9 [bU t.n, bI t.o] := OwnB.put (xs := [bU t.n]) hown
    have hU9 := spread_keep ho8b hgrow hU8b (by decide)
    have hq9 := spread_keep ho8b hgrow hq8b (by decide)
    have ht9 := spread_keep ho8b hgrow ht8b (by decide)
    have b9 := b8b.grown hgrow hs8b (fun k hk => (World.ownsRow.lt ho8b k hk).1)
    obtain ⟨g9, c9, rfl, hg9, _, _⟩ := own_some ho9 (by simp)
    rw [show ([bU t.n, bI t.o] : List Bd).length = 2 from rfl] at ho9 ⊢
    clear hown hgrow ho8b hU8b hq8b ht8b b8b hs8b hl9 y0 y1 y2 y3 y4 f4 z4 z5
    have y0 : w9.cell? ⟨w.heap.size + 1 + 1, 0, none⟩ = some (.int .i64 166) := cellRow hU9 0
    have y1 : w9.cell? ⟨w.heap.size + 1 + 1, 1, none⟩ = some (.int .i64 t.r) := cellRow hU9 1
    have y2 : w9.cell? ⟨w.heap.size + 1 + 1, 2, none⟩ = some (.int .i64 0) := cellRow hU9 2
    have y3 : w9.cell? ⟨w.heap.size + 1 + 1, 3, none⟩ = some (.int .i64 0) := cellRow hU9 3
    have y4 : w9.cell? ⟨w.heap.size + 1 + 1, 4, none⟩ = some (.slice (some ⟨g7, 0, none⟩) 1 c7) := cellRow hU9 4
    have f4 : w9.frozen? ⟨w.heap.size + 1 + 1, 4, none⟩ = false := freeRow hU9 4
    have z4 : w9.cell? ⟨w.heap.size, 4, none⟩ = some (.string (bs t.o)) := cellRow ht9 4
    have z5 : w9.cell? ⟨w.heap.size, 5, none⟩ = some (.slice ao t.l.length cap) := cellRow ht9 5
    have hU10 : (w9.setCell ⟨w.heap.size + 1 + 1, 4, none⟩ (.slice (some ⟨g9, 0, none⟩) 2 c9)).heap[w.heap.size + 2]? = some (.cells #[.int .i64 166, .int .i64 t.r, .int .i64 0, .int .i64 0, .slice (some ⟨g9, 0, none⟩) 2 c9] 60 (0, 0)) := by
      have := rowSet hU9 4 (.slice (some ⟨g9, 0, none⟩) 2 c9)
      simpa using this
    have ho10 := own_set ho9 hU9 (by decide) 4 (.slice (some ⟨g9, 0, none⟩) 2 c9)
    have hq10 : Uq 60 (w9.setCell ⟨w.heap.size + 1 + 1, 4, none⟩ (.slice (some ⟨g9, 0, none⟩) 2 c9)) (w.heap.size + 1) nou none 0 := (Below.heap_setCell _ _ _ _ (by show w.heap.size + 1 ≠ w.heap.size + 1 + 1; omega)).trans hq9
    have ht10 : Tq (w9.setCell ⟨w.heap.size + 1 + 1, 4, none⟩ (.slice (some ⟨g9, 0, none⟩) 2 c9)) w.heap.size t ao cap := (Below.heap_setCell _ _ _ _ (by show w.heap.size ≠ w.heap.size + 1 + 1; omega)).trans ht9
    have b10 := b9.setCell (p := ⟨w.heap.size + 1 + 1, 4, none⟩) (by show w.heap.size ≤ w.heap.size + 1 + 1; omega) (.slice (some ⟨g9, 0, none⟩) 2 c9)
    have hs10 : (w9.setCell ⟨w.heap.size + 1 + 1, 4, none⟩ (.slice (some ⟨g9, 0, none⟩) 2 c9)).heap.size = w9.heap.size := by simp
    have hr10 := HRD.out.below b10
    have hs10b := b10.size
    clear hU9 hq9 ht9 ho9 b9
    go_wp2_with (at_builtin; go_loud (refine spreadL rfl rfl _ rfl ho10 hs10b rfl hr10 hsh ?e1 ?_))
    case e1 => show (2 + t.l.length) * 48 ≤ _; omega
    intro v11 w11 ho11 hgrow
    have hU11 := spread_keep ho10 hgrow hU10 (by decide)
    have hq11 := spread_keep ho10 hgrow hq10 (by decide)
    have ht11 := spread_keep ho10 hgrow ht10 (by decide)
    have b11 := b10.grown hgrow hs10b (fun k hk => (World.ownsRow.lt ho10 k hk).1)
    obtain ⟨a11, c11, hv, _⟩ := OwnB.form ho11
    rw [show (bU t.n :: bI t.o :: t.l).length = t.l.length + 2 from rfl] at hv
    subst hv
    clear hgrow hr10 hs10b hs10 hU10 hq10 ht10 b10 ho10 y0 y1 y2 y3 y4 f4 z4 z5
    have y0 : w11.cell? ⟨w.heap.size + 1 + 1, 0, none⟩ = some (.int .i64 166) := cellRow hU11 0
    have y1 : w11.cell? ⟨w.heap.size + 1 + 1, 1, none⟩ = some (.int .i64 t.r) := cellRow hU11 1
    have y2 : w11.cell? ⟨w.heap.size + 1 + 1, 2, none⟩ = some (.int .i64 0) := cellRow hU11 2
    have y3 : w11.cell? ⟨w.heap.size + 1 + 1, 3, none⟩ = some (.int .i64 0) := cellRow hU11 3
    have y4 : w11.cell? ⟨w.heap.size + 1 + 1, 4, none⟩ = some (.slice (some ⟨g9, 0, none⟩) 2 c9) := cellRow hU11 4
    have f4 : w11.frozen? ⟨w.heap.size + 1 + 1, 4, none⟩ = false := freeRow hU11 4
    have z4 : w11.cell? ⟨w.heap.size, 4, none⟩ = some (.string (bs t.o)) := cellRow ht11 4
    have z5 : w11.cell? ⟨w.heap.size, 5, none⟩ = some (.slice ao t.l.length cap) := cellRow ht11 5
    have hU12 : (w11.setCell ⟨w.heap.size + 1 + 1, 4, none⟩ (.slice a11 (t.l.length + 2) c11)).heap[w.heap.size + 2]? = some (.cells #[.int .i64 166, .int .i64 t.r, .int .i64 0, .int .i64 0, .slice a11 (t.l.length + 2) c11] 60 (0, 0)) := by
      have := rowSet hU11 4 (.slice a11 (t.l.length + 2) c11)
      simpa using this
    have ho12 := own_set ho11 hU11 (by decide) 4 (.slice a11 (t.l.length + 2) c11)
    have hq12 : Uq 60 (w11.setCell ⟨w.heap.size + 1 + 1, 4, none⟩ (.slice a11 (t.l.length + 2) c11)) (w.heap.size + 1) nou none 0 := (Below.heap_setCell _ _ _ _ (by show w.heap.size + 1 ≠ w.heap.size + 1 + 1; omega)).trans hq11
    have ht12 : Tq (w11.setCell ⟨w.heap.size + 1 + 1, 4, none⟩ (.slice a11 (t.l.length + 2) c11)) w.heap.size t ao cap := (Below.heap_setCell _ _ _ _ (by show w.heap.size ≠ w.heap.size + 1 + 1; omega)).trans ht11
    have b12 := b11.setCell (p := ⟨w.heap.size + 1 + 1, 4, none⟩) (by show w.heap.size ≤ w.heap.size + 1 + 1; omega) (.slice a11 (t.l.length + 2) c11)
    have hs12 : (w11.setCell ⟨w.heap.size + 1 + 1, 4, none⟩ (.slice a11 (t.l.length + 2) c11)).heap.size = w11.heap.size := by simp
    obtain ⟨c0, c1, c2, c3, c4⟩ := (show Uq 60 w11 (w.heap.size + 1) nou none 0 from hq11).cells
    obtain ⟨k0, k1, k2, k3, k4⟩ := (show Uq 60 w11 (w.heap.size + 1) nou none 0 from hq11).free
    clear hU11 hq11 ht11 ho11 b11
    have PX := hq12.set (t.as 166) a11 c11
    have bb := below_set5 b12 (b := w.heap.size + 1) (Nat.le_succ _) (.int .i64 166) (.int .i64 t.r) (.int .i64 0) (.int .i64 0) (.slice a11 (t.l.length + 2) c11)
    have HO := Lib.hid (own_set5 ho12 hq12 (by decide) (.int .i64 166) (.int .i64 t.r) (.int .i64 0) (.int .i64 0) (.slice a11 (t.l.length + 2) c11))
    clear hU12 hq12 ht12 b12 ho12 hs12
    go_wp2
    refine bodyPost_ret (results_cell_row rfl _ _ (w.heap.size + 1) _ _ _ _ rfl PX Tryz.underlying60 rfl (by kernel_rfl)) rfl ?_
    obtain ⟨ao9, cap9, h9, r9⟩ := OwnB.form HO.out
    simp only [Value.slice.injEq] at h9
    obtain ⟨rfl, _, rfl⟩ := h9
    exact ⟨a11, c11, rfl, r9, bb⟩
  · obtain ⟨W, hW, hU, hq, ht, hB, bw, hsz⟩ := unit_worlds w t 167 hf ao cap
    have HW := Lib.hid hW
    have HRD := Lib.hid hr
    obtain ⟨z0, z1, z2, z3, z4, z5⟩ := ht.cells
    rw [hf]
    clear hW hr z0 z1 z2 z3 z4 z5
    go_enter Tryz.func36, Tryz.ntmps36
    go_wp2_with (at_builtin; go_loud (refine wpList_append_own _ rfl _ _ 25 rfl w.heap.size 48 i0 (.agg #[.string .empty, .int .i64 0, .int .i64 0, .string .empty]) 4 48 Tryz.underlying25 hi hz0 hz1 hz2 rfl (by decide) _ _ _ rfl (OwnB.nil _ _ _) _ 1 1 (cellsB (bU t.n)) rfl rfl ?c1 ?c2 ?c3 ?c4 ?c5 ?_))
    case c1 => rw [HW.out]; exact hB.each
    case c2 => exact one_cell (bU t.n)
    case c3 => show 0 + 1 ≤ maxLen; unfold maxLen; omega
    case c4 => show (0 + 1) * 48 ≤ _; omega
    case c5 => rw [HW.out]; exact bw.size
    intro v7 w7 hown hgrow _
    rw [HW.out] at hgrow
    have ho7 : OwnB w7 w.heap.size 48 v7 [bU t.n] := OwnB.put (xs := []) hown
    have hn0 := OwnB.nil W w.heap.size 48
    have hU7 := spread_keep hn0 hgrow hU (by decide)
    have hq7 := spread_keep hn0 hgrow hq (by decide)
    have ht7 := spread_keep hn0 hgrow ht (by decide)
    have b7 := bw.grown hgrow (by omega) (fun k hk => by simp [Value.ownBlock] at hk)
    obtain ⟨g7, c7, rfl, hg7, _, _⟩ := own_some ho7 (by simp)
    rw [show ([bU t.n] : List Bd).length = 1 from rfl] at ho7 ⊢
    clear hown hgrow HW hB bw hsz hU hq ht hn0
    have y0 : w7.cell? ⟨w.heap.size + 1 + 1, 0, none⟩ = some (.int .i64 167) := cellRow hU7 0
    have y1 : w7.cell? ⟨w.heap.size + 1 + 1, 1, none⟩ = some (.int .i64 t.r) := cellRow hU7 1
    have y2 : w7.cell? ⟨w.heap.size + 1 + 1, 2, none⟩ = some (.int .i64 0) := cellRow hU7 2
    have y3 : w7.cell? ⟨w.heap.size + 1 + 1, 3, none⟩ = some (.int .i64 0) := cellRow hU7 3
    have y4 : w7.cell? ⟨w.heap.size + 1 + 1, 4, none⟩ = some (.slice none 0 0) := cellRow hU7 4
    have f4 : w7.frozen? ⟨w.heap.size + 1 + 1, 4, none⟩ = false := freeRow hU7 4
    have z4 : w7.cell? ⟨w.heap.size, 4, none⟩ = some (.string (bs t.o)) := cellRow ht7 4
    have z5 : w7.cell? ⟨w.heap.size, 5, none⟩ = some (.slice ao t.l.length cap) := cellRow ht7 5
    have hU8 : (w7.setCell ⟨w.heap.size + 1 + 1, 4, none⟩ (.slice (some ⟨g7, 0, none⟩) 1 c7)).heap[w.heap.size + 2]? = some (.cells #[.int .i64 167, .int .i64 t.r, .int .i64 0, .int .i64 0, .slice (some ⟨g7, 0, none⟩) 1 c7] 60 (0, 0)) := by
      have := rowSet hU7 4 (.slice (some ⟨g7, 0, none⟩) 1 c7)
      simpa using this
    have ho8 := own_set ho7 hU7 (by decide) 4 (.slice (some ⟨g7, 0, none⟩) 1 c7)
    have hq8 : Uq 60 (w7.setCell ⟨w.heap.size + 1 + 1, 4, none⟩ (.slice (some ⟨g7, 0, none⟩) 1 c7)) (w.heap.size + 1) nou none 0 := (Below.heap_setCell _ _ _ _ (by show w.heap.size + 1 ≠ w.heap.size + 1 + 1; omega)).trans hq7
    have ht8 : Tq (w7.setCell ⟨w.heap.size + 1 + 1, 4, none⟩ (.slice (some ⟨g7, 0, none⟩) 1 c7)) w.heap.size t ao cap := (Below.heap_setCell _ _ _ _ (by show w.heap.size ≠ w.heap.size + 1 + 1; omega)).trans ht7
    have b8 := b7.setCell (p := ⟨w.heap.size + 1 + 1, 4, none⟩) (by show w.heap.size ≤ w.heap.size + 1 + 1; omega) (.slice (some ⟨g7, 0, none⟩) 1 c7)
    have hs8 : (w7.setCell ⟨w.heap.size + 1 + 1, 4, none⟩ (.slice (some ⟨g7, 0, none⟩) 1 c7)).heap.size = w7.heap.size := by simp
    have a9 := alloc_in (w7.setCell ⟨w.heap.size + 1 + 1, 4, none⟩ (.slice (some ⟨g7, 0, none⟩) 1 c7)) (.cells #[.string { data := #[49, 46, 51, 46, 54, 46, 49, 46, 54, 46, 51, 46, 49, 46, 49, 46, 52, 46, 49, 46, 48] }, .int .i64 6, .int .i64 0, .string (bs t.o)] 48)
    have hl9 := (Bq.new (w7.setCell ⟨w.heap.size + 1 + 1, 4, none⟩ (.slice (some ⟨g7, 0, none⟩) 1 c7)) (bI t.o)).each
    rw [hs8] at hl9
    have hU8b := (a9.block _ (lt_of_block hU8)).trans hU8
    have hq8b := hq8.below a9
    have ht8b := ht8.below a9
    have b8b := b8.trans (a9.mono b8.size)
    have ho8b : ((w7.setCell ⟨w.heap.size + 1 + 1, 4, none⟩ (.slice (some ⟨g7, 0, none⟩) 1 c7)).alloc (.cells #[.string { data := #[49, 46, 51, 46, 54, 46, 49, 46, 54, 46, 51, 46, 49, 46, 49, 46, 52, 46, 49, 46, 48] }, .int .i64 6, .int .i64 0, .string (bs t.o)] 48)).ownsRow w.heap.size 48 4 (.slice (some ⟨g7, 0, none⟩) 1 c7) 1 (bnds [bU t.n]) := World.ownsRow.alloc ho8 _
    have hs8b := b8b.size
    clear hU7 hq7 ht7 ho7 b7 a9 hU8 hq8 ht8 b8 ho8 hs8
    go_wp2_with (at_builtin; go_loud (refine wpList_append_own _ rfl _ _ 25 rfl w.heap.size 48 i0 (.agg #[.string .empty, .int .i64 0, .int .i64 0, .string .empty]) 4 48 Tryz.underlying25 hi hz0 hz1 hz2 rfl (by decide) _ _ _ rfl ho8b _ 1 1 (cellsB (bI t.o)) rfl rfl ?d1 ?d2 ?d3 ?d4 ?d5 ?_))
    case d1 => exact hl9
    case d2 => exact one_cell (bI t.o)
    case d3 => show 1 + 1 ≤ maxLen; unfold maxLen; omega
    case d4 => show (1 + 1) * 48 ≤ _; omega
    case d5 => exact hs8b
    intro v9 w9 hown hgrow _
    have ho9 : OwnB w9 w.heap.size 48 v9 [bU t.n, bI t.o] := OwnB.put (xs := [bU t.n]) hown
    have hU9 := spread_keep ho8b hgrow hU8b (by decide)
    have hq9 := spread_keep ho8b hgrow hq8b (by decide)
    have ht9 := spread_keep ho8b hgrow ht8b (by decide)
    have b9 := b8b.grown hgrow hs8b (fun k hk => (World.ownsRow.lt ho8b k hk).1)
    obtain ⟨g9, c9, rfl, hg9, _, _⟩ := own_some ho9 (by simp)
    rw [show ([bU t.n, bI t.o] : List Bd).length = 2 from rfl] at ho9 ⊢
    clear hown hgrow ho8b hU8b hq8b ht8b b8b hs8b hl9 y0 y1 y2 y3 y4 f4 z4 z5
    have y0 : w9.cell? ⟨w.heap.size + 1 + 1, 0, none⟩ = some (.int .i64 167) := cellRow hU9 0
    have y1 : w9.cell? ⟨w.heap.size + 1 + 1, 1, none⟩ = some (.int .i64 t.r) := cellRow hU9 1
    have y2 : w9.cell? ⟨w.heap.size + 1 + 1, 2, none⟩ = some (.int .i64 0) := cellRow hU9 2
    have y3 : w9.cell? ⟨w.heap.size + 1 + 1, 3, none⟩ = some (.int .i64 0) := cellRow hU9 3
    have y4 : w9.cell? ⟨w.heap.size + 1 + 1, 4, none⟩ = some (.slice (some ⟨g7, 0, none⟩) 1 c7) := cellRow hU9 4
    have f4 : w9.frozen? ⟨w.heap.size + 1 + 1, 4, none⟩ = false := freeRow hU9 4
    have z4 : w9.cell? ⟨w.heap.size, 4, none⟩ = some (.string (bs t.o)) := cellRow ht9 4
    have z5 : w9.cell? ⟨w.heap.size, 5, none⟩ = some (.slice ao t.l.length cap) := cellRow ht9 5
    have hU10 : (w9.setCell ⟨w.heap.size + 1 + 1, 4, none⟩ (.slice (some ⟨g9, 0, none⟩) 2 c9)).heap[w.heap.size + 2]? = some (.cells #[.int .i64 167, .int .i64 t.r, .int .i64 0, .int .i64 0, .slice (some ⟨g9, 0, none⟩) 2 c9] 60 (0, 0)) := by
      have := rowSet hU9 4 (.slice (some ⟨g9, 0, none⟩) 2 c9)
      simpa using this
    have ho10 := own_set ho9 hU9 (by decide) 4 (.slice (some ⟨g9, 0, none⟩) 2 c9)
    have hq10 : Uq 60 (w9.setCell ⟨w.heap.size + 1 + 1, 4, none⟩ (.slice (some ⟨g9, 0, none⟩) 2 c9)) (w.heap.size + 1) nou none 0 := (Below.heap_setCell _ _ _ _ (by show w.heap.size + 1 ≠ w.heap.size + 1 + 1; omega)).trans hq9
    have ht10 : Tq (w9.setCell ⟨w.heap.size + 1 + 1, 4, none⟩ (.slice (some ⟨g9, 0, none⟩) 2 c9)) w.heap.size t ao cap := (Below.heap_setCell _ _ _ _ (by show w.heap.size ≠ w.heap.size + 1 + 1; omega)).trans ht9
    have b10 := b9.setCell (p := ⟨w.heap.size + 1 + 1, 4, none⟩) (by show w.heap.size ≤ w.heap.size + 1 + 1; omega) (.slice (some ⟨g9, 0, none⟩) 2 c9)
    have hs10 : (w9.setCell ⟨w.heap.size + 1 + 1, 4, none⟩ (.slice (some ⟨g9, 0, none⟩) 2 c9)).heap.size = w9.heap.size := by simp
    have hr10 := HRD.out.below b10
    have hs10b := b10.size
    clear hU9 hq9 ht9 ho9 b9
    go_wp2_with (at_builtin; go_loud (refine spreadL rfl rfl _ rfl ho10 hs10b rfl hr10 hsh ?e1 ?_))
    case e1 => show (2 + t.l.length) * 48 ≤ _; omega
    intro v11 w11 ho11 hgrow
    have hU11 := spread_keep ho10 hgrow hU10 (by decide)
    have hq11 := spread_keep ho10 hgrow hq10 (by decide)
    have ht11 := spread_keep ho10 hgrow ht10 (by decide)
    have b11 := b10.grown hgrow hs10b (fun k hk => (World.ownsRow.lt ho10 k hk).1)
    obtain ⟨a11, c11, hv, _⟩ := OwnB.form ho11
    rw [show (bU t.n :: bI t.o :: t.l).length = t.l.length + 2 from rfl] at hv
    subst hv
    clear hgrow hr10 hs10b hs10 hU10 hq10 ht10 b10 ho10 y0 y1 y2 y3 y4 f4 z4 z5
    have y0 : w11.cell? ⟨w.heap.size + 1 + 1, 0, none⟩ = some (.int .i64 167) := cellRow hU11 0
    have y1 : w11.cell? ⟨w.heap.size + 1 + 1, 1, none⟩ = some (.int .i64 t.r) := cellRow hU11 1
    have y2 : w11.cell? ⟨w.heap.size + 1 + 1, 2, none⟩ = some (.int .i64 0) := cellRow hU11 2
    have y3 : w11.cell? ⟨w.heap.size + 1 + 1, 3, none⟩ = some (.int .i64 0) := cellRow hU11 3
    have y4 : w11.cell? ⟨w.heap.size + 1 + 1, 4, none⟩ = some (.slice (some ⟨g9, 0, none⟩) 2 c9) := cellRow hU11 4
    have f4 : w11.frozen? ⟨w.heap.size + 1 + 1, 4, none⟩ = false := freeRow hU11 4
    have z4 : w11.cell? ⟨w.heap.size, 4, none⟩ = some (.string (bs t.o)) := cellRow ht11 4
    have z5 : w11.cell? ⟨w.heap.size, 5, none⟩ = some (.slice ao t.l.length cap) := cellRow ht11 5
    have hU12 : (w11.setCell ⟨w.heap.size + 1 + 1, 4, none⟩ (.slice a11 (t.l.length + 2) c11)).heap[w.heap.size + 2]? = some (.cells #[.int .i64 167, .int .i64 t.r, .int .i64 0, .int .i64 0, .slice a11 (t.l.length + 2) c11] 60 (0, 0)) := by
      have := rowSet hU11 4 (.slice a11 (t.l.length + 2) c11)
      simpa using this
    have ho12 := own_set ho11 hU11 (by decide) 4 (.slice a11 (t.l.length + 2) c11)
    have hq12 : Uq 60 (w11.setCell ⟨w.heap.size + 1 + 1, 4, none⟩ (.slice a11 (t.l.length + 2) c11)) (w.heap.size + 1) nou none 0 := (Below.heap_setCell _ _ _ _ (by show w.heap.size + 1 ≠ w.heap.size + 1 + 1; omega)).trans hq11
    have ht12 : Tq (w11.setCell ⟨w.heap.size + 1 + 1, 4, none⟩ (.slice a11 (t.l.length + 2) c11)) w.heap.size t ao cap := (Below.heap_setCell _ _ _ _ (by show w.heap.size ≠ w.heap.size + 1 + 1; omega)).trans ht11
    have b12 := b11.setCell (p := ⟨w.heap.size + 1 + 1, 4, none⟩) (by show w.heap.size ≤ w.heap.size + 1 + 1; omega) (.slice a11 (t.l.length + 2) c11)
    have hs12 : (w11.setCell ⟨w.heap.size + 1 + 1, 4, none⟩ (.slice a11 (t.l.length + 2) c11)).heap.size = w11.heap.size := by simp
    obtain ⟨c0, c1, c2, c3, c4⟩ := (show Uq 60 w11 (w.heap.size + 1) nou none 0 from hq11).cells
    obtain ⟨k0, k1, k2, k3, k4⟩ := (show Uq 60 w11 (w.heap.size + 1) nou none 0 from hq11).free
    clear hU11 hq11 ht11 ho11 b11
    have PX := hq12.set (t.as 167) a11 c11
    have bb := below_set5 b12 (b := w.heap.size + 1) (Nat.le_succ _) (.int .i64 167) (.int .i64 t.r) (.int .i64 0) (.int .i64 0) (.slice a11 (t.l.length + 2) c11)
    have HO := Lib.hid (own_set5 ho12 hq12 (by decide) (.int .i64 167) (.int .i64 t.r) (.int .i64 0) (.int .i64 0) (.slice a11 (t.l.length + 2) c11))
    clear hU12 hq12 ht12 b12 ho12 hs12
    go_wp2
    refine bodyPost_ret (results_cell_row rfl _ _ (w.heap.size + 1) _ _ _ _ rfl PX Tryz.underlying60 rfl (by kernel_rfl)) rfl ?_
    obtain ⟨ao9, cap9, h9, r9⟩ := OwnB.form HO.out
    simp only [Value.slice.injEq] at h9
    obtain ⟨rfl, _, rfl⟩ := h9
    exact ⟨a11, c11, rfl, r9, bb⟩
end Go.Proofs.YtmdibafofdghgaaGreatDoor
