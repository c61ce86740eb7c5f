/- Texts on the program and on the document, joined: ParY, PbhC. -/
import Derived.Test.YtaeglmgpoboihaaGreatDoorMa16
import Derived.Deep.AppendLies
/- The laws of books, on calls that keep their word: works, ParseReads. -/
namespace Go.Proofs.YtaeglmgpoboihaaGreatDoor
open Go.ChangeShapes Go.WideShapes Go.ChangeAt Go.RowKit K L15
open L14 (Tk)
set_option linter.unusedVariables false

/-- A slice that reads as these rows, wherever it lies. -/
def RdR0 (w : World) (c : Nat) (ao : Option Addr) (rows : List (List Value)) : Prop :=
  rows.length = 0 ∨ ∃ g o, ao = some ⟨g, o, none⟩ ∧ g < w.heap.size ∧ ∀ i, i < rows.length → ∀ j, j < c → w.cell? ⟨g, o + i * c + j, none⟩ = (rows.getD i [])[j]?
theorem RdR0.below {w w' : World} {c : Nat} {ao : Option Addr} {rows : List (List Value)} (h : RdR0 w c ao rows) (k : Below w.heap.size w w') : RdR0 w' c ao rows := by
  rcases h with h | ⟨g, o, h1, h2, h3⟩
  · exact .inl h
  · exact .inr ⟨g, o, h1, Nat.lt_of_lt_of_le h2 k.size, fun i hi j hj => (k.cell (p := ⟨g, o + i * c + j, none⟩) h2).trans (h3 i hi j hj)⟩
theorem rdr_read {w : World} {T : TypeId} {c : Nat} {ao : Option Addr} {rows : List (List Value)} (h : RdRw w T c ao rows) : RdR0 w c ao rows := by
  rcases h with h | ⟨g, o, h1, ⟨cs, fr, h2⟩, h3⟩
  · exact .inl h
  · exact .inr ⟨g, o, h1, lt_of_block h2, h3⟩
def StR0 (w : World) (r : List Value) (s : St) : Prop := ∃ po pc, r = [.string (bs s.n), .slice po s.ps.length pc] ∧ RdR0 w 3 po (s.ps.map pcRow)
def TbR0 (w : World) (r : List Value) (t : Tb) : Prop := ∃ po pc, r = [.string (bs t.n), .int .i64 t.l, .slice po t.ks.length pc, .string (bs t.e)] ∧ RdR0 w 2 po (t.ks.map prRow)
def RuR0 (w : World) (r : List Value) (x : Ru) : Prop := ∃ po pc qo qc rs, r = [.string (bs x.n), .int .i64 x.l, .int .i64 x.fr, .string (bs x.oid), .bool x.wi, .slice po x.ts.length pc, .slice qo x.ss.length qc, .bool x.dr] ∧ RdR0 w 3 po (x.ts.map tsRow) ∧ RdR0 w 2 qo rs ∧ RlR (StR0 w) rs x.ss
/-- A value that reads as a book, wherever its parts lie. -/
def BkR (w : World) (v : Value) (b : Bk) : Prop :=
  ∃ ta tc ra rc wa wc rt rr, v = .agg #[.slice ta b.tb.length tc, .slice ra b.ru.length rc, .slice wa b.wt.length wc] ∧ RdR0 w 4 ta rt ∧ RlR (TbR0 w) rt b.tb ∧ RdR0 w 8 ra rr ∧ RlR (RuR0 w) rr b.ru ∧ RdR0 w 10 wa (b.wt.map wtRow)
theorem RlR.sets {w : World} : ∀ {rs : List (List Value)} {ss : List St}, SetsR w rs ss → RlR (StR0 w) rs ss
  | [], [], _ => trivial
  | [], _ :: _, h => h
  | _ :: _, [], h => h
  | r :: rs, s :: ss, ⟨⟨po, pc, e, h⟩, h3⟩ => ⟨⟨po, pc, e, rdr_read h⟩, RlR.sets h3⟩
theorem BkV.read {w : World} {v : Value} {b : Bk} (h : BkV w v b) : BkR w v b := by
  obtain ⟨ta, tc, ra, rc, wa, wc, rt, rr, e, h1, h2, h3, h4, h5⟩ := h
  exact ⟨ta, tc, ra, rc, wa, wc, rt, rr, e, rdr_read h1, RlR.imp (fun r s ⟨po, pc, e, h⟩ => ⟨po, pc, e, rdr_read h⟩) h2, rdr_read h3, RlR.imp (fun r s ⟨po, pc, qo, qc, rs, e, h1, h2, h3⟩ => ⟨po, pc, qo, qc, rs, e, rdr_read h1, rdr_read h2, RlR.sets h3⟩) h4, rdr_read h5⟩
theorem BkR.below {w w' : World} {v : Value} {b : Bk} (h : BkR w v b) (k : Below w.heap.size w w') : BkR w' v b := by
  obtain ⟨ta, tc, ra, rc, wa, wc, rt, rr, e, h1, h2, h3, h4, h5⟩ := h
  exact ⟨ta, tc, ra, rc, wa, wc, rt, rr, e, h1.below k, RlR.imp (fun r s ⟨po, pc, e, h⟩ => ⟨po, pc, e, h.below k⟩) h2, h3.below k, RlR.imp (fun r s ⟨po, pc, qo, qc, rs, e, h1, h2, h3⟩ => ⟨po, pc, qo, qc, rs, e, h1.below k, h2.below k, RlR.imp (fun r s ⟨po, pc, e, h⟩ => ⟨po, pc, e, h.below k⟩) h3⟩) h4, h5.below k⟩
theorem BkV.below {w w' : World} {v : Value} {b : Bk} (h : BkV w v b) (k : Below w.heap.size w w') : BkV w' v b := by
  obtain ⟨ta, tc, ra, rc, wa, wc, rt, rr, e, h1, h2, h3, h4, h5⟩ := h
  exact ⟨ta, tc, ra, rc, wa, wc, rt, rr, e, h1.below k, h2.below k, h3.below k, h4.below k, h5.below k⟩
/-- What the program's calls are known to answer, in any world of which I. -/
structure POk (I : World → Prop) : Prop where
  keepI : ∀ a b, I a → Below a.heap.size a b → I b
  parse : ∀ (s : List UInt8) (w : World), s.length ≤ 4096 → I w → Calls Tryz.prog 6 #[.string (bs s)] w fun e w' => Below w.heap.size w w' ∧ ∃ v, e = .returned (.tuple #[v, .int .i64 (paN s : Nat), .int .i64 (paE s : Nat)]) ∧ BkV w' v (paB s)
  same : ∀ (a b : Bk) (va vb : Value) (w : World), BkS a → BkS b → BkR w va a → BkR w vb b → I w → Calls Tryz.prog 8 #[va, vb] w fun e w' => e = .returned (.bool (decide (a = b))) ∧ Below w.heap.size w w'
theorem five_blocks (W : World) (a b c d e : Obj) : (((((W.alloc a).alloc b).alloc c).alloc d).alloc e).heap[W.heap.size + 1]? = some b ∧ (((((W.alloc a).alloc b).alloc c).alloc d).alloc e).heap[W.heap.size + 1 + 1]? = some c ∧ (((((W.alloc a).alloc b).alloc c).alloc d).alloc e).heap[W.heap.size + 1 + 1 + 1]? = some d ∧ Below W.heap.size W (((((W.alloc a).alloc b).alloc c).alloc d).alloc e) := by
  refine ⟨?_, ?_, ?_, ?_⟩
  · show (((((W.heap.push a).push b).push c).push d).push e)[W.heap.size + 1]? = some b
    simp only [Array.getElem?_push, Array.size_push]
    rw [if_neg (by omega), if_neg (by omega), if_neg (by omega), if_pos trivial]
  · show (((((W.heap.push a).push b).push c).push d).push e)[W.heap.size + 1 + 1]? = some c
    simp only [Array.getElem?_push, Array.size_push]
    rw [if_neg (by omega), if_neg (by omega), if_pos trivial]
  · show (((((W.heap.push a).push b).push c).push d).push e)[W.heap.size + 1 + 1 + 1]? = some d
    simp only [Array.getElem?_push, Array.size_push]
    rw [if_neg (by omega), if_pos trivial]
  · exact (((((Below.refl _ _).alloc (Nat.le_refl _) _).alloc (by simp only [World.size_alloc]; omega) _).alloc (by simp only [World.size_alloc]; omega) _).alloc (by simp only [World.size_alloc]; omega) _).alloc (by simp only [World.size_alloc]; omega) _
theorem lit_rd {w : World} {g c : Nat} {cs : Array Value} {T : TypeId} {fr : Nat × Nat} {row : List Value} (h : w.heap[g]? = some (.cells cs T fr)) (e : cs.toList = row) (hc : row.length = c) : RdR0 w c (some ⟨g, 0, none⟩) [row] := by
  refine .inr ⟨g, 0, rfl, lt_of_block h, fun i hi j hj => ?_⟩
  obtain rfl : i = 0 := by simpa using hi
  subst e
  show w.cell? ⟨g, 0 + 0 * c + j, none⟩ = cs.toList[j]?
  rw [show 0 + 0 * c + j = j by omega]
  simp [World.cell?, h]
/-- The chapter's example. -/
def ex15 : List UInt8 := [114, 117, 108, 101, 32, 114, 32, 116, 114, 97, 112, 32, 105, 115, 32, 49, 46, 51, 46, 54, 32, 123, 32, 115, 101, 116, 32, 110, 111, 100, 101, 32, 61, 32, 36, 115, 111, 117, 114, 99, 101, 59, 32, 125]
def exB : Bk := ⟨[], [⟨[114], 1, 1, [49, 46, 51, 46, 54], false, [], [⟨[110, 111, 100, 101], [⟨2, [115, 111, 117, 114, 99, 101], []⟩]⟩], false⟩], []⟩
theorem ex_is : paE ex15 = 0 ∧ paB ex15 = exB := by decide +kernel
theorem exB_s : BkS exB := by
  refine ⟨by decide, by decide, by decide, fun t h => by simp [exB] at h, fun x h => ?_⟩
  simp only [exB, List.mem_singleton] at h
  subst h
  refine ⟨by decide, by decide, fun s hs => ?_⟩
  simp only [List.mem_singleton] at hs
  subst hs
  decide
set_option maxRecDepth 100000 in
set_option maxHeartbeats 1000000 in
theorem works15_walk (I : World → Prop) (F : POk I) (w : World) (hw : I w) :
    Calls Tryz.prog 5 #[] w fun e w' => e = .returned (.bool true) ∧ Below w.heap.size w w' := by
  have h1 := F.parse ex15 w (by decide) hw
  rw [ex_is.1, ex_is.2] at h1
  have HC1 : bs ex15 = ({ data := #[114, 117, 108, 101, 32, 114, 32, 116, 114, 97, 112, 32, 105, 115, 32, 49, 46, 51, 46, 54, 32, 123, 32, 115, 101, 116, 32, 110, 111, 100, 101, 32, 61, 32, 36, 115, 111, 117, 114, 99, 101, 59, 32, 125] } : ByteArray) := rfl
  rw [HC1] at h1
  have H1 := Lib.hid h1
  have HF := Lib.hid F
  have HI := Lib.hid (fun wx (b : Below w.heap.size w wx) => F.keepI w wx hw b)
  obtain ⟨n, hn⟩ : ∃ n, paN ex15 = n := ⟨_, rfl⟩
  rw [hn] at H1
  clear h1 HC1 F hw hn
  go_enter Tryz.func5, Tryz.ntmps5
  go_wp2_with fail
  refine H1.out.mono ?_
  rintro e w1 ⟨b1, v, rfl, hv⟩
  have hv' := hv
  obtain ⟨ta, tc, ra, rc, wa, wc, rt, rr, rfl, -, -, -, -, -⟩ := hv'
  have HV := Lib.hid hv
  have HB := Lib.hid b1
  clear hv b1
  go_wp2_with fail
  have hb5 := fun a b c d e => (five_blocks w1 a b c d e).2.2.2
  refine (HF.out.same exB exB _ _ _ exB_s exB_s (HV.out.read.below (hb5 _ _ _ _ _)) ?_ (HI.out _ (HB.out.trans ((hb5 _ _ _ _ _).mono HB.out.size)))).mono ?_
  · obtain ⟨f1, f2, f3, -⟩ := five_blocks w1 _ _ _ _ _
    refine ⟨none, 0, _, 1, none, 0, [], [[.string (bs [114]), .int .i64 1, .int .i64 1, .string (bs [49, 46, 51, 46, 54]), .bool false, .slice none 0 0, .slice (some ⟨w1.heap.size + 1 + 1, 0, none⟩) 1 1, .bool false]], rfl, .inl rfl, trivial, lit_rd f3 rfl rfl, ⟨⟨none, 0, _, 1, [[.string (bs [110, 111, 100, 101]), .slice (some ⟨w1.heap.size + 1, 0, none⟩) 1 1]], rfl, .inl rfl, lit_rd f2 rfl rfl, ⟨⟨_, 1, rfl, lit_rd f1 rfl rfl⟩, trivial⟩⟩, trivial⟩, .inl rfl⟩
  · rintro e w2 ⟨rfl, b2⟩
    have hd : decide (exB = exB) = true := decide_eq_true rfl
    rw [hd]
    go_wp2
    go_ret
    exact ⟨rfl, (HB.out.trans ((hb5 _ _ _ _ _).mono HB.out.size)).trans (b2.mono (HB.out.trans ((hb5 _ _ _ _ _).mono HB.out.size)).size)⟩
/-! ### A file's book is of a bearable size -/
theorem keys_len (T : List Tk) (last : Nat) : ∀ (f : Nat) (s : Pi), (keys T last f s).1.length ≤ f
  | 0, s => Nat.le_refl _
  | f + 1, s => by
    rw [keys]
    split
    · have := keys_len T last f (sign T last [59] (L15.text T last (sign T last [61] (L15.text T last s).2)).2)
      simp only [List.length_cons]; omega
    · exact Nat.zero_le _
theorem pieces_len (T : List Tk) (last : Nat) : ∀ (f : Nat) (s : Pi), (pieces T last f s).1.length ≤ f
  | 0, s => Nat.le_refl _
  | f + 1, s => by
    rw [pieces]
    split
    · have := pieces_len T last f (piece T last (sign T last [43] s)).2
      simp only [List.length_cons]; omega
    · exact Nat.zero_le _
theorem set_len (T : List Tk) (last : Nat) (s : Pi) : (L15.set T last s).1.ps.length ≤ T.length + 2 := by
  have := pieces_len T last (T.length + 1) (piece T last (sign T last [61] (L15.take T last 1 [] s).2)).2
  show (_ :: (pieces T last (T.length + 1) _).1).length ≤ _
  simp only [List.length_cons]; omega
theorem clauses_len (T : List Tk) (last : Nat) : ∀ (f : Nat) (ts : List Ts) (ss : List St) (d : Bool) (s : Pi), (∀ x ∈ ss, x.ps.length ≤ T.length + 2) →
    (clauses T last f ts ss d s).1.length ≤ ts.length + f ∧ (clauses T last f ts ss d s).2.1.length ≤ ss.length + f ∧ ∀ x ∈ (clauses T last f ts ss d s).2.1, x.ps.length ≤ T.length + 2
  | 0, ts, ss, d, s, h => ⟨Nat.le_refl _, Nat.le_refl _, h⟩
  | f + 1, ts, ss, d, s, h => by
    rw [clauses]
    split
    · split
      · have := clauses_len T last f (ts ++ [(test T last (nx s)).1]) ss d (test T last (nx s)).2 h
        simp only [List.length_append, List.length_singleton] at this
        exact ⟨by omega, by omega, this.2.2⟩
      · split
        · have := clauses_len T last f ts (ss ++ [(L15.set T last (nx s)).1]) d (L15.set T last (nx s)).2 (fun x hx => by
            rcases List.mem_append.1 hx with hx | hx
            · exact h x hx
            · rw [List.mem_singleton.1 hx]; exact set_len T last _)
          simp only [List.length_append, List.length_singleton] at this
          exact ⟨by omega, by omega, this.2.2⟩
        · split
          · have := clauses_len T last f ts ss true (sign T last [59] (nx s)) h
            exact ⟨by omega, by omega, this.2.2⟩
          · have := clauses_len T last f ts ss d (fail T last s) h
            exact ⟨by omega, by omega, this.2.2⟩
    · exact ⟨Nat.le_add_right _ _, Nat.le_add_right _ _, h⟩
theorem books_len (T : List Tk) (last : Nat) : ∀ (f : Nat) (b : Bk) (s : Pi), (∀ t ∈ b.tb, t.ks.length ≤ T.length + 1) → (∀ x ∈ b.ru, x.ts.length ≤ T.length + 2 ∧ x.ss.length ≤ T.length + 2 ∧ ∀ z ∈ x.ss, z.ps.length ≤ T.length + 2) →
    (books T last f b s).1.tb.length ≤ b.tb.length + f ∧ (books T last f b s).1.ru.length ≤ b.ru.length + f ∧ (books T last f b s).1.wt.length ≤ b.wt.length + f ∧ (∀ t ∈ (books T last f b s).1.tb, t.ks.length ≤ T.length + 1) ∧ (∀ x ∈ (books T last f b s).1.ru, x.ts.length ≤ T.length + 2 ∧ x.ss.length ≤ T.length + 2 ∧ ∀ z ∈ x.ss, z.ps.length ≤ T.length + 2)
  | 0, b, s, h1, h2 => ⟨Nat.le_refl _, Nat.le_refl _, Nat.le_refl _, h1, h2⟩
  | f + 1, b, s, h1, h2 => by
    rw [books]
    split
    · split
      · have := books_len T last f ⟨b.tb ++ [(table T last (lineAt T s : Nat) (nx s)).1], b.ru, b.wt⟩ (table T last (lineAt T s : Nat) (nx s)).2 (fun t ht => by
          rcases List.mem_append.1 ht with ht | ht
          · exact h1 t ht
          · rw [List.mem_singleton.1 ht]; exact keys_len T last _ _) h2
        simp only [List.length_append, List.length_singleton] at this
        exact ⟨by omega, by omega, by omega, this.2.2.2.1, this.2.2.2.2⟩
      · split
        · have := books_len T last f ⟨b.tb, b.ru ++ [(rule T last (lineAt T s : Nat) (nx s)).1], b.wt⟩ (rule T last (lineAt T s : Nat) (nx s)).2 h1 (fun x hx => by
            rcases List.mem_append.1 hx with hx | hx
            · exact h2 x hx
            · rw [List.mem_singleton.1 hx]
              have := clauses_len T last (T.length + 2) [] [] false (sign T last [123] (from_ T last (L15.take T last 1 [] (nx s)).2).2.2.2) (fun x hx => by simp at hx)
              simp only [List.length_nil, Nat.zero_add] at this
              exact this)
          simp only [List.length_append, List.length_singleton] at this
          exact ⟨by omega, by omega, by omega, this.2.2.2.1, this.2.2.2.2⟩
        · split
          · have := books_len T last f ⟨b.tb, b.ru, b.wt ++ [(watch T last (lineAt T s : Nat) (nx s)).1]⟩ (watch T last (lineAt T s : Nat) (nx s)).2 h1 h2
            simp only [List.length_append, List.length_singleton] at this
            exact ⟨by omega, by omega, by omega, this.2.2.2.1, this.2.2.2.2⟩
          · have := books_len T last f b (fail T last s) h1 h2
            exact ⟨by omega, by omega, by omega, this.2.2.2.1, this.2.2.2.2⟩
    · exact ⟨Nat.le_add_right _ _, Nat.le_add_right _ _, Nat.le_add_right _ _, h1, h2⟩
theorem noBk_s : BkS noBk := ⟨by decide, by decide, by decide, fun t h => by simp [noBk] at h, fun x h => by simp [noBk] at h⟩
theorem paB_s (s : List UInt8) : BkS (paB s) := by
  have h4 := (spl_short s).2
  unfold paB
  split
  · exact noBk_s
  · split
    · exact noBk_s
    · have := books_len (spL s) (lastL (spL s)) ((spL s).length + 2) noBk ⟨0, none⟩ (fun t h => by simp [noBk] at h) (fun x h => by simp [noBk] at h)
      simp only [noBk, List.length_nil, Nat.zero_add] at this
      obtain ⟨a1, a2, a3, a4, a5⟩ := this
      exact ⟨by show (books _ _ _ _ _).1.tb.length ≤ _; simp only [noBk]; omega, by show (books _ _ _ _ _).1.ru.length ≤ _; simp only [noBk]; omega, by show (books _ _ _ _ _).1.wt.length ≤ _; simp only [noBk]; omega, fun t ht => by have := a4 t ht; omega, fun x hx => ⟨by have := (a5 x hx).1; omega, by have := (a5 x hx).2.1; omega, fun z hz => by have := (a5 x hx).2.2 z hz; omega⟩⟩
end Go.Proofs.YtaeglmgpoboihaaGreatDoor
/- Two books copied into one: what the appends keep. -/
namespace Go.Proofs.YtaeglmgpoboihaaGreatDoor
open Go.ChangeShapes Go.WideShapes Go.ChangeAt Go.RowKit K L15
set_option linter.unusedVariables false
set_option linter.unusedSimpArgs false
namespace K
variable {P : Program}
/-- One row more, and where it lies then. -/
theorem appRwX {ops : Array Oper} {Q : Exit → Act → World → Prop} {rest : List Oper} {o : Oper} {a : Act} {W : World} {s x : Operand} {TS T : TypeId} {c bytes : Nat} {z : Value} (hgd : o.guard = none) (ho : o.op = .call { callee := .builtin .append, args := #[s, x], argTypes := #[TS, TS] }) (hu : P.underlying TS = some (.slice T))
    (hi : (P.info? T).map (fun i => (i.zero, i.size, i.bytes)) = some (some z, c, bytes)) (hz : z.cells.size = c) (hc : 0 < c) (hby : bytes ≤ 1000) (v : Value) (hs : a.eval s = v) {B : Nat} {rows : List (List Value)} (hO : OwnR W B T c v rows) (km : Nat) (row : List Value)
    (hx : a.eval x = .slice (some ⟨km, 0, none⟩) 1 1) {cs : Array Value} (hm : W.heap[km]? = some (.cells cs T (0, 0))) (hcs : cs.toList = row) (hrow : row.length = c) (h1 : ∀ u ∈ row, u.oneCell' = true) (hn : rows.length ≤ 1000000) (hB : B ≤ W.heap.size)
    (h : ∀ v' w', OwnR w' B T c v' (rows ++ [row]) → W.grownBy w' v.ownBlock → (∀ g, v'.ownBlock = some g → v.ownBlock = some g ∨ g = W.heap.size) → wpList P ops Q rest (a.put o.dst v') w') : wpList P ops Q (o :: rest) a W := by
  obtain ⟨i0, hi0, hz0, hz1, hz2⟩ := info_of hi
  refine wpList_append_lies W hgd s x TS ho B T i0 z c bytes hu hi0 hz0 hz1 hz2 hz hc v rows.length rows.flatten hs hO.1 ⟨km, 0, none⟩ 1 1 row hx (by rw [hrow]; omega) ?_ h1 (by omega) (by unfold maxLen; omega) ?_ hB _ rfl ?_
  · intro j u hj
    have ha : (⟨km, 0, none⟩ : Addr).add j = ⟨km, j, none⟩ := by
      by_cases hj0 : j = 0
      · subst hj0; simp [Addr.add]
      · simp [Addr.add, hj0]
    rw [ha, cellRow hm j, ← Array.getElem?_toList, hcs]
    exact hj
  · have : (rows.length + 1) * bytes ≤ 1000001 * 1000 := Nat.mul_le_mul (by omega) hby
    omega
  · intro g cap w' hown hg hl _
    refine h _ w' ⟨?_, fun r hr => ?_⟩ hg (fun g' e => ?_)
    · rw [List.length_append, List.flatten_append]
      simpa using hown
    · rcases List.mem_append.1 hr with hr | hr
      · exact hO.2 r hr
      · rw [List.mem_singleton.1 hr]; exact hrow
    · have e' : g = g' := by simpa [Value.ownBlock] using e
      rw [← e']; exact hl
theorem blk_grown {W W' : World} {r : Nat} {cs : Array Value} {T U : TypeId} {fr : Nat × Nat} (h : W.heap[r]? = some (.cells cs U fr)) {B n m : Nat} {v : Value} {xs : List Value} (k : W.grownBy W' v.ownBlock) (ho : W.ownsRow B T n v m xs) (hT : U ≠ T) : W'.heap[r]? = some (.cells cs U fr) :=
  (k.block r (lt_of_block h) (fun e => by
    rcases ho.2 with ⟨rfl, _⟩ | ⟨g', cap, cur, rfl, _, hg, _⟩
    · simp [Value.ownBlock] at e
    · simp [Value.ownBlock] at e
      subst e
      rw [h] at hg
      injection hg with hg
      injection hg with _ hg
      exact hT hg)).trans h
end K
/-- Three lists of rows, and the book that they are. -/
structure Bv where
  vt : Value
  rt : List (List Value)
  vr : Value
  rr : List (List Value)
  vw : Value
  b : Bk
def Bv.v (p : Bv) : Value := .agg #[p.vt, p.vr, p.vw]
/-- A call made these lists itself, behind block B. -/
def BkO (w : World) (B : Nat) (p : Bv) : Prop := OwnR w B 34 4 p.vt p.rt ∧ TbsR w p.rt p.b.tb ∧ OwnR w B 38 8 p.vr p.rr ∧ RusR w p.rr p.b.ru ∧ OwnR w B 40 10 p.vw (p.b.wt.map wtRow)
theorem BkO.below {w w' : World} {B : Nat} {p : Bv} (h : BkO w B p) (k : Below w.heap.size w w') : BkO w' B p := ⟨h.1.below k, h.2.1.below k, h.2.2.1.below k, h.2.2.2.1.below k, h.2.2.2.2.below k⟩
theorem BkO.mono {w : World} {B B' : Nat} {p : Bv} (h : BkO w B p) (k : B' ≤ B) : BkO w B' p := ⟨h.1.mono k, h.2.1, h.2.2.1.mono k, h.2.2.2.1, h.2.2.2.2.mono k⟩
theorem BkO.form {w : World} {B : Nat} {p : Bv} (h : BkO w B p) : ∃ ta tc ra rc wa wc, p.vt = .slice ta p.b.tb.length tc ∧ p.vr = .slice ra p.b.ru.length rc ∧ p.vw = .slice wa p.b.wt.length wc ∧ RdRw w 34 4 ta p.rt ∧ RdRw w 38 8 ra p.rr ∧ RdRw w 40 10 wa (p.b.wt.map wtRow) := by
  obtain ⟨ta, tc, e1, -, r1, -⟩ := h.1.form (by omega)
  obtain ⟨ra, rc, e2, -, r2, -⟩ := h.2.2.1.form (by omega)
  obtain ⟨wa, wc, e3, -, r3, -⟩ := h.2.2.2.2.form (by omega)
  rw [RlR.len h.2.1] at e1
  rw [RlR.len h.2.2.2.1] at e2
  rw [List.length_map] at e3
  exact ⟨ta, tc, ra, rc, wa, wc, e1, e2, e3, r1, r2, r3⟩
theorem BkO.val {w : World} {B : Nat} {p : Bv} (h : BkO w B p) : BkV w p.v p.b := by
  obtain ⟨ta, tc, ra, rc, wa, wc, e1, e2, e3, r1, r2, r3⟩ := h.form
  exact ⟨ta, tc, ra, rc, wa, wc, p.rt, p.rr, by unfold Bv.v; rw [e1, e2, e3], r1, h.2.1, r2, h.2.2.2.1, r3⟩
theorem BkO.set {w : World} {B : Nat} {p : Bv} (h : BkO w B p) {r : Nat} {cs : Array Value} {fr : Nat × Nat} (hr : w.heap[r]? = some (.cells cs 27 fr)) (i : Nat) (u : Value) : BkO (w.setCell ⟨r, i, none⟩ u) B p :=
  ⟨h.1.set hr (by decide) i u, h.2.1.set hr (by decide) i u, h.2.2.1.set hr (by decide) i u, h.2.2.2.1.set hr (by decide) i u, h.2.2.2.2.set hr (by decide) i u⟩
/-- A list that lies between two blocks; one that does not. -/
def Nr (L U : Nat) (v : Value) : Prop := ∀ g, v.ownBlock = some g → L ≤ g ∧ g < U
def Fr (L U : Nat) (v : Value) : Prop := ∀ g, v.ownBlock = some g → g < L ∨ U ≤ g
def NrB (L U : Nat) (p : Bv) : Prop := Nr L U p.vt ∧ Nr L U p.vr ∧ Nr L U p.vw
def FrB (L U : Nat) (p : Bv) : Prop := Fr L U p.vt ∧ Fr L U p.vr ∧ Fr L U p.vw
theorem own_nr {w : World} {B : Nat} {T : TypeId} {c : Nat} {v : Value} {rows : List (List Value)} (h : OwnR w B T c v rows) : Nr B w.heap.size v := fun g e => World.ownsRow.lt h.1 g e
theorem own_far {w w' : World} {L U B : Nat} {T : TypeId} {c : Nat} {v x : Value} {rows : List (List Value)} (h : OwnR w B T c v rows) (n : Nr L U v) (f : Fr L U x) (k : w.grownBy w' x.ownBlock) : OwnR w' B T c v rows :=
  h.keep fun g cs fr hb e => k.block g (lt_of_block hb) (fun e' => by
    have := n g e
    have := f g e'.symm
    omega)
theorem BkO.nr {w : World} {B : Nat} {p : Bv} (h : BkO w B p) : NrB B w.heap.size p := ⟨own_nr h.1, own_nr h.2.2.1, own_nr h.2.2.2.2⟩
/-- The list x, of rows of type T, is grown: a book that lies elsewhere is as it was. -/
theorem BkO.far {w w' : World} {L U B B1 n m : Nat} {p : Bv} (h : BkO w B p) (hn : NrB L U p) {x : Value} (f : Fr L U x) {T : TypeId} {xs : List Value} (ho : w.ownsRow B1 T n x m xs) (k : w.grownBy w' x.ownBlock) (hT : 68 ≠ T ∧ 83 ≠ T ∧ 53 ≠ T ∧ 50 ≠ T) : BkO w' B p :=
  ⟨own_far h.1 hn.1 f k, h.2.1.grown k ho hT.1, own_far h.2.2.1 hn.2.1 f k, h.2.2.2.1.grown k ho hT.2, own_far h.2.2.2.2 hn.2.2 f k⟩
/-- Where all stands while the second book's parts are copied behind the first one's. -/
structure Pbh (w : World) (L U b8 b11 b15 : Nat) (p2 p3 p : Bv) (x : World) : Prop where
  bel : Below w.heap.size w x
  us : U ≤ x.heap.size
  c8 : x.heap[b8]? = some (.cells #[p2.vt, p2.vr, p2.vw] 27 (0, 0))
  c11 : x.heap[b11]? = some (.cells #[p3.vt, p3.vr, p3.vw] 27 (0, 0))
  c15 : x.heap[b15]? = some (.cells #[p.vt, p.vr, p.vw] 27 (0, 0))
  o2 : BkO x L p2
  o3 : BkO x L p3
  o : BkO x w.heap.size p
  fr : FrB L U p
/-- What stays. -/
structure PbF (w : World) (L U b8 b11 b15 : Nat) (p2 p3 : Bv) : Prop where
  n2 : NrB L U p2
  n3 : NrB L U p3
  e8 : b8 ≠ b15
  e11 : b11 ≠ b15
  le : w.heap.size ≤ b15
theorem Pbh.below {w x x' : World} {L U b8 b11 b15 : Nat} {p2 p3 p : Bv} (h : Pbh w L U b8 b11 b15 p2 p3 p x) (k : Below x.heap.size x x') : Pbh w L U b8 b11 b15 p2 p3 p x' :=
  ⟨h.bel.trans (k.mono h.bel.size), Nat.le_trans h.us k.size, (k.block _ (lt_of_block h.c8)).trans h.c8, (k.block _ (lt_of_block h.c11)).trans h.c11, (k.block _ (lt_of_block h.c15)).trans h.c15, h.o2.below k, h.o3.below k, h.o.below k, h.fr⟩
theorem far_new {w : World} {L U : Nat} {v v' : Value} (f : Fr L U v) (hU : U ≤ w.heap.size) (h : ∀ g, v'.ownBlock = some g → v.ownBlock = some g ∨ g = w.heap.size) : Fr L U v' := fun g e => by
  rcases h g e with h1 | h1
  · exact f g h1
  · exact .inr (by omega)
theorem tbrow_grown {w w' : World} {r : List Value} {t : Tb} (h : TbRow w r t) {U : TypeId} {n B m : Nat} {v : Value} {xs : List Value} (k : w.grownBy w' v.ownBlock) (ho : w.ownsRow B U n v m xs) (hT : 68 ≠ U) : TbRow w' r t := by
  obtain ⟨po, pc, e, h⟩ := h
  exact ⟨po, pc, e, h.grown k ho hT⟩
theorem rurow_grown {w w' : World} {r : List Value} {t : Ru} (h : RuRow w r t) {U : TypeId} {n B m : Nat} {v : Value} {xs : List Value} (k : w.grownBy w' v.ownBlock) (ho : w.ownsRow B U n v m xs) (hT : 83 ≠ U ∧ 53 ≠ U ∧ 50 ≠ U) : RuRow w' r t := by
  obtain ⟨po, pc, qo, qc, rs, e, h1, h2, h3⟩ := h
  exact ⟨po, pc, qo, qc, rs, e, h1.grown k ho hT.1, h2.grown k ho hT.2.1, h3.keep fun _ _ x => x.grown k ho hT.2.2⟩
theorem Pbh.tbl {w x x' : World} {L U b8 b11 b15 : Nat} {p2 p3 p : Bv} (h : Pbh w L U b8 b11 b15 p2 p3 p x) (F : PbF w L U b8 b11 b15 p2 p3) {row : List Value} {t : Tb} (hrow : TbRow x row t) {v' : Value} (hn : OwnR x' w.heap.size 34 4 v' (p.rt ++ [row])) (k : x.grownBy x' p.vt.ownBlock) (hl : ∀ g, v'.ownBlock = some g → p.vt.ownBlock = some g ∨ g = x.heap.size) :
    Pbh w L U b8 b11 b15 p2 p3 { p with vt := v', rt := p.rt ++ [row], b := { p.b with tb := p.b.tb ++ [t] } } (x'.setCell ⟨b15, 0, none⟩ v') := by
  have ho := h.o.1.1
  have d8 := blk_grown h.c8 k ho (by decide)
  have d11 := blk_grown h.c11 k ho (by decide)
  have d15 := blk_grown h.c15 k ho (by decide)
  have hf := h.fr.1
  have g2 := h.o2.far F.n2 hf ho k (by decide)
  have g3 := h.o3.far F.n3 hf ho k (by decide)
  have g1 : BkO x' w.heap.size { p with vt := v', rt := p.rt ++ [row], b := { p.b with tb := p.b.tb ++ [t] } } := ⟨hn, RlR.snoc (h.o.2.1.grown k ho (by decide)) (tbrow_grown hrow k ho (by decide)), h.o.2.2.1.grown k ho (by decide), h.o.2.2.2.1.grown k ho (by decide), h.o.2.2.2.2.grown k ho (by decide)⟩
  have hb : Below w.heap.size w x' := h.bel.grown k h.bel.size (fun g e => (World.ownsRow.lt ho g e).1)
  exact ⟨hb.setCell F.le v', (by simp only [World.setCell, Array.size_modify]; exact Nat.le_trans h.us k.size), (Below.heap_setCell _ _ _ _ F.e8).trans d8, (Below.heap_setCell _ _ _ _ F.e11).trans d11, row_to (rowSet d15 0 v') rfl, g2.set d15 0 v', g3.set d15 0 v', g1.set d15 0 v', ⟨far_new hf h.us hl, h.fr.2.1, h.fr.2.2⟩⟩
theorem Pbh.rul {w x x' : World} {L U b8 b11 b15 : Nat} {p2 p3 p : Bv} (h : Pbh w L U b8 b11 b15 p2 p3 p x) (F : PbF w L U b8 b11 b15 p2 p3) {row : List Value} {t : Ru} (hrow : RuRow x row t) {v' : Value} (hn : OwnR x' w.heap.size 38 8 v' (p.rr ++ [row])) (k : x.grownBy x' p.vr.ownBlock) (hl : ∀ g, v'.ownBlock = some g → p.vr.ownBlock = some g ∨ g = x.heap.size) :
    Pbh w L U b8 b11 b15 p2 p3 { p with vr := v', rr := p.rr ++ [row], b := { p.b with ru := p.b.ru ++ [t] } } (x'.setCell ⟨b15, 1, none⟩ v') := by
  have ho := h.o.2.2.1.1
  have d8 := blk_grown h.c8 k ho (by decide)
  have d11 := blk_grown h.c11 k ho (by decide)
  have d15 := blk_grown h.c15 k ho (by decide)
  have hf := h.fr.2.1
  have g2 := h.o2.far F.n2 hf ho k (by decide)
  have g3 := h.o3.far F.n3 hf ho k (by decide)
  have g1 : BkO x' w.heap.size { p with vr := v', rr := p.rr ++ [row], b := { p.b with ru := p.b.ru ++ [t] } } := ⟨h.o.1.grown k ho (by decide), h.o.2.1.grown k ho (by decide), hn, RlR.snoc (h.o.2.2.2.1.grown k ho (by decide)) (rurow_grown hrow k ho (by decide)), h.o.2.2.2.2.grown k ho (by decide)⟩
  have hb : Below w.heap.size w x' := h.bel.grown k h.bel.size (fun g e => (World.ownsRow.lt ho g e).1)
  exact ⟨hb.setCell F.le v', (by simp only [World.setCell, Array.size_modify]; exact Nat.le_trans h.us k.size), (Below.heap_setCell _ _ _ _ F.e8).trans d8, (Below.heap_setCell _ _ _ _ F.e11).trans d11, row_to (rowSet d15 1 v') rfl, g2.set d15 1 v', g3.set d15 1 v', g1.set d15 1 v', ⟨h.fr.1, far_new hf h.us hl, h.fr.2.2⟩⟩
theorem Pbh.wat {w x x' : World} {L U b8 b11 b15 : Nat} {p2 p3 p : Bv} (h : Pbh w L U b8 b11 b15 p2 p3 p x) (F : PbF w L U b8 b11 b15 p2 p3) {t : Wt} {v' : Value} (hn : OwnR x' w.heap.size 40 10 v' ((p.b.wt.map wtRow) ++ [(wtRow t)])) (k : x.grownBy x' p.vw.ownBlock) (hl : ∀ g, v'.ownBlock = some g → p.vw.ownBlock = some g ∨ g = x.heap.size) :
    Pbh w L U b8 b11 b15 p2 p3 { p with vw := v', b := { p.b with wt := p.b.wt ++ [t] } } (x'.setCell ⟨b15, 2, none⟩ v') := by
  have ho := h.o.2.2.2.2.1
  have d8 := blk_grown h.c8 k ho (by decide)
  have d11 := blk_grown h.c11 k ho (by decide)
  have d15 := blk_grown h.c15 k ho (by decide)
  have hf := h.fr.2.2
  have g2 := h.o2.far F.n2 hf ho k (by decide)
  have g3 := h.o3.far F.n3 hf ho k (by decide)
  have g1 : BkO x' w.heap.size { p with vw := v', b := { p.b with wt := p.b.wt ++ [t] } } := ⟨h.o.1.grown k ho (by decide), h.o.2.1.grown k ho (by decide), h.o.2.2.1.grown k ho (by decide), h.o.2.2.2.1.grown k ho (by decide), (by rw [List.map_append]; exact hn)⟩
  have hb : Below w.heap.size w x' := h.bel.grown k h.bel.size (fun g e => (World.ownsRow.lt ho g e).1)
  exact ⟨hb.setCell F.le v', (by simp only [World.setCell, Array.size_modify]; exact Nat.le_trans h.us k.size), (Below.heap_setCell _ _ _ _ F.e8).trans d8, (Below.heap_setCell _ _ _ _ F.e11).trans d11, row_to (rowSet d15 2 v') rfl, g2.set d15 2 v', g3.set d15 2 v', g1.set d15 2 v', ⟨h.fr.1, h.fr.2.1, far_new hf h.us hl⟩⟩
end Go.Proofs.YtaeglmgpoboihaaGreatDoor
