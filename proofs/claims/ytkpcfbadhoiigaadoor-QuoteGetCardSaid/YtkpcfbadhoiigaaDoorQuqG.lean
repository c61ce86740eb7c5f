/- The program's write and Print of structured data, walked. -/
import Derived.Test.YtkpcfbadhoiigaaDoorQuqF
import Derived.Test.YtkpcfbadhoiigaaDoorQuqC
namespace Go.Proofs.YtkpcfbadhoiigaaDoor
open Go.ChangeShapes Go.WideShapes Go.ChangeAt Go.RowKit K Q10 U4
set_option linter.unusedVariables false

set_option maxHeartbeats 2000000 in
set_option maxRecDepth 100000 in
/-- WriteByte; blocks of other types stay as they are. -/
theorem wbyteO (B b : Nat) (l : List UInt8) (c : UInt8) (w : World) (h : Bld B b l w) (hlen : l.length + 1 ≤ 140737488355328) (hBw : B ≤ w.heap.size) :
    Calls Tryd.prog 35 #[.pointer (some ⟨b, 0, none⟩), .int .u8 (c.toNat : Nat)] w fun e w' => e = .returned .nilIface ∧ (Bld B b (l ++ [c]) w' ∧ Below B w w' ∧ Oth b w w') := by
  unfold Bld at h
  have hlc := cells_len l
  obtain ⟨i0, hi, hz0, hz1, hz2⟩ := info_parts info_u
  have hcells : Lib.byteCells (l ++ [c]) = Lib.byteCells l ++ [.int .u8 (c.toNat : Nat)] := by rw [cells_app]; rfl
  have HCL := Lib.hid hcells
  have HB := Lib.hid (show ∀ w', Bld B b (l ++ [c]) w' = Lib.IsBuilder 59 5 B b (Lib.byteCells (l ++ [c])) w' from fun _ => rfl)
  generalize Lib.byteCells l = cs at *
  have hl2 : cs.length + 1 ≤ 140737488355328 := by omega
  clear hcells hlc
  generalize Lib.byteCells (l ++ [c]) = ds at *
  have hc0 : (0 : Int) ≤ (c.toNat : Nat) := by omega
  generalize ((c.toNat : Nat) : Int) = z at *
  go_enter Tryd.func35, Tryd.ntmps35
  go_wp2_with (go_at_call 59; refine (check_any B b cs _ h).mono ?_)
  rintro e w1 ⟨rfl, h1, hb1, ho1⟩
  obtain ⟨hB, v, hbk, hown, hne⟩ := h1
  have c0 : w1.cell? ⟨b, 0, none⟩ = some (.pointer (some ⟨b, 0, none⟩)) := by rw [Lib.cell_of_heap hbk]; rfl
  have c1 : w1.cell? ⟨b, 1, none⟩ = some v := by rw [Lib.cell_of_heap hbk]; rfl
  go_wp2_with (at_builtin; refine wpList_append_own _ rfl _ _ 57 rfl B 5 i0 (.int .u8 0) 1 1 Tryd.underlying57 hi hz0 hz1 hz2 rfl (by decide) _ _ _ rfl (hown.alloc _) ⟨w1.heap.size, 0, none⟩ 1 1 [.int .u8 z] rfl rfl ?c1 ?c2 ?c3 ?c4 ?c5 ?_)
  case c1 =>
    intro j u hj
    match j, hj with
    | 0, hj => simp at hj; subst hj; simp [Addr.add]
  case c2 => intro u hu; simp at hu; subst hu; rfl
  case c3 => unfold maxLen; omega
  case c4 => omega
  case c5 => have := hb1.size; simp; omega
  intro v' w2 hown' hgrow _
  have hlt : b < w1.heap.size := lt_of_block hbk
  have hb2 : w2.heap[b]? = some (.cells #[.pointer (some ⟨b, 0, none⟩), v] 59 (0, 0)) := by
    rw [hgrow.block b (by simp; omega) (fun e => hne e.symm), Lib.alloc_old w1 _ b hlt]
    exact hbk
  have d0 : w2.cell? ⟨b, 0, none⟩ = some (.pointer (some ⟨b, 0, none⟩)) := by rw [Lib.cell_of_heap hb2]; rfl
  have d1 : w2.cell? ⟨b, 1, none⟩ = some v := by rw [Lib.cell_of_heap hb2]; rfl
  have f1 : w2.frozen? ⟨b, 1, none⟩ = false := Lib.frozen_of_heap hb2 1
  obtain ⟨g, cap, rfl⟩ : ∃ g cap, v' = .slice (some ⟨g, 0, none⟩) (cs.length + 1) cap := by
    rcases hown'.2 with ⟨_, h0⟩ | ⟨g, cap, cur, hv, _⟩
    · omega
    · exact ⟨g, cap, hv⟩
  go_wp2
  go_ret
  refine ⟨rfl, ?_, ?_, ?_⟩
  · rw [HB.out, HCL.out]
    exact .inr (Lib.BuilderAt.put (T := 59) (e := 5) hB hb2 (bs' := cs ++ [.int .u8 z]) (by simpa using hown') (by decide))
  · exact ((hb1.alloc (by have := hb1.size; omega) _).grown hgrow (by have := hb1.size; simp; omega) (fun k hk => (hown.lt k hk).1)).setCell (p := ⟨b, 1, none⟩) hB _
  · intro k cs T fr hk hT hkb
    have h1 := ho1 k cs T fr hk hT hkb
    have hk1 : k < w1.heap.size := lt_of_block (h1.trans hk)
    rw [Below.heap_setCell _ _ _ _ hkb, hgrow.block k (by simp; omega) (fun e => Lib.ownBlock_ne hown (h1.trans hk) hT e.symm), Lib.alloc_old w1 _ k hk1]
    exact h1
theorem blen (B b : Nat) (l : List UInt8) (w : World) (h : Bld B b l w) :
    Calls Tryd.prog 61 #[.pointer (some ⟨b, 0, none⟩)] w fun e w' => e = .returned (.int .i64 (l.length : Nat)) ∧ w = w' := by
  have hlc := cells_len l
  have hx : ∃ v : Value, w.cell? ⟨b, 1, none⟩ = some v ∧ w.ownsRow B 5 1 v (Lib.byteCells l).length (Lib.byteCells l) := by
    unfold Bld at h
    rcases h with ⟨hB, v, hbk, hown, hne⟩ | ⟨hB, v, hbk, hown, hne⟩
    · exact ⟨v, by rw [Lib.cell_of_heap hbk]; rfl, hown⟩
    · exact ⟨v, by rw [Lib.cell_of_heap hbk]; rfl, hown⟩
  obtain ⟨v, c1, hown⟩ := hx
  rw [hlc] at hown
  clear h hlc
  obtain ⟨ao, cap, rfl⟩ : ∃ ao cap, v = .slice ao l.length cap := by
    rcases hown.2 with ⟨hv, h0⟩ | ⟨g, cap, cur, hv, _⟩
    · exact ⟨none, 0, by rw [hv, h0]⟩
    · exact ⟨_, cap, hv⟩
  clear hown
  go_enter Tryd.func61, Tryd.ntmps61
  go_wp2
  go_ret
  exact ⟨rfl, rfl⟩
theorem lt_of_bld {B b : Nat} {l : List UInt8} {w : World} (h : Bld B b l w) : b < w.heap.size := by
  unfold Bld at h
  rcases h with ⟨hB, v, hbk, _⟩ | ⟨hB, v, hbk, _⟩
  · exact lt_of_block hbk
  · exact lt_of_block hbk
theorem Eb.oth {w w' : World} {b k : Nat} {id : List UInt8} {v : Value} (h : Eb 45 w k id v) (o : Oth b w w') (hk : k ≠ b) : Eb 45 w' k id v := (o k _ _ _ h (by decide) hk).trans h
/-- A param in a block. -/
def Pb (w : World) (k : Nat) (p : Pm) : Prop := w.heap[k]? = some (.cells #[.string (bs p.n), .string (bs p.v)] 47 (0, 0))
theorem Pb.oth {w w' : World} {b k : Nat} {p : Pm} (h : Pb w k p) (o : Oth b w w') (hk : k ≠ b) : Pb w' k p := (o k _ _ _ h (by decide) hk).trans h
theorem Pb.cells {w : World} {k : Nat} {p : Pm} (h : Pb w k p) : w.cell? ⟨k, 0, none⟩ = some (.string (bs p.n)) ∧ w.cell? ⟨k, 1, none⟩ = some (.string (bs p.v)) := ⟨cellRow h 0, cellRow h 1⟩
theorem psT_stepk (l : List Pm) (i : Nat) (h : i < l.length) : psT (l.take (i + 1)) = psT (l.take i) ++ pmT (l.getD i nop) := by
  rw [takeD l i nop h, psT_app]; simp [psT]
theorem psT_le (l : List Pm) (i : Nat) : (psT (l.take i)).length ≤ (psT l).length := by
  have : psT l = psT (l.take i) ++ psT (l.drop i) := by rw [← psT_app, List.take_append_drop]
  rw [this, List.length_append]; omega
/-- What write leaves. -/
def WrPost (B b : Nat) (out : List UInt8) (x : El) (w : World) (e : Ending) (w' : World) : Prop :=
  e = .returned (.bool (decide ((out ++ elT x).length ≤ 65536))) ∧ Below B w w' ∧ ((out ++ elT x).length ≤ 65536 → Bld B b (out ++ elT x) w')
def WpRel (B b : Nat) (out : List UInt8) (x : El) (w : World) (g : Nat) (v : Value) (wr : World) : Prop :=
  ∃ i, i + g = x.ps.length ∧ v = .int .i64 (i : Nat) ∧ Bld B b (out ++ (91 :: (x.id ++ psT (x.ps.take i)))) wr ∧ Below B w wr
set_option maxRecDepth 100000 in
set_option maxHeartbeats 4000000 in
theorem qwrite_walk (B b : Nat) (out : List UInt8) (x : El) (po : Option Addr) (pc : Nat) (hl : (out ++ elT x).length ≤ 1000000000) (w : World) (hB : Bld B b out w) (hbw : b < w.heap.size) (hBw : B ≤ w.heap.size) (hr : ∀ w1, Below B w w1 → RdP w1 po x.ps) (hpl : x.ps.length ≤ 140737488351232) :
    Calls Tryd.prog 38 #[.pointer (some ⟨b, 0, none⟩), .agg #[.string (bs x.id), .slice po x.ps.length pc]] w (WrPost B b out x w) := by
  have hx0 := Eb.new 45 w x.id (.slice po x.ps.length pc)
  have b0 : Below B w (w.alloc (.cells #[.string (bs x.id), .slice po x.ps.length pc] 45)) := (Below.refl B w).alloc hBw _
  have hB0 := bld_below hB (alloc_in' w (.cells #[.string (bs x.id), .slice po x.ps.length pc] 45))
  obtain ⟨w0, hw0⟩ : ∃ w0, w.alloc (.cells #[.string (bs x.id), .slice po x.ps.length pc] 45) = w0 := ⟨_, rfl⟩
  rw [hw0] at hx0 b0 hB0
  have HW0 := Lib.hid hw0
  have HR := Lib.hid hr
  have hne : w.heap.size ≠ b := by omega
  have hlen : out.length + (1 + x.id.length + (psT x.ps).length + 1) ≤ 1000000000 := by
    have : (out ++ elT x).length = out.length + (1 + x.id.length + (psT x.ps).length + 1) := by simp only [elT, List.length_append, List.length_cons, List.length_nil]; omega
    omega
  have HEL := Lib.hid (show (out ++ elT x).length = out.length + (1 + x.id.length + (psT x.ps).length + 1) by simp only [elT, List.length_append, List.length_cons, List.length_nil]; omega)
  clear hw0 hr hB hl
  go_enter Tryd.func38, Tryd.ntmps38
  go_wp2_with fail
  rw [HW0.out]
  refine (wbyteO B b out 91 w0 hB0 (by omega) (by have := b0.size; omega)).mono ?_
  rintro e w1 ⟨rfl, hB1, d1, o1⟩
  have hx1 := hx0.oth o1 hne
  have b1 := b0.trans d1
  clear hB0 d1 o1 hx0 b0
  obtain ⟨y0, y1⟩ := hx1.cells
  go_wp2_with fail
  refine (wstr B b (out ++ [91]) x.id w1 hB1 (by simp; omega) (by have := b1.size; omega)).mono ?_
  rintro e w2 ⟨rfl, hB2, d2, o2⟩
  have hx2 := hx1.oth o2 hne
  have b2 := b1.trans d2
  clear hB1 d2 o2 hx1 b1 y0 y1
  obtain ⟨y0, y1⟩ := hx2.cells
  have hB2' : Bld B b (out ++ (91 :: (x.id ++ psT (x.ps.take 0)))) w2 := by simpa [psT] using hB2
  clear hB2
  go_wp2_with fail
  clear y0 y1 hx2
  go_loopg [16] x.ps.length (fun g v wr => WpRel B b out x w g v wr)
  case atStart => exact ⟨0, by omega, rfl, hB2', b2⟩
  case round =>
    obtain ⟨i, hg, rfl, hB, hb⟩ := hrel
    clear hB2' b2 HW0
    have hBr : B ≤ wr.heap.size := by have := hb.size; omega
    have hbr : b < wr.heap.size := by have := hb.size; omega
    have hpe := psT_le x.ps i
    cases gk with
    | zero =>
      have hp : x.ps.length ≤ i := by omega
      rw [List.take_of_length_le hp] at hB
      have HF := Lib.hid (show out ++ (91 :: (x.id ++ psT x.ps)) ++ [93] = out ++ elT x by simp [elT])
      have HW1 := Lib.hid (fun h => wbyteO B b (out ++ (91 :: (x.id ++ psT x.ps))) 93 wr hB h hBr)
      have hl1 : (out ++ (91 :: (x.id ++ psT x.ps))).length + 1 ≤ 140737488355328 := by simp only [List.length_append, List.length_cons]; omega
      clear hB hg hpe
      generalize out ++ (91 :: (x.id ++ psT x.ps)) = O1 at *
      go_wp2_with fail
      refine (HW1.out hl1).mono ?_
      rintro e w3 ⟨rfl, hB3, d3, -⟩
      rw [HF.out] at hB3
      have b3 := hb.trans d3
      have HL := Lib.hid (blen B b _ w3 hB3)
      have HD := Lib.hid hB3
      clear HF HW1 hl1 hB3 d3
      have HPo := Lib.hid (show ∀ (z : Bool) w', z = decide ((out ++ elT x).length ≤ 65536) → Below B w w' → Bld B b (out ++ elT x) w' → WrPost B b out x w (.returned (.bool z)) w' from fun z w' h1 h2 h3 => ⟨by rw [h1], h2, fun _ => h3⟩)
      have hdec : decide (((out ++ elT x).length : Int) ≤ 65536) = decide ((out ++ elT x).length ≤ 65536) := by simp only [decide_eq_decide]; omega
      generalize (out ++ elT x).length = N at *
      go_wp2_with fail
      refine HL.out.mono ?_
      rintro e w4 ⟨rfl, rfl⟩
      go_wp2
      go_ret
      exact HPo.out _ _ (by simp) b3 HD.out
    | succ g =>
      have hlt : i < x.ps.length := by omega
      have hst := psT_stepk x.ps i hlt
      have hpe2 := psT_le x.ps (i + 1)
      obtain ⟨c, off, rfl, hc, hcc⟩ := (HR.out _ hb).at (by omega)
      obtain ⟨p0, p1⟩ := hcc i hlt
      clear hcc
      generalize x.ps.getD i nop = P at *
      have hpl2 : (psT (x.ps.take (i + 1))).length = (psT (x.ps.take i)).length + (1 + P.n.length + 1 + 1 + (esc P.v).length + 1) := by
        rw [hst, List.length_append]; simp only [pmT, List.length_cons, List.length_append, List.length_nil]; omega
      have hev : P.v.length ≤ (esc P.v).length := by have := esc_len P.v; omega
      have HF := Lib.hid (show out ++ (91 :: (x.id ++ psT (x.ps.take i))) ++ [32] ++ P.n ++ [61] ++ [34] ++ esc P.v ++ [34] = out ++ (91 :: (x.id ++ psT (x.ps.take (i + 1)))) by rw [hst]; simp [pmT])
      have hol : (out ++ (91 :: (x.id ++ psT (x.ps.take i)))).length = out.length + (1 + x.id.length + (psT (x.ps.take i)).length) := by simp only [List.length_append, List.length_cons]; omega
      have hnl : (out ++ (91 :: (x.id ++ psT (x.ps.take (i + 1))))).length = out.length + (1 + x.id.length + (psT (x.ps.take (i + 1))).length) := by simp only [List.length_append, List.length_cons]; omega
      have hnle : (out ++ (91 :: (x.id ++ psT (x.ps.take (i + 1))))).length ≤ (out ++ elT x).length := by rw [hnl, HEL.out]; omega
      have HNLE := Lib.hid hnle
      have hl1 : (out ++ (91 :: (x.id ++ psT (x.ps.take i)))).length + (1 + P.n.length + 1 + 1 + (esc P.v).length + 1) ≤ 1000000000 := by omega
      have HESC := Lib.hid (fun w1 => escape_walk P.v (by omega) w1)
      clear hst hpe hpe2 hpl2 hol hnl hnle
      obtain ⟨O2, hO2⟩ : ∃ O2, out ++ (91 :: (x.id ++ psT (x.ps.take (i + 1)))) = O2 := ⟨_, rfl⟩
      have HO2 := Lib.hid hO2
      rw [hO2] at HF HNLE
      generalize out ++ (91 :: (x.id ++ psT (x.ps.take i))) = O1 at *
      have hP0 : Pb (wr.alloc (.cells #[.string (bs P.n), .string (bs P.v)] 47)) wr.heap.size P := rowNew wr _
      have hb0 := hb.alloc (o := .cells #[.string (bs P.n), .string (bs P.v)] 47) hBr
      have hB0 := bld_below hB (alloc_in' wr (.cells #[.string (bs P.n), .string (bs P.v)] 47))
      have hpb : wr.heap.size ≠ b := by omega
      have hs0 : B ≤ (wr.alloc (.cells #[.string (bs P.n), .string (bs P.v)] 47)).heap.size := by simp; omega
      clear hB hb hO2
      go_wp2_with fail
      refine (wbyteO B b O1 32 _ hB0 (by omega) hs0).mono ?_
      rintro e w3 ⟨rfl, hB3, d3, o3⟩
      have hP3 := hP0.oth o3 hpb
      have hb3 := hb0.trans d3
      have hs3 : B ≤ w3.heap.size := Nat.le_trans hs0 d3.size
      clear hB0 d3 o3 hP0 hb0 hs0 p0 p1
      obtain ⟨y0, y1⟩ := hP3.cells
      go_wp2_with fail
      refine (wstr B b _ P.n w3 hB3 (by simp; omega) hs3).mono ?_
      rintro e w4 ⟨rfl, hB4, d4, o4⟩
      have hP4 := hP3.oth o4 hpb
      have hb4 := hb3.trans d4
      have hs4 : B ≤ w4.heap.size := Nat.le_trans hs3 d4.size
      clear hB3 d4 o4 hP3 hb3 hs3 y0 y1
      go_wp2_with fail
      refine (wbyteO B b _ 61 w4 hB4 (by simp; omega) hs4).mono ?_
      rintro e w5 ⟨rfl, hB5, d5, o5⟩
      have hP5 := hP4.oth o5 hpb
      have hb5 := hb4.trans d5
      have hs5 : B ≤ w5.heap.size := Nat.le_trans hs4 d5.size
      clear hB4 d5 o5 hP4 hb4 hs4
      go_wp2_with fail
      refine (wbyteO B b _ 34 w5 hB5 (by simp; omega) hs5).mono ?_
      rintro e w6 ⟨rfl, hB6, d6, o6⟩
      have hP6 := hP5.oth o6 hpb
      have hb6 := hb5.trans d6
      have hs6 : B ≤ w6.heap.size := Nat.le_trans hs5 d6.size
      clear hB5 d6 o6 hP5 hb5 hs5
      obtain ⟨y0, y1⟩ := hP6.cells
      go_wp2_with fail
      refine (HESC.out w6).mono ?_
      rintro e w7 ⟨rfl, d7⟩
      have hB7 := bld_below hB6 d7
      have hb7 := hb6.trans (d7.mono hs6)
      have hs7 : B ≤ w7.heap.size := Nat.le_trans hs6 d7.size
      clear hB6 d7 hP6 hb6 hs6 y0 y1
      go_wp2_with fail
      refine (wstr B b _ (esc P.v) w7 hB7 (by simp; omega) hs7).mono ?_
      rintro e w8 ⟨rfl, hB8, d8, -⟩
      have hb8 := hb7.trans d8
      have hs8 : B ≤ w8.heap.size := Nat.le_trans hs7 d8.size
      clear hB7 d8 hb7 hs7
      go_wp2_with fail
      refine (wbyteO B b _ 34 w8 hB8 (by simp; omega) hs8).mono ?_
      rintro e w9 ⟨rfl, hB9, d9, -⟩
      rw [HF.out] at hB9
      have hb9 := hb8.trans d9
      have HL := Lib.hid (blen B b _ w9 hB9)
      have HD := Lib.hid hB9
      have HB9 := Lib.hid hb9
      clear hB8 d9 hb8 hs8 hB9 hb9
      by_cases hbig : 65536 < O2.length
      · have hbi : (65536 : Int) < ((O2.length : Nat) : Int) := by omega
        have HPo := Lib.hid (show WrPost B b out x w (.returned (.bool false)) w9 from by
          have h1 : ¬ (out ++ elT x).length ≤ 65536 := by have := HNLE.out; omega
          exact ⟨by rw [decide_eq_false h1], HB9.out, fun h => absurd h h1⟩)
        clear hbig
        generalize O2.length = N at *
        go_wp2_with fail
        refine HL.out.mono ?_
        rintro e w4 ⟨rfl, rfl⟩
        go_wp2
        go_ret
        exact HPo.out
      · have hbi : ¬ (65536 : Int) < ((O2.length : Nat) : Int) := by omega
        clear hbig
        generalize O2.length = N at *
        go_wp2_with fail
        refine HL.out.mono ?_
        rintro e w4 ⟨rfl, rfl⟩
        go_wp2
        go_roundg g
        case measure => omega
        case rel => exact ⟨i + 1, by omega, by simp, by rw [HO2.out]; exact HD.out, HB9.out⟩
end Go.Proofs.YtkpcfbadhoiigaaDoor
