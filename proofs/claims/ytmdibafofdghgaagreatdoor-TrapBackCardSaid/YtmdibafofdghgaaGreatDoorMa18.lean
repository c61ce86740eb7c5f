/- Texts on the program and on the document, joined: OidC, OidH, Blw, OctA, OctB, OidV. -/
import Derived.Test.YtmdibafofdghgaaGreatDoorMa10
import Derived.Test.YtmdibafofdghgaaGreatDoorRows
import Derived.Test.YtmdibafofdghgaaGreatDoorMa01
import Derived.Test.YtmdibafofdghgaaGreatDoorShelf
import Derived.ProofKit
import Derived.OpenShut
import Derived.ShutString
import Derived.Test.YtmdibafofdghgaaGreatDoorMa16
import Derived.Test.YtmdibafofdghgaaGreatDoorMa11
import Derived.Lib.AppendIntMem
/- The document's own begins and Within, walked. -/
namespace Go.Proofs.YtmdibafofdghgaaGreatDoor
open Go.ChangeShapes Go.WideShapes Go.ChangeAt Go.RowKit K O6
set_option linter.unusedVariables false

theorem Below_drewNc {B : Nat} {a b : World} (h : Below B a b) (n : Nat) : Below B a (b.drewN n) := ⟨h.os, h.tape, h.output, h.size, h.block⟩
theorem within_long {a b : List Nat} (h : b.length < a.length) : within a b = false := by
  cases hw : within a b with
  | false => rfl
  | true =>
    obtain ⟨t, rfl⟩ := (O6.within_iff a b).1 hw
    simp at h; omega
theorem within_diff {a b : List Nat} {i : Nat} (hi : i < a.length) (h : a.getD i 0 ≠ b.getD i 0) : within a b = false := by
  cases hw : within a b with
  | false => rfl
  | true =>
    obtain ⟨t, rfl⟩ := (O6.within_iff a b).1 hw
    refine absurd ?_ h
    rw [List.getD, List.getD, List.getElem?_append_left hi]
theorem within_same : ∀ {a b : List Nat}, a.length ≤ b.length → (∀ j, j < a.length → a.getD j 0 = b.getD j 0) → within a b = true
  | [], b, _, _ => (O6.within_iff [] b).2 ⟨b, rfl⟩
  | x :: a, [], h, _ => by simp at h
  | x :: a, y :: b, h, hj => by
    have h1 : x = y := hj 0 (by simp)
    obtain ⟨t, rfl⟩ := (O6.within_iff a b).1 (within_same (a := a) (b := b) (by simp at h; omega) (fun j h2 => by have := hj (j + 1) (by simp; omega); simpa using this))
    exact (O6.within_iff _ _).2 ⟨t, by rw [h1]; rfl⟩
def BeRel (a b : List Nat) (w : World) (g : Nat) (v4 : Value) (wr : World) : Prop :=
  ∃ i, i + g = a.length ∧ v4 = .int .i64 (i : Nat) ∧ (∀ j, j < i → a.getD j 0 = b.getD j 0) ∧ ∃ m, wr = w.drewN m
/-- Whether one text's arcs begin another's: false, if one is none's. -/
def wi (r s : List UInt8) : Bool := (arcs r).isSome && ((arcs s).isSome && within (arL r) (arL s))
theorem arL_len (s : List UInt8) : (arL s).length ≤ 128 := by
  unfold arL
  cases h : arcs s with
  | none => simp
  | some l => exact (isArcs_len ((arcs_iff s l).1 h).1).2
end Go.Proofs.YtmdibafofdghgaaGreatDoor
/- The document's own Child, walked. -/
namespace Go.Proofs.YtmdibafofdghgaaGreatDoor
open Go.ChangeShapes Go.WideShapes Go.ChangeAt Go.RowKit K O6
set_option linter.unusedVariables false

theorem ownI_empty (w : World) (B : Nat) (T : TypeId) (hB : B ≤ w.heap.size) : OwnI (w.alloc (.cells #[] T)) B T (.slice (some ⟨w.heap.size, 0, none⟩) 0 0) [] :=
  ⟨rfl, .inr ⟨w.heap.size, 0, _, rfl, hB, rowNew w _, Nat.le_refl _, by unfold maxLen; omega, rfl, rfl⟩⟩
theorem OwnI.putAll {w : World} {B : Nat} {T : TypeId} {v : Value} {cs ds : List Nat} (h : w.ownsRow B T 1 v (cs.length + ds.length) (nums cs ++ nums ds)) : OwnI w B T v (cs ++ ds) := by
  unfold OwnI
  rw [List.length_append, nums_app]
  exact h
def chE (s : List UInt8) (x : Int) : Nat := match arcs s with
  | none => 60
  | some l => if inR x then (if isArcs (l ++ [x.toNat]) then 0 else 60) else 1
def chS (s : List UInt8) (x : Int) : List UInt8 := match arcs s with
  | none => []
  | some l => if inR x then (if isArcs (l ++ [x.toNat]) then put (l ++ [x.toNat]) else []) else []
theorem ch_none {s : List UInt8} (h : arcs s = none) (x : Int) : chE s x = 60 ∧ chS s x = [] := by unfold chE chS; rw [h]; exact ⟨rfl, rfl⟩
theorem ch_far {s : List UInt8} {l : List Nat} (h : arcs s = some l) {x : Int} (hx : inR x = false) : chE s x = 1 ∧ chS s x = [] := by
  unfold chE chS; rw [h]; simp [hx]
theorem ch_some {s : List UInt8} {l : List Nat} (h : arcs s = some l) {x : Int} (hx : inR x = true) :
    chE s x = (if isArcs (l ++ [x.toNat]) then 0 else 60) ∧ chS s x = (if isArcs (l ++ [x.toNat]) then put (l ++ [x.toNat]) else []) := by
  unfold chE chS; rw [h]; simp [hx]
end Go.Proofs.YtmdibafofdghgaaGreatDoor
/- strings.Builder's WriteString, walked at this translation. -/
namespace Go.Proofs.YtmdibafofdghgaaGreatDoor
open Go.ChangeShapes Go.WideShapes Go.ChangeAt Go.RowKit K
set_option linter.unusedVariables false

/-- A builder in block b, that has these bytes, with all that is its own behind B. -/
def Bld (B b : Nat) (l : List UInt8) (w : World) : Prop := Lib.IsBuilder 126 5 B b (Lib.byteCells l) w
theorem bytes_cells (l : List UInt8) : Lib.strCells (bs l) = Lib.byteCells l := by
  unfold Lib.strCells Lib.byteCells
  rw [bs_toList]
theorem cells_app (a b : List UInt8) : Lib.byteCells (a ++ b) = Lib.byteCells a ++ Lib.byteCells b := by
  unfold Lib.byteCells; rw [List.map_append]
theorem cells_len (a : List UInt8) : (Lib.byteCells a).length = a.length := by
  unfold Lib.byteCells; rw [List.length_map]

theorem info_b : (Tryz.prog.info? 126).map (·.size) = some 2 := by kernel_rfl
theorem info_u : (Tryz.prog.info? 5).map (fun i => (i.zero, i.size, i.bytes)) = some (some (.int .u8 0), 1, 1) := by kernel_rfl
set_option maxHeartbeats 1000000 in
set_option maxRecDepth 100000 in
theorem check_used (b : Nat) (w : World) (h0 : w.cell? ⟨b, 0, none⟩ = some (.pointer (some ⟨b, 0, none⟩))) :
    Calls Tryz.prog 101 #[.pointer (some ⟨b, 0, none⟩)] w fun e w' => e = .returned (.tuple #[]) ∧ w' = w := by
  obtain ⟨j, hj, _⟩ := Option.map_eq_some_iff.1 info_b
  go_enter Tryz.func101, Tryz.ntmps101
  go_wp2
  rw [Lib.run_neq_ptr_same w _ Tryz.underlying123 hj]
  go_wp2
  go_end0
  exact ⟨rfl, rfl⟩
set_option maxHeartbeats 1000000 in
set_option maxRecDepth 100000 in
theorem check_fresh (b : Nat) (w : World) (h0 : w.cell? ⟨b, 0, none⟩ = some (.pointer none)) (hsh : w.shape? b = some (126, 2)) (hfz : w.frozen? ⟨b, 0, none⟩ = false) :
    Calls Tryz.prog 101 #[.pointer (some ⟨b, 0, none⟩)] w fun e w' => e = .returned (.tuple #[]) ∧ w' = w.setCell ⟨b, 0, none⟩ (.pointer (some ⟨b, 0, none⟩)) := by
  obtain ⟨j, hj, hjs⟩ := Option.map_eq_some_iff.1 info_b
  go_enter Tryz.func101, Tryz.ntmps101
  go_wp2
  rw [Lib.run_to_unsafe w ⟨b, 0, none⟩ Tryz.underlying123 Tryz.underlying163 hj (by rw [hjs]; decide) hsh (Nat.zero_lt_succ 1)]
  simp only [Result.andThen]
  rw [Oper.upon_value]
  go_wp2
  rw [run_callFunc_extern Tryz.func121 (by kernel_rfl) (by kernel_rfl) (by kernel_rfl) (e := Extern.AbiNoEscape.same) (by kernel_rfl)]
  rw [Lib.run_noEscape]
  simp only [Result.andThen]
  rw [Oper.upon_value]
  go_wp2
  rw [Lib.run_from_unsafe w ⟨b, 0, none⟩ Tryz.underlying163 Tryz.underlying123 hj hsh (by kernel_rfl)]
  simp only [Result.andThen]
  rw [Oper.upon_value]
  go_wp2
  go_end0
  exact ⟨rfl, rfl⟩
/-- Blocks of another type than a builder's bytes, but for block b, are as they were. -/
def Oth (b : Nat) (w w' : World) : Prop := ∀ (k : Nat) (cs : Array Value) (T : TypeId) (fr : Nat × Nat), w.heap[k]? = some (.cells cs T fr) → T ≠ 5 → k ≠ b → w'.heap[k]? = w.heap[k]?
theorem check_any (B b : Nat) (cs : List Value) (w : World) (h : Lib.IsBuilder 126 5 B b cs w) :
    Calls Tryz.prog 101 #[.pointer (some ⟨b, 0, none⟩)] w fun e w' => e = .returned (.tuple #[]) ∧ (Lib.BuilderAt 126 5 B b (.pointer (some ⟨b, 0, none⟩)) cs w' ∧ Below B w w' ∧ Oth b w w') := by
  rcases h with h | h
  · refine (check_fresh b w h.cell0 h.shape h.frozen0).mono ?_
    rintro e w' ⟨rfl, rfl⟩
    exact ⟨rfl, h.used _, (Below.refl B w).setCell (p := ⟨b, 0, none⟩) h.1 _, fun k _ _ _ _ _ hk => Below.heap_setCell _ _ _ _ hk⟩
  · refine (check_used b w h.cell0).mono ?_
    rintro e w' ⟨rfl, rfl⟩
    exact ⟨rfl, h, Below.refl B _, fun _ _ _ _ _ _ _ => rfl⟩
set_option maxHeartbeats 2000000 in
set_option maxRecDepth 100000 in
theorem wstr (B b : Nat) (l s : List UInt8) (w : World) (h : Bld B b l w) (hlen : l.length + s.length ≤ 140737488355328) (hBw : B ≤ w.heap.size) :
    Calls Tryz.prog 76 #[.pointer (some ⟨b, 0, none⟩), .string (bs s)] w fun e w' => e = .returned (.tuple #[.int .i64 (s.length : Nat), .nilIface]) ∧ (Bld B b (l ++ s) w' ∧ Below B w w' ∧ Oth b w w') := by
  unfold Bld at h
  have hlc := cells_len l
  obtain ⟨i0, hi, hz0, hz1, hz2⟩ := info_parts info_u
  have hcells : Lib.byteCells (l ++ s) = Lib.byteCells l ++ Lib.strCells (bs s) := by rw [cells_app, bytes_cells]
  have HCL := Lib.hid hcells
  have HB := Lib.hid (show ∀ w', Bld B b (l ++ s) w' = Lib.IsBuilder 126 5 B b (Lib.byteCells (l ++ s)) w' from fun _ => rfl)
  have hsz : (bs s).size = s.length := bs_size s
  generalize Lib.byteCells l = cs at *
  have hl2 : cs.length + (bs s).size ≤ 140737488355328 := by omega
  clear hcells hlc
  generalize Lib.byteCells (l ++ s) = ds at *
  have hs2 : s.length ≤ 140737488355328 := by omega
  have HSZ := Lib.hid hsz
  clear hsz
  go_enter Tryz.func76, Tryz.ntmps76
  go_wp2_with (go_at_call 101; refine (check_any B b cs _ h).mono ?_)
  rintro e w1 ⟨rfl, h1, hb1, ho1⟩
  obtain ⟨hB, v, hbk, hown, hne⟩ := h1
  have c0 : w1.cell? ⟨b, 0, none⟩ = some (.pointer (some ⟨b, 0, none⟩)) := by rw [Lib.cell_of_heap hbk]; rfl
  have c1 : w1.cell? ⟨b, 1, none⟩ = some v := by rw [Lib.cell_of_heap hbk]; rfl
  go_wp2_with (at_builtin; refine Lib.wpList_append_own_string _ rfl _ _ 124 9 rfl B 5 i0 Tryz.underlying124 Tryz.underlying9 hi hz0 hz1 hz2 _ _ _ rfl hown (bs s) rfl ?c3 ?c4 ?c5 ?_)
  case c3 => unfold maxLen; omega
  case c4 => omega
  case c5 => have := hb1.size; omega
  intro v' w2 hown' hgrow _
  have hlt : b < w1.heap.size := lt_of_block hbk
  have hb2 : w2.heap[b]? = some (.cells #[.pointer (some ⟨b, 0, none⟩), v] 126 (0, 0)) := by
    rw [hgrow.block b hlt (fun e => hne e.symm)]
    exact hbk
  have d0 : w2.cell? ⟨b, 0, none⟩ = some (.pointer (some ⟨b, 0, none⟩)) := by rw [Lib.cell_of_heap hb2]; rfl
  have d1 : w2.cell? ⟨b, 1, none⟩ = some v := by rw [Lib.cell_of_heap hb2]; rfl
  have f1 : w2.frozen? ⟨b, 1, none⟩ = false := Lib.frozen_of_heap hb2 1
  obtain ⟨ao, n', cap, rfl⟩ : ∃ ao n' cap, v' = .slice ao n' cap := by
    rcases hown'.2 with ⟨hv, _⟩ | ⟨g, cap, cur, hv, _⟩
    · exact ⟨_, _, _, hv⟩
    · exact ⟨_, _, _, hv⟩
  go_wp2
  go_ret2
  refine ⟨rfl, ?_, ?_, ?_⟩
  · rw [HB.out, HCL.out]
    exact .inr (Lib.BuilderAt.put (T := 126) (e := 5) hB hb2 (bs' := cs ++ Lib.strCells (bs s)) (by have hq := hown'; rw [← HSZ.out] at hq; simpa [Lib.strCells_length] using hq) (by decide))
  · exact (hb1.grown hgrow (by have := hb1.size; omega) (fun k hk => (hown.lt k hk).1)).setCell (p := ⟨b, 1, none⟩) hB _
  · intro k cs T fr hk hT hkb
    have h1 := ho1 k cs T fr hk hT hkb
    rw [Below.heap_setCell _ _ _ _ hkb, hgrow.block k (lt_of_block (h1.trans hk)) (fun e => Lib.ownBlock_ne hown (h1.trans hk) hT e.symm)]
    exact h1
/-- What a builder is, stays, whatever is made behind. -/
theorem own_below {w w' : World} {B : Nat} {T : TypeId} {n : Nat} {v : Value} {m : Nat} {xs : List Value} (h : w.ownsRow B T n v m xs) (k : Below w.heap.size w w') : w'.ownsRow B T n v m xs := by
  refine ⟨h.1, ?_⟩
  rcases h.2 with hn | ⟨g, cap, cur, h1, h2, h3, h4⟩
  · exact .inl hn
  · exact .inr ⟨g, cap, cur, h1, h2, (k.block g (lt_of_block h3)).trans h3, h4⟩
theorem bld_below {w w' : World} {B b : Nat} {l : List UInt8} (h : Bld B b l w) (k : Below w.heap.size w w') : Bld B b l w' := by
  unfold Bld at *
  rcases h with ⟨hB, v, hbk, hown, hne⟩ | ⟨hB, v, hbk, hown, hne⟩
  · exact .inl ⟨hB, v, (k.block b (lt_of_block hbk)).trans hbk, own_below hown k, hne⟩
  · exact .inr ⟨hB, v, (k.block b (lt_of_block hbk)).trans hbk, own_below hown k, hne⟩
theorem own_set {w : World} {B : Nat} {e : TypeId} {n : Nat} {v : Value} {m : Nat} {xs : List Value} (h : w.ownsRow B e n v m xs) {k : Nat} {cs : Array Value} {T : TypeId} {fr : Nat × Nat} (hk : w.heap[k]? = some (.cells cs T fr)) (hT : T ≠ e) (i : Nat) (u : Value) : (w.setCell ⟨k, i, none⟩ u).ownsRow B e n v m xs := by
  refine ⟨h.1, ?_⟩
  rcases h.2 with hn | ⟨g, cap, cur, h1, h2, h3, h4⟩
  · exact .inl hn
  · refine .inr ⟨g, cap, cur, h1, h2, (Below.heap_setCell _ _ _ _ ?_).trans h3, h4⟩
    intro hgk
    have hgk' : g = k := hgk
    rw [hgk', hk] at h3
    injection h3 with h3
    injection h3 with _ h3
    exact hT h3
theorem bld_set {w : World} {B b : Nat} {l : List UInt8} (h : Bld B b l w) {k : Nat} {cs : Array Value} {T : TypeId} {fr : Nat × Nat} (hk : w.heap[k]? = some (.cells cs T fr)) (hT : T ≠ 5) (hb : b ≠ k) (i : Nat) (u : Value) : Bld B b l (w.setCell ⟨k, i, none⟩ u) := by
  unfold Bld at *
  rcases h with ⟨hB, v, hbk, hown, hne⟩ | ⟨hB, v, hbk, hown, hne⟩
  · exact .inl ⟨hB, v, (Below.heap_setCell _ _ _ _ hb).trans hbk, own_set hown hk hT i u, hne⟩
  · exact .inr ⟨hB, v, (Below.heap_setCell _ _ _ _ hb).trans hbk, own_set hown hk hT i u, hne⟩
theorem bstr (B b : Nat) (l : List UInt8) (w : World) (h : Bld B b l w) (hBw : B ≤ w.heap.size) :
    Calls Tryz.prog 79 #[.pointer (some ⟨b, 0, none⟩)] w fun e w' => e = .returned (.string (bs l)) ∧ Below B w w' :=
  Tryz.Builder_String_any B b l w h hBw
end Go.Proofs.YtmdibafofdghgaaGreatDoor
namespace Go.Proofs.YtmdibafofdghgaaGreatDoor
open Go.ChangeShapes Go.WideShapes Go.ChangeAt Go.RowKit P1 K
set_option linter.unusedVariables false

/-- The relation of octet.groups' loop. -/
def GRel (w : World) (t : List UInt8) (vn va : Value) (wr : World) : Prop :=
  ∃ (m p : Nat) (C : Array Value) (l : List UInt8), p ≤ 8 ∧ m < 128 ^ p ∧ vn = .int .i64 m ∧ va = .int .i64 p ∧ wr.heap[w.heap.size]? = some (.cells C 186 (0, 0)) ∧ C.size = 9 ∧ l.length = 9 - p ∧ tailIs C p l ∧ low p m ++ l = t ∧ Below w.heap.size w wr

theorem groups_walk (n : Nat) (h1 : n ≤ 9223372036854775807) (w : World) :
    Calls Tryz.prog 143 #[.int .i64 n] w fun e w' => e = .returned (.string (bs (grp n))) ∧ Below w.heap.size w w' := by
  go_enter Tryz.func143, Tryz.ntmps143
  go_wp2
  go_loopw [0, 4] (fun vn va wr => GRel w (grp n) vn va wr) (fun vn va wr => (intOf va).toNat)
  case atStart =>
    refine ⟨n / 128, 8, _, [b8 (n % 128)], by omega, by omega, by simp, rfl, rowNew _ _, rfl, rfl, ?_, rfl, (Below.refl _ _).alloc (Nat.le_refl _) _⟩
    show [Value.int .u8 ((n : Int) % 128)] = [Value.int .u8 ((b8 (n % 128)).toNat : Int)]
    rw [b8_toNat (n % 128) (by omega)]; simp
  case round =>
    obtain ⟨m, p, C, l, hp, hm, rfl, rfl, hC, hs, hl, ht, hg, hb⟩ := hrel
    by_cases h0 : 0 < m
    · obtain ⟨q, rfl⟩ : ∃ q, p = q + 1 := ⟨p - 1, by rcases p with _ | p <;> simp at hm ⊢; omega⟩
      obtain ⟨x, hcell⟩ : ∃ x, wr.cell? ⟨w.heap.size, q, none⟩ = some x := ⟨C[q]'(by omega), by simp [World.cell?, hC]⟩
      have hfr : wr.frozen? ⟨w.heap.size, q, none⟩ = false := freeRow hC q
      have e1 : bits .or .u8 ((m : Int) % 128) 128 = ((b8 (m % 128 + 128)).toNat : Int) := by
        rw [bits_or128 _ (by omega) (by omega), b8_toNat _ (by omega)]; omega
      have hm2 : m / 128 < 128 ^ q := by rw [Nat.pow_succ] at hm; omega
      have hmx : m ≤ 72057594037927936 := by
        have : (128 : Nat) ^ (q + 1) ≤ 128 ^ 8 := Nat.pow_le_pow_right (by omega) (by omega)
        omega
      have HC := Lib.hid hC; have Hs := Lib.hid hs; have Hl := Lib.hid hl; have Hg := Lib.hid hg; have Hm := Lib.hid hm; have E1 := Lib.hid e1; clear hC hs hl hg hm e1
      go_wp2
      go_roundw
      case measure => simp [intOf]
      case rel =>
        refine ⟨m / 128, q, _, b8 (m % 128 + 128) :: l, by omega, hm2, by simp, rfl, rowSet HC.out q _, by simp [Hs.out], by simp [Hl.out]; omega, ?_, ?_, hb.setCell (Nat.le_refl _) _⟩
        · rw [E1.out]; exact tailIs_set ht (by rw [Hs.out]; omega) _
        · rw [← Hg.out, low_step q m h0, List.append_assoc]; rfl
    · obtain rfl : m = 0 := by omega
      obtain rfl : grp n = l := by rw [low_zero] at hg; simpa using hg.symm
      have hcv := run_conv_tail (P := Tryz.prog) wr 124 5 9 Tryz.underlying124 Tryz.underlying5 Tryz.underlying9 hC ht (9 - p) (9 - p) hl
      have hsl := run_sliceAt_arr (P := Tryz.prog) wr 186 5 9 Tryz.underlying186 (by kernel_rfl) w.heap.size p (by omega)
      clear hC hs hl hg ht hm
      go_wp2
      go_ret
      exact ⟨rfl, hb⟩
end Go.Proofs.YtmdibafofdghgaaGreatDoor
namespace Go.Proofs.YtmdibafofdghgaaGreatDoor
open Go.ChangeShapes Go.WideShapes Go.ChangeAt Go.RowKit P1 K
set_option linter.unusedVariables false

def RRel (w : World) (t : List UInt8) (vn vs : Value) (wr : World) : Prop :=
  ∃ (m f : Nat) (l : List UInt8), m < 128 ^ (f + 1) ∧ f ≤ 8 ∧ vn = .int .i64 m ∧ vs = .string (bs l) ∧ l.length + f ≤ 9 ∧ low f (m / 128) ++ l = t ∧ Below w.heap.size w wr

set_option maxRecDepth 100000 in
theorem grouped_walk (n : Nat) (h1 : n ≤ 9223372036854775807) (w : World) :
    Calls Tryz.prog 107 #[.int .i64 n] w fun e w' => e = .returned (.string (bs (grp n))) ∧ Below w.heap.size w w' := by
  have hc1 := run_conv_one (P := Tryz.prog) 124 5 9 Tryz.underlying124 Tryz.underlying5 Tryz.underlying9
  go_enter Tryz.func107, Tryz.ntmps107
  go_wp2
  go_loopw [0, 3] (fun vn vs wr => RRel w (grp n) vn vs wr) (fun vn vs wr => (intOf vn).toNat)
  case atStart =>
    exact ⟨n, 8, _, by omega, by omega, rfl, rfl, by simp, rfl, (Below.refl _ _).alloc (Nat.le_refl _) _⟩
  case round =>
    obtain ⟨m, f, l, hm, hf, rfl, rfl, hl, hg, hb⟩ := hrel
    have Hg := Lib.hid hg; have Hm := Lib.hid hm; clear hg
    have hmx : m ≤ 9223372036854775807 := by
      have : (128 : Nat) ^ (f + 1) ≤ 128 ^ 9 := Nat.pow_le_pow_right (by omega) (by omega)
      omega
    clear hm
    by_cases h0 : 128 ≤ m
    · go_wp2
      go_roundw
      case measure => simp [intOf]; omega
      case rel =>
        obtain ⟨g, rfl⟩ : ∃ g, f = g + 1 := ⟨f - 1, by have := Hm.out; rcases f with _ | f <;> simp at this ⊢; omega⟩
        have hm2 : m / 128 < 128 ^ (g + 1) := by have := Hm.out; rw [Nat.pow_succ] at this; omega
        refine ⟨m / 128, g, b8 (m / 128 % 128 + 128) :: l, hm2, by omega, by simp, ?_, by simp; omega, ?_, hb.alloc (by have := hb.size; omega) _⟩
        · simp
        · rw [← Hg.out, low_step g (m / 128) (by omega), List.append_assoc]; rfl
    · go_wp2
      go_ret
      refine ⟨?_, hb⟩
      rw [← Hg.out, show m / 128 = 0 by omega, low_zero]; rfl

theorem octGroups_walk (n : Int) (h0 : -9223372036854775808 ≤ n) (h1 : n ≤ 9223372036854775807) (w : World) :
    Calls Tryz.prog 133 #[.int .i64 n] w fun e w' => e = .returned (.tuple #[.string (bs (grpS n)), .int .i64 (grpC n)]) ∧ Below w.heap.size w w' := by
  by_cases h : n < 0
  · go_enter Tryz.func133, Tryz.ntmps133
    go_wp2
    go_ret2
    exact ⟨by simp [grpS, grpC, h]; rfl, Below.refl _ _⟩
  · obtain ⟨m, rfl⟩ := Int.eq_ofNat_of_zero_le (show 0 ≤ n by omega)
    go_enter Tryz.func133, Tryz.ntmps133
    go_wp2_with (go_at_call 143; refine (groups_walk m (by omega) _).mono ?_; rintro e w' ⟨rfl, hb⟩)
    go_ret2
    exact ⟨by rw [grpS_nat, grpC_nat]; rfl, hb⟩

theorem octGroups_nat (m : Nat) (h : m < 9223372036854775808) (w : World) :
    Calls Tryz.prog 133 #[.int .i64 m] w fun e w' => e = .returned (.tuple #[.string (bs (grp m)), .int .i64 0]) ∧ Below w.heap.size w w' := by
  have := octGroups_walk m (by omega) (by omega) w
  rwa [grpS_nat, grpC_nat] at this

end Go.Proofs.YtmdibafofdghgaaGreatDoor
/- oid's write, Text, Encode, Child, walked. -/
namespace Go.Proofs.YtmdibafofdghgaaGreatDoor
open Go.ChangeShapes Go.WideShapes Go.ChangeAt Go.RowKit K O6
set_option linter.unusedVariables false

theorem dec_dg : ∀ (f n : Nat), 1 ≤ f → n < 10 ^ f → dg f n = Lib.decDigits n
  | 0, _, h, _ => by omega
  | f + 1, n, _, h => by
    by_cases hn : n < 10
    · rw [dg_small _ n hn, Lib.decDigits_one hn]; rfl
    · have hf : 1 ≤ f := by
        rcases Nat.eq_zero_or_pos f with h0 | h0
        · subst h0; omega
        · exact h0
      rw [dg_big _ n (by omega), Lib.decDigits, dif_neg hn, dec_dg f (n / 10) hf (by rw [Nat.pow_succ] at h; omega)]; rfl
theorem itoa_nm (n : Nat) (hn : n ≤ 9223372036854775807) : Lib.itoa (n : Int) = nm n := by
  unfold Lib.itoa nm
  rw [if_neg (by omega), Int.toNat_natCast]
  exact (dec_dg 20 n (by omega) (by omega)).symm
theorem itoa_walk (n : Nat) (hn : n ≤ 9223372036854775807) (w : World) (h : Tabs w) :
    Calls Tryz.prog 141 #[.int .i64 n] w fun e w' => e = .returned (.string (bs (nm n))) ∧ Below w.heap.size w w' := by
  refine (Tryz.strconv_Itoa n (by omega) (by omega) w h.2.2.2).mono ?_
  rintro e w' ⟨rfl, k, os, rfl⟩
  rw [itoa_nm n hn]
  exact ⟨rfl, Lib.below_grow _ _ (Nat.le_refl _) _ _⟩
theorem obld_fresh (w : World) : Bld w.heap.size w.heap.size [] (w.alloc (.cells #[.pointer none, .slice none 0 0] 126)) :=
  .inl ⟨Nat.le_refl _, _, rowNew w _, World.ownsRow_nil _ _ _ _, by simp [Value.ownBlock]⟩
/-- The state of write's loop: what is written. -/
def WrRel (cs : List Nat) (w : World) (b g : Nat) (v : Value) (wr : World) : Prop :=
  ∃ i, i + g = cs.length ∧ v = .int .i64 (i : Nat) ∧ Bld b b (put (cs.take i)) wr ∧ Below w.heap.size w wr
theorem put_take_len (cs : List Nat) (h : ∀ a ∈ cs, a ≤ 4294967295) (i : Nat) : (put (cs.take i)).length ≤ 11 * cs.length := by
  have h1 := O6.put_len (cs.take i) (fun a ha => h a (List.mem_of_mem_take ha))
  rw [List.length_take] at h1
  have : min i cs.length ≤ cs.length := Nat.min_le_right _ _
  omega
set_option maxRecDepth 100000 in
set_option maxHeartbeats 2000000 in
theorem write_walk (cs : List Nat) (hcs : ∀ a ∈ cs, a ≤ 4294967295) (hn : cs.length ≤ 1000) (ao : Option Addr) (cap : Nat) (w : World) (hr : RdZ w ao cs.length (fz cs)) (T : Tabs w) :
    Calls Tryz.prog 131 #[.slice ao cs.length cap] w fun e w' => e = .returned (.string (bs (put cs))) ∧ Below w.heap.size w w' := by
  have HR := Lib.hid hr
  have HT := Lib.hid T
  have hbf := obld_fresh w
  have hba : Below w.heap.size w (w.alloc (.cells #[.pointer none, .slice none 0 0] 126)) := (Below.refl _ _).alloc (Nat.le_refl _) _
  have HR0 := Lib.hid (show WrRel cs w w.heap.size cs.length (.int .i64 0) (w.alloc (.cells #[.pointer none, .slice none 0 0] 126)) from ⟨0, by omega, rfl, by rw [List.take_zero]; exact hbf, hba⟩)
  have HPL := Lib.hid (fun i => put_take_len cs hcs i)
  have HI := Lib.hid (fun a (ha : a ≤ 9223372036854775807) w1 (h : Tabs w1) => itoa_walk a ha w1 h)
  have HCS := Lib.hid hcs
  clear hr T hbf hba hcs
  go_enter Tryz.func131, Tryz.ntmps131
  go_wp2
  go_loopg [8] cs.length (fun g v wr => WrRel cs w w.heap.size g v wr)
  case atStart => exact HR0.out
  case round =>
    clear HR0
    obtain ⟨i, hig, rfl, hB, hb⟩ := hrel
    cases gk with
    | zero =>
      obtain rfl : i = cs.length := by omega
      rw [List.take_length] at hB
      clear hig
      go_wp2_with fail
      refine (bstr _ _ _ _ hB hb.size).mono ?_
      rintro e w1 ⟨rfl, b1⟩
      have hb2 := hb.trans b1
      clear b1
      go_wp2
      go_ret
      exact ⟨rfl, hb2⟩
    | succ g =>
      have hin : i < cs.length := by omega
      have hx : cs.getD i 0 ≤ 4294967295 := HCS.out _ (by simp [List.getD, List.getElem?_eq_getElem hin])
      rcases HR.out.below hb with h0 | ⟨rb, off, rfl, hrb, hrc⟩
      · omega
      · have hcell := hrc i hin
        have hpl := HPL.out i
        have hnl := nm_len (cs.getD i 0) (by omega)
        unfold fz at hcell
        rcases Nat.eq_zero_or_pos i with h0 | h0
        · subst h0
          have hpf := put_first cs hin
          have HPF := Lib.hid hpf
          rw [List.take_zero] at hB
          rw [Nat.add_zero] at hcell
          clear hpf hrc
          generalize hX : cs.getD 0 0 = X at *
          clear hX
          go_wp2_with fail
          refine (HI.out X (by omega) wr (HT.out.below hb)).mono ?_
          rintro e w1 ⟨rfl, d1⟩
          have B1 := bld_below hB d1
          have b1 := hb.trans (d1.mono hb.size)
          clear d1 hB hb
          go_wp2_with fail
          refine (wstr _ _ _ (nm X) w1 B1 (by simp [put]; omega) b1.size).mono ?_
          rintro e w2 ⟨rfl, B2, k2, -⟩
          have b2 := b1.trans k2
          clear b1 k2 B1
          go_wp2
          go_roundg g
          case measure => omega
          case rel => exact ⟨1, by omega, by simp, by rw [HPF.out]; exact B2, b2⟩
        · have hi0 : (0 : Int) < (i : Nat) := by omega
          have HPS := Lib.hid (put_snoc cs i hin h0)
          clear hrc
          generalize hX : cs.getD i 0 = X at *
          clear hX
          generalize put (cs.take i) = PT at *
          go_wp2_with fail
          refine (wstr _ _ PT [46] wr hB (by simp; omega) hb.size).mono ?_
          rintro e w1 ⟨rfl, B1, k1, -⟩
          have b1 := hb.trans k1
          clear hb k1 hB
          go_wp2_with fail
          refine (HI.out X (by omega) w1 (HT.out.below b1)).mono ?_
          rintro e w2 ⟨rfl, d2⟩
          have B2 := bld_below B1 d2
          have b2 := b1.trans (d2.mono b1.size)
          clear d2 B1 b1
          go_wp2_with fail
          refine (wstr _ _ _ (nm X) w2 B2 (by simp; omega) b2.size).mono ?_
          rintro e w3 ⟨rfl, B3, k3, -⟩
          have b3 := b2.trans k3
          clear b2 k3 B2
          go_wp2
          go_roundg g
          case measure => omega
          case rel => exact ⟨i + 1, by omega, by simp, by rw [HPS.out]; exact B3, b3⟩
end Go.Proofs.YtmdibafofdghgaaGreatDoor
