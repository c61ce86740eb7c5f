/- Texts on the program and on the document, joined: ValI, OidH, Blw. -/
import Derived.Test.YtkmfcnilbmckmaaGreatDoorMa19
import Derived.Test.YtkmfcnilbmckmaaGreatDoorMa22
import Derived.Test.YtkmfcnilbmckmaaGreatDoorMa16
import Derived.Test.YtkmfcnilbmckmaaGreatDoorRows
import Derived.Test.YtkmfcnilbmckmaaGreatDoorMa01
import Derived.Test.YtkmfcnilbmckmaaGreatDoorShelf
import Derived.ProofKit
/- value's mayBe, Check, walked. -/
namespace Go.Proofs.YtkmfcnilbmckmaaGreatDoor
open Go.ChangeShapes Go.WideShapes Go.ChangeAt Go.RowKit K P1 B5
set_option linter.unusedVariables false

open V7 in
/-- What the program looks at, one after the other, and the answer. -/
inductive Mb : Int → Int → List UInt8 → Bool → Prop
  | i1 {n s} (h1 : s.isEmpty = false) : Mb 2 n s false
  | i2 {n s} (h1 : s.isEmpty = true) (h2 : n < -2147483648) : Mb 2 n s false
  | i3 {n s b} (h1 : s.isEmpty = true) (h2 : -2147483648 ≤ n) (h3 : decide (n ≤ 2147483647) = b) : Mb 2 n s b
  | c1 {k n s} (hk : k = 65 ∨ k = 66 ∨ k = 67) (h1 : n < 0) : Mb k n s false
  | c2 {k n s} (hk : k = 65 ∨ k = 66 ∨ k = 67) (h1 : 0 ≤ n) (h2 : 4294967295 < n) : Mb k n s false
  | c3 {k n s b} (hk : k = 65 ∨ k = 66 ∨ k = 67) (h1 : 0 ≤ n) (h2 : n ≤ 4294967295) (h3 : s.isEmpty = b) : Mb k n s b
  | g {n s b} (h1 : s.isEmpty = b) : Mb 70 n s b
  | n1 {n s} (h1 : (n == 0) = false) : Mb 5 n s false
  | n2 {n s b} (h1 : (n == 0) = true) (h2 : s.isEmpty = b) : Mb 5 n s b
  | o1 {n s} (h1 : (n == 0) = false) : Mb 6 n s false
  | o2 {n s b} (h1 : (n == 0) = true) (h2 : (O6.arcs s).isSome = b) : Mb 6 n s b
  | d1 {n s} (h1 : (((s.length : Nat) : Int) == 4) = false) (h2 : (((s.length : Nat) : Int) != 4) = true) : Mb 64 n s false
  | d2 {n s} (h1 : (((s.length : Nat) : Int) == 4) = true) (h2 : (((s.length : Nat) : Int) != 4) = false) (h3 : (n == 0) = false) : Mb 64 n s false
  | d3 {n s} (h1 : (((s.length : Nat) : Int) == 4) = true) (h2 : (((s.length : Nat) : Int) != 4) = false) (h3 : (n == 0) = true) (h4 : ((s.length : Nat) : Int) ≤ 65535) : Mb 64 n s true
  | a1 {k n s} (hk : k = 4 ∨ k = 68) (h1 : (n == 0) = false) : Mb k n s false
  | a2 {k n s b} (hk : k = 4 ∨ k = 68) (h1 : (n == 0) = true) (h2 : decide (((s.length : Nat) : Int) ≤ 65535) = b) : Mb k n s b
  | z {k n s} (h1 : (k == 2) = false) (h2 : (k == 4) = false) (h3 : (k == 68) = false) (h4 : (k == 5) = false) (h5 : (k == 6) = false) (h6 : (k == 64) = false) (h7 : (k == 65) = false) (h8 : (k == 66) = false) (h9 : (k == 67) = false) (h10 : (k == 70) = false) : Mb k n s false
open V7 in
theorem mb_all (k n : Int) (s : List UInt8) : Mb k n s (ckV k n s) := by
  by_cases k2 : k = 2
  · subst k2
    cases h1 : s.isEmpty
    · rw [show ckV 2 n s = false by simp [ckV, h1]]; exact .i1 h1
    · by_cases h2 : -2147483648 ≤ n
      · rw [show ckV 2 n s = decide (n ≤ 2147483647) by simp [ckV, h1, h2]]; exact .i3 h1 h2 rfl
      · rw [show ckV 2 n s = false by simp [ckV, h1, h2]]; exact .i2 h1 (by omega)
  by_cases k4 : k = 4 ∨ k = 68
  · have hv : ckV k n s = (n == 0 && decide (s.length ≤ 65535)) := by unfold ckV; rw [if_neg k2, if_pos k4]
    cases h1 : (n == 0)
    · rw [show ckV k n s = false by rw [hv, h1]; rfl]; exact .a1 k4 h1
    · rw [show ckV k n s = decide (((s.length : Nat) : Int) ≤ 65535) by rw [hv, h1, Bool.true_and]; exact decide_eq_decide.2 (by omega)]; exact .a2 k4 h1 rfl
  by_cases k5 : k = 5
  · subst k5
    cases h1 : (n == 0)
    · rw [show ckV 5 n s = false by simp [ckV, h1]]; exact .n1 h1
    · rw [show ckV 5 n s = s.isEmpty by simp [ckV, h1]]; exact .n2 h1 rfl
  by_cases k6 : k = 6
  · subst k6
    cases h1 : (n == 0)
    · rw [show ckV 6 n s = false by simp [ckV, h1]]; exact .o1 h1
    · rw [show ckV 6 n s = (O6.arcs s).isSome by simp [ckV, h1]]; exact .o2 h1 rfl
  by_cases k64 : k = 64
  · subst k64
    by_cases h1 : s.length = 4
    · have e1 : (((s.length : Nat) : Int) == 4) = true := by rw [beq_iff_eq]; omega
      have e2 : (((s.length : Nat) : Int) != 4) = false := by unfold bne; rw [e1]; rfl
      cases h3 : (n == 0)
      · rw [show ckV 64 n s = false by simp [ckV, h3]]; exact .d2 e1 e2 h3
      · rw [show ckV 64 n s = true by simp [ckV, h1, h3]]; exact .d3 e1 e2 h3 (by omega)
    · have e1 : (((s.length : Nat) : Int) == 4) = false := by rw [beq_eq_false_iff_ne]; omega
      have e2 : (((s.length : Nat) : Int) != 4) = true := by unfold bne; rw [e1]; rfl
      rw [show ckV 64 n s = false by simp [ckV, h1]]; exact .d1 e1 e2
  by_cases k65 : k = 65 ∨ k = 66 ∨ k = 67
  · have hv : ckV k n s = (s.isEmpty && (decide (0 ≤ n) && decide (n ≤ 4294967295))) := by
      unfold ckV
      rw [if_neg k2, if_neg k4, if_neg k5, if_neg k6, if_neg k64, if_pos k65]
    by_cases h2 : 0 ≤ n
    · by_cases h3 : n ≤ 4294967295
      · rw [show ckV k n s = s.isEmpty by rw [hv]; simp [h2, h3]]; exact .c3 k65 h2 h3 rfl
      · rw [show ckV k n s = false by rw [hv]; simp [h3]]; exact .c2 k65 h2 (by omega)
    · rw [show ckV k n s = false by rw [hv]; simp [h2]]; exact .c1 k65 (by omega)
  by_cases k70 : k = 70
  · subst k70
    rw [show ckV 70 n s = s.isEmpty by simp [ckV]]; exact .g rfl
  have hv : ckV k n s = false := by
    unfold ckV
    rw [if_neg k2, if_neg k4, if_neg k5, if_neg k6, if_neg k64, if_neg k65, if_neg k70]
  rw [hv]
  have e : ∀ c : Int, ¬ k = c → (k == c) = false := fun c h => beq_eq_false_iff_ne.2 h
  exact .z (e _ k2) (e _ (by omega)) (e _ (by omega)) (e _ k5) (e _ k6) (e _ k64) (e _ (by omega)) (e _ (by omega)) (e _ (by omega)) (e _ k70)
set_option maxRecDepth 100000 in
set_option maxHeartbeats 4000000 in
theorem mayBe_walk (k n : Int) (s : List UInt8) (hs : s.length ≤ 1000000) (w : World) (T : Tabs w) :
    Calls Tryz.prog 21 #[.agg #[.int .i64 k, .int .i64 n, .string (bs s)]] w fun e w' => e = .returned (.bool (V7.ckV k n s)) ∧ Below w.heap.size w w' := by
  have h := mb_all k n s
  generalize V7.ckV k n s = c at h ⊢
  have hba := alloc_in w (.cells #[.int .i64 k, .int .i64 n, .string (bs s)] 24)
  cases h
  case o1 h1 =>
    have HA := Lib.hid (arcs_walk s hs _ (T.below hba))
    unfold ArPost at HA
    generalize arE s = E at *
    go_enter Tryz.func21, Tryz.ntmps21
    go_wp2_with fail
    refine HA.out.mono ?_
    rintro e w1 ⟨va, rfl, hoa, hb1⟩
    obtain ⟨z0, z1, z2⟩ := (Vr.new w 6 n s).below hb1
    go_wp2
    go_ret
    exact ⟨rfl, Below_in hb1⟩
  case o2 h1 h2 =>
    have HA := Lib.hid (arcs_walk s hs _ (T.below hba))
    unfold ArPost at HA
    have hq : (((arE s : Nat) : Int) == 0) = c := by
      rw [← h2]
      cases hx : O6.arcs s with
      | none => rw [(ar_none hx).1]; rfl
      | some l => rw [(ar_some hx).1]; rfl
    generalize arE s = E at *
    go_enter Tryz.func21, Tryz.ntmps21
    go_wp2_with fail
    refine HA.out.mono ?_
    rintro e w1 ⟨va, rfl, hoa, hb1⟩
    obtain ⟨z0, z1, z2⟩ := (Vr.new w 6 n s).below hb1
    go_wp2
    go_ret
    exact ⟨by rw [← hq]; rfl, Below_in hb1⟩
  case c1 hk h1 =>
    rcases hk with rfl | rfl | rfl
    all_goals
      go_enter Tryz.func21, Tryz.ntmps21
      go_wp2
      go_ret
      exact ⟨rfl, hba⟩
  case c2 hk h1 h2 =>
    rcases hk with rfl | rfl | rfl
    all_goals
      go_enter Tryz.func21, Tryz.ntmps21
      go_wp2
      go_ret
      exact ⟨rfl, hba⟩
  case c3 hk h1 h2 h3 =>
    rcases hk with rfl | rfl | rfl
    all_goals
      go_enter Tryz.func21, Tryz.ntmps21
      go_wp2
      go_ret
      exact ⟨rfl, hba⟩
  case a1 hk h1 =>
    rcases hk with rfl | rfl
    all_goals
      go_enter Tryz.func21, Tryz.ntmps21
      go_wp2
      go_ret
      exact ⟨rfl, hba⟩
  case a2 hk h1 h2 =>
    rcases hk with rfl | rfl
    all_goals
      go_enter Tryz.func21, Tryz.ntmps21
      go_wp2
      go_ret
      exact ⟨rfl, hba⟩
  all_goals
    go_enter Tryz.func21, Tryz.ntmps21
    go_wp2
    go_ret
    exact ⟨rfl, hba⟩
theorem check_walk7 (k n : Int) (s : List UInt8) (hs : s.length ≤ 1000000) (w : World) (T : Tabs w) :
    Calls Tryz.prog 14 #[.agg #[.int .i64 k, .int .i64 n, .string (bs s)]] w fun e w' => e = .returned (.int .i64 (V7.ckE k n s : Nat)) ∧ Below w.heap.size w w' := by
  have hba := alloc_in w (.cells #[.int .i64 k, .int .i64 n, .string (bs s)] 24)
  have hM := mayBe_walk k n s hs _ (T.below hba)
  unfold V7.ckE
  cases h : V7.ckV k n s
  all_goals
    rw [h] at hM
    have HM := Lib.hid hM
    clear hM
    go_enter Tryz.func14, Tryz.ntmps14
    go_wp2_with fail
    refine HM.out.mono ?_
    rintro e w1 ⟨rfl, hb1⟩
    go_wp2
    go_ret
    exact ⟨rfl, Below_in hb1⟩
end Go.Proofs.YtkmfcnilbmckmaaGreatDoor
/- The document's own Child, walked. -/
namespace Go.Proofs.YtkmfcnilbmckmaaGreatDoor
open Go.ChangeShapes Go.WideShapes Go.ChangeAt Go.RowKit K O6
set_option linter.unusedVariables false

theorem ownI_empty (w : World) (B : Nat) (T : TypeId) (hB : B ≤ w.heap.size) : OwnI (w.alloc (.cells #[] T)) B T (.slice (some ⟨w.heap.size, 0, none⟩) 0 0) [] :=
  ⟨rfl, .inr ⟨w.heap.size, 0, _, rfl, hB, rowNew w _, Nat.le_refl _, by unfold maxLen; omega, rfl, rfl⟩⟩
theorem OwnI.putAll {w : World} {B : Nat} {T : TypeId} {v : Value} {cs ds : List Nat} (h : w.ownsRow B T 1 v (cs.length + ds.length) (nums cs ++ nums ds)) : OwnI w B T v (cs ++ ds) := by
  unfold OwnI
  rw [List.length_append, nums_app]
  exact h
def chE (s : List UInt8) (x : Int) : Nat := match arcs s with
  | none => 60
  | some l => if inR x then (if isArcs (l ++ [x.toNat]) then 0 else 60) else 1
def chS (s : List UInt8) (x : Int) : List UInt8 := match arcs s with
  | none => []
  | some l => if inR x then (if isArcs (l ++ [x.toNat]) then put (l ++ [x.toNat]) else []) else []
theorem ch_none {s : List UInt8} (h : arcs s = none) (x : Int) : chE s x = 60 ∧ chS s x = [] := by unfold chE chS; rw [h]; exact ⟨rfl, rfl⟩
theorem ch_far {s : List UInt8} {l : List Nat} (h : arcs s = some l) {x : Int} (hx : inR x = false) : chE s x = 1 ∧ chS s x = [] := by
  unfold chE chS; rw [h]; simp [hx]
theorem ch_some {s : List UInt8} {l : List Nat} (h : arcs s = some l) {x : Int} (hx : inR x = true) :
    chE s x = (if isArcs (l ++ [x.toNat]) then 0 else 60) ∧ chS s x = (if isArcs (l ++ [x.toNat]) then put (l ++ [x.toNat]) else []) := by
  unfold chE chS; rw [h]; simp [hx]
end Go.Proofs.YtkmfcnilbmckmaaGreatDoor
/- strings.Builder's WriteString, walked at this translation. -/
namespace Go.Proofs.YtkmfcnilbmckmaaGreatDoor
open Go.ChangeShapes Go.WideShapes Go.ChangeAt Go.RowKit K
set_option linter.unusedVariables false

/-- A builder in block b, that has these bytes, with all that is its own behind B. -/
def Bld (B b : Nat) (l : List UInt8) (w : World) : Prop := Lib.IsBuilder 75 5 B b (Lib.byteCells l) w
theorem bytes_cells (l : List UInt8) : Lib.strCells (bs l) = Lib.byteCells l := by
  unfold Lib.strCells Lib.byteCells
  rw [bs_toList]
theorem cells_app (a b : List UInt8) : Lib.byteCells (a ++ b) = Lib.byteCells a ++ Lib.byteCells b := by
  unfold Lib.byteCells; rw [List.map_append]
theorem cells_len (a : List UInt8) : (Lib.byteCells a).length = a.length := by
  unfold Lib.byteCells; rw [List.length_map]

theorem info_b : (Tryz.prog.info? 75).map (·.size) = some 2 := by kernel_rfl
theorem info_u : (Tryz.prog.info? 5).map (fun i => (i.zero, i.size, i.bytes)) = some (some (.int .u8 0), 1, 1) := by kernel_rfl
set_option maxHeartbeats 1000000 in
set_option maxRecDepth 100000 in
theorem check_used (b : Nat) (w : World) (h0 : w.cell? ⟨b, 0, none⟩ = some (.pointer (some ⟨b, 0, none⟩))) :
    Calls Tryz.prog 99 #[.pointer (some ⟨b, 0, none⟩)] w fun e w' => e = .returned (.tuple #[]) ∧ w' = w := by
  obtain ⟨j, hj, _⟩ := Option.map_eq_some_iff.1 info_b
  go_enter Tryz.func99, Tryz.ntmps99
  go_wp2
  rw [Lib.run_neq_ptr_same w _ Tryz.underlying73 hj]
  go_wp2
  go_end0
  exact ⟨rfl, rfl⟩
set_option maxHeartbeats 1000000 in
set_option maxRecDepth 100000 in
theorem check_fresh (b : Nat) (w : World) (h0 : w.cell? ⟨b, 0, none⟩ = some (.pointer none)) (hsh : w.shape? b = some (75, 2)) (hfz : w.frozen? ⟨b, 0, none⟩ = false) :
    Calls Tryz.prog 99 #[.pointer (some ⟨b, 0, none⟩)] w fun e w' => e = .returned (.tuple #[]) ∧ w' = w.setCell ⟨b, 0, none⟩ (.pointer (some ⟨b, 0, none⟩)) := by
  obtain ⟨j, hj, hjs⟩ := Option.map_eq_some_iff.1 info_b
  go_enter Tryz.func99, Tryz.ntmps99
  go_wp2
  rw [Lib.run_to_unsafe w ⟨b, 0, none⟩ Tryz.underlying73 Tryz.underlying120 hj (by rw [hjs]; decide) hsh (Nat.zero_lt_succ 1)]
  simp only [Result.andThen]
  rw [Oper.upon_value]
  go_wp2
  rw [run_callFunc_extern Tryz.func117 (by kernel_rfl) (by kernel_rfl) (by kernel_rfl) (e := Extern.AbiNoEscape.same) (by kernel_rfl)]
  rw [Lib.run_noEscape]
  simp only [Result.andThen]
  rw [Oper.upon_value]
  go_wp2
  rw [Lib.run_from_unsafe w ⟨b, 0, none⟩ Tryz.underlying120 Tryz.underlying73 hj hsh (by kernel_rfl)]
  simp only [Result.andThen]
  rw [Oper.upon_value]
  go_wp2
  go_end0
  exact ⟨rfl, rfl⟩
/-- Blocks of another type than a builder's bytes, but for block b, are as they were. -/
def Oth (b : Nat) (w w' : World) : Prop := ∀ (k : Nat) (cs : Array Value) (T : TypeId) (fr : Nat × Nat), w.heap[k]? = some (.cells cs T fr) → T ≠ 5 → k ≠ b → w'.heap[k]? = w.heap[k]?
theorem check_any (B b : Nat) (cs : List Value) (w : World) (h : Lib.IsBuilder 75 5 B b cs w) :
    Calls Tryz.prog 99 #[.pointer (some ⟨b, 0, none⟩)] w fun e w' => e = .returned (.tuple #[]) ∧ (Lib.BuilderAt 75 5 B b (.pointer (some ⟨b, 0, none⟩)) cs w' ∧ Below B w w' ∧ Oth b w w') := by
  rcases h with h | h
  · refine (check_fresh b w h.cell0 h.shape h.frozen0).mono ?_
    rintro e w' ⟨rfl, rfl⟩
    exact ⟨rfl, h.used _, (Below.refl B w).setCell (p := ⟨b, 0, none⟩) h.1 _, fun k _ _ _ _ _ hk => Below.heap_setCell _ _ _ _ hk⟩
  · refine (check_used b w h.cell0).mono ?_
    rintro e w' ⟨rfl, rfl⟩
    exact ⟨rfl, h, Below.refl B _, fun _ _ _ _ _ _ _ => rfl⟩
set_option maxHeartbeats 2000000 in
set_option maxRecDepth 100000 in
theorem wstr (B b : Nat) (l s : List UInt8) (w : World) (h : Bld B b l w) (hlen : l.length + s.length ≤ 140737488355328) (hBw : B ≤ w.heap.size) :
    Calls Tryz.prog 65 #[.pointer (some ⟨b, 0, none⟩), .string (bs s)] w fun e w' => e = .returned (.tuple #[.int .i64 (s.length : Nat), .nilIface]) ∧ (Bld B b (l ++ s) w' ∧ Below B w w' ∧ Oth b w w') := by
  unfold Bld at h
  have hlc := cells_len l
  obtain ⟨i0, hi, hz0, hz1, hz2⟩ := info_parts info_u
  have hcells : Lib.byteCells (l ++ s) = Lib.byteCells l ++ Lib.strCells (bs s) := by rw [cells_app, bytes_cells]
  have HCL := Lib.hid hcells
  have HB := Lib.hid (show ∀ w', Bld B b (l ++ s) w' = Lib.IsBuilder 75 5 B b (Lib.byteCells (l ++ s)) w' from fun _ => rfl)
  have hsz : (bs s).size = s.length := bs_size s
  generalize Lib.byteCells l = cs at *
  have hl2 : cs.length + (bs s).size ≤ 140737488355328 := by omega
  clear hcells hlc
  generalize Lib.byteCells (l ++ s) = ds at *
  have hs2 : s.length ≤ 140737488355328 := by omega
  have HSZ := Lib.hid hsz
  clear hsz
  go_enter Tryz.func65, Tryz.ntmps65
  go_wp2_with (go_at_call 99; refine (check_any B b cs _ h).mono ?_)
  rintro e w1 ⟨rfl, h1, hb1, ho1⟩
  obtain ⟨hB, v, hbk, hown, hne⟩ := h1
  have c0 : w1.cell? ⟨b, 0, none⟩ = some (.pointer (some ⟨b, 0, none⟩)) := by rw [Lib.cell_of_heap hbk]; rfl
  have c1 : w1.cell? ⟨b, 1, none⟩ = some v := by rw [Lib.cell_of_heap hbk]; rfl
  go_wp2_with (at_builtin; refine Lib.wpList_append_own_string _ rfl _ _ 53 9 rfl B 5 i0 Tryz.underlying53 Tryz.underlying9 hi hz0 hz1 hz2 _ _ _ rfl hown (bs s) rfl ?c3 ?c4 ?c5 ?_)
  case c3 => unfold maxLen; omega
  case c4 => omega
  case c5 => have := hb1.size; omega
  intro v' w2 hown' hgrow _
  have hlt : b < w1.heap.size := lt_of_block hbk
  have hb2 : w2.heap[b]? = some (.cells #[.pointer (some ⟨b, 0, none⟩), v] 75 (0, 0)) := by
    rw [hgrow.block b hlt (fun e => hne e.symm)]
    exact hbk
  have d0 : w2.cell? ⟨b, 0, none⟩ = some (.pointer (some ⟨b, 0, none⟩)) := by rw [Lib.cell_of_heap hb2]; rfl
  have d1 : w2.cell? ⟨b, 1, none⟩ = some v := by rw [Lib.cell_of_heap hb2]; rfl
  have f1 : w2.frozen? ⟨b, 1, none⟩ = false := Lib.frozen_of_heap hb2 1
  obtain ⟨ao, n', cap, rfl⟩ : ∃ ao n' cap, v' = .slice ao n' cap := by
    rcases hown'.2 with ⟨hv, _⟩ | ⟨g, cap, cur, hv, _⟩
    · exact ⟨_, _, _, hv⟩
    · exact ⟨_, _, _, hv⟩
  go_wp2
  go_ret2
  refine ⟨rfl, ?_, ?_, ?_⟩
  · rw [HB.out, HCL.out]
    exact .inr (Lib.BuilderAt.put (T := 75) (e := 5) hB hb2 (bs' := cs ++ Lib.strCells (bs s)) (by have hq := hown'; rw [← HSZ.out] at hq; simpa [Lib.strCells_length] using hq) (by decide))
  · exact (hb1.grown hgrow (by have := hb1.size; omega) (fun k hk => (hown.lt k hk).1)).setCell (p := ⟨b, 1, none⟩) hB _
  · intro k cs T fr hk hT hkb
    have h1 := ho1 k cs T fr hk hT hkb
    rw [Below.heap_setCell _ _ _ _ hkb, hgrow.block k (lt_of_block (h1.trans hk)) (fun e => Lib.ownBlock_ne hown (h1.trans hk) hT e.symm)]
    exact h1
/-- What a builder is, stays, whatever is made behind. -/
theorem own_below {w w' : World} {B : Nat} {T : TypeId} {n : Nat} {v : Value} {m : Nat} {xs : List Value} (h : w.ownsRow B T n v m xs) (k : Below w.heap.size w w') : w'.ownsRow B T n v m xs := by
  refine ⟨h.1, ?_⟩
  rcases h.2 with hn | ⟨g, cap, cur, h1, h2, h3, h4⟩
  · exact .inl hn
  · exact .inr ⟨g, cap, cur, h1, h2, (k.block g (lt_of_block h3)).trans h3, h4⟩
theorem bld_below {w w' : World} {B b : Nat} {l : List UInt8} (h : Bld B b l w) (k : Below w.heap.size w w') : Bld B b l w' := by
  unfold Bld at *
  rcases h with ⟨hB, v, hbk, hown, hne⟩ | ⟨hB, v, hbk, hown, hne⟩
  · exact .inl ⟨hB, v, (k.block b (lt_of_block hbk)).trans hbk, own_below hown k, hne⟩
  · exact .inr ⟨hB, v, (k.block b (lt_of_block hbk)).trans hbk, own_below hown k, hne⟩
theorem own_set {w : World} {B : Nat} {e : TypeId} {n : Nat} {v : Value} {m : Nat} {xs : List Value} (h : w.ownsRow B e n v m xs) {k : Nat} {cs : Array Value} {T : TypeId} {fr : Nat × Nat} (hk : w.heap[k]? = some (.cells cs T fr)) (hT : T ≠ e) (i : Nat) (u : Value) : (w.setCell ⟨k, i, none⟩ u).ownsRow B e n v m xs := by
  refine ⟨h.1, ?_⟩
  rcases h.2 with hn | ⟨g, cap, cur, h1, h2, h3, h4⟩
  · exact .inl hn
  · refine .inr ⟨g, cap, cur, h1, h2, (Below.heap_setCell _ _ _ _ ?_).trans h3, h4⟩
    intro hgk
    have hgk' : g = k := hgk
    rw [hgk', hk] at h3
    injection h3 with h3
    injection h3 with _ h3
    exact hT h3
theorem bld_set {w : World} {B b : Nat} {l : List UInt8} (h : Bld B b l w) {k : Nat} {cs : Array Value} {T : TypeId} {fr : Nat × Nat} (hk : w.heap[k]? = some (.cells cs T fr)) (hT : T ≠ 5) (hb : b ≠ k) (i : Nat) (u : Value) : Bld B b l (w.setCell ⟨k, i, none⟩ u) := by
  unfold Bld at *
  rcases h with ⟨hB, v, hbk, hown, hne⟩ | ⟨hB, v, hbk, hown, hne⟩
  · exact .inl ⟨hB, v, (Below.heap_setCell _ _ _ _ hb).trans hbk, own_set hown hk hT i u, hne⟩
  · exact .inr ⟨hB, v, (Below.heap_setCell _ _ _ _ hb).trans hbk, own_set hown hk hT i u, hne⟩
theorem bstr (B b : Nat) (l : List UInt8) (w : World) (h : Bld B b l w) (hBw : B ≤ w.heap.size) :
    Calls Tryz.prog 67 #[.pointer (some ⟨b, 0, none⟩)] w fun e w' => e = .returned (.string (bs l)) ∧ Below B w w' :=
  Tryz.Builder_String_any B b l w h hBw
end Go.Proofs.YtkmfcnilbmckmaaGreatDoor
