/- Texts on the program and on the document, joined: ValK. -/
import Derived.Test.YtlpknkfidcojeaaGreatDoorMa19
import Derived.Test.YtlpknkfidcojeaaGreatDoorMa26
import Derived.Test.YtlpknkfidcojeaaGreatDoorMa08
import Derived.Test.YtlpknkfidcojeaaGreatDoorMa22
/- value's read, Decode, walked. -/
namespace Go.Proofs.YtlpknkfidcojeaaGreatDoor
open Go.ChangeShapes Go.WideShapes Go.ChangeAt Go.RowKit K P1 B5
set_option linter.unusedVariables false

/-- The two blocks of read, and of Decode: the element, and the value. -/
theorem two_blocksR (w : World) (k : Int) (b : List UInt8) (z : Int) : ∃ w2, (w.alloc (.cells #[.int .i64 k, .string (bs b)] 30)).alloc (.cells #[.int .i64 z, .int .i64 0, .string { data := #[] }] 40) = w2 ∧
    Vw w2 (w.heap.size + 1) z 0 [] ∧ Below w.heap.size w w2 ∧ w2.cell? ⟨w.heap.size, 0, none⟩ = some (.int .i64 k) ∧ w2.cell? ⟨w.heap.size, 1, none⟩ = some (.string (bs b)) := by
  have hr := ((alloc_in (w.alloc (.cells #[.int .i64 k, .string (bs b)] 30)) (.cells #[.int .i64 z, .int .i64 0, .string { data := #[] }] 40)).block w.heap.size (by simp)).trans (rowNew w _)
  refine ⟨_, rfl, ?_, ((Below.refl _ _).alloc (Nat.le_refl _) _).alloc (by simp) _, cellRow hr 0, cellRow hr 1⟩
  have := Vw.new (w.alloc (.cells #[.int .i64 k, .string (bs b)] 30)) z 0 []
  rw [show (w.alloc (.cells #[.int .i64 k, .string (bs b)] 30)).heap.size = w.heap.size + 1 by simp] at this
  exact this
/-- What read tells: a number, a text, and why not. -/
def rrN (k : Int) (b : List UInt8) : Int := if k = 2 then nuV b else if k = 65 ∨ k = 66 ∨ k = 67 ∨ k = 70 then wrap64 (uuV b) else 0
def rrS (k : Int) (b : List UInt8) : List UInt8 := if k = 2 then [] else if k = 65 ∨ k = 66 ∨ k = 67 ∨ k = 70 then [] else if k = 6 then deS b else b
def rrE (k : Int) (b : List UInt8) : Nat := if k = 2 then nuE b else if k = 65 ∨ k = 66 ∨ k = 67 ∨ k = 70 then uuE b else if k = 6 then deE b else 0
set_option maxRecDepth 100000 in
set_option maxHeartbeats 2000000 in
theorem read_two (b : List UInt8) (hb : b.length ≤ 1000000) (w : World) :
    Calls Tryz.prog 108 #[.agg #[.int .i64 2, .string (bs b)]] w fun e w' => e = .returned (.tuple #[.agg #[.int .i64 2, .int .i64 (nuV b), .string (bs ([]))], .int .i64 (nuE b : Nat)]) ∧ Below w.heap.size w w' := by
  have HN := Lib.hid (fun w1 => number_walk b (by omega) w1)
  generalize nuV b = N at *
  generalize nuE b = E at *
  go_enter Tryz.func108, Tryz.ntmps108
  go_wp2_with fail
  obtain ⟨w2, hw2, v1, bw, -⟩ := two_blocksR w 2 b 2
  rw [hw2]
  refine (HN.out _).mono ?_
  rintro e w1 ⟨rfl, b1⟩
  clear hw2
  replace v1 := v1.below b1
  replace bw := bw.trans (b1.mono bw.size)
  obtain ⟨c0, c1, c2, f0, f1, f2⟩ := v1.cells
  have PX := (((v1.setN N).setK 2).setN N).setS []
  go_wp2
  refine bodyPost_ret (results_cell_row2 rfl _ _ (w.heap.size + 1) _ _ _ _ rfl PX Tryz.underlying40 rfl (by kernel_rfl)) rfl ?_
  exact ⟨rfl, (((bw.setCell (p := ⟨w.heap.size + 1, 1, none⟩) (Nat.le_succ _) _).setCell (p := ⟨w.heap.size + 1, 0, none⟩) (Nat.le_succ _) _).setCell (p := ⟨w.heap.size + 1, 1, none⟩) (Nat.le_succ _) _).setCell (p := ⟨w.heap.size + 1, 2, none⟩) (Nat.le_succ _) _⟩
set_option maxRecDepth 100000 in
set_option maxHeartbeats 2000000 in
theorem read_65 (b : List UInt8) (hb : b.length ≤ 1000000) (w : World) :
    Calls Tryz.prog 108 #[.agg #[.int .i64 65, .string (bs b)]] w fun e w' => e = .returned (.tuple #[.agg #[.int .i64 65, .int .i64 (wrap64 (uuV b)), .string (bs ([]))], .int .i64 (uuE b : Nat)]) ∧ Below w.heap.size w w' := by
  have HN := Lib.hid (fun w1 => unsigned_walk b (by omega) w1)
  have hwr : IntKind.i64.wrap (uuV b) = wrap64 (uuV b) := by rw [IntKind.wrap_i64, wrap64_eq]
  generalize uuE b = E at *
  generalize wrap64 (uuV b) = Z at *
  generalize uuV b = N at *
  go_enter Tryz.func108, Tryz.ntmps108
  go_wp2_with fail
  obtain ⟨w2, hw2, v1, bw, -⟩ := two_blocksR w 65 b 65
  rw [hw2]
  refine (HN.out _).mono ?_
  rintro e w1 ⟨rfl, b1⟩
  clear hw2
  replace v1 := v1.below b1
  replace bw := bw.trans (b1.mono bw.size)
  obtain ⟨c0, c1, c2, f0, f1, f2⟩ := v1.cells
  have PX := (((v1.setN Z).setK 65).setN Z).setS []
  go_wp2
  refine bodyPost_ret (results_cell_row2 rfl _ _ (w.heap.size + 1) _ _ _ _ rfl PX Tryz.underlying40 rfl (by kernel_rfl)) rfl ?_
  exact ⟨rfl, (((bw.setCell (p := ⟨w.heap.size + 1, 1, none⟩) (Nat.le_succ _) _).setCell (p := ⟨w.heap.size + 1, 0, none⟩) (Nat.le_succ _) _).setCell (p := ⟨w.heap.size + 1, 1, none⟩) (Nat.le_succ _) _).setCell (p := ⟨w.heap.size + 1, 2, none⟩) (Nat.le_succ _) _⟩
set_option maxRecDepth 100000 in
set_option maxHeartbeats 2000000 in
theorem read_66 (b : List UInt8) (hb : b.length ≤ 1000000) (w : World) :
    Calls Tryz.prog 108 #[.agg #[.int .i64 66, .string (bs b)]] w fun e w' => e = .returned (.tuple #[.agg #[.int .i64 66, .int .i64 (wrap64 (uuV b)), .string (bs ([]))], .int .i64 (uuE b : Nat)]) ∧ Below w.heap.size w w' := by
  have HN := Lib.hid (fun w1 => unsigned_walk b (by omega) w1)
  have hwr : IntKind.i64.wrap (uuV b) = wrap64 (uuV b) := by rw [IntKind.wrap_i64, wrap64_eq]
  generalize uuE b = E at *
  generalize wrap64 (uuV b) = Z at *
  generalize uuV b = N at *
  go_enter Tryz.func108, Tryz.ntmps108
  go_wp2_with fail
  obtain ⟨w2, hw2, v1, bw, -⟩ := two_blocksR w 66 b 66
  rw [hw2]
  refine (HN.out _).mono ?_
  rintro e w1 ⟨rfl, b1⟩
  clear hw2
  replace v1 := v1.below b1
  replace bw := bw.trans (b1.mono bw.size)
  obtain ⟨c0, c1, c2, f0, f1, f2⟩ := v1.cells
  have PX := (((v1.setN Z).setK 66).setN Z).setS []
  go_wp2
  refine bodyPost_ret (results_cell_row2 rfl _ _ (w.heap.size + 1) _ _ _ _ rfl PX Tryz.underlying40 rfl (by kernel_rfl)) rfl ?_
  exact ⟨rfl, (((bw.setCell (p := ⟨w.heap.size + 1, 1, none⟩) (Nat.le_succ _) _).setCell (p := ⟨w.heap.size + 1, 0, none⟩) (Nat.le_succ _) _).setCell (p := ⟨w.heap.size + 1, 1, none⟩) (Nat.le_succ _) _).setCell (p := ⟨w.heap.size + 1, 2, none⟩) (Nat.le_succ _) _⟩
set_option maxRecDepth 100000 in
set_option maxHeartbeats 2000000 in
theorem read_67 (b : List UInt8) (hb : b.length ≤ 1000000) (w : World) :
    Calls Tryz.prog 108 #[.agg #[.int .i64 67, .string (bs b)]] w fun e w' => e = .returned (.tuple #[.agg #[.int .i64 67, .int .i64 (wrap64 (uuV b)), .string (bs ([]))], .int .i64 (uuE b : Nat)]) ∧ Below w.heap.size w w' := by
  have HN := Lib.hid (fun w1 => unsigned_walk b (by omega) w1)
  have hwr : IntKind.i64.wrap (uuV b) = wrap64 (uuV b) := by rw [IntKind.wrap_i64, wrap64_eq]
  generalize uuE b = E at *
  generalize wrap64 (uuV b) = Z at *
  generalize uuV b = N at *
  go_enter Tryz.func108, Tryz.ntmps108
  go_wp2_with fail
  obtain ⟨w2, hw2, v1, bw, -⟩ := two_blocksR w 67 b 67
  rw [hw2]
  refine (HN.out _).mono ?_
  rintro e w1 ⟨rfl, b1⟩
  clear hw2
  replace v1 := v1.below b1
  replace bw := bw.trans (b1.mono bw.size)
  obtain ⟨c0, c1, c2, f0, f1, f2⟩ := v1.cells
  have PX := (((v1.setN Z).setK 67).setN Z).setS []
  go_wp2
  refine bodyPost_ret (results_cell_row2 rfl _ _ (w.heap.size + 1) _ _ _ _ rfl PX Tryz.underlying40 rfl (by kernel_rfl)) rfl ?_
  exact ⟨rfl, (((bw.setCell (p := ⟨w.heap.size + 1, 1, none⟩) (Nat.le_succ _) _).setCell (p := ⟨w.heap.size + 1, 0, none⟩) (Nat.le_succ _) _).setCell (p := ⟨w.heap.size + 1, 1, none⟩) (Nat.le_succ _) _).setCell (p := ⟨w.heap.size + 1, 2, none⟩) (Nat.le_succ _) _⟩
set_option maxRecDepth 100000 in
set_option maxHeartbeats 2000000 in
theorem read_70 (b : List UInt8) (hb : b.length ≤ 1000000) (w : World) :
    Calls Tryz.prog 108 #[.agg #[.int .i64 70, .string (bs b)]] w fun e w' => e = .returned (.tuple #[.agg #[.int .i64 70, .int .i64 (wrap64 (uuV b)), .string (bs ([]))], .int .i64 (uuE b : Nat)]) ∧ Below w.heap.size w w' := by
  have HN := Lib.hid (fun w1 => unsigned_walk b (by omega) w1)
  have hwr : IntKind.i64.wrap (uuV b) = wrap64 (uuV b) := by rw [IntKind.wrap_i64, wrap64_eq]
  generalize uuE b = E at *
  generalize wrap64 (uuV b) = Z at *
  generalize uuV b = N at *
  go_enter Tryz.func108, Tryz.ntmps108
  go_wp2_with fail
  obtain ⟨w2, hw2, v1, bw, -⟩ := two_blocksR w 70 b 70
  rw [hw2]
  refine (HN.out _).mono ?_
  rintro e w1 ⟨rfl, b1⟩
  clear hw2
  replace v1 := v1.below b1
  replace bw := bw.trans (b1.mono bw.size)
  obtain ⟨c0, c1, c2, f0, f1, f2⟩ := v1.cells
  have PX := (((v1.setN Z).setK 70).setN Z).setS []
  go_wp2
  refine bodyPost_ret (results_cell_row2 rfl _ _ (w.heap.size + 1) _ _ _ _ rfl PX Tryz.underlying40 rfl (by kernel_rfl)) rfl ?_
  exact ⟨rfl, (((bw.setCell (p := ⟨w.heap.size + 1, 1, none⟩) (Nat.le_succ _) _).setCell (p := ⟨w.heap.size + 1, 0, none⟩) (Nat.le_succ _) _).setCell (p := ⟨w.heap.size + 1, 1, none⟩) (Nat.le_succ _) _).setCell (p := ⟨w.heap.size + 1, 2, none⟩) (Nat.le_succ _) _⟩
set_option maxRecDepth 100000 in
set_option maxHeartbeats 2000000 in
theorem read_six (b : List UInt8) (hb : b.length ≤ 1000000) (w : World) (T : Tabs w) :
    Calls Tryz.prog 108 #[.agg #[.int .i64 6, .string (bs b)]] w fun e w' => e = .returned (.tuple #[.agg #[.int .i64 6, .int .i64 (0), .string (bs (deS b))], .int .i64 (deE b : Nat)]) ∧ Below w.heap.size w w' := by
  have HN := Lib.hid (fun w1 (h : Tabs w1) => decode_walk b (by omega) w1 h)
  generalize deS b = N at *
  generalize deE b = E at *
  go_enter Tryz.func108, Tryz.ntmps108
  go_wp2_with fail
  obtain ⟨w2, hw2, v1, bw, -⟩ := two_blocksR w 6 b 6
  rw [hw2]
  refine (HN.out _ (T.below bw)).mono ?_
  rintro e w1 ⟨rfl, b1⟩
  clear hw2
  replace v1 := v1.below b1
  replace bw := bw.trans (b1.mono bw.size)
  obtain ⟨c0, c1, c2, f0, f1, f2⟩ := v1.cells
  have PX := (((v1.setS N).setK 6).setN 0).setS N
  go_wp2
  refine bodyPost_ret (results_cell_row2 rfl _ _ (w.heap.size + 1) _ _ _ _ rfl PX Tryz.underlying40 rfl (by kernel_rfl)) rfl ?_
  exact ⟨rfl, (((bw.setCell (p := ⟨w.heap.size + 1, 2, none⟩) (Nat.le_succ _) _).setCell (p := ⟨w.heap.size + 1, 0, none⟩) (Nat.le_succ _) _).setCell (p := ⟨w.heap.size + 1, 1, none⟩) (Nat.le_succ _) _).setCell (p := ⟨w.heap.size + 1, 2, none⟩) (Nat.le_succ _) _⟩
set_option maxRecDepth 100000 in
set_option maxHeartbeats 2000000 in
theorem read_else (k : Int) (h2 : (k == 2) = false) (h65 : (k == 65) = false) (h66 : (k == 66) = false) (h67 : (k == 67) = false) (h70 : (k == 70) = false) (h6 : (k == 6) = false) (b : List UInt8) (w : World) :
    Calls Tryz.prog 108 #[.agg #[.int .i64 k, .string (bs b)]] w fun e w' => e = .returned (.tuple #[.agg #[.int .i64 k, .int .i64 0, .string (bs b)], .int .i64 0]) ∧ Below w.heap.size w w' := by
  obtain ⟨w2, hw2, v1, bw, p0, p1⟩ := two_blocksR w k b k
  obtain ⟨c0, c1, c2, f0, f1, f2⟩ := v1.cells
  have PX := (((v1.setS b).setK k).setN 0).setS b
  go_enter Tryz.func108, Tryz.ntmps108
  go_wp2
  refine bodyPost_ret (results_cell_row2 rfl _ _ (w.heap.size + 1) _ _ _ _ rfl PX Tryz.underlying40 rfl (by kernel_rfl)) rfl ?_
  exact ⟨rfl, (((bw.setCell (p := ⟨w.heap.size + 1, 2, none⟩) (Nat.le_succ _) _).setCell (p := ⟨w.heap.size + 1, 0, none⟩) (Nat.le_succ _) _).setCell (p := ⟨w.heap.size + 1, 1, none⟩) (Nat.le_succ _) _).setCell (p := ⟨w.heap.size + 1, 2, none⟩) (Nat.le_succ _) _⟩
theorem read7_walk (k : Int) (b : List UInt8) (hb : b.length ≤ 1000000) (w : World) (T : Tabs w) :
    Calls Tryz.prog 108 #[.agg #[.int .i64 k, .string (bs b)]] w fun e w' => e = .returned (.tuple #[.agg #[.int .i64 k, .int .i64 (rrN k b), .string (bs (rrS k b))], .int .i64 (rrE k b : Nat)]) ∧ Below w.heap.size w w' := by
  by_cases h2 : k = 2
  · subst h2; exact read_two b hb w
  by_cases h65 : k = 65
  · subst h65; exact read_65 b hb w
  by_cases h66 : k = 66
  · subst h66; exact read_66 b hb w
  by_cases h67 : k = 67
  · subst h67; exact read_67 b hb w
  by_cases h70 : k = 70
  · subst h70; exact read_70 b hb w
  by_cases h6 : k = 6
  · subst h6; exact read_six b hb w T
  have e : ∀ c : Int, ¬ k = c → (k == c) = false := fun c h => beq_eq_false_iff_ne.2 h
  have := read_else k (e _ h2) (e _ h65) (e _ h66) (e _ h67) (e _ h70) (e _ h6) b w
  unfold rrN rrS rrE
  rw [if_neg h2, if_neg (by omega), if_neg h2, if_neg (by omega), if_neg h6, if_neg h2, if_neg (by omega), if_neg h6]
  exact this
/-- What read tells is what the body tells, if it does. -/
theorem rr_yes {k : Int} {b : List UInt8} (h : (V7.rdV k b).2.2 = true) : rrN k b = (V7.rdV k b).1 ∧ rrS k b = (V7.rdV k b).2.1 ∧ rrE k b = 0 := by
  unfold V7.rdV at *
  unfold rrN rrS rrE
  by_cases h2 : k = 2
  · simp only [if_pos h2] at *
    obtain ⟨a1, a2⟩ := nu_yes h
    exact ⟨a1, by trivial, a2⟩
  simp only [if_neg h2] at *
  by_cases h65 : k = 65 ∨ k = 66 ∨ k = 67 ∨ k = 70
  · simp only [if_pos h65] at *
    obtain ⟨a1, a2⟩ := uu_yes h
    exact ⟨by rw [a1], by trivial, a2⟩
  simp only [if_neg h65] at *
  by_cases h6 : k = 6
  · simp only [if_pos h6] at *
    obtain ⟨l, hl⟩ := Option.isSome_iff_exists.1 h
    exact ⟨by trivial, by trivial, (de_some hl).1⟩
  · simp only [if_neg h6] at *
    exact ⟨by trivial, by trivial, by trivial⟩
theorem rr_no {k : Int} {b : List UInt8} (h : (V7.rdV k b).2.2 = false) : rrE k b = 50 ∨ rrE k b = 60 := by
  unfold V7.rdV at *
  unfold rrE
  by_cases h2 : k = 2
  · simp only [if_pos h2] at *
    exact .inl (nu_no h).2
  simp only [if_neg h2] at *
  by_cases h65 : k = 65 ∨ k = 66 ∨ k = 67 ∨ k = 70
  · simp only [if_pos h65] at *
    exact .inl (uu_no h).2
  simp only [if_neg h65] at *
  by_cases h6 : k = 6
  · simp only [if_pos h6] at *
    cases hx : deA b with
    | none => exact .inr (de_none hx).1
    | some l => rw [hx] at h; cases h
  · simp only [if_neg h6] at *
    cases h
theorem deS_len (b : List UInt8) : (deS b).length ≤ 1000000 := by
  cases hx : deA b with
  | none => rw [(de_none hx).2]; simp
  | some l =>
    have hz := (deA_inv hx).1
    rw [(de_some hx).2]
    have h1 := O6.put_len l (O6.isArcs_le hz)
    have h2 := (O6.isArcs_len hz).2
    omega
theorem rrS_len (k : Int) (b : List UInt8) (hb : b.length ≤ 1000000) : (rrS k b).length ≤ 1000000 := by
  unfold rrS
  by_cases h2 : k = 2
  · rw [if_pos h2]; simp
  rw [if_neg h2]
  by_cases h65 : k = 65 ∨ k = 66 ∨ k = 67 ∨ k = 70
  · rw [if_pos h65]; simp
  rw [if_neg h65]
  by_cases h6 : k = 6
  · rw [if_pos h6]; exact deS_len b
  · rw [if_neg h6]; exact hb
set_option maxRecDepth 100000 in
set_option maxHeartbeats 2000000 in
theorem decode_walk7 (k : Int) (b : List UInt8) (hb : b.length ≤ 1000000) (w : World) (T : Tabs w) :
    Calls Tryz.prog 81 #[.agg #[.int .i64 k, .string (bs b)]] w fun e w' => e = .returned (.tuple #[.agg #[.int .i64 (V7.dvK k b), .int .i64 (V7.dvN k b), .string (bs (V7.dvS k b))], .int .i64 (V7.dvE k b : Nat)]) ∧ Below w.heap.size w w' := by
  obtain ⟨w2, hw2, v1, bw, -⟩ := two_blocksR w k b 0
  have hR := read7_walk k b hb w2 (T.below bw)
  cases hx : (V7.rdV k b).2.2
  · have hd : V7.deOk k b = false := by unfold V7.deOk; rw [hx]; rfl
    obtain ⟨d1, d2, d3, d4⟩ := V7.dv_no hd
    rw [d1, d2, d3, d4]
    have hE := rr_no hx
    have HR := Lib.hid hR
    clear hR hx hd d1 d2 d3 d4 T
    generalize rrN k b = N at *
    generalize rrS k b = S at *
    generalize rrE k b = E at *
    have HW := Lib.hid hw2
    clear hw2
    rcases hE with rfl | rfl
    all_goals
      go_enter Tryz.func81, Tryz.ntmps81
      go_wp2_with fail
      rw [HW.out]
      refine HR.out.mono ?_
      rintro e w1 ⟨rfl, b1⟩
      clear HW
      replace v1 := (v1.below b1).below (alloc_in w1 (.cells #[.int .i64 k, .int .i64 N, .string (bs S)] 40))
      replace bw := (bw.trans (b1.mono bw.size)).alloc (bw.trans (b1.mono bw.size)).size (.cells #[.int .i64 k, .int .i64 N, .string (bs S)] 40)
      obtain ⟨c0, c1, c2, f0, f1, f2⟩ := v1.cells
      have PX := ((v1.setK 0).setN 0).setS []
      go_wp2
      refine bodyPost_ret (results_cell_row2 rfl _ _ (w.heap.size + 1) _ _ _ _ rfl PX Tryz.underlying40 rfl (by kernel_rfl)) rfl ?_
      exact ⟨rfl, ((bw.setCell (p := ⟨w.heap.size + 1, 0, none⟩) (Nat.le_succ _) _).setCell (p := ⟨w.heap.size + 1, 1, none⟩) (Nat.le_succ _) _).setCell (p := ⟨w.heap.size + 1, 2, none⟩) (Nat.le_succ _) _⟩
  · have hSl := rrS_len k b hb
    have hM := fun w1 (h : Tabs w1) => mayBe_walk k (rrN k b) (rrS k b) hSl w1 h
    obtain ⟨a1, a2, a3⟩ := rr_yes hx
    have hd : V7.deOk k b = V7.ckV k (rrN k b) (rrS k b) := by unfold V7.deOk; rw [hx, a1, a2]; rfl
    rw [a3] at hR
    have HT := Lib.hid (T.below bw)
    have HW := Lib.hid hw2
    cases hk : V7.ckV k (rrN k b) (rrS k b)
    · rw [hk] at hd hM
      obtain ⟨d1, d2, d3, d4⟩ := V7.dv_no hd
      rw [d1, d2, d3, d4]
      have HR := Lib.hid hR
      have HM := Lib.hid hM
      clear hR hM hx hd d1 d2 d3 d4 a1 a2 a3 hk T hw2
      generalize rrN k b = N at *
      generalize rrS k b = S at *
      go_enter Tryz.func81, Tryz.ntmps81
      go_wp2_with fail
      rw [HW.out]
      refine HR.out.mono ?_
      rintro e w1 ⟨rfl, b1⟩
      clear HW
      have T1 := HT.out.below b1
      have T2 := Lib.hid (T1.below (alloc_in w1 (.cells #[.int .i64 k, .int .i64 N, .string (bs S)] 40)))
      replace v1 := (v1.below b1).below (alloc_in w1 (.cells #[.int .i64 k, .int .i64 N, .string (bs S)] 40))
      replace bw := (bw.trans (b1.mono bw.size)).alloc (bw.trans (b1.mono bw.size)).size (.cells #[.int .i64 k, .int .i64 N, .string (bs S)] 40)
      have hv1 := Vr.new w1 k N S
      clear b1 HT T1
      go_wp2_with fail
      refine (HM.out _ T2.out).mono ?_
      rintro e w3 ⟨rfl, b2⟩
      replace v1 := v1.below b2
      replace bw := bw.trans (b2.mono bw.size)
      obtain ⟨z0, z1, z2⟩ := hv1.below b2
      obtain ⟨c0, c1, c2, f0, f1, f2⟩ := v1.cells
      have PX := ((v1.setK 0).setN 0).setS []
      go_wp2
      refine bodyPost_ret (results_cell_row2 rfl _ _ (w.heap.size + 1) _ _ _ _ rfl PX Tryz.underlying40 rfl (by kernel_rfl)) rfl ?_
      exact ⟨rfl, ((bw.setCell (p := ⟨w.heap.size + 1, 0, none⟩) (Nat.le_succ _) _).setCell (p := ⟨w.heap.size + 1, 1, none⟩) (Nat.le_succ _) _).setCell (p := ⟨w.heap.size + 1, 2, none⟩) (Nat.le_succ _) _⟩
    · rw [hk] at hd hM
      obtain ⟨d1, d2, d3, d4⟩ := V7.dv_yes hd
      rw [d1, d2, d3, d4, ← a1, ← a2]
      have HR := Lib.hid hR
      have HM := Lib.hid hM
      clear hR hM hx hd d1 d2 d3 d4 a1 a2 a3 hk T hw2
      generalize rrN k b = N at *
      generalize rrS k b = S at *
      go_enter Tryz.func81, Tryz.ntmps81
      go_wp2_with fail
      rw [HW.out]
      refine HR.out.mono ?_
      rintro e w1 ⟨rfl, b1⟩
      clear HW
      have T1 := HT.out.below b1
      have T2 := Lib.hid (T1.below (alloc_in w1 (.cells #[.int .i64 k, .int .i64 N, .string (bs S)] 40)))
      replace v1 := (v1.below b1).below (alloc_in w1 (.cells #[.int .i64 k, .int .i64 N, .string (bs S)] 40))
      replace bw := (bw.trans (b1.mono bw.size)).alloc (bw.trans (b1.mono bw.size)).size (.cells #[.int .i64 k, .int .i64 N, .string (bs S)] 40)
      have hv1 := Vr.new w1 k N S
      clear b1 HT T1
      go_wp2_with fail
      refine (HM.out _ T2.out).mono ?_
      rintro e w3 ⟨rfl, b2⟩
      replace v1 := v1.below b2
      replace bw := bw.trans (b2.mono bw.size)
      obtain ⟨z0, z1, z2⟩ := hv1.below b2
      obtain ⟨c0, c1, c2, f0, f1, f2⟩ := v1.cells
      have PX := ((v1.setK k).setN N).setS S
      go_wp2
      refine bodyPost_ret (results_cell_row2 rfl _ _ (w.heap.size + 1) _ _ _ _ rfl PX Tryz.underlying40 rfl (by kernel_rfl)) rfl ?_
      exact ⟨rfl, ((bw.setCell (p := ⟨w.heap.size + 1, 0, none⟩) (Nat.le_succ _) _).setCell (p := ⟨w.heap.size + 1, 1, none⟩) (Nat.le_succ _) _).setCell (p := ⟨w.heap.size + 1, 2, none⟩) (Nat.le_succ _) _⟩
end Go.Proofs.YtlpknkfidcojeaaGreatDoor
