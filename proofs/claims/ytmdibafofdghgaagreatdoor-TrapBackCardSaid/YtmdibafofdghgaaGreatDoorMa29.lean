/- Texts on the program and on the document, joined: ValK, PduK. -/
import Derived.Test.YtmdibafofdghgaaGreatDoorMa16
import Derived.Test.YtmdibafofdghgaaGreatDoorMa19
import Derived.Test.YtmdibafofdghgaaGreatDoorMa07
import Derived.Test.YtmdibafofdghgaaGreatDoorMa23
import Derived.Test.YtmdibafofdghgaaGreatDoorMa24
import Derived.Test.YtmdibafofdghgaaGreatDoorMa17
import Derived.Test.YtmdibafofdghgaaGreatDoorMa21
/- value's read, Decode, walked. -/
namespace Go.Proofs.YtmdibafofdghgaaGreatDoor
open Go.ChangeShapes Go.WideShapes Go.ChangeAt Go.RowKit K P1 B5
set_option linter.unusedVariables false

/-- The two blocks of read, and of Decode: the element, and the value. -/
theorem two_blocksR (w : World) (k : Int) (b : List UInt8) (z : Int) : ∃ w2, (w.alloc (.cells #[.int .i64 k, .string (bs b)] 72)).alloc (.cells #[.int .i64 z, .int .i64 0, .string { data := #[] }] 46) = w2 ∧
    Vw w2 (w.heap.size + 1) z 0 [] ∧ Below w.heap.size w w2 ∧ w2.cell? ⟨w.heap.size, 0, none⟩ = some (.int .i64 k) ∧ w2.cell? ⟨w.heap.size, 1, none⟩ = some (.string (bs b)) := by
  have hr := ((alloc_in (w.alloc (.cells #[.int .i64 k, .string (bs b)] 72)) (.cells #[.int .i64 z, .int .i64 0, .string { data := #[] }] 46)).block w.heap.size (by simp)).trans (rowNew w _)
  refine ⟨_, rfl, ?_, ((Below.refl _ _).alloc (Nat.le_refl _) _).alloc (by simp) _, cellRow hr 0, cellRow hr 1⟩
  have := Vw.new (w.alloc (.cells #[.int .i64 k, .string (bs b)] 72)) z 0 []
  rw [show (w.alloc (.cells #[.int .i64 k, .string (bs b)] 72)).heap.size = w.heap.size + 1 by simp] at this
  exact this
/-- What read tells: a number, a text, and why not. -/
def rrN (k : Int) (b : List UInt8) : Int := if k = 2 then nuV b else if k = 65 ∨ k = 66 ∨ k = 67 ∨ k = 70 then wrap64 (uuV b) else 0
def rrS (k : Int) (b : List UInt8) : List UInt8 := if k = 2 then [] else if k = 65 ∨ k = 66 ∨ k = 67 ∨ k = 70 then [] else if k = 6 then deS b else b
def rrE (k : Int) (b : List UInt8) : Nat := if k = 2 then nuE b else if k = 65 ∨ k = 66 ∨ k = 67 ∨ k = 70 then uuE b else if k = 6 then deE b else 0
set_option maxRecDepth 100000 in
set_option maxHeartbeats 2000000 in
theorem read_two (b : List UInt8) (hb : b.length ≤ 1000000) (w : World) :
    Calls Tryz.prog 132 #[.agg #[.int .i64 2, .string (bs b)]] w fun e w' => e = .returned (.tuple #[.agg #[.int .i64 2, .int .i64 (nuV b), .string (bs ([]))], .int .i64 (nuE b : Nat)]) ∧ Below w.heap.size w w' := by
  have HN := Lib.hid (fun w1 => number_walk b (by omega) w1)
  generalize nuV b = N at *
  generalize nuE b = E at *
  go_enter Tryz.func132, Tryz.ntmps132
  go_wp2_with fail
  obtain ⟨w2, hw2, v1, bw, -⟩ := two_blocksR w 2 b 2
  rw [hw2]
  refine (HN.out _).mono ?_
  rintro e w1 ⟨rfl, b1⟩
  clear hw2
  replace v1 := v1.below b1
  replace bw := bw.trans (b1.mono bw.size)
  obtain ⟨c0, c1, c2, f0, f1, f2⟩ := v1.cells
  have PX := (((v1.setN N).setK 2).setN N).setS []
  go_wp2
  refine bodyPost_ret (results_cell_row2 rfl _ _ (w.heap.size + 1) _ _ _ _ rfl PX Tryz.underlying46 rfl (by kernel_rfl)) rfl ?_
  exact ⟨rfl, (((bw.setCell (p := ⟨w.heap.size + 1, 1, none⟩) (Nat.le_succ _) _).setCell (p := ⟨w.heap.size + 1, 0, none⟩) (Nat.le_succ _) _).setCell (p := ⟨w.heap.size + 1, 1, none⟩) (Nat.le_succ _) _).setCell (p := ⟨w.heap.size + 1, 2, none⟩) (Nat.le_succ _) _⟩
set_option maxRecDepth 100000 in
set_option maxHeartbeats 2000000 in
theorem read_65 (b : List UInt8) (hb : b.length ≤ 1000000) (w : World) :
    Calls Tryz.prog 132 #[.agg #[.int .i64 65, .string (bs b)]] w fun e w' => e = .returned (.tuple #[.agg #[.int .i64 65, .int .i64 (wrap64 (uuV b)), .string (bs ([]))], .int .i64 (uuE b : Nat)]) ∧ Below w.heap.size w w' := by
  have HN := Lib.hid (fun w1 => unsigned_walk b (by omega) w1)
  have hwr : IntKind.i64.wrap (uuV b) = wrap64 (uuV b) := by rw [IntKind.wrap_i64, wrap64_eq]
  generalize uuE b = E at *
  generalize wrap64 (uuV b) = Z at *
  generalize uuV b = N at *
  go_enter Tryz.func132, Tryz.ntmps132
  go_wp2_with fail
  obtain ⟨w2, hw2, v1, bw, -⟩ := two_blocksR w 65 b 65
  rw [hw2]
  refine (HN.out _).mono ?_
  rintro e w1 ⟨rfl, b1⟩
  clear hw2
  replace v1 := v1.below b1
  replace bw := bw.trans (b1.mono bw.size)
  obtain ⟨c0, c1, c2, f0, f1, f2⟩ := v1.cells
  have PX := (((v1.setN Z).setK 65).setN Z).setS []
  go_wp2
  refine bodyPost_ret (results_cell_row2 rfl _ _ (w.heap.size + 1) _ _ _ _ rfl PX Tryz.underlying46 rfl (by kernel_rfl)) rfl ?_
  exact ⟨rfl, (((bw.setCell (p := ⟨w.heap.size + 1, 1, none⟩) (Nat.le_succ _) _).setCell (p := ⟨w.heap.size + 1, 0, none⟩) (Nat.le_succ _) _).setCell (p := ⟨w.heap.size + 1, 1, none⟩) (Nat.le_succ _) _).setCell (p := ⟨w.heap.size + 1, 2, none⟩) (Nat.le_succ _) _⟩
set_option maxRecDepth 100000 in
set_option maxHeartbeats 2000000 in
theorem read_66 (b : List UInt8) (hb : b.length ≤ 1000000) (w : World) :
    Calls Tryz.prog 132 #[.agg #[.int .i64 66, .string (bs b)]] w fun e w' => e = .returned (.tuple #[.agg #[.int .i64 66, .int .i64 (wrap64 (uuV b)), .string (bs ([]))], .int .i64 (uuE b : Nat)]) ∧ Below w.heap.size w w' := by
  have HN := Lib.hid (fun w1 => unsigned_walk b (by omega) w1)
  have hwr : IntKind.i64.wrap (uuV b) = wrap64 (uuV b) := by rw [IntKind.wrap_i64, wrap64_eq]
  generalize uuE b = E at *
  generalize wrap64 (uuV b) = Z at *
  generalize uuV b = N at *
  go_enter Tryz.func132, Tryz.ntmps132
  go_wp2_with fail
  obtain ⟨w2, hw2, v1, bw, -⟩ := two_blocksR w 66 b 66
  rw [hw2]
  refine (HN.out _).mono ?_
  rintro e w1 ⟨rfl, b1⟩
  clear hw2
  replace v1 := v1.below b1
  replace bw := bw.trans (b1.mono bw.size)
  obtain ⟨c0, c1, c2, f0, f1, f2⟩ := v1.cells
  have PX := (((v1.setN Z).setK 66).setN Z).setS []
  go_wp2
  refine bodyPost_ret (results_cell_row2 rfl _ _ (w.heap.size + 1) _ _ _ _ rfl PX Tryz.underlying46 rfl (by kernel_rfl)) rfl ?_
  exact ⟨rfl, (((bw.setCell (p := ⟨w.heap.size + 1, 1, none⟩) (Nat.le_succ _) _).setCell (p := ⟨w.heap.size + 1, 0, none⟩) (Nat.le_succ _) _).setCell (p := ⟨w.heap.size + 1, 1, none⟩) (Nat.le_succ _) _).setCell (p := ⟨w.heap.size + 1, 2, none⟩) (Nat.le_succ _) _⟩
set_option maxRecDepth 100000 in
set_option maxHeartbeats 2000000 in
theorem read_67 (b : List UInt8) (hb : b.length ≤ 1000000) (w : World) :
    Calls Tryz.prog 132 #[.agg #[.int .i64 67, .string (bs b)]] w fun e w' => e = .returned (.tuple #[.agg #[.int .i64 67, .int .i64 (wrap64 (uuV b)), .string (bs ([]))], .int .i64 (uuE b : Nat)]) ∧ Below w.heap.size w w' := by
  have HN := Lib.hid (fun w1 => unsigned_walk b (by omega) w1)
  have hwr : IntKind.i64.wrap (uuV b) = wrap64 (uuV b) := by rw [IntKind.wrap_i64, wrap64_eq]
  generalize uuE b = E at *
  generalize wrap64 (uuV b) = Z at *
  generalize uuV b = N at *
  go_enter Tryz.func132, Tryz.ntmps132
  go_wp2_with fail
  obtain ⟨w2, hw2, v1, bw, -⟩ := two_blocksR w 67 b 67
  rw [hw2]
  refine (HN.out _).mono ?_
  rintro e w1 ⟨rfl, b1⟩
  clear hw2
  replace v1 := v1.below b1
  replace bw := bw.trans (b1.mono bw.size)
  obtain ⟨c0, c1, c2, f0, f1, f2⟩ := v1.cells
  have PX := (((v1.setN Z).setK 67).setN Z).setS []
  go_wp2
  refine bodyPost_ret (results_cell_row2 rfl _ _ (w.heap.size + 1) _ _ _ _ rfl PX Tryz.underlying46 rfl (by kernel_rfl)) rfl ?_
  exact ⟨rfl, (((bw.setCell (p := ⟨w.heap.size + 1, 1, none⟩) (Nat.le_succ _) _).setCell (p := ⟨w.heap.size + 1, 0, none⟩) (Nat.le_succ _) _).setCell (p := ⟨w.heap.size + 1, 1, none⟩) (Nat.le_succ _) _).setCell (p := ⟨w.heap.size + 1, 2, none⟩) (Nat.le_succ _) _⟩
set_option maxRecDepth 100000 in
set_option maxHeartbeats 2000000 in
theorem read_70 (b : List UInt8) (hb : b.length ≤ 1000000) (w : World) :
    Calls Tryz.prog 132 #[.agg #[.int .i64 70, .string (bs b)]] w fun e w' => e = .returned (.tuple #[.agg #[.int .i64 70, .int .i64 (wrap64 (uuV b)), .string (bs ([]))], .int .i64 (uuE b : Nat)]) ∧ Below w.heap.size w w' := by
  have HN := Lib.hid (fun w1 => unsigned_walk b (by omega) w1)
  have hwr : IntKind.i64.wrap (uuV b) = wrap64 (uuV b) := by rw [IntKind.wrap_i64, wrap64_eq]
  generalize uuE b = E at *
  generalize wrap64 (uuV b) = Z at *
  generalize uuV b = N at *
  go_enter Tryz.func132, Tryz.ntmps132
  go_wp2_with fail
  obtain ⟨w2, hw2, v1, bw, -⟩ := two_blocksR w 70 b 70
  rw [hw2]
  refine (HN.out _).mono ?_
  rintro e w1 ⟨rfl, b1⟩
  clear hw2
  replace v1 := v1.below b1
  replace bw := bw.trans (b1.mono bw.size)
  obtain ⟨c0, c1, c2, f0, f1, f2⟩ := v1.cells
  have PX := (((v1.setN Z).setK 70).setN Z).setS []
  go_wp2
  refine bodyPost_ret (results_cell_row2 rfl _ _ (w.heap.size + 1) _ _ _ _ rfl PX Tryz.underlying46 rfl (by kernel_rfl)) rfl ?_
  exact ⟨rfl, (((bw.setCell (p := ⟨w.heap.size + 1, 1, none⟩) (Nat.le_succ _) _).setCell (p := ⟨w.heap.size + 1, 0, none⟩) (Nat.le_succ _) _).setCell (p := ⟨w.heap.size + 1, 1, none⟩) (Nat.le_succ _) _).setCell (p := ⟨w.heap.size + 1, 2, none⟩) (Nat.le_succ _) _⟩
set_option maxRecDepth 100000 in
set_option maxHeartbeats 2000000 in
theorem read_six (b : List UInt8) (hb : b.length ≤ 1000000) (w : World) (T : Tabs w) :
    Calls Tryz.prog 132 #[.agg #[.int .i64 6, .string (bs b)]] w fun e w' => e = .returned (.tuple #[.agg #[.int .i64 6, .int .i64 (0), .string (bs (deS b))], .int .i64 (deE b : Nat)]) ∧ Below w.heap.size w w' := by
  have HN := Lib.hid (fun w1 (h : Tabs w1) => decode_walk b (by omega) w1 h)
  generalize deS b = N at *
  generalize deE b = E at *
  go_enter Tryz.func132, Tryz.ntmps132
  go_wp2_with fail
  obtain ⟨w2, hw2, v1, bw, -⟩ := two_blocksR w 6 b 6
  rw [hw2]
  refine (HN.out _ (T.below bw)).mono ?_
  rintro e w1 ⟨rfl, b1⟩
  clear hw2
  replace v1 := v1.below b1
  replace bw := bw.trans (b1.mono bw.size)
  obtain ⟨c0, c1, c2, f0, f1, f2⟩ := v1.cells
  have PX := (((v1.setS N).setK 6).setN 0).setS N
  go_wp2
  refine bodyPost_ret (results_cell_row2 rfl _ _ (w.heap.size + 1) _ _ _ _ rfl PX Tryz.underlying46 rfl (by kernel_rfl)) rfl ?_
  exact ⟨rfl, (((bw.setCell (p := ⟨w.heap.size + 1, 2, none⟩) (Nat.le_succ _) _).setCell (p := ⟨w.heap.size + 1, 0, none⟩) (Nat.le_succ _) _).setCell (p := ⟨w.heap.size + 1, 1, none⟩) (Nat.le_succ _) _).setCell (p := ⟨w.heap.size + 1, 2, none⟩) (Nat.le_succ _) _⟩
set_option maxRecDepth 100000 in
set_option maxHeartbeats 2000000 in
theorem read_else (k : Int) (h2 : (k == 2) = false) (h65 : (k == 65) = false) (h66 : (k == 66) = false) (h67 : (k == 67) = false) (h70 : (k == 70) = false) (h6 : (k == 6) = false) (b : List UInt8) (w : World) :
    Calls Tryz.prog 132 #[.agg #[.int .i64 k, .string (bs b)]] w fun e w' => e = .returned (.tuple #[.agg #[.int .i64 k, .int .i64 0, .string (bs b)], .int .i64 0]) ∧ Below w.heap.size w w' := by
  obtain ⟨w2, hw2, v1, bw, p0, p1⟩ := two_blocksR w k b k
  obtain ⟨c0, c1, c2, f0, f1, f2⟩ := v1.cells
  have PX := (((v1.setS b).setK k).setN 0).setS b
  go_enter Tryz.func132, Tryz.ntmps132
  go_wp2
  refine bodyPost_ret (results_cell_row2 rfl _ _ (w.heap.size + 1) _ _ _ _ rfl PX Tryz.underlying46 rfl (by kernel_rfl)) rfl ?_
  exact ⟨rfl, (((bw.setCell (p := ⟨w.heap.size + 1, 2, none⟩) (Nat.le_succ _) _).setCell (p := ⟨w.heap.size + 1, 0, none⟩) (Nat.le_succ _) _).setCell (p := ⟨w.heap.size + 1, 1, none⟩) (Nat.le_succ _) _).setCell (p := ⟨w.heap.size + 1, 2, none⟩) (Nat.le_succ _) _⟩
theorem read7_walk (k : Int) (b : List UInt8) (hb : b.length ≤ 1000000) (w : World) (T : Tabs w) :
    Calls Tryz.prog 132 #[.agg #[.int .i64 k, .string (bs b)]] w fun e w' => e = .returned (.tuple #[.agg #[.int .i64 k, .int .i64 (rrN k b), .string (bs (rrS k b))], .int .i64 (rrE k b : Nat)]) ∧ Below w.heap.size w w' := by
  by_cases h2 : k = 2
  · subst h2; exact read_two b hb w
  by_cases h65 : k = 65
  · subst h65; exact read_65 b hb w
  by_cases h66 : k = 66
  · subst h66; exact read_66 b hb w
  by_cases h67 : k = 67
  · subst h67; exact read_67 b hb w
  by_cases h70 : k = 70
  · subst h70; exact read_70 b hb w
  by_cases h6 : k = 6
  · subst h6; exact read_six b hb w T
  have e : ∀ c : Int, ¬ k = c → (k == c) = false := fun c h => beq_eq_false_iff_ne.2 h
  have := read_else k (e _ h2) (e _ h65) (e _ h66) (e _ h67) (e _ h70) (e _ h6) b w
  unfold rrN rrS rrE
  rw [if_neg h2, if_neg (by omega), if_neg h2, if_neg (by omega), if_neg h6, if_neg h2, if_neg (by omega), if_neg h6]
  exact this
/-- What read tells is what the body tells, if it does. -/
theorem rr_yes {k : Int} {b : List UInt8} (h : (V7.rdV k b).2.2 = true) : rrN k b = (V7.rdV k b).1 ∧ rrS k b = (V7.rdV k b).2.1 ∧ rrE k b = 0 := by
  unfold V7.rdV at *
  unfold rrN rrS rrE
  by_cases h2 : k = 2
  · simp only [if_pos h2] at *
    obtain ⟨a1, a2⟩ := nu_yes h
    exact ⟨a1, by trivial, a2⟩
  simp only [if_neg h2] at *
  by_cases h65 : k = 65 ∨ k = 66 ∨ k = 67 ∨ k = 70
  · simp only [if_pos h65] at *
    obtain ⟨a1, a2⟩ := uu_yes h
    exact ⟨by rw [a1], by trivial, a2⟩
  simp only [if_neg h65] at *
  by_cases h6 : k = 6
  · simp only [if_pos h6] at *
    obtain ⟨l, hl⟩ := Option.isSome_iff_exists.1 h
    exact ⟨by trivial, by trivial, (de_some hl).1⟩
  · simp only [if_neg h6] at *
    exact ⟨by trivial, by trivial, by trivial⟩
theorem rr_no {k : Int} {b : List UInt8} (h : (V7.rdV k b).2.2 = false) : rrE k b = 50 ∨ rrE k b = 60 := by
  unfold V7.rdV at *
  unfold rrE
  by_cases h2 : k = 2
  · simp only [if_pos h2] at *
    exact .inl (nu_no h).2
  simp only [if_neg h2] at *
  by_cases h65 : k = 65 ∨ k = 66 ∨ k = 67 ∨ k = 70
  · simp only [if_pos h65] at *
    exact .inl (uu_no h).2
  simp only [if_neg h65] at *
  by_cases h6 : k = 6
  · simp only [if_pos h6] at *
    cases hx : deA b with
    | none => exact .inr (de_none hx).1
    | some l => rw [hx] at h; cases h
  · simp only [if_neg h6] at *
    cases h
theorem deS_len (b : List UInt8) : (deS b).length ≤ 1000000 := by
  cases hx : deA b with
  | none => rw [(de_none hx).2]; simp
  | some l =>
    have hz := (deA_inv hx).1
    rw [(de_some hx).2]
    have h1 := O6.put_len l (O6.isArcs_le hz)
    have h2 := (O6.isArcs_len hz).2
    omega
theorem rrS_len (k : Int) (b : List UInt8) (hb : b.length ≤ 1000000) : (rrS k b).length ≤ 1000000 := by
  unfold rrS
  by_cases h2 : k = 2
  · rw [if_pos h2]; simp
  rw [if_neg h2]
  by_cases h65 : k = 65 ∨ k = 66 ∨ k = 67 ∨ k = 70
  · rw [if_pos h65]; simp
  rw [if_neg h65]
  by_cases h6 : k = 6
  · rw [if_pos h6]; exact deS_len b
  · rw [if_neg h6]; exact hb
set_option maxRecDepth 100000 in
set_option maxHeartbeats 2000000 in
theorem decode_walk7 (k : Int) (b : List UInt8) (hb : b.length ≤ 1000000) (w : World) (T : Tabs w) :
    Calls Tryz.prog 116 #[.agg #[.int .i64 k, .string (bs b)]] w fun e w' => e = .returned (.tuple #[.agg #[.int .i64 (V7.dvK k b), .int .i64 (V7.dvN k b), .string (bs (V7.dvS k b))], .int .i64 (V7.dvE k b : Nat)]) ∧ Below w.heap.size w w' := by
  obtain ⟨w2, hw2, v1, bw, -⟩ := two_blocksR w k b 0
  have hR := read7_walk k b hb w2 (T.below bw)
  cases hx : (V7.rdV k b).2.2
  · have hd : V7.deOk k b = false := by unfold V7.deOk; rw [hx]; rfl
    obtain ⟨d1, d2, d3, d4⟩ := V7.dv_no hd
    rw [d1, d2, d3, d4]
    have hE := rr_no hx
    have HR := Lib.hid hR
    clear hR hx hd d1 d2 d3 d4 T
    generalize rrN k b = N at *
    generalize rrS k b = S at *
    generalize rrE k b = E at *
    have HW := Lib.hid hw2
    clear hw2
    rcases hE with rfl | rfl
    all_goals
      go_enter Tryz.func116, Tryz.ntmps116
      go_wp2_with fail
      rw [HW.out]
      refine HR.out.mono ?_
      rintro e w1 ⟨rfl, b1⟩
      clear HW
      replace v1 := (v1.below b1).below (alloc_in w1 (.cells #[.int .i64 k, .int .i64 N, .string (bs S)] 46))
      replace bw := (bw.trans (b1.mono bw.size)).alloc (bw.trans (b1.mono bw.size)).size (.cells #[.int .i64 k, .int .i64 N, .string (bs S)] 46)
      obtain ⟨c0, c1, c2, f0, f1, f2⟩ := v1.cells
      have PX := ((v1.setK 0).setN 0).setS []
      go_wp2
      refine bodyPost_ret (results_cell_row2 rfl _ _ (w.heap.size + 1) _ _ _ _ rfl PX Tryz.underlying46 rfl (by kernel_rfl)) rfl ?_
      exact ⟨rfl, ((bw.setCell (p := ⟨w.heap.size + 1, 0, none⟩) (Nat.le_succ _) _).setCell (p := ⟨w.heap.size + 1, 1, none⟩) (Nat.le_succ _) _).setCell (p := ⟨w.heap.size + 1, 2, none⟩) (Nat.le_succ _) _⟩
  · have hSl := rrS_len k b hb
    have hM := fun w1 (h : Tabs w1) => mayBe_walk k (rrN k b) (rrS k b) hSl w1 h
    obtain ⟨a1, a2, a3⟩ := rr_yes hx
    have hd : V7.deOk k b = V7.ckV k (rrN k b) (rrS k b) := by unfold V7.deOk; rw [hx, a1, a2]; rfl
    rw [a3] at hR
    have HT := Lib.hid (T.below bw)
    have HW := Lib.hid hw2
    cases hk : V7.ckV k (rrN k b) (rrS k b)
    · rw [hk] at hd hM
      obtain ⟨d1, d2, d3, d4⟩ := V7.dv_no hd
      rw [d1, d2, d3, d4]
      have HR := Lib.hid hR
      have HM := Lib.hid hM
      clear hR hM hx hd d1 d2 d3 d4 a1 a2 a3 hk T hw2
      generalize rrN k b = N at *
      generalize rrS k b = S at *
      go_enter Tryz.func116, Tryz.ntmps116
      go_wp2_with fail
      rw [HW.out]
      refine HR.out.mono ?_
      rintro e w1 ⟨rfl, b1⟩
      clear HW
      have T1 := HT.out.below b1
      have T2 := Lib.hid (T1.below (alloc_in w1 (.cells #[.int .i64 k, .int .i64 N, .string (bs S)] 46)))
      replace v1 := (v1.below b1).below (alloc_in w1 (.cells #[.int .i64 k, .int .i64 N, .string (bs S)] 46))
      replace bw := (bw.trans (b1.mono bw.size)).alloc (bw.trans (b1.mono bw.size)).size (.cells #[.int .i64 k, .int .i64 N, .string (bs S)] 46)
      have hv1 := Vr.new w1 k N S
      clear b1 HT T1
      go_wp2_with fail
      refine (HM.out _ T2.out).mono ?_
      rintro e w3 ⟨rfl, b2⟩
      replace v1 := v1.below b2
      replace bw := bw.trans (b2.mono bw.size)
      obtain ⟨z0, z1, z2⟩ := hv1.below b2
      obtain ⟨c0, c1, c2, f0, f1, f2⟩ := v1.cells
      have PX := ((v1.setK 0).setN 0).setS []
      go_wp2
      refine bodyPost_ret (results_cell_row2 rfl _ _ (w.heap.size + 1) _ _ _ _ rfl PX Tryz.underlying46 rfl (by kernel_rfl)) rfl ?_
      exact ⟨rfl, ((bw.setCell (p := ⟨w.heap.size + 1, 0, none⟩) (Nat.le_succ _) _).setCell (p := ⟨w.heap.size + 1, 1, none⟩) (Nat.le_succ _) _).setCell (p := ⟨w.heap.size + 1, 2, none⟩) (Nat.le_succ _) _⟩
    · rw [hk] at hd hM
      obtain ⟨d1, d2, d3, d4⟩ := V7.dv_yes hd
      rw [d1, d2, d3, d4, ← a1, ← a2]
      have HR := Lib.hid hR
      have HM := Lib.hid hM
      clear hR hM hx hd d1 d2 d3 d4 a1 a2 a3 hk T hw2
      generalize rrN k b = N at *
      generalize rrS k b = S at *
      go_enter Tryz.func116, Tryz.ntmps116
      go_wp2_with fail
      rw [HW.out]
      refine HR.out.mono ?_
      rintro e w1 ⟨rfl, b1⟩
      clear HW
      have T1 := HT.out.below b1
      have T2 := Lib.hid (T1.below (alloc_in w1 (.cells #[.int .i64 k, .int .i64 N, .string (bs S)] 46)))
      replace v1 := (v1.below b1).below (alloc_in w1 (.cells #[.int .i64 k, .int .i64 N, .string (bs S)] 46))
      replace bw := (bw.trans (b1.mono bw.size)).alloc (bw.trans (b1.mono bw.size)).size (.cells #[.int .i64 k, .int .i64 N, .string (bs S)] 46)
      have hv1 := Vr.new w1 k N S
      clear b1 HT T1
      go_wp2_with fail
      refine (HM.out _ T2.out).mono ?_
      rintro e w3 ⟨rfl, b2⟩
      replace v1 := v1.below b2
      replace bw := bw.trans (b2.mono bw.size)
      obtain ⟨z0, z1, z2⟩ := hv1.below b2
      obtain ⟨c0, c1, c2, f0, f1, f2⟩ := v1.cells
      have PX := ((v1.setK k).setN N).setS S
      go_wp2
      refine bodyPost_ret (results_cell_row2 rfl _ _ (w.heap.size + 1) _ _ _ _ rfl PX Tryz.underlying46 rfl (by kernel_rfl)) rfl ?_
      exact ⟨rfl, ((bw.setCell (p := ⟨w.heap.size + 1, 0, none⟩) (Nat.le_succ _) _).setCell (p := ⟨w.heap.size + 1, 1, none⟩) (Nat.le_succ _) _).setCell (p := ⟨w.heap.size + 1, 2, none⟩) (Nat.le_succ _) _⟩
end Go.Proofs.YtmdibafofdghgaaGreatDoor
/- pdu's partsOf, readBind, walked. -/
namespace Go.Proofs.YtmdibafofdghgaaGreatDoor
open Go.ChangeShapes Go.WideShapes Go.ChangeAt Go.RowKit K P1 B5
open D8 (Bd Un lst deB deL deU)
set_option linter.unusedVariables false

def PoPost (l : List UInt8) (w : World) (e : Ending) (w' : World) : Prop :=
  (∃ c : Nat, prt 0 l = .error c ∧ e = .returned (.tuple #[.slice none 0 0, .bool false]) ∧ Below w.heap.size w w') ∨
  (∃ ps v, prt 0 l = .ok ps ∧ e = .returned (.tuple #[v, .bool true]) ∧ OwnP w' w.heap.size 72 v ps ∧ Below w.heap.size w w')
set_option maxRecDepth 100000 in
theorem partsof_walk (t : Int) (b : List UInt8) (hp : b.length ≤ 140737488351232) (w : World) :
    Calls Tryz.prog 68 #[.agg #[.int .i64 t, .string (bs b)]] w (PoPost b w) := by
  have HQ := Lib.hid (fun w1 => parts_list_walk b hp w1)
  unfold PaPost at HQ
  have hba := alloc_in w (.cells #[.int .i64 t, .string (bs b)] 72)
  go_enter Tryz.func68, Tryz.ntmps68
  go_wp2_with fail
  refine (HQ.out _).mono ?_
  rintro e w1 (⟨c, h, rfl, b1⟩ | ⟨ps, v, h, rfl, ho, b1⟩)
  · have hc : (((c : Nat) : Int) == 0) = false := by rw [beq_eq_false_iff_ne]; rcases prt_err h with rfl | rfl <;> decide
    have HH := Lib.hid h
    clear h HQ
    go_wp2
    go_ret2
    exact .inl ⟨c, HH.out, rfl, Below_in b1⟩
  · have HH := Lib.hid h
    have ho2 := ho.mono (B' := w.heap.size) (by simp)
    clear h HQ ho
    go_wp2
    go_ret2
    exact .inr ⟨ps, v, HH.out, rfl, ho2, Below_in b1⟩
/-- The two blocks of readBind: the element, and what is handed back. -/
theorem two_blocksK (w : World) (k : Int) (b : List UInt8) : ∃ w2, (w.alloc (.cells #[.int .i64 k, .string (bs b)] 72)).alloc (.cells #[.string { data := #[] }, .int .i64 0, .int .i64 0, .string { data := #[] }] 48) = w2 ∧
    Bq w2 (w.heap.size + 1) nob ∧ Prt w2 w.heap.size 72 k b ∧ Below w.heap.size w w2 := by
  have hr := ((alloc_in (w.alloc (.cells #[.int .i64 k, .string (bs b)] 72)) (.cells #[.string { data := #[] }, .int .i64 0, .int .i64 0, .string { data := #[] }] 48)).block w.heap.size (by simp)).trans (rowNew w _)
  refine ⟨_, rfl, ?_, hr, ((Below.refl _ _).alloc (Nat.le_refl _) _).alloc (by simp) _⟩
  have := Bq.new (w.alloc (.cells #[.int .i64 k, .string (bs b)] 72)) nob
  rw [show (w.alloc (.cells #[.int .i64 k, .string (bs b)] 72)).heap.size = w.heap.size + 1 by simp] at this
  exact this
set_option maxRecDepth 100000 in
set_option maxHeartbeats 2000000 in
theorem readbind_no (t : Int) (b : List UInt8) (hp : b.length ≤ 140737488351232) (w : World) (hn : (∃ c, prt 0 b = .error c) ∨ ∃ ps, prt 0 b = .ok ps ∧ ((t != 48) = true ∨ (t = 48 ∧ ((((ps.length : Nat) : Int) != 2) = true ∨ ∃ q1 q2, ps = [q1, q2] ∧ (((q1.1 : Nat) : Int) != 6) = true)))) :
    Calls Tryz.prog 92 #[.agg #[.int .i64 t, .string (bs b)]] w fun e w' => e = .returned (.tuple #[.agg #[.string (bs []), .int .i64 0, .int .i64 0, .string (bs [])], .bool false]) ∧ Below w.heap.size w w' := by
  have HQ := Lib.hid (fun w1 => partsof_walk t b hp w1)
  unfold PoPost at HQ
  obtain ⟨w2, hw2, hq, hpt, bw⟩ := two_blocksK w t b
  have HW := Lib.hid hw2
  clear hw2
  rcases hn with ⟨c, h⟩ | ⟨ps, h, hn⟩
  · go_enter Tryz.func92, Tryz.ntmps92
    go_wp2_with fail
    rw [HW.out]
    refine (HQ.out _).mono ?_
    rintro e w1 (⟨c', h', rfl, b1⟩ | ⟨ps', v, h', rfl, ho, b1⟩)
    rotate_left
    · rw [h] at h'; cases h'
    clear h h'
    replace hq := hq.below b1
    replace hpt := hpt.keep b1
    replace bw := bw.trans (b1.mono bw.size)
    clear HQ HW b1
    obtain ⟨c0, c1, c2, c3⟩ := hq.cells
    obtain ⟨f0, f1, f2, f3⟩ := hq.free
    obtain ⟨d0, d1, _, _⟩ := hpt.cells
    have PX := hq.set nob
    have bb := below_set4 bw (b := w.heap.size + 1) (Nat.le_succ _) (.string (bs [])) (.int .i64 0) (.int .i64 0) (.string (bs []))
    go_wp2
    refine bodyPost_ret (results_cell_row2 rfl _ _ (w.heap.size + 1) _ _ _ _ rfl PX Tryz.underlying48 rfl (by kernel_rfl)) rfl ?_
    exact ⟨rfl, bb⟩
  · have HH := Lib.hid h
    clear h
    rcases hn with ht | ⟨rfl, hl | ⟨q1, q2, rfl, hl⟩⟩
    all_goals
      go_enter Tryz.func92, Tryz.ntmps92
      go_wp2_with fail
      rw [HW.out]
      refine (HQ.out _).mono ?_
      rintro e w1 (⟨c', h', rfl, b1⟩ | ⟨ps', v, h', rfl, ho, b1⟩)
      · have h := HH.out; rw [h'] at h; cases h
      have h2 := HH.out
      rw [h'] at h2
      injection h2 with h2
      subst h2
      obtain ⟨ao, cap, rfl, hf⟩ := ho.form
      replace hq := hq.below b1
      replace hpt := hpt.keep b1
      replace bw := bw.trans (b1.mono bw.size)
      clear HQ HW b1 ho h' HH
      obtain ⟨c0, c1, c2, c3⟩ := hq.cells
      obtain ⟨f0, f1, f2, f3⟩ := hq.free
      obtain ⟨d0, d1, _, _⟩ := hpt.cells
      have PX := hq.set nob
      have bb := below_set4 bw (b := w.heap.size + 1) (Nat.le_succ _) (.string (bs [])) (.int .i64 0) (.int .i64 0) (.string (bs []))
    · clear hf
      go_wp2
      refine bodyPost_ret (results_cell_row2 rfl _ _ (w.heap.size + 1) _ _ _ _ rfl PX Tryz.underlying48 rfl (by kernel_rfl)) rfl ?_
      exact ⟨rfl, bb⟩
    · clear hf
      go_wp2
      refine bodyPost_ret (results_cell_row2 rfl _ _ (w.heap.size + 1) _ _ _ _ rfl PX Tryz.underlying48 rfl (by kernel_rfl)) rfl ?_
      exact ⟨rfl, bb⟩
    · rcases hf with h0 | ⟨g, rfl, hg1, hg2, hg⟩
      · simp at h0
      obtain ⟨g0, g1⟩ := hg 0 (by simp)
      simp only [List.getD_cons_zero, Nat.zero_mul] at g0 g1
      go_wp2
      refine bodyPost_ret (results_cell_row2 rfl _ _ (w.heap.size + 1) _ _ _ _ rfl PX Tryz.underlying48 rfl (by kernel_rfl)) rfl ?_
      exact ⟨rfl, bb⟩
set_option maxRecDepth 100000 in
set_option maxHeartbeats 2000000 in
theorem readbind_yes (b : List UInt8) (hp : b.length ≤ 1000000) (w : World) (T : Tabs w) (q1 q2 : Nat × List UInt8) (h : prt 0 b = .ok [q1, q2]) (hq6 : q1.1 = 6) :
    Calls Tryz.prog 92 #[.agg #[.int .i64 48, .string (bs b)]] w (BiPost (48, b) w) := by
  have HQ := Lib.hid (fun w1 => partsof_walk 48 b (by omega) w1)
  unfold PoPost at HQ
  have hm := prt_mem _ _ b _ (Nat.le_refl _) h
  have hm1 := (hm q1 (by simp)).2
  have hm2 := (hm q2 (by simp)).2
  have hO := fun w1 (T1 : Tabs w1) => decode_walk q1.2 (by omega) w1 T1
  have HV := Lib.hid (fun w1 (T1 : Tabs w1) => decode_walk7 (q2.1 : Nat) q2.2 (by omega) w1 T1)
  obtain ⟨t1, l1⟩ := q1
  obtain ⟨t2, l2⟩ := q2
  have hq6' : t1 = 6 := hq6
  subst hq6'
  have hdB : deB (48, b) = if (deA l1).isSome = true ∧ V7.deOk (t2 : Nat) l2 = true then some ⟨deS l1, (t2 : Nat), (V7.rdV (t2 : Nat) l2).1, (V7.rdV (t2 : Nat) l2).2.1⟩ else none := by
    unfold deB; simp only [h, true_and]
  obtain ⟨s1, s2⟩ := deB_yes (6, l1) (t2, l2) hdB
  simp only [] at s1 s2
  clear hm hm1 hm2 hq6
  have HH := Lib.hid h
  clear h hdB
  simp only [] at hO HV
  obtain ⟨w2, hw2, hq, hpt, bw⟩ := two_blocksK w 48 b
  have HW := Lib.hid hw2
  have HT := Lib.hid T
  clear hw2 T
  cases hA : (deA l1).isSome
  · have e1 : (((deE l1 : Nat) : Int) != 0) = true := by rw [bne, deE_zero, hA]; rfl
    rw [hA, Bool.false_and] at s1
    have HB := Lib.hid (show ∀ wa, Below w.heap.size w wa → BiPost (48, b) w (.returned (.tuple #[.agg #[.string (bs []), .int .i64 0, .int .i64 0, .string (bs [])], .bool false])) wa from fun wa hb => ⟨nob, by rw [s1]; rfl, fun y hy => (by rw [hy] at s1; cases s1), hb⟩)
    have HO := Lib.hid hO
    clear s1 s2 hO hA HV
    generalize deS l1 = S1 at *
    generalize deE l1 = E1 at *
    go_enter Tryz.func92, Tryz.ntmps92
    go_wp2_with fail
    rw [HW.out]
    refine (HQ.out _).mono ?_
    rintro e w1 (⟨c', h', rfl, b1⟩ | ⟨ps', v, h', rfl, ho, b1⟩)
    · have h := HH.out; rw [h'] at h; cases h
    have h2 := HH.out
    rw [h'] at h2
    injection h2 with h2
    subst h2
    obtain ⟨ao, cap, rfl, hf⟩ := ho.form
    replace hq := hq.below b1
    replace hpt := hpt.keep b1
    replace bw := bw.trans (b1.mono bw.size)
    clear HQ HW b1 h' HH
    obtain ⟨d0, d1, _, _⟩ := hpt.cells
    rcases hf with h0 | ⟨g, rfl, hg1, hg2, hg⟩
    · simp at h0
    obtain ⟨g0, g1⟩ := hg 0 (by simp)
    simp only [List.getD_cons_zero, Nat.zero_mul, Nat.zero_add] at g0 g1
    clear hg ho
    go_wp2_with fail
    refine (HO.out _ (HT.out.below bw)).mono ?_
    rintro e w3 ⟨rfl, b3⟩
    replace hq := hq.below b3
    replace bw := bw.trans (b3.mono bw.size)
    obtain ⟨c0, c1, c2, c3⟩ := hq.cells
    obtain ⟨f0, f1, f2, f3⟩ := hq.free
    have PX := hq.set nob
    have bb := below_set4 bw (b := w.heap.size + 1) (Nat.le_succ _) (.string (bs [])) (.int .i64 0) (.int .i64 0) (.string (bs []))
    go_wp2
    refine bodyPost_ret (results_cell_row2 rfl _ _ (w.heap.size + 1) _ _ _ _ rfl PX Tryz.underlying48 rfl (by kernel_rfl)) rfl ?_
    exact HB.out _ bb
  · have e1 : deE l1 = 0 := by
      cases hx : deA l1 with
      | none => rw [hx] at hA; cases hA
      | some l => exact (de_some hx).1
    rw [e1] at hO
    rw [hA, Bool.true_and, ← dvE_zero] at s1
    have HB := Lib.hid (show ∀ wa, Below w.heap.size w wa → BiPost (48, b) w (.returned (.tuple #[.agg #[.string (bs (deS l1)), .int .i64 (V7.dvK (t2 : Nat) l2), .int .i64 (V7.dvN (t2 : Nat) l2), .string (bs (V7.dvS (t2 : Nat) l2))], .bool (((V7.dvE (t2 : Nat) l2 : Nat) : Int) == 0)])) wa from fun wa hb => ⟨_, by rw [s1], s2, hb⟩)
    have HO := Lib.hid hO
    clear s1 s2 hO hA e1
    generalize deS l1 = S1 at *
    generalize V7.dvK (t2 : Nat) l2 = K2 at *
    generalize V7.dvN (t2 : Nat) l2 = N2 at *
    generalize V7.dvS (t2 : Nat) l2 = S2 at *
    generalize V7.dvE (t2 : Nat) l2 = E2 at *
    go_enter Tryz.func92, Tryz.ntmps92
    go_wp2_with fail
    rw [HW.out]
    refine (HQ.out _).mono ?_
    rintro e w1 (⟨c', h', rfl, b1⟩ | ⟨ps', v, h', rfl, ho, b1⟩)
    · have h := HH.out; rw [h'] at h; cases h
    have h2 := HH.out
    rw [h'] at h2
    injection h2 with h2
    subst h2
    obtain ⟨ao, cap, rfl, hf⟩ := ho.form
    replace hq := hq.below b1
    replace hpt := hpt.keep b1
    replace bw := bw.trans (b1.mono bw.size)
    clear HQ HW b1 h' HH
    obtain ⟨d0, d1, _, _⟩ := hpt.cells
    rcases hf with h0 | ⟨g, rfl, hg1, hg2, hg⟩
    · simp at h0
    obtain ⟨g0, g1⟩ := hg 0 (by simp)
    obtain ⟨g2, g3⟩ := hg 1 (by simp)
    simp only [List.getD_cons_zero, List.getD_cons_succ, Nat.zero_mul, Nat.one_mul, Nat.zero_add] at g0 g1 g2 g3
    clear hg ho
    go_wp2_with fail
    refine (HO.out _ (HT.out.below bw)).mono ?_
    rintro e w3 ⟨rfl, b3⟩
    replace hq := hq.below b3
    replace bw := bw.trans (b3.mono bw.size)
    have e2 := cell_below g2 b3
    have e3 : w3.cell? ⟨g, 3, none⟩ = some (.string (bs l2)) := cell_below g3 b3
    have HT3 := Lib.hid (HT.out.below bw)
    clear d0 d1 g0 g1 g2 g3 b3 HO hpt
    go_wp2_with fail
    have zS := And.intro e2 e3
    have n2 := World.new_ne w3 _ e2
    have n3 := World.new_ne w3 _ e3
    clear e2 e3
    clear zS n2 n3
    refine (HV.out _ HT3.out).mono ?_
    rintro e x1 ⟨rfl, k1⟩
    have hq1 := hq.below k1
    have bw1 := bw.trans (k1.mono bw.size)
    have hz := hq1.below (alloc_in x1 (.cells #[.int .i64 K2, .int .i64 N2, .string (bs S2)] 46))
    have bz := bw1.trans ((alloc_in x1 (.cells #[.int .i64 K2, .int .i64 N2, .string (bs S2)] 46)).mono bw1.size)
    obtain ⟨c0, c1, c2, c3⟩ := hz.cells
    obtain ⟨f0, f1, f2, f3⟩ := hz.free
    have PX := hz.set ⟨S1, K2, N2, S2⟩
    have bb := below_set4 bz (b := w.heap.size + 1) (Nat.le_succ _) (.string (bs S1)) (.int .i64 K2) (.int .i64 N2) (.string (bs S2))
    clear hq hq1 bw bw1 hz bz k1 HV HT3 HT
    cases hE2 : (((E2 : Nat) : Int) == 0)
    all_goals
      rw [hE2] at HB
      go_wp2
      refine bodyPost_ret (results_cell_row2 rfl _ _ (w.heap.size + 1) _ _ _ _ rfl PX Tryz.underlying48 rfl (by kernel_rfl)) rfl ?_
      exact HB.out _ bb
theorem readbind_walk (t : Nat) (b : List UInt8) (hp : b.length ≤ 1000000) (w : World) (T : Tabs w) :
    Calls Tryz.prog 92 #[.agg #[.int .i64 (t : Nat), .string (bs b)]] w (BiPost (t, b) w) := by
  have hno : ∀ (he : deB (t, b) = none), (Calls Tryz.prog 92 #[.agg #[.int .i64 (t : Nat), .string (bs b)]] w fun e w' => e = .returned (.tuple #[.agg #[.string (bs []), .int .i64 0, .int .i64 0, .string (bs [])], .bool false]) ∧ Below w.heap.size w w') → Calls Tryz.prog 92 #[.agg #[.int .i64 (t : Nat), .string (bs b)]] w (BiPost (t, b) w) := by
    intro he h
    refine h.mono ?_
    rintro e w' ⟨rfl, hb⟩
    refine ⟨nob, ?_, fun y hy => ?_, hb⟩
    · rw [he]; rfl
    · rw [he] at hy; cases hy
  cases hp0 : prt 0 b with
  | error c =>
    refine hno ?_ (readbind_no (t : Nat) b (by omega) w (.inl ⟨c, hp0⟩))
    unfold deB; simp only [hp0]
  | ok ps0 =>
    cases bi_all t b with
    | tag ht e => exact hno e (readbind_no (t : Nat) b (by omega) w (.inr ⟨ps0, hp0, .inl ht⟩))
    | err c ht h hc e => rw [hp0] at h; cases h
    | len ps ht h hl e => exact hno e (readbind_no (t : Nat) b (by omega) w (.inr ⟨ps, h, .inr ⟨by rw [ht]; rfl, .inl hl⟩⟩))
    | six q1 q2 ht h hq e => exact hno e (readbind_no (t : Nat) b (by omega) w (.inr ⟨_, h, .inr ⟨by rw [ht]; rfl, .inr ⟨q1, q2, rfl, hq⟩⟩⟩))
    | yes q1 q2 ht h hq e =>
      subst ht
      exact readbind_yes b hp w T q1 q2 h hq
end Go.Proofs.YtmdibafofdghgaaGreatDoor
