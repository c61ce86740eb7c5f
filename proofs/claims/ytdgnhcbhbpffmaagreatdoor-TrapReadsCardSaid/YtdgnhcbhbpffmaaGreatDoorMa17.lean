/- Texts on the program and on the document, joined: ValI, PduH, PduTb, PduQ. -/
import Derived.Test.YtdgnhcbhbpffmaaGreatDoorMa12
import Derived.Test.YtdgnhcbhbpffmaaGreatDoorMa16
import Derived.Test.YtdgnhcbhbpffmaaGreatDoorMa14
import Derived.Test.YtdgnhcbhbpffmaaGreatDoorMa13
import Derived.Test.YtdgnhcbhbpffmaaGreatDoorCards
import Derived.Test.YtdgnhcbhbpffmaaGreatDoorTie
import Derived.Deep.DeepHandedRow
import Derived.Stop.LaidErr
/- value's mayBe, Check, walked. -/
namespace Go.Proofs.YtdgnhcbhbpffmaaGreatDoor
open Go.ChangeShapes Go.WideShapes Go.ChangeAt Go.RowKit K P1 B5
set_option linter.unusedVariables false

open V7 in
/-- What the program looks at, one after the other, and the answer. -/
inductive Mb : Int → Int → List UInt8 → Bool → Prop
  | i1 {n s} (h1 : s.isEmpty = false) : Mb 2 n s false
  | i2 {n s} (h1 : s.isEmpty = true) (h2 : n < -2147483648) : Mb 2 n s false
  | i3 {n s b} (h1 : s.isEmpty = true) (h2 : -2147483648 ≤ n) (h3 : decide (n ≤ 2147483647) = b) : Mb 2 n s b
  | c1 {k n s} (hk : k = 65 ∨ k = 66 ∨ k = 67) (h1 : n < 0) : Mb k n s false
  | c2 {k n s} (hk : k = 65 ∨ k = 66 ∨ k = 67) (h1 : 0 ≤ n) (h2 : 4294967295 < n) : Mb k n s false
  | c3 {k n s b} (hk : k = 65 ∨ k = 66 ∨ k = 67) (h1 : 0 ≤ n) (h2 : n ≤ 4294967295) (h3 : s.isEmpty = b) : Mb k n s b
  | g {n s b} (h1 : s.isEmpty = b) : Mb 70 n s b
  | n1 {n s} (h1 : (n == 0) = false) : Mb 5 n s false
  | n2 {n s b} (h1 : (n == 0) = true) (h2 : s.isEmpty = b) : Mb 5 n s b
  | o1 {n s} (h1 : (n == 0) = false) : Mb 6 n s false
  | o2 {n s b} (h1 : (n == 0) = true) (h2 : (O6.arcs s).isSome = b) : Mb 6 n s b
  | d1 {n s} (h1 : (((s.length : Nat) : Int) == 4) = false) (h2 : (((s.length : Nat) : Int) != 4) = true) : Mb 64 n s false
  | d2 {n s} (h1 : (((s.length : Nat) : Int) == 4) = true) (h2 : (((s.length : Nat) : Int) != 4) = false) (h3 : (n == 0) = false) : Mb 64 n s false
  | d3 {n s} (h1 : (((s.length : Nat) : Int) == 4) = true) (h2 : (((s.length : Nat) : Int) != 4) = false) (h3 : (n == 0) = true) (h4 : ((s.length : Nat) : Int) ≤ 65535) : Mb 64 n s true
  | a1 {k n s} (hk : k = 4 ∨ k = 68) (h1 : (n == 0) = false) : Mb k n s false
  | a2 {k n s b} (hk : k = 4 ∨ k = 68) (h1 : (n == 0) = true) (h2 : decide (((s.length : Nat) : Int) ≤ 65535) = b) : Mb k n s b
  | z {k n s} (h1 : (k == 2) = false) (h2 : (k == 4) = false) (h3 : (k == 68) = false) (h4 : (k == 5) = false) (h5 : (k == 6) = false) (h6 : (k == 64) = false) (h7 : (k == 65) = false) (h8 : (k == 66) = false) (h9 : (k == 67) = false) (h10 : (k == 70) = false) : Mb k n s false
open V7 in
theorem mb_all (k n : Int) (s : List UInt8) : Mb k n s (ckV k n s) := by
  by_cases k2 : k = 2
  · subst k2
    cases h1 : s.isEmpty
    · rw [show ckV 2 n s = false by simp [ckV, h1]]; exact .i1 h1
    · by_cases h2 : -2147483648 ≤ n
      · rw [show ckV 2 n s = decide (n ≤ 2147483647) by simp [ckV, h1, h2]]; exact .i3 h1 h2 rfl
      · rw [show ckV 2 n s = false by simp [ckV, h1, h2]]; exact .i2 h1 (by omega)
  by_cases k4 : k = 4 ∨ k = 68
  · have hv : ckV k n s = (n == 0 && decide (s.length ≤ 65535)) := by unfold ckV; rw [if_neg k2, if_pos k4]
    cases h1 : (n == 0)
    · rw [show ckV k n s = false by rw [hv, h1]; rfl]; exact .a1 k4 h1
    · rw [show ckV k n s = decide (((s.length : Nat) : Int) ≤ 65535) by rw [hv, h1, Bool.true_and]; exact decide_eq_decide.2 (by omega)]; exact .a2 k4 h1 rfl
  by_cases k5 : k = 5
  · subst k5
    cases h1 : (n == 0)
    · rw [show ckV 5 n s = false by simp [ckV, h1]]; exact .n1 h1
    · rw [show ckV 5 n s = s.isEmpty by simp [ckV, h1]]; exact .n2 h1 rfl
  by_cases k6 : k = 6
  · subst k6
    cases h1 : (n == 0)
    · rw [show ckV 6 n s = false by simp [ckV, h1]]; exact .o1 h1
    · rw [show ckV 6 n s = (O6.arcs s).isSome by simp [ckV, h1]]; exact .o2 h1 rfl
  by_cases k64 : k = 64
  · subst k64
    by_cases h1 : s.length = 4
    · have e1 : (((s.length : Nat) : Int) == 4) = true := by rw [beq_iff_eq]; omega
      have e2 : (((s.length : Nat) : Int) != 4) = false := by unfold bne; rw [e1]; rfl
      cases h3 : (n == 0)
      · rw [show ckV 64 n s = false by simp [ckV, h3]]; exact .d2 e1 e2 h3
      · rw [show ckV 64 n s = true by simp [ckV, h1, h3]]; exact .d3 e1 e2 h3 (by omega)
    · have e1 : (((s.length : Nat) : Int) == 4) = false := by rw [beq_eq_false_iff_ne]; omega
      have e2 : (((s.length : Nat) : Int) != 4) = true := by unfold bne; rw [e1]; rfl
      rw [show ckV 64 n s = false by simp [ckV, h1]]; exact .d1 e1 e2
  by_cases k65 : k = 65 ∨ k = 66 ∨ k = 67
  · have hv : ckV k n s = (s.isEmpty && (decide (0 ≤ n) && decide (n ≤ 4294967295))) := by
      unfold ckV
      rw [if_neg k2, if_neg k4, if_neg k5, if_neg k6, if_neg k64, if_pos k65]
    by_cases h2 : 0 ≤ n
    · by_cases h3 : n ≤ 4294967295
      · rw [show ckV k n s = s.isEmpty by rw [hv]; simp [h2, h3]]; exact .c3 k65 h2 h3 rfl
      · rw [show ckV k n s = false by rw [hv]; simp [h3]]; exact .c2 k65 h2 (by omega)
    · rw [show ckV k n s = false by rw [hv]; simp [h2]]; exact .c1 k65 (by omega)
  by_cases k70 : k = 70
  · subst k70
    rw [show ckV 70 n s = s.isEmpty by simp [ckV]]; exact .g rfl
  have hv : ckV k n s = false := by
    unfold ckV
    rw [if_neg k2, if_neg k4, if_neg k5, if_neg k6, if_neg k64, if_neg k65, if_neg k70]
  rw [hv]
  have e : ∀ c : Int, ¬ k = c → (k == c) = false := fun c h => beq_eq_false_iff_ne.2 h
  exact .z (e _ k2) (e _ (by omega)) (e _ (by omega)) (e _ k5) (e _ k6) (e _ k64) (e _ (by omega)) (e _ (by omega)) (e _ (by omega)) (e _ k70)
set_option maxRecDepth 100000 in
set_option maxHeartbeats 4000000 in
theorem mayBe_walk (k n : Int) (s : List UInt8) (hs : s.length ≤ 1000000) (w : World) (T : Tabs w) :
    Calls Tryz.prog 113 #[.agg #[.int .i64 k, .int .i64 n, .string (bs s)]] w fun e w' => e = .returned (.bool (V7.ckV k n s)) ∧ Below w.heap.size w w' := by
  have h := mb_all k n s
  generalize V7.ckV k n s = c at h ⊢
  have hba := alloc_in w (.cells #[.int .i64 k, .int .i64 n, .string (bs s)] 46)
  cases h
  case o1 h1 =>
    have HA := Lib.hid (arcs_walk s hs _ (T.below hba))
    unfold ArPost at HA
    generalize arE s = E at *
    go_enter Tryz.func113, Tryz.ntmps113
    go_wp2_with fail
    refine HA.out.mono ?_
    rintro e w1 ⟨va, rfl, hoa, hb1⟩
    obtain ⟨z0, z1, z2⟩ := (Vr.new w 6 n s).below hb1
    go_wp2
    go_ret
    exact ⟨rfl, Below_in hb1⟩
  case o2 h1 h2 =>
    have HA := Lib.hid (arcs_walk s hs _ (T.below hba))
    unfold ArPost at HA
    have hq : (((arE s : Nat) : Int) == 0) = c := by
      rw [← h2]
      cases hx : O6.arcs s with
      | none => rw [(ar_none hx).1]; rfl
      | some l => rw [(ar_some hx).1]; rfl
    generalize arE s = E at *
    go_enter Tryz.func113, Tryz.ntmps113
    go_wp2_with fail
    refine HA.out.mono ?_
    rintro e w1 ⟨va, rfl, hoa, hb1⟩
    obtain ⟨z0, z1, z2⟩ := (Vr.new w 6 n s).below hb1
    go_wp2
    go_ret
    exact ⟨by rw [← hq]; rfl, Below_in hb1⟩
  case c1 hk h1 =>
    rcases hk with rfl | rfl | rfl
    all_goals
      go_enter Tryz.func113, Tryz.ntmps113
      go_wp2
      go_ret
      exact ⟨rfl, hba⟩
  case c2 hk h1 h2 =>
    rcases hk with rfl | rfl | rfl
    all_goals
      go_enter Tryz.func113, Tryz.ntmps113
      go_wp2
      go_ret
      exact ⟨rfl, hba⟩
  case c3 hk h1 h2 h3 =>
    rcases hk with rfl | rfl | rfl
    all_goals
      go_enter Tryz.func113, Tryz.ntmps113
      go_wp2
      go_ret
      exact ⟨rfl, hba⟩
  case a1 hk h1 =>
    rcases hk with rfl | rfl
    all_goals
      go_enter Tryz.func113, Tryz.ntmps113
      go_wp2
      go_ret
      exact ⟨rfl, hba⟩
  case a2 hk h1 h2 =>
    rcases hk with rfl | rfl
    all_goals
      go_enter Tryz.func113, Tryz.ntmps113
      go_wp2
      go_ret
      exact ⟨rfl, hba⟩
  all_goals
    go_enter Tryz.func113, Tryz.ntmps113
    go_wp2
    go_ret
    exact ⟨rfl, hba⟩
theorem check_walk7 (k n : Int) (s : List UInt8) (hs : s.length ≤ 1000000) (w : World) (T : Tabs w) :
    Calls Tryz.prog 86 #[.agg #[.int .i64 k, .int .i64 n, .string (bs s)]] w fun e w' => e = .returned (.int .i64 (V7.ckE k n s : Nat)) ∧ Below w.heap.size w w' := by
  have hba := alloc_in w (.cells #[.int .i64 k, .int .i64 n, .string (bs s)] 46)
  have hM := mayBe_walk k n s hs _ (T.below hba)
  unfold V7.ckE
  cases h : V7.ckV k n s
  all_goals
    rw [h] at hM
    have HM := Lib.hid hM
    clear hM
    go_enter Tryz.func86, Tryz.ntmps86
    go_wp2_with fail
    refine HM.out.mono ?_
    rintro e w1 ⟨rfl, hb1⟩
    go_wp2
    go_ret
    exact ⟨rfl, Below_in hb1⟩
end Go.Proofs.YtdgnhcbhbpffmaaGreatDoor
/- pdu's isTag, numbersOf, mayBe, areBinds, Check, walked. -/
namespace Go.Proofs.YtdgnhcbhbpffmaaGreatDoor
open Go.ChangeShapes Go.WideShapes Go.ChangeAt Go.RowKit K P1 B5
open D8 (Bd Un lst)
set_option linter.unusedVariables false

/-- What the variable 'least' holds. -/
def Least (w : World) : Prop := w.cell? ⟨1, 0, none⟩ = some (.int .i64 (-2147483648)) ∧ w.cell? ⟨1, 1, none⟩ = some (.int .i64 0) ∧ w.cell? ⟨1, 2, none⟩ = some (.int .i64 0)
theorem Least.below {w w' : World} (h : Least w) (k : Below w.heap.size w w') : Least w' :=
  ⟨(k.cell (World.block_lt_of_cell? w _ h.1)).trans h.1, (k.cell (World.block_lt_of_cell? w _ h.2.1)).trans h.2.1, (k.cell (World.block_lt_of_cell? w _ h.2.2)).trans h.2.2⟩
/-- The variables that the program reads. -/
def Tp (w : World) : Prop := Tabs w ∧ Least w
theorem Tp.below {w w' : World} (h : Tp w) (k : Below w.heap.size w w') : Tp w' := ⟨h.1.below k, h.2.below k⟩
theorem istag8_walk (n : Int) (w : World) :
    Calls Tryz.prog 57 #[.int .i64 n] w fun e w' => e = .returned (.bool (n == 162 || (n == 166 || n == 167))) ∧ w = w' := by
  have e : ∀ c : Int, ¬ n = c → (n == c) = false := fun c h => beq_eq_false_iff_ne.2 h
  by_cases h1 : n = 162
  · subst h1
    go_enter Tryz.func57, Tryz.ntmps57
    go_wp2
    go_ret
    exact ⟨rfl, rfl⟩
  by_cases h2 : n = 166
  · subst h2
    go_enter Tryz.func57, Tryz.ntmps57
    go_wp2
    go_ret
    exact ⟨rfl, rfl⟩
  by_cases h3 : n = 167
  · subst h3
    go_enter Tryz.func57, Tryz.ntmps57
    go_wp2
    go_ret
    exact ⟨rfl, rfl⟩
  have e1 := e 162 h1
  have e2 := e 166 h2
  have e3 := e 167 h3
  rw [e1, e2, e3]
  clear e h1 h2 h3
  go_enter Tryz.func57, Tryz.ntmps57
  go_wp2
  go_ret
  exact ⟨rfl, rfl⟩
set_option maxRecDepth 100000 in
theorem numbersof_walk (t r a i : Int) (ao : Option Addr) (len cap : Nat) (w : World) :
    Calls Tryz.prog 43 #[.agg #[.int .i64 t, .int .i64 r, .int .i64 a, .int .i64 i, .slice ao len cap]] w fun e w' => e = .returned (.agg #[.int .i64 r, .int .i64 a, .int .i64 i]) ∧ Below w.heap.size w w' := by
  go_enter Tryz.func43, Tryz.ntmps43
  go_wp2
  have PX := rowNew (w.alloc (.cells #[.int .i64 t, .int .i64 r, .int .i64 a, .int .i64 i, .slice ao len cap] 41)) (.cells #[.int .i64 r, .int .i64 a, .int .i64 i] 81)
  rw [show (w.alloc (.cells #[.int .i64 t, .int .i64 r, .int .i64 a, .int .i64 i, .slice ao len cap] 41)).heap.size = w.heap.size + 1 by simp] at PX
  refine bodyPost_ret (results_cell_row rfl _ _ (w.heap.size + 1) _ _ _ _ rfl PX Tryz.underlying81 rfl (by kernel_rfl)) rfl ?_
  exact ⟨rfl, ((Below.refl _ _).alloc (Nat.le_refl _) _).alloc (by simp) _⟩
set_option maxRecDepth 100000 in
theorem numbers_at (r a i : Int) (w : World) : (Instr.index 81 (.agg #[.int .i64 r, .int .i64 a, .int .i64 i]) (.int .i64 0)).run Tryz.prog w = .ok (.int .i64 r) w ∧ (Instr.index 81 (.agg #[.int .i64 r, .int .i64 a, .int .i64 i]) (.int .i64 1)).run Tryz.prog w = .ok (.int .i64 a) w ∧
    (Instr.index 81 (.agg #[.int .i64 r, .int .i64 a, .int .i64 i]) (.int .i64 2)).run Tryz.prog w = .ok (.int .i64 i) w :=
  ⟨by kernel_rfl, by kernel_rfl, by kernel_rfl⟩
def nb (r a i : Int) : Bool := (decide (-2147483648 ≤ r) && decide (r ≤ 2147483647)) && ((decide (0 ≤ a) && decide (a ≤ 2147483647)) && (decide (0 ≤ i) && decide (i ≤ 2147483647)))
theorem nb_iff (r a i : Int) : nb r a i = true ↔ (-2147483648 ≤ r ∧ r ≤ 2147483647) ∧ (0 ≤ a ∧ a ≤ 2147483647) ∧ (0 ≤ i ∧ i ≤ 2147483647) := by
  unfold nb; simp only [Bool.and_eq_true, decide_eq_true_eq]
theorem nb_not {r a i : Int} (h : ¬ ((-2147483648 ≤ r ∧ r ≤ 2147483647) ∧ (0 ≤ a ∧ a ≤ 2147483647) ∧ (0 ≤ i ∧ i ≤ 2147483647))) : nb r a i = false := by
  cases hx : nb r a i
  · rfl
  · exact absurd ((nb_iff r a i).1 hx) h
theorem cellRowF {w : World} {b : Nat} {C : Array Value} {t : TypeId} {fr : Nat × Nat} (h : w.heap[b]? = some (.cells C t fr)) (i : Nat) : w.cell? ⟨b, i, none⟩ = C[i]? := by simp [World.cell?, h]
def MbRel (r a i : Int) (w : World) (g : Nat) (v : Value) (wr : World) : Prop :=
  ∃ k : Nat, k + g = 3 ∧ v = .int .i64 (k : Nat) ∧ (1 ≤ k → -2147483648 ≤ r ∧ r ≤ 2147483647) ∧ (2 ≤ k → 0 ≤ a ∧ a ≤ 2147483647) ∧ (3 ≤ k → 0 ≤ i ∧ i ≤ 2147483647) ∧ Below w.heap.size w wr
set_option maxRecDepth 100000 in
set_option maxHeartbeats 1000000 in
theorem maybe8_walk (r a i : Int) (w : World) (hL : Least w) :
    Calls Tryz.prog 58 #[.agg #[.int .i64 r, .int .i64 a, .int .i64 i]] w fun e w' => e = .returned (.bool (nb r a i)) ∧ Below w.heap.size w w' := by
  have HLL := Lib.hid hL
  clear hL
  have hba := alloc_in w (.cells #[.int .i64 r, .int .i64 a, .int .i64 i] 81)
  go_enter Tryz.func58, Tryz.ntmps58
  go_wp2
  go_loopg [6] 3 (fun g v wr => MbRel r a i w g v wr)
  case atStart => exact ⟨0, by omega, rfl, by omega, by omega, by omega, hba⟩
  case round =>
    obtain ⟨k, hk, rfl, h1, h2, h3, hb⟩ := hrel
    obtain ⟨c0, c1, c2⟩ := HLL.out.below hb
    clear hba
    have hx0 := fun w1 => (numbers_at r a i w1).1
    have hx1 := fun w1 => (numbers_at r a i w1).2.1
    have hx2 := fun w1 => (numbers_at r a i w1).2.2
    cases gk with
    | zero =>
      obtain rfl : k = 3 := by omega
      have HE := Lib.hid ((nb_iff r a i).2 ⟨h1 (by omega), h2 (by omega), h3 (by omega)⟩)
      clear h1 h2 h3
      go_wp2
      go_ret
      exact ⟨by rw [HE.out]; rfl, hb⟩
    | succ g =>
      obtain rfl | rfl | rfl : k = 0 ∨ k = 1 ∨ k = 2 := by omega
      · clear h1 h2 h3
        by_cases l0 : r < -2147483648
        · have HE := Lib.hid (nb_not (r := r) (a := a) (i := i) (by omega))
          go_wp2
          go_ret
          exact ⟨by rw [HE.out]; rfl, hb⟩
        have l0' : -2147483648 ≤ r := by omega
        by_cases l1 : 2147483647 < r
        · have HE := Lib.hid (nb_not (r := r) (a := a) (i := i) (by omega))
          clear l0
          go_wp2
          go_ret
          exact ⟨by rw [HE.out]; rfl, hb⟩
        have l1' : r ≤ 2147483647 := by omega
        clear l0 l1
        go_wp2
        go_roundg g
        case measure => omega
        case rel => exact ⟨1, by omega, by simp, fun _ => ⟨l0', l1'⟩, by omega, by omega, hb⟩
      · have h1' := h1 (by omega)
        clear h1 h2 h3
        by_cases l0 : a < 0
        · have HE := Lib.hid (nb_not (r := r) (a := a) (i := i) (by omega))
          go_wp2
          go_ret
          exact ⟨by rw [HE.out]; rfl, hb⟩
        have l0' : 0 ≤ a := by omega
        by_cases l1 : 2147483647 < a
        · have HE := Lib.hid (nb_not (r := r) (a := a) (i := i) (by omega))
          clear l0
          go_wp2
          go_ret
          exact ⟨by rw [HE.out]; rfl, hb⟩
        have l1' : a ≤ 2147483647 := by omega
        clear l0 l1
        go_wp2
        go_roundg g
        case measure => omega
        case rel => exact ⟨2, by omega, by simp, fun _ => h1', fun _ => ⟨l0', l1'⟩, by omega, hb⟩
      · have h1' := h1 (by omega)
        have h2' := h2 (by omega)
        clear h1 h2 h3
        by_cases l0 : i < 0
        · have HE := Lib.hid (nb_not (r := r) (a := a) (i := i) (by omega))
          go_wp2
          go_ret
          exact ⟨by rw [HE.out]; rfl, hb⟩
        have l0' : 0 ≤ i := by omega
        by_cases l1 : 2147483647 < i
        · have HE := Lib.hid (nb_not (r := r) (a := a) (i := i) (by omega))
          clear l0
          go_wp2
          go_ret
          exact ⟨by rw [HE.out]; rfl, hb⟩
        have l1' : i ≤ 2147483647 := by omega
        clear l0 l1
        go_wp2
        go_roundg g
        case measure => omega
        case rel => exact ⟨3, by omega, by simp, fun _ => h1', fun _ => h2', fun _ => ⟨l0', l1'⟩, hb⟩
end Go.Proofs.YtdgnhcbhbpffmaaGreatDoor
/- What the variables hold, as the rows list them. -/
namespace Go.Proofs.YtdgnhcbhbpffmaaGreatDoor
open Go.ChangeShapes Go.WideShapes Go.ChangeAt Go.RowKit K O6
set_option linter.unusedVariables false

theorem starE : "*" ++ "errors.errorString" = "*errors.errorString" := by decide
theorem rowE (u : TypeId) (h : Tryz.prog.typeName? 3 u = some "*errors.errorString") : u = 198 :=
  typeName_ptr_named (nm := "errors.errorString") (by rw [starE]; kernel_rfl) (by kernel_rfl) (by decide) u (by rw [starE]; exact h)
theorem pow_data : (Rows.laid_internal_strconv_uint64pow10 : DataW Unit) = Lib.tabData .u64 Lib.pow10Tab := rfl
/-- One of a row's errors. -/
theorem errOf {W : World} {n : String} {text : List UInt8} {r : List (String × DataW Unit)} {g : Nat} (h : laidMet Tryz.prog ((n, .iface "*errors.errorString" (.ptr (.agg [.lit (.string text)]))) :: r) W)
    (hg : Tryz.prog.globalNamed n = some g) (ht : (Tryz.prog.globals[g]?).map (·.type) = some 128) : ∃ te pe, W.cell? ⟨g, 0, none⟩ = some (.iface te pe) := by
  obtain ⟨a0, s0, hv0, -, -, -⟩ := laid_sentinel h hg ht Tryz.underlying128 rowE Tryz.underlying198 Tryz.underlying200 rfl rfl Tryz.underlying9 (by kernel_rfl) (by kernel_rfl)
  exact ⟨_, _, by have h0 := World.var?_cell hg hv0 0; simpa using h0⟩
theorem least_data : (Rows.laid_gong_pdu_least : DataW Unit) = Lib.tabData .i64 [-2147483648, 0, 0] := rfl
theorem leastOf {W : World} {L : List (String × DataW Unit)} (h : laidMetH Tryz.prog L W) (hp : (L.all fun x => x.2.handleName?.isNone) = true) (hm : ("gong/pdu.least", Rows.laid_gong_pdu_least) ∈ L) : Least W := by
  rw [least_data] at hm
  have hT := laid_tab h hp hm (by kernel_rfl : Tryz.prog.globalNamed "gong/pdu.least" = some 1) (by kernel_rfl : (Tryz.prog.globals[1]?).map (·.type) = some 81) Tryz.underlying81 Tryz.underlying3 (by kernel_rfl) (by kernel_rfl)
  have h0 := hT.cell (by kernel_rfl : Tryz.prog.globalNamed "gong/pdu.least" = some 1) 0 (by decide)
  have h1 := hT.cell (by kernel_rfl : Tryz.prog.globalNamed "gong/pdu.least" = some 1) 1 (by decide)
  have h2 := hT.cell (by kernel_rfl : Tryz.prog.globalNamed "gong/pdu.least" = some 1) 2 (by decide)
  exact ⟨h0, h1, h2⟩
theorem tabsOf {W : World} (h : laidMetH Tryz.prog [("math/bits.deBruijn32tab", Rows.laid_math_bits_deBruijn32tab), ("math/bits.deBruijn64tab", Rows.laid_math_bits_deBruijn64tab), ("internal/strconv.uint64pow10", Rows.laid_internal_strconv_uint64pow10), ("unicode/utf8.acceptRanges", Rows.laid_unicode_utf8_acceptRanges), ("strconv.ErrRange", Rows.laid_strconv_ErrRange), ("strconv.ErrSyntax", Rows.laid_strconv_ErrSyntax), ("gong/pdu.least", Rows.laid_gong_pdu_least), ("unicode/utf8.first", Rows.laid_unicode_utf8_first)] W) (hS : W.ShapedOpen Tryz.prog) : Tp W := by
  have hm : laidMet Tryz.prog [("math/bits.deBruijn32tab", Rows.laid_math_bits_deBruijn32tab), ("math/bits.deBruijn64tab", Rows.laid_math_bits_deBruijn64tab), ("internal/strconv.uint64pow10", Rows.laid_internal_strconv_uint64pow10), ("unicode/utf8.acceptRanges", Rows.laid_unicode_utf8_acceptRanges), ("strconv.ErrRange", Rows.laid_strconv_ErrRange), ("strconv.ErrSyntax", Rows.laid_strconv_ErrSyntax), ("gong/pdu.least", Rows.laid_gong_pdu_least), ("unicode/utf8.first", Rows.laid_unicode_utf8_first)] W := by
    have h2 := h
    rw [MakeChecks.laidMetH_plain _ _ _ (by kernel_rfl)] at h2
    exact h2
  have h5 := hm.tail.tail.tail.tail
  refine ⟨⟨Tryz.laysM147.s1_3 W hS, errOf h5.tail (by kernel_rfl) (by kernel_rfl), errOf h5 (by kernel_rfl) (by kernel_rfl), ?_⟩, leastOf h (by kernel_rfl) (List.Mem.tail _ (List.Mem.tail _ (List.Mem.tail _ (List.Mem.tail _ (List.Mem.tail _ (List.Mem.tail _ (List.Mem.head _)))))))⟩
  exact laid_tab (zs := Lib.pow10Tab) h (by kernel_rfl) (by rw [← pow_data]; exact (List.Mem.tail _ (List.Mem.tail _ (List.Mem.head _)))) (by kernel_rfl : Tryz.prog.globalNamed "internal/strconv.uint64pow10" = some 7) (by kernel_rfl : (Tryz.prog.globals[7]?).map (·.type) = some 207) Tryz.underlying207 Tryz.underlying149 (by kernel_rfl) (by kernel_rfl)
end Go.Proofs.YtdgnhcbhbpffmaaGreatDoor
/- Units' elements are whole, and no longer than any that tells them: plain mathematics, of no program. -/
namespace Go.Proofs.YtdgnhcbhbpffmaaGreatDoor
open Go.RowKit K P1 B5
set_option linter.unusedVariables false
namespace D8
theorem prs_parts : ∀ (n a c : Nat) (l : List UInt8) (ps : List (Nat × List UInt8)), l.length ≤ n → a ≤ 32 → prt c l = .ok ps → (∀ p ∈ ps, isMade p.1 = true → ∃ cs, prs (a + 1) p.2 = .ok cs) → ∃ f, prs a l = .ok f
  | n, a, c, l, ps, hn, ha, hp, hm => by
    by_cases hl : l = []
    · subst hl
      rw [prs_nil]
      exact ⟨_, rfl⟩
    · cases n with
      | zero => exact absurd (List.length_eq_zero_iff.1 (by omega)) hl
      | succ n =>
        obtain ⟨hx, q, hq, rfl⟩ := prt_inv8 hp hl
        obtain ⟨_, _, _, _, h5⟩ := nx_of hx
        obtain ⟨r, hr⟩ := prs_parts n a (c + 1) (nxR l) q (by omega) ha hq (fun p hp => hm p (List.mem_cons_of_mem _ hp))
        rw [prs_step hl, if_neg (by rw [hx]; simp), if_neg (by omega)]
        by_cases hmd : isMade (nxT l) = true
        · obtain ⟨cs, hcs⟩ := hm (nxT l, nxB l) (by simp) hmd
          have hcs' : prs (a + 1) (nxB l) = .ok cs := hcs
          rw [if_pos hmd, hcs', hr]
          exact ⟨_, rfl⟩
        · rw [if_neg hmd, hr]
          exact ⟨_, rfl⟩
theorem bind_whole {p : Nat × List UInt8} {x : Bd} (h : deB p = some x) {a : Nat} (ha : a ≤ 32) : ∃ cs, prs a p.2 = .ok cs := by
  obtain ⟨_, _, q1, q2, hp, c1, _, _, _, c5⟩ := bind_told h
  refine prs_parts _ a 0 p.2 _ (Nat.le_refl _) ha hp ?_
  intro q hq hm
  simp only [List.mem_cons, List.not_mem_nil, or_false] at hq
  rcases hq with rfl | rfl
  · rw [c1] at hm; exact absurd hm (by decide)
  · rw [c5] at hm; cases hm
theorem deL_mem : ∀ (ps : List (Nat × List UInt8)) (l : List Bd), deL ps = some l → ∀ p ∈ ps, ∃ x, deB p = some x
  | [], l, _, p, hp => by cases hp
  | q :: ps, l, h, p, hp => by
    have h' : (match deB q with | none => none | some x => match deL ps with | none => none | some l => some (x :: l)) = some l := h
    cases h1 : deB q with
    | none => rw [h1] at h'; cases h'
    | some x =>
      rw [h1] at h'
      cases h2 : deL ps with
      | none => rw [h2] at h'; cases h'
      | some l2 =>
        rcases List.mem_cons.1 hp with rfl | hp
        · exact ⟨x, h1⟩
        · exact deL_mem ps l2 h2 p hp
theorem deU_inv {t : Int} {b : List UInt8} {u : Un} (h : deU t b = some u) : ∃ (p1 p2 p3 p4 : Nat × List UInt8) (qs : List (Nat × List UInt8)), prt 0 b = .ok [p1, p2, p3, p4] ∧ (p1.1 = 2 ∧ p2.1 = 2 ∧ p3.1 = 2 ∧ p4.1 = 48 ∧ nOk p1.2 = true ∧ nOk p2.2 = true ∧ nOk p3.2 = true) ∧ prt 0 p4.2 = .ok qs ∧ deL qs = some u.l ∧ u = ⟨t, nv p1.2, nv p2.2, nv p3.2, u.l⟩ ∧ u.ok = true := by
  unfold deU at h
  cases hp : prt 0 b with
  | error e => rw [hp] at h; cases h
  | ok ps =>
    rw [hp] at h
    match ps, h with
    | [p1, p2, p3, p4], h =>
      have h' : (if p1.1 = 2 ∧ p2.1 = 2 ∧ p3.1 = 2 ∧ p4.1 = 48 ∧ nOk p1.2 = true ∧ nOk p2.2 = true ∧ nOk p3.2 = true then
          match prt 0 p4.2 with
          | .ok ps => match deL ps with
            | some l => if Un.ok ⟨t, nv p1.2, nv p2.2, nv p3.2, l⟩ then some ⟨t, nv p1.2, nv p2.2, nv p3.2, l⟩ else none
            | none => none
          | .error _ => none
        else none) = some u := h
      by_cases hc : p1.1 = 2 ∧ p2.1 = 2 ∧ p3.1 = 2 ∧ p4.1 = 48 ∧ nOk p1.2 = true ∧ nOk p2.2 = true ∧ nOk p3.2 = true
      · rw [if_pos hc] at h'
        cases hq : prt 0 p4.2 with
        | error e => rw [hq] at h'; cases h'
        | ok qs =>
          rw [hq] at h'
          have h2 : (match deL qs with
            | some l => if Un.ok ⟨t, nv p1.2, nv p2.2, nv p3.2, l⟩ then some ⟨t, nv p1.2, nv p2.2, nv p3.2, l⟩ else none
            | none => none) = some u := h'
          cases hl : deL qs with
          | none => rw [hl] at h2; cases h2
          | some l =>
            rw [hl] at h2
            have h3 : (if Un.ok ⟨t, nv p1.2, nv p2.2, nv p3.2, l⟩ then some (⟨t, nv p1.2, nv p2.2, nv p3.2, l⟩ : Un) else none) = some u := h2
            by_cases hk : Un.ok ⟨t, nv p1.2, nv p2.2, nv p3.2, l⟩ = true
            · rw [if_pos hk] at h3
              obtain rfl := Option.some.inj h3
              exact ⟨p1, p2, p3, p4, qs, rfl, hc, hq, hl, rfl, hk⟩
            · rw [if_neg hk] at h3; cases h3
      · rw [if_neg hc] at h'; cases h'
/-- An element that tells a unit is one element, whole; its shortest form is the unit's, and no longer. -/
theorem unit_whole {t : Int} {b : List UInt8} {u : Un} (hb : b.length < 4294967296) (h : deU t b = some u) : ∃ f, wh (put t.toNat b) = .ok f ∧ f.enc = u.el ∧ u.el.length ≤ (put t.toNat b).length := by
  obtain ⟨hok, ht, _⟩ := unit_told h
  obtain ⟨h1, _⟩ := (Un.ok_iff u).1 hok
  rw [ht] at h1
  have hT : isTag t.toNat = true ∧ t.toNat < 256 ∧ isMade t.toNat = true := by
    rcases h1 with h | h | h <;> (rw [h]; decide)
  obtain ⟨p1, p2, p3, p4, qs, hp, ⟨c1, c2, c3, c4, _⟩, hq, hl, _, _⟩ := deU_inv h
  obtain ⟨f4, hf4⟩ := prs_parts _ 3 0 p4.2 qs (Nat.le_refl _) (by omega) hq (fun p hp _ => by obtain ⟨x, hx⟩ := deL_mem _ _ hl p hp; exact bind_whole hx (by omega))
  obtain ⟨f2, hf2⟩ := prs_parts _ 2 0 b _ (Nat.le_refl _) (by omega) hp (by
    intro q hq hm
    simp only [List.mem_cons, List.not_mem_nil, or_false] at hq
    rcases hq with rfl | rfl | rfl | rfl
    · rw [c1] at hm; exact absurd hm (by decide)
    · rw [c2] at hm; exact absurd hm (by decide)
    · rw [c3] at hm; exact absurd hm (by decide)
    · exact ⟨f4, hf4⟩)
  obtain ⟨x1, x2, x3, x4⟩ := nx_put t.toNat b [] hT.1 hT.2.1 hb
  rw [List.append_nil] at x1 x2 x3 x4
  have hw : ∃ f, wh (put t.toNat b) = .ok f := by
    rw [wh_eq x1 x4, prs_step (nxOk_ne x1), if_neg (by rw [x1]; simp), if_neg (by omega), x2, x3, x4, if_pos hT.2.2, hf2, prs_nil]
    exact ⟨_, rfl⟩
  obtain ⟨f, hw⟩ := hw
  have he := unit_short hb h hw
  exact ⟨f, hw, he, by rw [← he]; exact (wh_again hw).2.1⟩
end D8
end Go.Proofs.YtdgnhcbhbpffmaaGreatDoor
