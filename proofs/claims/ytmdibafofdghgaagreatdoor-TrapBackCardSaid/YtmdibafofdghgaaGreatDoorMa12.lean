/- Texts on the program and on the document, joined: ValB, ValC, Prt. -/
import Derived.Test.YtmdibafofdghgaaGreatDoorMa09
import Derived.Test.YtmdibafofdghgaaGreatDoorMa11
import Derived.Test.YtmdibafofdghgaaGreatDoorMa03
/- The document's Check, Put, Encode of values, walked. -/
namespace Go.Proofs.YtmdibafofdghgaaGreatDoor
open Go.ChangeShapes Go.WideShapes Go.ChangeAt Go.RowKit K P1 B5
set_option linter.unusedVariables false

open V7 in
/-- What is looked at, one after the other, and the answer. -/
inductive Ck : Int → Int → List UInt8 → Nat → Prop
  | i1 {n s} (h1 : s.isEmpty = false) : Ck 2 n s 70
  | i2 {n s} (h1 : s.isEmpty = true) (h2 : n < -2147483648) : Ck 2 n s 70
  | i3 {n s} (h1 : s.isEmpty = true) (h2 : -2147483648 ≤ n) (h3 : decide (n ≤ 2147483647) = false) : Ck 2 n s 70
  | i4 {n s} (h1 : s.isEmpty = true) (h2 : -2147483648 ≤ n) (h3 : n ≤ 2147483647) : Ck 2 n s 0
  | a1 {n s} (h1 : (n == 0) = false) : Ck 4 n s 70
  | a2 {n s} (h1 : (n == 0) = true) (h2 : decide (((s.length : Nat) : Int) ≤ 65535) = false) : Ck 4 n s 70
  | a3 {n s} (h1 : (n == 0) = true) (h2 : ((s.length : Nat) : Int) ≤ 65535) : Ck 4 n s 0
  | b1 {n s} (h1 : (n == 0) = false) : Ck 68 n s 70
  | b2 {n s} (h1 : (n == 0) = true) (h2 : decide (((s.length : Nat) : Int) ≤ 65535) = false) : Ck 68 n s 70
  | b3 {n s} (h1 : (n == 0) = true) (h2 : ((s.length : Nat) : Int) ≤ 65535) : Ck 68 n s 0
  | n1 {n s} (h1 : (n == 0) = false) : Ck 5 n s 70
  | n2 {n s} (h1 : (n == 0) = true) (h2 : s.isEmpty = false) : Ck 5 n s 70
  | n3 {n s} (h1 : (n == 0) = true) (h2 : s.isEmpty = true) : Ck 5 n s 0
  | o1 {n s} (h1 : (n == 0) = false) : Ck 6 n s 70
  | o2 {n s} (h1 : (n == 0) = true) (h2 : (O6.arcs s).isSome = false) : Ck 6 n s 70
  | o3 {n s} (h1 : (n == 0) = true) (h2 : (O6.arcs s).isSome = true) : Ck 6 n s 0
  | d1 {n s} (h1 : (n == 0) = false) : Ck 64 n s 70
  | d2 {n s} (h1 : (n == 0) = true) (h2 : (((s.length : Nat) : Int) == 4) = false) : Ck 64 n s 70
  | d3 {n s} (h1 : (n == 0) = true) (h2 : (((s.length : Nat) : Int) == 4) = true) : Ck 64 n s 0
  | c1 {k n s} (hk : k = 65 ∨ k = 66 ∨ k = 67) (h1 : s.isEmpty = false) : Ck k n s 70
  | c2 {k n s} (hk : k = 65 ∨ k = 66 ∨ k = 67) (h1 : s.isEmpty = true) (h2 : n < 0) : Ck k n s 70
  | c3 {k n s} (hk : k = 65 ∨ k = 66 ∨ k = 67) (h1 : s.isEmpty = true) (h2 : 0 ≤ n) (h3 : decide (n ≤ 4294967295) = false) : Ck k n s 70
  | c4 {k n s} (hk : k = 65 ∨ k = 66 ∨ k = 67) (h1 : s.isEmpty = true) (h2 : 0 ≤ n) (h3 : n ≤ 4294967295) : Ck k n s 0
  | g1 {n s} (h1 : s.isEmpty = false) : Ck 70 n s 70
  | g2 {n s} (h1 : s.isEmpty = true) : Ck 70 n s 0
  | z {k n s} (h1 : (k == 2) = false) (h2 : (k == 4) = false) (h3 : (k == 68) = false) (h4 : (k == 5) = false) (h5 : (k == 6) = false) (h6 : (k == 64) = false) (h7 : (k == 65) = false) (h8 : (k == 66) = false) (h9 : (k == 67) = false) (h10 : (k == 70) = false) : Ck k n s 70
open V7 in
theorem ck_all (k n : Int) (s : List UInt8) : Ck k n s (ckE k n s) := by
  have hlen : ∀ c : Nat, (((s.length : Nat) : Int) ≤ (c : Int)) = (s.length ≤ c) := fun c => propext (by omega)
  by_cases k2 : k = 2
  · subst k2
    cases h1 : s.isEmpty
    · rw [show ckE 2 n s = 70 by simp [ckE, ckV, h1]]; exact .i1 h1
    · by_cases h2 : -2147483648 ≤ n
      · by_cases h3 : n ≤ 2147483647
        · rw [show ckE 2 n s = 0 by simp [ckE, ckV, h1, h2, h3]]; exact .i4 h1 h2 h3
        · rw [show ckE 2 n s = 70 by simp [ckE, ckV, h1, h2, h3]]; exact .i3 h1 h2 (decide_eq_false h3)
      · rw [show ckE 2 n s = 70 by simp [ckE, ckV, h1, h2]]; exact .i2 h1 (by omega)
  by_cases k4 : k = 4
  · subst k4
    cases h1 : (n == 0)
    · rw [show ckE 4 n s = 70 by simp [ckE, ckV, h1]]; exact .a1 h1
    · by_cases h2 : s.length ≤ 65535
      · rw [show ckE 4 n s = 0 by simp [ckE, ckV, h1, h2]]; exact .a3 h1 (by omega)
      · rw [show ckE 4 n s = 70 by simp [ckE, ckV, h1, h2]]; exact .a2 h1 (decide_eq_false (by omega))
  by_cases k68 : k = 68
  · subst k68
    cases h1 : (n == 0)
    · rw [show ckE 68 n s = 70 by simp [ckE, ckV, h1]]; exact .b1 h1
    · by_cases h2 : s.length ≤ 65535
      · rw [show ckE 68 n s = 0 by simp [ckE, ckV, h1, h2]]; exact .b3 h1 (by omega)
      · rw [show ckE 68 n s = 70 by simp [ckE, ckV, h1, h2]]; exact .b2 h1 (decide_eq_false (by omega))
  by_cases k5 : k = 5
  · subst k5
    cases h1 : (n == 0)
    · rw [show ckE 5 n s = 70 by simp [ckE, ckV, h1]]; exact .n1 h1
    · cases h2 : s.isEmpty
      · rw [show ckE 5 n s = 70 by simp [ckE, ckV, h1, h2]]; exact .n2 h1 h2
      · rw [show ckE 5 n s = 0 by simp [ckE, ckV, h1, h2]]; exact .n3 h1 h2
  by_cases k6 : k = 6
  · subst k6
    cases h1 : (n == 0)
    · rw [show ckE 6 n s = 70 by simp [ckE, ckV, h1]]; exact .o1 h1
    · cases h2 : (O6.arcs s).isSome
      · rw [show ckE 6 n s = 70 by simp [ckE, ckV, h1, h2]]; exact .o2 h1 h2
      · rw [show ckE 6 n s = 0 by simp [ckE, ckV, h1, h2]]; exact .o3 h1 h2
  by_cases k64 : k = 64
  · subst k64
    cases h1 : (n == 0)
    · rw [show ckE 64 n s = 70 by simp [ckE, ckV, h1]]; exact .d1 h1
    · by_cases h2 : s.length = 4
      · rw [show ckE 64 n s = 0 by simp [ckE, ckV, h1, h2]]; exact .d3 h1 (by rw [beq_iff_eq]; omega)
      · rw [show ckE 64 n s = 70 by simp [ckE, ckV, h1, h2]]; exact .d2 h1 (by rw [beq_eq_false_iff_ne]; omega)
  by_cases k65 : k = 65 ∨ k = 66 ∨ k = 67
  · have hv : ckV k n s = (s.isEmpty && (decide (0 ≤ n) && decide (n ≤ 4294967295))) := by
      unfold ckV
      rw [if_neg k2, if_neg (by omega), if_neg k5, if_neg k6, if_neg k64, if_pos k65]
    cases h1 : s.isEmpty
    · rw [show ckE k n s = 70 by simp [ckE, hv, h1]]; exact .c1 k65 h1
    · by_cases h2 : 0 ≤ n
      · by_cases h3 : n ≤ 4294967295
        · rw [show ckE k n s = 0 by simp [ckE, hv, h1, h2, h3]]; exact .c4 k65 h1 h2 h3
        · rw [show ckE k n s = 70 by simp [ckE, hv, h1, h2, h3]]; exact .c3 k65 h1 h2 (decide_eq_false h3)
      · rw [show ckE k n s = 70 by simp [ckE, hv, h1, h2]]; exact .c2 k65 h1 (by omega)
  by_cases k70 : k = 70
  · subst k70
    cases h1 : s.isEmpty
    · rw [show ckE 70 n s = 70 by simp [ckE, ckV, h1]]; exact .g1 h1
    · rw [show ckE 70 n s = 0 by simp [ckE, ckV, h1]]; exact .g2 h1
  have hv : ckV k n s = false := by
    unfold ckV
    rw [if_neg k2, if_neg (by omega), if_neg k5, if_neg k6, if_neg k64, if_neg k65, if_neg k70]
  rw [show ckE k n s = 70 by simp [ckE, hv]]
  have e : ∀ c : Int, ¬ k = c → (k == c) = false := fun c h => beq_eq_false_iff_ne.2 h
  exact .z (e _ k2) (e _ k4) (e _ k68) (e _ k5) (e _ k6) (e _ k64) (e _ (by omega)) (e _ (by omega)) (e _ (by omega)) (e _ k70)
theorem qisOid_walk (s : List UInt8) (hs : s.length ≤ 140737488351232) (w : World) :
    Calls Tryz.prog 118 #[.string (bs s)] w fun e w' => e = .returned (.bool (O6.arcs s).isSome) ∧ Below w.heap.size w w' := by
  have HA := Lib.hid (qarcs_walk s hs w)
  unfold ArPost at HA
  have hq : (((arE s : Nat) : Int) == 0) = (O6.arcs s).isSome := by
    cases hx : O6.arcs s with
    | none => rw [(ar_none hx).1]; rfl
    | some l => rw [(ar_some hx).1]; rfl
  generalize arE s = E at *
  go_enter Tryz.func118, Tryz.ntmps118
  go_wp2_with fail
  refine HA.out.mono ?_
  rintro e w1 ⟨va, rfl, hoa, hb1⟩
  go_wp2
  go_ret
  exact ⟨by rw [← hq]; rfl, hb1⟩
set_option maxRecDepth 100000 in
set_option maxHeartbeats 4000000 in
theorem qcheck_walk (k n : Int) (s : List UInt8) (hs : s.length ≤ 140737488351232) (w : World) :
    Calls Tryz.prog 98 #[.agg #[.int .i64 k, .int .i64 n, .string (bs s)]] w fun e w' => e = .returned (.int .i64 (V7.ckE k n s : Nat)) ∧ Below w.heap.size w w' := by
  have h := ck_all k n s
  generalize V7.ckE k n s = c at h ⊢
  have HO := Lib.hid (fun w1 => qisOid_walk s hs w1)
  cases h
  case o2 h1 h2 =>
    rw [h2] at HO
    go_enter Tryz.func98, Tryz.ntmps98
    go_wp2_with fail
    refine (HO.out _).mono ?_
    rintro e w1 ⟨rfl, hb1⟩
    go_wp2
    go_ret
    exact ⟨rfl, ((Below.refl _ _).alloc (Nat.le_refl _) _).trans (hb1.mono (by simp))⟩
  case o3 h1 h2 =>
    rw [h2] at HO
    go_enter Tryz.func98, Tryz.ntmps98
    go_wp2_with fail
    refine (HO.out _).mono ?_
    rintro e w1 ⟨rfl, hb1⟩
    go_wp2
    go_ret
    exact ⟨rfl, ((Below.refl _ _).alloc (Nat.le_refl _) _).trans (hb1.mono (by simp))⟩
  case c1 hk h1 =>
    clear HO
    rcases hk with rfl | rfl | rfl
    all_goals
      go_enter Tryz.func98, Tryz.ntmps98
      go_wp2
      go_ret
      exact ⟨rfl, (Below.refl _ _).alloc (Nat.le_refl _) _⟩
  case c2 hk h1 h2 =>
    clear HO
    rcases hk with rfl | rfl | rfl
    all_goals
      go_enter Tryz.func98, Tryz.ntmps98
      go_wp2
      go_ret
      exact ⟨rfl, (Below.refl _ _).alloc (Nat.le_refl _) _⟩
  case c3 hk h1 h2 h3 =>
    clear HO
    rcases hk with rfl | rfl | rfl
    all_goals
      go_enter Tryz.func98, Tryz.ntmps98
      go_wp2
      go_ret
      exact ⟨rfl, (Below.refl _ _).alloc (Nat.le_refl _) _⟩
  case c4 hk h1 h2 h3 =>
    clear HO
    rcases hk with rfl | rfl | rfl
    all_goals
      go_enter Tryz.func98, Tryz.ntmps98
      go_wp2
      go_ret
      exact ⟨rfl, (Below.refl _ _).alloc (Nat.le_refl _) _⟩
  all_goals
    clear HO
    go_enter Tryz.func98, Tryz.ntmps98
    go_wp2
    go_ret
    exact ⟨rfl, (Below.refl _ _).alloc (Nat.le_refl _) _⟩
end Go.Proofs.YtmdibafofdghgaaGreatDoor
/- The document's Put, Encode of values, walked. -/
namespace Go.Proofs.YtmdibafofdghgaaGreatDoor
open Go.ChangeShapes Go.WideShapes Go.ChangeAt Go.RowKit K P1 B5
set_option linter.unusedVariables false

theorem Below_in {w x : World} {o : Obj} (k : Below (w.alloc o).heap.size (w.alloc o) x) : Below w.heap.size w x :=
  ((Below.refl _ _).alloc (Nat.le_refl _) _).trans (k.mono (by simp))
/-- A value's cells in block b. -/
def Vr (x : World) (b : Nat) (k n : Int) (s : List UInt8) : Prop := x.cell? ⟨b, 0, none⟩ = some (.int .i64 k) ∧ x.cell? ⟨b, 1, none⟩ = some (.int .i64 n) ∧ x.cell? ⟨b, 2, none⟩ = some (.string (bs s))
theorem Vr.new (w : World) (k n : Int) (s : List UInt8) : Vr (w.alloc (.cells #[.int .i64 k, .int .i64 n, .string (bs s)] 46)) w.heap.size k n s :=
  ⟨cellRow (rowNew w _) 0, cellRow (rowNew w _) 1, cellRow (rowNew w _) 2⟩
theorem Vr.below {x y : World} {b : Nat} {k n : Int} {s : List UInt8} (h : Vr x b k n s) (k1 : Below x.heap.size x y) : Vr y b k n s :=
  ⟨(k1.cell (World.block_lt_of_cell? x _ h.1)).trans h.1, (k1.cell (World.block_lt_of_cell? x _ h.2.1)).trans h.2.1, (k1.cell (World.block_lt_of_cell? x _ h.2.2)).trans h.2.2⟩
theorem Vr.ofDrew {x y : World} {n : Nat} (k1 : Below (x.drewN n).heap.size (x.drewN n) y) : Below x.heap.size x y := ⟨k1.os, k1.tape, k1.output, k1.size, k1.block⟩
theorem alloc_in (w : World) (o : Obj) : Below w.heap.size w (w.alloc o) := (Below.refl _ _).alloc (Nat.le_refl _) _
theorem u64_wrap (n : Int) : IntKind.u64.wrap n = ((V7.uu n : Nat) : Int) := by
  unfold V7.uu; simp [IntKind.wrap, IntKind.signed, IntKind.bits]; omega
theorem put_gen {k n : Int} {s : List UInt8} (h : V7.ckV k n s = true) (w1 : World) :
    Calls Tryz.prog 55 #[.int .i64 k, .string (bs (V7.bdV k n s))] w1 fun e w' => e = .returned (.string (bs (V7.enT k n s))) ∧ Below w1.heap.size w1 w' := by
  obtain ⟨t1, t2, t3, t4⟩ := V7.ck_tag h
  have hl := (V7.bd_len h).1
  have := qput_walk k.toNat t2 (V7.bdV k n s) (by omega) w1
  rw [t3] at this
  rw [(V7.en_next h).1]
  exact this
set_option maxRecDepth 100000 in
set_option maxHeartbeats 2000000 in
theorem qput7_walk (k n : Int) (s : List UInt8) (n0 : -9223372036854775808 ≤ n) (n1 : n ≤ 9223372036854775807) (h : V7.ckV k n s = true) (w : World) :
    Calls Tryz.prog 83 #[.agg #[.int .i64 k, .int .i64 n, .string (bs s)]] w fun e w' => e = .returned (.string (bs (V7.enT k n s))) ∧ Below w.heap.size w w' := by
  have HP := Lib.hid (fun w1 => put_gen h w1)
  cases V7.ways h with
  | int hk hs h0 h1 =>
    have HB : V7.bdV k n s = pn n := by unfold V7.bdV; rw [if_pos hk]
    rw [HB] at HP
    have HN := Lib.hid (fun w1 => qputnumber_walk n n0 n1 w1)
    subst hk hs
    clear HB h
    generalize V7.enT 2 n [] = T at *
    generalize pn n = P at *
    have hv := Vr.new w 2 n []
    have bw := alloc_in w (.cells #[.int .i64 2, .int .i64 n, .string (bs [])] 46)
    go_enter Tryz.func83, Tryz.ntmps83
    go_wp2_with fail
    generalize w.alloc (.cells #[.int .i64 2, .int .i64 n, .string (bs [])] 46) = w0 at *
    have z0 := And.intro hv.1 hv.2.1
    go_region_held3 (fun x => x.cell? ⟨w.heap.size, 0, none⟩ = some (.int .i64 2) ∧ x.cell? ⟨w.heap.size, 1, none⟩ = some (.int .i64 n)) (first | exact z0 | exact z1 | exact z2)
      (first
        | (go_at_call 108; refine (HN.out _).mono ?_; rintro e x1 ⟨rfl, k1⟩; have k1' : Below w0.heap.size w0 x1 := ⟨k1.os, k1.tape, k1.output, k1.size, k1.block⟩; have b1 := bw.trans (k1'.mono bw.size); have hv1 := hv.below k1'; have z1 := And.intro hv1.1 hv1.2.1)
        | (go_at_call 55; refine (HP.out _).mono ?_; rintro e x2 ⟨rfl, k2⟩; have k2' : Below x1.heap.size x1 x2 := ⟨k2.os, k2.tape, k2.output, k2.size, k2.block⟩; have b2 := b1.trans (k2'.mono b1.size); have hv2 := hv1.below k2'; have z2 := And.intro hv2.1 hv2.2.1))
    go_wp2
    go_ret
    exact ⟨rfl, b2⟩
  | text hk hn hs =>
    have HB : V7.bdV k n s = s := by unfold V7.bdV; rw [if_neg (by omega), if_neg (by omega), if_neg (by omega)]
    rw [HB] at HP
    clear HB h
    generalize V7.enT k n s = T at *
    subst hn
    rcases hk with rfl | rfl
    all_goals
      go_enter Tryz.func83, Tryz.ntmps83
      go_wp2_with fail
      refine (HP.out _).mono ?_
      rintro e w2 ⟨rfl, b2⟩
      go_wp2
      go_ret
      exact ⟨rfl, Below_in b2⟩
  | null hk hn hs =>
    have HB : V7.bdV k n s = s := by unfold V7.bdV; rw [if_neg (by omega), if_neg (by omega), if_neg (by omega)]
    rw [HB] at HP
    clear HB h
    generalize V7.enT k n s = T at *
    subst hn hk hs
    go_enter Tryz.func83, Tryz.ntmps83
    go_wp2_with fail
    refine (HP.out _).mono ?_
    rintro e w2 ⟨rfl, b2⟩
    go_wp2
    go_ret
    exact ⟨rfl, Below_in b2⟩
  | addr hk hn hs =>
    have HB : V7.bdV k n s = s := by unfold V7.bdV; rw [if_neg (by omega), if_neg (by omega), if_neg (by omega)]
    rw [HB] at HP
    clear HB h
    generalize V7.enT k n s = T at *
    subst hn hk
    go_enter Tryz.func83, Tryz.ntmps83
    go_wp2_with fail
    refine (HP.out _).mono ?_
    rintro e w2 ⟨rfl, b2⟩
    go_wp2
    go_ret
    exact ⟨rfl, Below_in b2⟩
  | oid hk hn l hl hs =>
    have HB : V7.bdV k n s = eb l := by unfold V7.bdV; rw [if_neg (by omega), if_neg (by omega), if_pos hk]; unfold V7.ob; rw [← hs, O6.arcs_put hl]; rfl
    rw [HB] at HP
    have hsl : s.length ≤ 140737488351232 := by
      have h1 := O6.put_len l (O6.isArcs_le hl)
      have h2 := (O6.isArcs_len hl).2
      rw [← hs]; omega
    have hE := fun w1 => qencode_walk s hsl w1
    have h1 : enS s = eb l ∧ arE s = 0 := by
      have ha : O6.arcs s = some l := by rw [← hs]; exact O6.arcs_put hl
      unfold enS; rw [ha, (ar_some ha).2]; exact ⟨rfl, (ar_some ha).1⟩
    rw [h1.1, h1.2] at hE
    have HE := Lib.hid hE
    clear HB h hE h1 hl hs
    generalize V7.enT k n s = T at *
    generalize eb l = B at *
    subst hn hk
    go_enter Tryz.func83, Tryz.ntmps83
    go_wp2_with fail
    refine (HE.out _).mono ?_
    rintro e w1 ⟨rfl, b1⟩
    obtain ⟨z0, z1, z2⟩ := (Vr.new w 6 0 s).below b1
    go_wp2_with fail
    refine (HP.out _).mono ?_
    rintro e w2 ⟨rfl, b2⟩
    go_wp2
    go_ret
    exact ⟨rfl, (Below_in b1).trans (b2.mono (Below_in b1).size)⟩
  | count hk hs h0 h1 =>
    have HB : V7.bdV k n s = un (V7.uu n) := by unfold V7.bdV; rw [if_neg (by omega), if_pos (by omega)]
    rw [HB] at HP
    have HN := Lib.hid (fun w1 => qputunsigned_walk (V7.uu n) (V7.uu_lt n) w1)
    have hu := u64_wrap n
    clear HB h
    subst hs
    generalize V7.enT k n [] = T at *
    generalize un (V7.uu n) = P at *
    generalize ((V7.uu n : Nat) : Int) = U at *
    rcases hk with rfl | rfl | rfl
    · have hv := Vr.new w 65 n []
      have bw := alloc_in w (.cells #[.int .i64 65, .int .i64 n, .string (bs [])] 46)
      go_enter Tryz.func83, Tryz.ntmps83
      go_wp2_with fail
      generalize w.alloc (.cells #[.int .i64 65, .int .i64 n, .string (bs [])] 46) = w0 at *
      have z0 := And.intro hv.1 hv.2.1
      go_region_held3 (fun x => x.cell? ⟨w.heap.size, 0, none⟩ = some (.int .i64 65) ∧ x.cell? ⟨w.heap.size, 1, none⟩ = some (.int .i64 n)) (first | exact z0 | exact z1 | exact z2)
        (first
          | (go_at_call 109; refine (HN.out _).mono ?_; rintro e x1 ⟨rfl, k1⟩; have k1' : Below w0.heap.size w0 x1 := ⟨k1.os, k1.tape, k1.output, k1.size, k1.block⟩; have b1 := bw.trans (k1'.mono bw.size); have hv1 := hv.below k1'; have z1 := And.intro hv1.1 hv1.2.1)
          | (go_at_call 55; refine (HP.out _).mono ?_; rintro e x2 ⟨rfl, k2⟩; have k2' : Below x1.heap.size x1 x2 := ⟨k2.os, k2.tape, k2.output, k2.size, k2.block⟩; have b2 := b1.trans (k2'.mono b1.size); have hv2 := hv1.below k2'; have z2 := And.intro hv2.1 hv2.2.1))
      go_wp2
      go_ret
      exact ⟨rfl, b2⟩
    · have hv := Vr.new w 66 n []
      have bw := alloc_in w (.cells #[.int .i64 66, .int .i64 n, .string (bs [])] 46)
      go_enter Tryz.func83, Tryz.ntmps83
      go_wp2_with fail
      generalize w.alloc (.cells #[.int .i64 66, .int .i64 n, .string (bs [])] 46) = w0 at *
      have z0 := And.intro hv.1 hv.2.1
      go_region_held3 (fun x => x.cell? ⟨w.heap.size, 0, none⟩ = some (.int .i64 66) ∧ x.cell? ⟨w.heap.size, 1, none⟩ = some (.int .i64 n)) (first | exact z0 | exact z1 | exact z2)
        (first
          | (go_at_call 109; refine (HN.out _).mono ?_; rintro e x1 ⟨rfl, k1⟩; have k1' : Below w0.heap.size w0 x1 := ⟨k1.os, k1.tape, k1.output, k1.size, k1.block⟩; have b1 := bw.trans (k1'.mono bw.size); have hv1 := hv.below k1'; have z1 := And.intro hv1.1 hv1.2.1)
          | (go_at_call 55; refine (HP.out _).mono ?_; rintro e x2 ⟨rfl, k2⟩; have k2' : Below x1.heap.size x1 x2 := ⟨k2.os, k2.tape, k2.output, k2.size, k2.block⟩; have b2 := b1.trans (k2'.mono b1.size); have hv2 := hv1.below k2'; have z2 := And.intro hv2.1 hv2.2.1))
      go_wp2
      go_ret
      exact ⟨rfl, b2⟩
    · have hv := Vr.new w 67 n []
      have bw := alloc_in w (.cells #[.int .i64 67, .int .i64 n, .string (bs [])] 46)
      go_enter Tryz.func83, Tryz.ntmps83
      go_wp2_with fail
      generalize w.alloc (.cells #[.int .i64 67, .int .i64 n, .string (bs [])] 46) = w0 at *
      have z0 := And.intro hv.1 hv.2.1
      go_region_held3 (fun x => x.cell? ⟨w.heap.size, 0, none⟩ = some (.int .i64 67) ∧ x.cell? ⟨w.heap.size, 1, none⟩ = some (.int .i64 n)) (first | exact z0 | exact z1 | exact z2)
        (first
          | (go_at_call 109; refine (HN.out _).mono ?_; rintro e x1 ⟨rfl, k1⟩; have k1' : Below w0.heap.size w0 x1 := ⟨k1.os, k1.tape, k1.output, k1.size, k1.block⟩; have b1 := bw.trans (k1'.mono bw.size); have hv1 := hv.below k1'; have z1 := And.intro hv1.1 hv1.2.1)
          | (go_at_call 55; refine (HP.out _).mono ?_; rintro e x2 ⟨rfl, k2⟩; have k2' : Below x1.heap.size x1 x2 := ⟨k2.os, k2.tape, k2.output, k2.size, k2.block⟩; have b2 := b1.trans (k2'.mono b1.size); have hv2 := hv1.below k2'; have z2 := And.intro hv2.1 hv2.2.1))
      go_wp2
      go_ret
      exact ⟨rfl, b2⟩
  | big hk hs =>
    have HB : V7.bdV k n s = un (V7.uu n) := by unfold V7.bdV; rw [if_neg (by omega), if_pos (by omega)]
    rw [HB] at HP
    have HN := Lib.hid (fun w1 => qputunsigned_walk (V7.uu n) (V7.uu_lt n) w1)
    have hu := u64_wrap n
    clear HB h
    subst hs hk
    generalize V7.enT 70 n [] = T at *
    generalize un (V7.uu n) = P at *
    generalize ((V7.uu n : Nat) : Int) = U at *
    have hv := Vr.new w 70 n []
    have bw := alloc_in w (.cells #[.int .i64 70, .int .i64 n, .string (bs [])] 46)
    go_enter Tryz.func83, Tryz.ntmps83
    go_wp2_with fail
    generalize w.alloc (.cells #[.int .i64 70, .int .i64 n, .string (bs [])] 46) = w0 at *
    have z0 := And.intro hv.1 hv.2.1
    go_region_held3 (fun x => x.cell? ⟨w.heap.size, 0, none⟩ = some (.int .i64 70) ∧ x.cell? ⟨w.heap.size, 1, none⟩ = some (.int .i64 n)) (first | exact z0 | exact z1 | exact z2)
      (first
        | (go_at_call 109; refine (HN.out _).mono ?_; rintro e x1 ⟨rfl, k1⟩; have k1' : Below w0.heap.size w0 x1 := ⟨k1.os, k1.tape, k1.output, k1.size, k1.block⟩; have b1 := bw.trans (k1'.mono bw.size); have hv1 := hv.below k1'; have z1 := And.intro hv1.1 hv1.2.1)
        | (go_at_call 55; refine (HP.out _).mono ?_; rintro e x2 ⟨rfl, k2⟩; have k2' : Below x1.heap.size x1 x2 := ⟨k2.os, k2.tape, k2.output, k2.size, k2.block⟩; have b2 := b1.trans (k2'.mono b1.size); have hv2 := hv1.below k2'; have z2 := And.intro hv2.1 hv2.2.1))
    go_wp2
    go_ret
    exact ⟨rfl, b2⟩
end Go.Proofs.YtmdibafofdghgaaGreatDoor
/- Elements one behind the other, as a list: plain mathematics, of no program. -/
namespace Go.Proofs.YtmdibafofdghgaaGreatDoor
open Go.RowKit K P1 B5
set_option linter.unusedVariables false

/-- The elements one behind the other, so many of them ahead; or what is wrong first: 50, 2. -/
def prts : Nat → Nat → List UInt8 → Except Nat (List (Nat × List UInt8))
  | 0, _, l => if l.isEmpty then .ok [] else .error 50
  | k + 1, c, l =>
    if l.isEmpty then .ok []
    else if nxOk l = false then .error 50
    else if c = 4096 then .error 2
    else match prts k (c + 1) (nxR l) with
      | .error e => .error e
      | .ok r => .ok ((nxT l, nxB l) :: r)
theorem prts_nil (k c : Nat) : prts k c [] = .ok [] := by cases k <;> rfl
theorem prts_more : ∀ (n k m c : Nat) (l : List UInt8), l.length ≤ n → l.length ≤ k → l.length ≤ m → prts k c l = prts m c l
  | 0, k, m, c, l, hn, _, _ => by
    obtain rfl : l = [] := List.length_eq_zero_iff.1 (by omega)
    rw [prts_nil, prts_nil]
  | n + 1, k, m, c, l, hn, hk, hm => by
    by_cases h : l = []
    · subst h; rw [prts_nil, prts_nil]
    · have hp := List.length_pos_iff.2 h
      obtain ⟨k, rfl⟩ : ∃ j, k = j + 1 := ⟨k - 1, by omega⟩
      obtain ⟨m, rfl⟩ : ∃ j, m = j + 1 := ⟨m - 1, by omega⟩
      unfold prts
      by_cases hx : nxOk l = true
      · obtain ⟨_, _, _, _, h5⟩ := nx_of hx
        rw [prts_more n k m (c + 1) (nxR l) (by omega) (by omega) (by omega)]
      · rw [Bool.not_eq_true] at hx
        rw [if_pos hx, if_pos hx]
def prt (c : Nat) (l : List UInt8) : Except Nat (List (Nat × List UInt8)) := prts l.length c l
theorem prt_step {l : List UInt8} (h : l ≠ []) (c : Nat) : prt c l =
    if nxOk l = false then .error 50
    else if c = 4096 then .error 2
    else match prt (c + 1) (nxR l) with
      | .error e => .error e
      | .ok r => .ok ((nxT l, nxB l) :: r) := by
  have hp := List.length_pos_iff.2 h
  obtain ⟨k, hk⟩ : ∃ k, l.length = k + 1 := ⟨l.length - 1, by omega⟩
  have he : l.isEmpty = false := List.isEmpty_eq_false_iff.2 h
  unfold prt
  rw [hk]
  conv => lhs; unfold prts
  rw [he]
  by_cases hx : nxOk l = true
  · obtain ⟨_, _, _, _, h5⟩ := nx_of hx
    rw [prts_more k k (nxR l).length (c + 1) (nxR l) (by omega) (by omega) (Nat.le_refl _)]
    rfl
  · rw [Bool.not_eq_true] at hx
    rw [if_pos hx, if_pos hx]; rfl
/-- Elements ahead of what is told. -/
def ahd (ps : List (Nat × List UInt8)) (x : Except Nat (List (Nat × List UInt8))) : Except Nat (List (Nat × List UInt8)) :=
  match x with
  | .error e => .error e
  | .ok r => .ok (ps ++ r)
theorem ahd_nil (x : Except Nat (List (Nat × List UInt8))) : ahd [] x = x := by cases x <;> rfl
theorem ahd_bad (ps : List (Nat × List UInt8)) {l : List UInt8} (h : l ≠ []) (hx : nxOk l = false) : ahd ps (prt ps.length l) = .error 50 := by
  rw [prt_step h, if_pos hx]; rfl
theorem ahd_many (ps : List (Nat × List UInt8)) {l : List UInt8} (hx : nxOk l = true) (hc : ps.length = 4096) : ahd ps (prt ps.length l) = .error 2 := by
  rw [prt_step (nxOk_ne hx), if_neg (by rw [hx]; simp), if_pos hc]; rfl
theorem ahd_one (ps : List (Nat × List UInt8)) {l : List UInt8} (hx : nxOk l = true) (hc : ¬ ps.length = 4096) : ahd ps (prt ps.length l) = ahd (ps ++ [(nxT l, nxB l)]) (prt (ps ++ [(nxT l, nxB l)]).length (nxR l)) := by
  rw [prt_step (nxOk_ne hx), if_neg (by rw [hx]; simp), if_neg hc, List.length_append]
  show ahd ps (match prt (ps.length + 1) (nxR l) with | .error e => .error e | .ok r => .ok ((nxT l, nxB l) :: r)) = ahd (ps ++ [(nxT l, nxB l)]) (prt (ps.length + 1) (nxR l))
  cases prt (ps.length + 1) (nxR l) with
  | error e => rfl
  | ok r => simp [ahd]
/-- Elements that are put one behind the other. -/
theorem prt_puts : ∀ (ps : List (Nat × List UInt8)) (c : Nat), (∀ p ∈ ps, isTag p.1 = true ∧ p.1 < 256 ∧ p.2.length < 4294967296) → c + ps.length ≤ 4096 → prt c (ps.flatMap fun p => put p.1 p.2) = .ok ps
  | [], c, _, _ => rfl
  | p :: ps, c, h, hc => by
    obtain ⟨h1, h2, h3⟩ := h p (by simp)
    obtain ⟨x1, x2, x3, x4⟩ := nx_put p.1 p.2 (ps.flatMap fun p => put p.1 p.2) h1 h2 h3
    rw [List.length_cons] at hc
    rw [List.flatMap_cons, prt_step (put_ne _ _ _), x1, x2, x3, x4, if_neg (by simp), if_neg (by omega), prt_puts ps (c + 1) (fun q hq => h q (by simp [hq])) (by omega)]
end Go.Proofs.YtmdibafofdghgaaGreatDoor
