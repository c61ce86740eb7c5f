/- Whatever is asked of a reader of any bytes, it answers, stands, and is refused, as the document has it: gonglaw01.OctetReads answers true at every input, and its arguments read as before. No condition. -/
import Derived.Test.YtkcgddcdgneenaaOctI
import Derived.Test.YtkcgddcdgneenaaOctW
import Derived.Test.YtkcgddcdgneenaaArg
import Derived.Test.YtkcgddcdgneenaaBook
import Derived.Deep.RegionHeld3
namespace Go.Proofs.Ytkcgddcdgneenaa
open Go.ChangeShapes Go.WideShapes Go.ChangeAt Go.RowKit P1 K
open Go.ChangeMaps (open_string shut_string)
set_option linter.unusedVariables false


theorem asked0 (b1 b2 : Nat) (s : List UInt8) (p : Nat) (c x y : Int) (ok : Ok s p c) (hx0 : -9223372036854775808 ≤ x) (hx1 : x ≤ 9223372036854775807) (hy0 : -9223372036854775808 ≤ y) (hy1 : y ≤ 9223372036854775807) (hne : b1 ≠ b2)
    (w : World) (r1 : Rdr w b1 58 s p c) (r2 : Rdr w b2 34 s p c) (hk : belowN x 5 = 0) :
    Calls Try.prog 16 #[.pointer (some ⟨b1, 0, none⟩), .pointer (some ⟨b2, 0, none⟩), .agg #[.int .i64 x, .int .i64 y]] w fun e w' => e = .returned (.bool true) ∧ Kp [b1, b2] w w' ∧ Rdr w' b1 58 s (rdG s p c y).2.1 (rdG s p c y).2.2 ∧ Rdr w' b2 34 s (rdG s p c y).2.1 (rdG s p c y).2.2 := by
  have l1 := lt_of_block r1
  have l2 := lt_of_block r2
  have R1 := Lib.hid r1; have R2 := Lib.hid r2; have HK := Lib.hid hk
  clear r1 r2 hk
  go_enter Try.func16, Try.ntmps16
  go_wp2_with fail
  refine (below_walk x 5 hx0 hx1 (by omega) (by omega) _).mono ?_
  rintro e w1 ⟨rfl, rfl⟩
  rw [HK.out]
  go_wp2_with fail
  have q1 : Rdr (w.alloc (Obj.cells #[Value.int IntKind.i64 x, Value.int IntKind.i64 y] 37)) b1 58 s p c := ((Kp.refl [] w).alloc _).heap R1.out (by simp)
  have q2 : Rdr (w.alloc (Obj.cells #[Value.int IntKind.i64 x, Value.int IntKind.i64 y] 37)) b2 34 s p c := ((Kp.refl [] w).alloc _).heap R2.out (by simp)
  have q3 : (w.alloc (Obj.cells #[Value.int IntKind.i64 x, Value.int IntKind.i64 y] 37)).cell? ⟨w.heap.size, 1, none⟩ = some (.int .i64 y) := by rw [cellRow (rowNew w _)]; rfl
  have q4 : Kp [b1, b2] w (w.alloc (Obj.cells #[Value.int IntKind.i64 x, Value.int IntKind.i64 y] 37)) := (Kp.refl _ w).alloc _
  generalize w.alloc (Obj.cells #[Value.int IntKind.i64 x, Value.int IntKind.i64 y] 37) = wq at *
  generalize w.heap.size = pb at *
  have n1 : pb ≠ b1 := by omega
  have n2 : pb ≠ b2 := by omega
  clear R1 R2 l1 l2
  have Q1 := Lib.hid q1; have Q2 := Lib.hid q2
  clear q1 q2
  go_region_held3 (fun w' => w'.cell? ⟨pb, 1, none⟩ = some (.int .i64 y)) (first | exact q3 | exact z1 | exact z2 | go_keep)
    (first | (go_at_call 23; refine (rGroups_walk b1 58 s p c y ok hy0 hy1 _ ?_).mono ?_; exact Q1.out; rintro e x1 ⟨rfl, k1, t1⟩; have z1 := k1.cell q3 (by simp; omega)) | (go_at_call 33; refine (qGroups_walk b2 34 s p c y ok hy0 hy1 _ ?_).mono ?_; exact k1.heap Q2.out (by simp; omega); rintro e x2 ⟨rfl, k2, t2⟩; have z2 := k2.cell z1 (by simp; omega)))
  go_wp2
  go_ret
  exact ⟨rfl, (q4.trans (k1.ofDrew.mono (by simp))).trans (k2.mono (by simp)), k2.heap t1 (by simp; exact hne), t2⟩

theorem asked1 (b1 b2 : Nat) (s : List UInt8) (p : Nat) (c x y : Int) (ok : Ok s p c) (hx0 : -9223372036854775808 ≤ x) (hx1 : x ≤ 9223372036854775807) (hy0 : -9223372036854775808 ≤ y) (hy1 : y ≤ 9223372036854775807) (hne : b1 ≠ b2)
    (w : World) (r1 : Rdr w b1 58 s p c) (r2 : Rdr w b2 34 s p c) (hk : belowN x 5 = 1) :
    Calls Try.prog 16 #[.pointer (some ⟨b1, 0, none⟩), .pointer (some ⟨b2, 0, none⟩), .agg #[.int .i64 x, .int .i64 y]] w fun e w' => e = .returned (.bool true) ∧ Kp [b1, b2] w w' ∧ Rdr w' b1 58 s (rdW s p c y).2.1 (rdW s p c y).2.2 ∧ Rdr w' b2 34 s (rdW s p c y).2.1 (rdW s p c y).2.2 := by
  have l1 := lt_of_block r1
  have l2 := lt_of_block r2
  have R1 := Lib.hid r1; have R2 := Lib.hid r2; have HK := Lib.hid hk
  clear r1 r2 hk
  go_enter Try.func16, Try.ntmps16
  go_wp2_with fail
  refine (below_walk x 5 hx0 hx1 (by omega) (by omega) _).mono ?_
  rintro e w1 ⟨rfl, rfl⟩
  rw [HK.out]
  go_wp2_with fail
  have q1 : Rdr (w.alloc (Obj.cells #[Value.int IntKind.i64 x, Value.int IntKind.i64 y] 37)) b1 58 s p c := ((Kp.refl [] w).alloc _).heap R1.out (by simp)
  have q2 : Rdr (w.alloc (Obj.cells #[Value.int IntKind.i64 x, Value.int IntKind.i64 y] 37)) b2 34 s p c := ((Kp.refl [] w).alloc _).heap R2.out (by simp)
  have q3 : (w.alloc (Obj.cells #[Value.int IntKind.i64 x, Value.int IntKind.i64 y] 37)).cell? ⟨w.heap.size, 1, none⟩ = some (.int .i64 y) := by rw [cellRow (rowNew w _)]; rfl
  have q4 : Kp [b1, b2] w (w.alloc (Obj.cells #[Value.int IntKind.i64 x, Value.int IntKind.i64 y] 37)) := (Kp.refl _ w).alloc _
  generalize w.alloc (Obj.cells #[Value.int IntKind.i64 x, Value.int IntKind.i64 y] 37) = wq at *
  generalize w.heap.size = pb at *
  have n1 : pb ≠ b1 := by omega
  have n2 : pb ≠ b2 := by omega
  clear R1 R2 l1 l2
  have Q1 := Lib.hid q1; have Q2 := Lib.hid q2
  clear q1 q2
  go_region_held3 (fun w' => w'.cell? ⟨pb, 1, none⟩ = some (.int .i64 y)) (first | exact q3 | exact z1 | exact z2 | go_keep)
    (first | (go_at_call 24; refine (rWide_walk b1 58 s p c y ok _ ?_).mono ?_; exact Q1.out; rintro e x1 ⟨rfl, k1, t1⟩; have z1 := k1.cell q3 (by simp; omega)) | (go_at_call 34; refine (qWide_walk b2 34 s p c y ok _ ?_).mono ?_; exact k1.heap Q2.out (by simp; omega); rintro e x2 ⟨rfl, k2, t2⟩; have z2 := k2.cell z1 (by simp; omega)))
  go_wp2
  go_ret
  exact ⟨rfl, (q4.trans (k1.ofDrew.mono (by simp))).trans (k2.mono (by simp)), k2.heap t1 (by simp; exact hne), t2⟩

theorem asked2 (b1 b2 : Nat) (s : List UInt8) (p : Nat) (c x y : Int) (ok : Ok s p c) (hx0 : -9223372036854775808 ≤ x) (hx1 : x ≤ 9223372036854775807) (hy0 : -9223372036854775808 ≤ y) (hy1 : y ≤ 9223372036854775807) (hne : b1 ≠ b2)
    (w : World) (r1 : Rdr w b1 58 s p c) (r2 : Rdr w b2 34 s p c) (hk : belowN x 5 = 2) :
    Calls Try.prog 16 #[.pointer (some ⟨b1, 0, none⟩), .pointer (some ⟨b2, 0, none⟩), .agg #[.int .i64 x, .int .i64 y]] w fun e w' => e = .returned (.bool true) ∧ Kp [b1, b2] w w' ∧ Rdr w' b1 58 s (rdT s p c y).2.1 (rdT s p c y).2.2 ∧ Rdr w' b2 34 s (rdT s p c y).2.1 (rdT s p c y).2.2 := by
  have l1 := lt_of_block r1
  have l2 := lt_of_block r2
  have R1 := Lib.hid r1; have R2 := Lib.hid r2; have HK := Lib.hid hk
  clear r1 r2 hk
  go_enter Try.func16, Try.ntmps16
  go_wp2_with fail
  refine (below_walk x 5 hx0 hx1 (by omega) (by omega) _).mono ?_
  rintro e w1 ⟨rfl, rfl⟩
  rw [HK.out]
  go_wp2_with fail
  have q1 : Rdr (w.alloc (Obj.cells #[Value.int IntKind.i64 x, Value.int IntKind.i64 y] 37)) b1 58 s p c := ((Kp.refl [] w).alloc _).heap R1.out (by simp)
  have q2 : Rdr (w.alloc (Obj.cells #[Value.int IntKind.i64 x, Value.int IntKind.i64 y] 37)) b2 34 s p c := ((Kp.refl [] w).alloc _).heap R2.out (by simp)
  have q3 : (w.alloc (Obj.cells #[Value.int IntKind.i64 x, Value.int IntKind.i64 y] 37)).cell? ⟨w.heap.size, 1, none⟩ = some (.int .i64 y) := by rw [cellRow (rowNew w _)]; rfl
  have q4 : Kp [b1, b2] w (w.alloc (Obj.cells #[Value.int IntKind.i64 x, Value.int IntKind.i64 y] 37)) := (Kp.refl _ w).alloc _
  generalize w.alloc (Obj.cells #[Value.int IntKind.i64 x, Value.int IntKind.i64 y] 37) = wq at *
  generalize w.heap.size = pb at *
  have n1 : pb ≠ b1 := by omega
  have n2 : pb ≠ b2 := by omega
  clear R1 R2 l1 l2
  have Q1 := Lib.hid q1; have Q2 := Lib.hid q2
  clear q1 q2
  go_region_held3 (fun w' => w'.cell? ⟨pb, 1, none⟩ = some (.int .i64 y)) (first | exact q3 | exact z1 | exact z2 | go_keep)
    (first | (go_at_call 25; refine (rText_walk b1 58 s p c y ok hy0 hy1 _ ?_).mono ?_; exact Q1.out; rintro e x1 ⟨rfl, k1, t1⟩; have z1 := k1.cell q3 (by simp; omega)) | (go_at_call 35; refine (qText_walk b2 34 s p c y ok hy0 hy1 _ ?_).mono ?_; exact k1.heap Q2.out (by simp; omega); rintro e x2 ⟨rfl, k2, t2⟩; have z2 := k2.cell z1 (by simp; omega)))
  go_wp2
  go_ret
  exact ⟨rfl, (q4.trans (k1.ofDrew.mono (by simp))).trans (k2.mono (by simp)), k2.heap t1 (by simp; exact hne), t2⟩

theorem asked3 (b1 b2 : Nat) (s : List UInt8) (p : Nat) (c x y : Int) (ok : Ok s p c) (hx0 : -9223372036854775808 ≤ x) (hx1 : x ≤ 9223372036854775807) (hy0 : -9223372036854775808 ≤ y) (hy1 : y ≤ 9223372036854775807) (hne : b1 ≠ b2)
    (w : World) (r1 : Rdr w b1 58 s p c) (r2 : Rdr w b2 34 s p c) (hk : belowN x 5 = 3) :
    Calls Try.prog 16 #[.pointer (some ⟨b1, 0, none⟩), .pointer (some ⟨b2, 0, none⟩), .agg #[.int .i64 x, .int .i64 y]] w fun e w' => e = .returned (.bool true) ∧ Kp [b1, b2] w w' ∧ Rdr w' b1 58 s (rdB s p c y).2.1 (rdB s p c y).2.2 ∧ Rdr w' b2 34 s (rdB s p c y).2.1 (rdB s p c y).2.2 := by
  have l1 := lt_of_block r1
  have l2 := lt_of_block r2
  have R1 := Lib.hid r1; have R2 := Lib.hid r2; have HK := Lib.hid hk
  clear r1 r2 hk
  go_enter Try.func16, Try.ntmps16
  go_wp2_with fail
  refine (below_walk x 5 hx0 hx1 (by omega) (by omega) _).mono ?_
  rintro e w1 ⟨rfl, rfl⟩
  rw [HK.out]
  go_wp2_with fail
  have q1 : Rdr (w.alloc (Obj.cells #[Value.int IntKind.i64 x, Value.int IntKind.i64 y] 37)) b1 58 s p c := ((Kp.refl [] w).alloc _).heap R1.out (by simp)
  have q2 : Rdr (w.alloc (Obj.cells #[Value.int IntKind.i64 x, Value.int IntKind.i64 y] 37)) b2 34 s p c := ((Kp.refl [] w).alloc _).heap R2.out (by simp)
  have q3 : (w.alloc (Obj.cells #[Value.int IntKind.i64 x, Value.int IntKind.i64 y] 37)).cell? ⟨w.heap.size, 1, none⟩ = some (.int .i64 y) := by rw [cellRow (rowNew w _)]; rfl
  have q4 : Kp [b1, b2] w (w.alloc (Obj.cells #[Value.int IntKind.i64 x, Value.int IntKind.i64 y] 37)) := (Kp.refl _ w).alloc _
  generalize w.alloc (Obj.cells #[Value.int IntKind.i64 x, Value.int IntKind.i64 y] 37) = wq at *
  generalize w.heap.size = pb at *
  have n1 : pb ≠ b1 := by omega
  have n2 : pb ≠ b2 := by omega
  clear R1 R2 l1 l2
  have Q1 := Lib.hid q1; have Q2 := Lib.hid q2
  clear q1 q2
  go_region_held3 (fun w' => w'.cell? ⟨pb, 1, none⟩ = some (.int .i64 y)) (first | exact q3 | exact z1 | exact z2 | go_keep)
    (first | (go_at_call 28; refine (rBytes_walk b1 58 s p c y ok hy0 hy1 _ ?_).mono ?_; exact Q1.out; rintro e x1 ⟨rfl, k1, t1⟩; have z1 := k1.cell q3 (by simp; omega)) | (go_at_call 36; refine (qBytes_walk b2 34 s p c y ok _ ?_).mono ?_; exact k1.heap Q2.out (by simp; omega); rintro e x2 ⟨rfl, k2, t2⟩; have z2 := k2.cell z1 (by simp; omega)))
  go_wp2
  go_ret
  exact ⟨rfl, (q4.trans (k1.ofDrew.mono (by simp))).trans (k2.mono (by simp)), k2.heap t1 (by simp; exact hne), t2⟩

theorem asked4 (b1 b2 : Nat) (s : List UInt8) (p : Nat) (c x y : Int) (ok : Ok s p c) (hx0 : -9223372036854775808 ≤ x) (hx1 : x ≤ 9223372036854775807) (hy0 : -9223372036854775808 ≤ y) (hy1 : y ≤ 9223372036854775807) (hne : b1 ≠ b2)
    (w : World) (r1 : Rdr w b1 58 s p c) (r2 : Rdr w b2 34 s p c) (hk : belowN x 5 = 4) :
    Calls Try.prog 16 #[.pointer (some ⟨b1, 0, none⟩), .pointer (some ⟨b2, 0, none⟩), .agg #[.int .i64 x, .int .i64 y]] w fun e w' => e = .returned (.bool true) ∧ Kp [b1, b2] w w' ∧ Rdr w' b1 58 s p (newc c (belowN y 50)) ∧ Rdr w' b2 34 s p (newc c (belowN y 50)) := by
  have l1 := lt_of_block r1
  have l2 := lt_of_block r2
  have R1 := Lib.hid r1; have R2 := Lib.hid r2; have HK := Lib.hid hk
  clear r1 r2 hk
  go_enter Try.func16, Try.ntmps16
  go_wp2_with fail
  refine (below_walk x 5 hx0 hx1 (by omega) (by omega) _).mono ?_
  rintro e w1 ⟨rfl, rfl⟩
  rw [HK.out]
  go_wp2_with fail
  refine (below_walk y 50 hy0 hy1 (by omega) (by omega) _).mono ?_
  rintro e w1 ⟨rfl, rfl⟩
  have q1 : Rdr (w.alloc (Obj.cells #[Value.int IntKind.i64 x, Value.int IntKind.i64 y] 37)) b1 58 s p c := ((Kp.refl [] w).alloc _).heap R1.out (by simp)
  have q2 : Rdr (w.alloc (Obj.cells #[Value.int IntKind.i64 x, Value.int IntKind.i64 y] 37)) b2 34 s p c := ((Kp.refl [] w).alloc _).heap R2.out (by simp)
  have q4 : Kp [b1, b2] w (w.alloc (Obj.cells #[Value.int IntKind.i64 x, Value.int IntKind.i64 y] 37)) := (Kp.refl _ w).alloc _
  generalize w.alloc (Obj.cells #[Value.int IntKind.i64 x, Value.int IntKind.i64 y] 37) = wq at *
  generalize w.heap.size = pb at *
  clear R1 R2 l1 l2
  go_wp2_with fail
  refine (refuse_walk b1 _ s p c (belowN y 50) wq q1).mono ?_
  rintro e x1 ⟨rfl, k1, t1⟩
  go_wp2_with fail
  refine (qRefuse_walk b2 _ s p c (belowN y 50) x1 (k1.heap q2 (by simp; omega))).mono ?_
  rintro e x2 ⟨rfl, k2, t2⟩
  clear q1 q2
  have HT := Lib.hid t1; clear t1
  go_wp2
  go_ret
  exact ⟨rfl, (q4.trans (k1.mono (by simp))).trans (k2.mono (by simp)), k2.heap HT.out (by simp; exact hne), t2⟩

/-- The state behind an ask. -/
def stp (s : List UInt8) (p : Nat) (c x y : Int) : Nat × Int :=
  if belowN x 5 = 0 then (rdG s p c y).2 else if belowN x 5 = 1 then (rdW s p c y).2 else if belowN x 5 = 2 then (rdT s p c y).2 else if belowN x 5 = 3 then (rdB s p c y).2 else (p, newc c (belowN y 50))
theorem newc_ok (s : List UInt8) (p : Nat) (c d : Int) (ok : Ok s p c) (h0 : 0 ≤ d) (h1 : d < 1000) : Ok s p (newc c d) := by
  refine ⟨ok.len, ok.at_, ?_, ?_⟩
  · have := ok.lo; unfold newc; split <;> omega
  · have := ok.hi; unfold newc; split <;> omega
theorem stp_ok (s : List UInt8) (p : Nat) (c x y : Int) (ok : Ok s p c) : Ok s (stp s p c x y).1 (stp s p c x y).2 := by
  have hb := belowN_bounds y 50 (by omega)
  unfold stp
  split
  · exact (rdG_ok s p c y ok).1
  · split
    · exact rdW_ok s p c y ok
    · split
      · exact rdT_ok s p c y ok
      · split
        · exact rdB_ok s p c y ok
        · exact newc_ok s p c _ ok hb.1 (by omega)
theorem asked_walk (b1 b2 : Nat) (s : List UInt8) (p : Nat) (c x y : Int) (ok : Ok s p c) (hx0 : -9223372036854775808 ≤ x) (hx1 : x ≤ 9223372036854775807) (hy0 : -9223372036854775808 ≤ y) (hy1 : y ≤ 9223372036854775807) (hne : b1 ≠ b2)
    (w : World) (r1 : Rdr w b1 58 s p c) (r2 : Rdr w b2 34 s p c) :
    Calls Try.prog 16 #[.pointer (some ⟨b1, 0, none⟩), .pointer (some ⟨b2, 0, none⟩), .agg #[.int .i64 x, .int .i64 y]] w fun e w' => e = .returned (.bool true) ∧ Kp [b1, b2] w w' ∧ Rdr w' b1 58 s (stp s p c x y).1 (stp s p c x y).2 ∧ Rdr w' b2 34 s (stp s p c x y).1 (stp s p c x y).2 := by
  have hb := belowN_bounds x 5 (by omega)
  unfold stp
  by_cases h0 : belowN x 5 = 0
  · rw [if_pos h0]; exact asked0 b1 b2 s p c x y ok hx0 hx1 hy0 hy1 hne w r1 r2 h0
  · rw [if_neg h0]
    by_cases h1 : belowN x 5 = 1
    · rw [if_pos h1]; exact asked1 b1 b2 s p c x y ok hx0 hx1 hy0 hy1 hne w r1 r2 h1
    · rw [if_neg h1]
      by_cases h2 : belowN x 5 = 2
      · rw [if_pos h2]; exact asked2 b1 b2 s p c x y ok hx0 hx1 hy0 hy1 hne w r1 r2 h2
      · rw [if_neg h2]
        by_cases h3 : belowN x 5 = 3
        · rw [if_pos h3]; exact asked3 b1 b2 s p c x y ok hx0 hx1 hy0 hy1 hne w r1 r2 h3
        · rw [if_neg h3]; exact asked4 b1 b2 s p c x y ok hx0 hx1 hy0 hy1 hne w r1 r2 (by omega)
end Go.Proofs.Ytkcgddcdgneenaa
