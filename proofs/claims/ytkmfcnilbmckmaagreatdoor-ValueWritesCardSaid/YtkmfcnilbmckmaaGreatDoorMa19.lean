/- Texts on the program and on the document, joined: ValC. -/
import Derived.Test.YtkmfcnilbmckmaaGreatDoorMa18
/- The document's Put, Encode of values, walked. -/
namespace Go.Proofs.YtkmfcnilbmckmaaGreatDoor
open Go.ChangeShapes Go.WideShapes Go.ChangeAt Go.RowKit K P1 B5
set_option linter.unusedVariables false

theorem Below_in {w x : World} {o : Obj} (k : Below (w.alloc o).heap.size (w.alloc o) x) : Below w.heap.size w x :=
  ((Below.refl _ _).alloc (Nat.le_refl _) _).trans (k.mono (by simp))
/-- A value's cells in block b. -/
def Vr (x : World) (b : Nat) (k n : Int) (s : List UInt8) : Prop := x.cell? ⟨b, 0, none⟩ = some (.int .i64 k) ∧ x.cell? ⟨b, 1, none⟩ = some (.int .i64 n) ∧ x.cell? ⟨b, 2, none⟩ = some (.string (bs s))
theorem Vr.new (w : World) (k n : Int) (s : List UInt8) : Vr (w.alloc (.cells #[.int .i64 k, .int .i64 n, .string (bs s)] 24)) w.heap.size k n s :=
  ⟨cellRow (rowNew w _) 0, cellRow (rowNew w _) 1, cellRow (rowNew w _) 2⟩
theorem Vr.below {x y : World} {b : Nat} {k n : Int} {s : List UInt8} (h : Vr x b k n s) (k1 : Below x.heap.size x y) : Vr y b k n s :=
  ⟨(k1.cell (World.block_lt_of_cell? x _ h.1)).trans h.1, (k1.cell (World.block_lt_of_cell? x _ h.2.1)).trans h.2.1, (k1.cell (World.block_lt_of_cell? x _ h.2.2)).trans h.2.2⟩
theorem Vr.ofDrew {x y : World} {n : Nat} (k1 : Below (x.drewN n).heap.size (x.drewN n) y) : Below x.heap.size x y := ⟨k1.os, k1.tape, k1.output, k1.size, k1.block⟩
theorem alloc_in (w : World) (o : Obj) : Below w.heap.size w (w.alloc o) := (Below.refl _ _).alloc (Nat.le_refl _) _
theorem u64_wrap (n : Int) : IntKind.u64.wrap n = ((V7.uu n : Nat) : Int) := by
  unfold V7.uu; simp [IntKind.wrap, IntKind.signed, IntKind.bits]; omega
theorem put_gen {k n : Int} {s : List UInt8} (h : V7.ckV k n s = true) (w1 : World) :
    Calls Tryz.prog 57 #[.int .i64 k, .string (bs (V7.bdV k n s))] w1 fun e w' => e = .returned (.string (bs (V7.enT k n s))) ∧ Below w1.heap.size w1 w' := by
  obtain ⟨t1, t2, t3, t4⟩ := V7.ck_tag h
  have hl := (V7.bd_len h).1
  have := qput_walk k.toNat t2 (V7.bdV k n s) (by omega) w1
  rw [t3] at this
  rw [(V7.en_next h).1]
  exact this
set_option maxRecDepth 100000 in
set_option maxHeartbeats 2000000 in
theorem qput7_walk (k n : Int) (s : List UInt8) (n0 : -9223372036854775808 ≤ n) (n1 : n ≤ 9223372036854775807) (h : V7.ckV k n s = true) (w : World) :
    Calls Tryz.prog 27 #[.agg #[.int .i64 k, .int .i64 n, .string (bs s)]] w fun e w' => e = .returned (.string (bs (V7.enT k n s))) ∧ Below w.heap.size w w' := by
  have HP := Lib.hid (fun w1 => put_gen h w1)
  cases V7.ways h with
  | int hk hs h0 h1 =>
    have HB : V7.bdV k n s = pn n := by unfold V7.bdV; rw [if_pos hk]
    rw [HB] at HP
    have HN := Lib.hid (fun w1 => qputnumber_walk n n0 n1 w1)
    subst hk hs
    clear HB h
    generalize V7.enT 2 n [] = T at *
    generalize pn n = P at *
    have hv := Vr.new w 2 n []
    have bw := alloc_in w (.cells #[.int .i64 2, .int .i64 n, .string (bs [])] 24)
    go_enter Tryz.func27, Tryz.ntmps27
    go_wp2_with fail
    generalize w.alloc (.cells #[.int .i64 2, .int .i64 n, .string (bs [])] 24) = w0 at *
    have z0 := And.intro hv.1 hv.2.1
    go_region_held3 (fun x => x.cell? ⟨w.heap.size, 0, none⟩ = some (.int .i64 2) ∧ x.cell? ⟨w.heap.size, 1, none⟩ = some (.int .i64 n)) (first | exact z0 | exact z1 | exact z2)
      (first
        | (go_at_call 58; refine (HN.out _).mono ?_; rintro e x1 ⟨rfl, k1⟩; have k1' : Below w0.heap.size w0 x1 := ⟨k1.os, k1.tape, k1.output, k1.size, k1.block⟩; have b1 := bw.trans (k1'.mono bw.size); have hv1 := hv.below k1'; have z1 := And.intro hv1.1 hv1.2.1)
        | (go_at_call 57; refine (HP.out _).mono ?_; rintro e x2 ⟨rfl, k2⟩; have k2' : Below x1.heap.size x1 x2 := ⟨k2.os, k2.tape, k2.output, k2.size, k2.block⟩; have b2 := b1.trans (k2'.mono b1.size); have hv2 := hv1.below k2'; have z2 := And.intro hv2.1 hv2.2.1))
    go_wp2
    go_ret
    exact ⟨rfl, b2⟩
  | text hk hn hs =>
    have HB : V7.bdV k n s = s := by unfold V7.bdV; rw [if_neg (by omega), if_neg (by omega), if_neg (by omega)]
    rw [HB] at HP
    clear HB h
    generalize V7.enT k n s = T at *
    subst hn
    rcases hk with rfl | rfl
    all_goals
      go_enter Tryz.func27, Tryz.ntmps27
      go_wp2_with fail
      refine (HP.out _).mono ?_
      rintro e w2 ⟨rfl, b2⟩
      go_wp2
      go_ret
      exact ⟨rfl, Below_in b2⟩
  | null hk hn hs =>
    have HB : V7.bdV k n s = s := by unfold V7.bdV; rw [if_neg (by omega), if_neg (by omega), if_neg (by omega)]
    rw [HB] at HP
    clear HB h
    generalize V7.enT k n s = T at *
    subst hn hk hs
    go_enter Tryz.func27, Tryz.ntmps27
    go_wp2_with fail
    refine (HP.out _).mono ?_
    rintro e w2 ⟨rfl, b2⟩
    go_wp2
    go_ret
    exact ⟨rfl, Below_in b2⟩
  | addr hk hn hs =>
    have HB : V7.bdV k n s = s := by unfold V7.bdV; rw [if_neg (by omega), if_neg (by omega), if_neg (by omega)]
    rw [HB] at HP
    clear HB h
    generalize V7.enT k n s = T at *
    subst hn hk
    go_enter Tryz.func27, Tryz.ntmps27
    go_wp2_with fail
    refine (HP.out _).mono ?_
    rintro e w2 ⟨rfl, b2⟩
    go_wp2
    go_ret
    exact ⟨rfl, Below_in b2⟩
  | oid hk hn l hl hs =>
    have HB : V7.bdV k n s = eb l := by unfold V7.bdV; rw [if_neg (by omega), if_neg (by omega), if_pos hk]; unfold V7.ob; rw [← hs, O6.arcs_put hl]; rfl
    rw [HB] at HP
    have hsl : s.length ≤ 140737488351232 := by
      have h1 := O6.put_len l (O6.isArcs_le hl)
      have h2 := (O6.isArcs_len hl).2
      rw [← hs]; omega
    have hE := fun w1 => qencode_walk s hsl w1
    have h1 : enS s = eb l ∧ arE s = 0 := by
      have ha : O6.arcs s = some l := by rw [← hs]; exact O6.arcs_put hl
      unfold enS; rw [ha, (ar_some ha).2]; exact ⟨rfl, (ar_some ha).1⟩
    rw [h1.1, h1.2] at hE
    have HE := Lib.hid hE
    clear HB h hE h1 hl hs
    generalize V7.enT k n s = T at *
    generalize eb l = B at *
    subst hn hk
    go_enter Tryz.func27, Tryz.ntmps27
    go_wp2_with fail
    refine (HE.out _).mono ?_
    rintro e w1 ⟨rfl, b1⟩
    obtain ⟨z0, z1, z2⟩ := (Vr.new w 6 0 s).below b1
    go_wp2_with fail
    refine (HP.out _).mono ?_
    rintro e w2 ⟨rfl, b2⟩
    go_wp2
    go_ret
    exact ⟨rfl, (Below_in b1).trans (b2.mono (Below_in b1).size)⟩
  | count hk hs h0 h1 =>
    have HB : V7.bdV k n s = un (V7.uu n) := by unfold V7.bdV; rw [if_neg (by omega), if_pos (by omega)]
    rw [HB] at HP
    have HN := Lib.hid (fun w1 => qputunsigned_walk (V7.uu n) (V7.uu_lt n) w1)
    have hu := u64_wrap n
    clear HB h
    subst hs
    generalize V7.enT k n [] = T at *
    generalize un (V7.uu n) = P at *
    generalize ((V7.uu n : Nat) : Int) = U at *
    rcases hk with rfl | rfl | rfl
    · have hv := Vr.new w 65 n []
      have bw := alloc_in w (.cells #[.int .i64 65, .int .i64 n, .string (bs [])] 24)
      go_enter Tryz.func27, Tryz.ntmps27
      go_wp2_with fail
      generalize w.alloc (.cells #[.int .i64 65, .int .i64 n, .string (bs [])] 24) = w0 at *
      have z0 := And.intro hv.1 hv.2.1
      go_region_held3 (fun x => x.cell? ⟨w.heap.size, 0, none⟩ = some (.int .i64 65) ∧ x.cell? ⟨w.heap.size, 1, none⟩ = some (.int .i64 n)) (first | exact z0 | exact z1 | exact z2)
        (first
          | (go_at_call 59; refine (HN.out _).mono ?_; rintro e x1 ⟨rfl, k1⟩; have k1' : Below w0.heap.size w0 x1 := ⟨k1.os, k1.tape, k1.output, k1.size, k1.block⟩; have b1 := bw.trans (k1'.mono bw.size); have hv1 := hv.below k1'; have z1 := And.intro hv1.1 hv1.2.1)
          | (go_at_call 57; refine (HP.out _).mono ?_; rintro e x2 ⟨rfl, k2⟩; have k2' : Below x1.heap.size x1 x2 := ⟨k2.os, k2.tape, k2.output, k2.size, k2.block⟩; have b2 := b1.trans (k2'.mono b1.size); have hv2 := hv1.below k2'; have z2 := And.intro hv2.1 hv2.2.1))
      go_wp2
      go_ret
      exact ⟨rfl, b2⟩
    · have hv := Vr.new w 66 n []
      have bw := alloc_in w (.cells #[.int .i64 66, .int .i64 n, .string (bs [])] 24)
      go_enter Tryz.func27, Tryz.ntmps27
      go_wp2_with fail
      generalize w.alloc (.cells #[.int .i64 66, .int .i64 n, .string (bs [])] 24) = w0 at *
      have z0 := And.intro hv.1 hv.2.1
      go_region_held3 (fun x => x.cell? ⟨w.heap.size, 0, none⟩ = some (.int .i64 66) ∧ x.cell? ⟨w.heap.size, 1, none⟩ = some (.int .i64 n)) (first | exact z0 | exact z1 | exact z2)
        (first
          | (go_at_call 59; refine (HN.out _).mono ?_; rintro e x1 ⟨rfl, k1⟩; have k1' : Below w0.heap.size w0 x1 := ⟨k1.os, k1.tape, k1.output, k1.size, k1.block⟩; have b1 := bw.trans (k1'.mono bw.size); have hv1 := hv.below k1'; have z1 := And.intro hv1.1 hv1.2.1)
          | (go_at_call 57; refine (HP.out _).mono ?_; rintro e x2 ⟨rfl, k2⟩; have k2' : Below x1.heap.size x1 x2 := ⟨k2.os, k2.tape, k2.output, k2.size, k2.block⟩; have b2 := b1.trans (k2'.mono b1.size); have hv2 := hv1.below k2'; have z2 := And.intro hv2.1 hv2.2.1))
      go_wp2
      go_ret
      exact ⟨rfl, b2⟩
    · have hv := Vr.new w 67 n []
      have bw := alloc_in w (.cells #[.int .i64 67, .int .i64 n, .string (bs [])] 24)
      go_enter Tryz.func27, Tryz.ntmps27
      go_wp2_with fail
      generalize w.alloc (.cells #[.int .i64 67, .int .i64 n, .string (bs [])] 24) = w0 at *
      have z0 := And.intro hv.1 hv.2.1
      go_region_held3 (fun x => x.cell? ⟨w.heap.size, 0, none⟩ = some (.int .i64 67) ∧ x.cell? ⟨w.heap.size, 1, none⟩ = some (.int .i64 n)) (first | exact z0 | exact z1 | exact z2)
        (first
          | (go_at_call 59; refine (HN.out _).mono ?_; rintro e x1 ⟨rfl, k1⟩; have k1' : Below w0.heap.size w0 x1 := ⟨k1.os, k1.tape, k1.output, k1.size, k1.block⟩; have b1 := bw.trans (k1'.mono bw.size); have hv1 := hv.below k1'; have z1 := And.intro hv1.1 hv1.2.1)
          | (go_at_call 57; refine (HP.out _).mono ?_; rintro e x2 ⟨rfl, k2⟩; have k2' : Below x1.heap.size x1 x2 := ⟨k2.os, k2.tape, k2.output, k2.size, k2.block⟩; have b2 := b1.trans (k2'.mono b1.size); have hv2 := hv1.below k2'; have z2 := And.intro hv2.1 hv2.2.1))
      go_wp2
      go_ret
      exact ⟨rfl, b2⟩
  | big hk hs =>
    have HB : V7.bdV k n s = un (V7.uu n) := by unfold V7.bdV; rw [if_neg (by omega), if_pos (by omega)]
    rw [HB] at HP
    have HN := Lib.hid (fun w1 => qputunsigned_walk (V7.uu n) (V7.uu_lt n) w1)
    have hu := u64_wrap n
    clear HB h
    subst hs hk
    generalize V7.enT 70 n [] = T at *
    generalize un (V7.uu n) = P at *
    generalize ((V7.uu n : Nat) : Int) = U at *
    have hv := Vr.new w 70 n []
    have bw := alloc_in w (.cells #[.int .i64 70, .int .i64 n, .string (bs [])] 24)
    go_enter Tryz.func27, Tryz.ntmps27
    go_wp2_with fail
    generalize w.alloc (.cells #[.int .i64 70, .int .i64 n, .string (bs [])] 24) = w0 at *
    have z0 := And.intro hv.1 hv.2.1
    go_region_held3 (fun x => x.cell? ⟨w.heap.size, 0, none⟩ = some (.int .i64 70) ∧ x.cell? ⟨w.heap.size, 1, none⟩ = some (.int .i64 n)) (first | exact z0 | exact z1 | exact z2)
      (first
        | (go_at_call 59; refine (HN.out _).mono ?_; rintro e x1 ⟨rfl, k1⟩; have k1' : Below w0.heap.size w0 x1 := ⟨k1.os, k1.tape, k1.output, k1.size, k1.block⟩; have b1 := bw.trans (k1'.mono bw.size); have hv1 := hv.below k1'; have z1 := And.intro hv1.1 hv1.2.1)
        | (go_at_call 57; refine (HP.out _).mono ?_; rintro e x2 ⟨rfl, k2⟩; have k2' : Below x1.heap.size x1 x2 := ⟨k2.os, k2.tape, k2.output, k2.size, k2.block⟩; have b2 := b1.trans (k2'.mono b1.size); have hv2 := hv1.below k2'; have z2 := And.intro hv2.1 hv2.2.1))
    go_wp2
    go_ret
    exact ⟨rfl, b2⟩
set_option maxRecDepth 100000 in
theorem qencode7_walk (k n : Int) (s : List UInt8) (hs : s.length ≤ 140737488351232) (n0 : -9223372036854775808 ≤ n) (n1 : n ≤ 9223372036854775807) (w : World) :
    Calls Tryz.prog 11 #[.agg #[.int .i64 k, .int .i64 n, .string (bs s)]] w fun e w' => e = .returned (.tuple #[.string (bs (V7.enT k n s)), .int .i64 (V7.ckE k n s : Nat)]) ∧ Below w.heap.size w w' := by
  have hC := fun w1 => qcheck_walk k n s hs w1
  cases h : V7.ckV k n s
  · have e1 : V7.enT k n s = [] ∧ V7.ckE k n s = 70 := by unfold V7.enT V7.ckE; rw [h]; exact ⟨rfl, rfl⟩
    rw [e1.2] at hC
    rw [e1.1, e1.2]
    have HC := Lib.hid hC
    clear hC h e1
    go_enter Tryz.func11, Tryz.ntmps11
    go_wp2_with fail
    refine (HC.out _).mono ?_
    rintro e w1 ⟨rfl, b1⟩
    go_wp2
    go_ret2
    exact ⟨rfl, Below_in b1⟩
  · have e2 : V7.ckE k n s = 0 := by unfold V7.ckE; rw [h]; rfl
    have HP := Lib.hid (fun w1 => qput7_walk k n s n0 n1 h w1)
    rw [e2] at hC
    rw [e2]
    have HC := Lib.hid hC
    generalize V7.enT k n s = T at *
    clear hC h e2
    go_enter Tryz.func11, Tryz.ntmps11
    go_wp2_with fail
    refine (HC.out _).mono ?_
    rintro e w1 ⟨rfl, b1⟩
    obtain ⟨z0, z1, z2⟩ := (Vr.new w k n s).below b1
    go_wp2_with fail
    refine (HP.out _).mono ?_
    rintro e w2 ⟨rfl, b2⟩
    go_wp2
    go_ret2
    exact ⟨rfl, (Below_in b1).trans (b2.mono (Below_in b1).size)⟩
end Go.Proofs.YtkmfcnilbmckmaaGreatDoor
