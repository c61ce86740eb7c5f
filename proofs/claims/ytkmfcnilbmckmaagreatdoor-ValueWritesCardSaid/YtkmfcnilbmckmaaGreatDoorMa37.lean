/- Texts on the program and on the document, joined: ValH. -/
import Derived.Test.YtkmfcnilbmckmaaGreatDoorMa36
/- The laws of values, walked on calls that keep their word: ValueBack. -/
namespace Go.Proofs.YtkmfcnilbmckmaaGreatDoor
open Go.ChangeShapes Go.WideShapes Go.ChangeAt Go.RowKit K P1 B5
set_option linter.unusedVariables false

structure ValOk3 (I : World → Prop) : Prop extends ValOk2 I where
  canon : ∀ (l : List UInt8) (w : World), l.length ≤ 1000000 → I w → Calls Tryz.prog 17 #[.string (bs l)] w fun e w' => e = .returned (.tuple #[.string (bs (whC l)), .int .i64 (whE l : Nat)]) ∧ Below w.heap.size w w'
/-- What a value that may be comes to. -/
theorem bk_yes {k n : Int} {s : List UInt8} (n0 : -9223372036854775808 ≤ n) (n1 : n ≤ 9223372036854775807) (hs : s.length ≤ 3000) (h : V7.ckV k n s = true) :
    ∃ E B : List UInt8, V7.enT k n s = E ∧ V7.ckE k n s = 0 ∧ nxQ E = (k.toNat, B, []) ∧ nxE E = 0 ∧ ((k.toNat : Nat) : Int) = k ∧ V7.dvK k B = k ∧ V7.dvN k B = n ∧ V7.dvS k B = s ∧ V7.dvE k B = 0 ∧ whC E = E ∧ whE E = 0 ∧ E.length ≤ 100000 ∧ B.length ≤ 3000 := by
  obtain ⟨e1, e2, e3, e4, e5, _, e7, e8⟩ := V7.en_next h
  obtain ⟨_, t2, t3, _⟩ := V7.ck_tag h
  have hb := V7.bd_len h
  obtain ⟨d1, d2, d3, d4⟩ := V7.dv_yes (V7.de_bd n0 n1 h)
  rw [V7.rd_bd n0 n1 h] at d2 d3
  refine ⟨V7.enT k n s, V7.bdV k n s, rfl, by unfold V7.ckE; rw [h]; rfl, ?_, ?_, t3, d1, d2, d3, d4, e7, e8, ?_, by omega⟩
  · unfold nxQ; rw [e2, if_pos rfl, e3, e4, e5]
  · unfold nxE; rw [e2]; rfl
  · rw [e1, put_len]
    have : (short (V7.bdV k n s).length).length ≤ 5 := by
      rw [short_len]; have := kb_pos (V7.bdV k n s).length
      by_cases h : (V7.bdV k n s).length < 128
      · rw [if_pos h]; omega
      · rw [if_neg h]; omega
    omega
theorem bk_no {k n : Int} {s : List UInt8} (h : V7.ckV k n s = false) : V7.enT k n s = [] ∧ V7.ckE k n s = 70 := by
  unfold V7.enT V7.ckE; rw [h]; exact ⟨rfl, rfl⟩
/-- What an element that tells a value comes to. -/
theorem bk_told {k : Int} {b : List UInt8} (hb : b.length ≤ 3000) (h : V7.deOk k b = true) :
    ∃ (N : Int) (S E : List UInt8), V7.dvK k b = k ∧ V7.dvN k b = N ∧ V7.dvS k b = S ∧ V7.dvE k b = 0 ∧ V7.enT k N S = E ∧ V7.ckE k N S = 0 ∧ nxQ E = (k.toNat, b, []) ∧ nxE E = 0 ∧ ((k.toNat : Nat) : Int) = k ∧ E.length ≤ 100000 ∧ S.length ≤ 1000000 ∧ -9223372036854775808 ≤ N ∧ N ≤ 9223372036854775807 := by
  obtain ⟨d1, d2, d3, d4⟩ := V7.dv_yes h
  have hc := V7.ck_rd h
  have hbd := V7.bd_rd h
  obtain ⟨e1, e2, e3, e4, e5, _, _, _⟩ := V7.en_next hc
  obtain ⟨_, t2, t3, _⟩ := V7.ck_tag hc
  rw [hbd] at e1 e4
  have hS : (V7.rdV k b).2.1.length ≤ 65535 := by
    cases V7.ways hc with
    | int hk hs h0 h1 => rw [hs]; simp
    | text hk hn hs => exact hs
    | null hk hn hs => rw [hs]; simp
    | oid hk hn l hl hs =>
      have h1 := O6.put_len l (O6.isArcs_le hl)
      have h2 := O6.isArcs_len hl
      rw [← hs]; omega
    | addr hk hn hs => omega
    | count hk hs h0 h1 => rw [hs]; simp
    | big hk hs => rw [hs]; simp
  have hN : -9223372036854775808 ≤ (V7.rdV k b).1 ∧ (V7.rdV k b).1 ≤ 9223372036854775807 := by
    cases V7.ways hc with
    | int hk hs h0 h1 => omega
    | text hk hn hs => omega
    | null hk hn hs => omega
    | oid hk hn l hl hs => omega
    | addr hk hn hs => omega
    | count hk hs h0 h1 => omega
    | big hk hs =>
      subst hk
      show -9223372036854775808 ≤ wrap64 (B5.uv b) ∧ wrap64 (B5.uv b) ≤ 9223372036854775807
      rw [wrap64_eq]; omega
  refine ⟨(V7.rdV k b).1, (V7.rdV k b).2.1, V7.enT k (V7.rdV k b).1 (V7.rdV k b).2.1, d1, d2, d3, d4, rfl, by unfold V7.ckE; rw [hc]; rfl, ?_, ?_, t3, ?_, by omega, hN.1, hN.2⟩
  · unfold nxQ; rw [e2, if_pos rfl, e3, e4, e5]
  · unfold nxE; rw [e2]; rfl
  · rw [e1, put_len]
    have : (short b.length).length ≤ 5 := by
      rw [short_len]; have := kb_pos b.length
      by_cases h : b.length < 128
      · rw [if_pos h]; omega
      · rw [if_neg h]; omega
    omega
theorem next_as {I : World → Prop} (K : ValOk2 I) {E B : List UInt8} {k : Int} (hl : E.length ≤ 1000000) (hq : nxQ E = (k.toNat, B, [])) (hne : nxE E = 0) (hk : ((k.toNat : Nat) : Int) = k) (w1 : World) (h : I w1) :
    Calls Tryz.prog 16 #[.string (bs E)] w1 fun e w' => e = .returned (.tuple #[.agg #[.int .i64 k, .string (bs B)], .string (bs []), .int .i64 (0 : Nat)]) ∧ Below w1.heap.size w1 w' := by
  refine (K.next E w1 (by omega) h).mono ?_
  rintro e w' ⟨rfl, d⟩
  refine ⟨?_, d⟩
  rw [hq, hne]
  show Ending.returned (.tuple #[.agg #[.int .i64 ((k.toNat : Nat) : Int), .string (bs B)], .string (bs []), .int .i64 ((0 : Nat) : Int)]) = _
  rw [hk]
set_option maxRecDepth 100000 in
set_option maxHeartbeats 4000000 in
theorem valueBack_walk (I : World → Prop) (K : ValOk3 I) (k n : Int) (s : List UInt8) (t : Int) (b : List UInt8) (hs : s.length ≤ 140737488351232) (hb : b.length ≤ 140737488351232) (n0 : -9223372036854775808 ≤ n) (n1 : n ≤ 9223372036854775807) (w : World) (hw : I w) :
    Calls Tryz.prog 5 #[.agg #[.int .i64 k, .int .i64 n, .string (bs s)], .int .i64 t, .string (bs b)] w fun e w' => e = .returned (.bool true) ∧ Below w.heap.size w w' := by
  have HW := Lib.hid (fun w1 (h : I w1) => K.works w1 h)
  have HK := Lib.hid K.keep
  have hv := Vr.new w k n s
  have bw := alloc_in w (.cells #[.int .i64 k, .int .i64 n, .string (bs s)] 24)
  have iw := HK.out _ _ hw bw
  have hways : ((3000 : Int) < ((s.length : Nat) : Int)) ∨ (((s.length : Nat) : Int) ≤ 3000 ∧ (3000 : Int) < ((b.length : Nat) : Int)) ∨ (((s.length : Nat) : Int) ≤ 3000 ∧ ((b.length : Nat) : Int) ≤ 3000) := by omega
  rcases hways with h1 | ⟨h1, h2⟩ | ⟨h1, h2⟩
  · clear K
    obtain ⟨z0, z1, z2⟩ := hv
    go_enter Tryz.func5, Tryz.ntmps5
    go_wp2_with fail
    refine (HW.out _ iw).mono ?_
    rintro e w1 ⟨rfl, b1⟩
    obtain ⟨y0, y1, y2⟩ := Vr.below ⟨z0, z1, z2⟩ b1
    go_wp2
    go_ret
    exact ⟨rfl, Below_in b1⟩
  · clear K
    obtain ⟨z0, z1, z2⟩ := hv
    go_enter Tryz.func5, Tryz.ntmps5
    go_wp2_with fail
    refine (HW.out _ iw).mono ?_
    rintro e w1 ⟨rfl, b1⟩
    obtain ⟨y0, y1, y2⟩ := Vr.below ⟨z0, z1, z2⟩ b1
    go_wp2
    go_ret
    exact ⟨rfl, Below_in b1⟩
  · have HE := Lib.hid (fun w1 (h : I w1) => K.encode k n s w1 (by omega) n0 n1 h)
    have HC := Lib.hid (fun w1 (h : I w1) => K.check k n s w1 (by omega) h)
    have HD := Lib.hid (fun w1 (h : I w1) => K.decode t b w1 (by omega) h)
    have HK2 := Lib.hid K
    clear K
    cases hc : V7.ckV k n s
    · obtain ⟨q1, q2⟩ := bk_no hc
      rw [q1, q2] at HE
      rw [q2] at HC
      clear q1 q2 hc
      cases hd : V7.deOk t b
      · obtain ⟨d1, d2, d3, d4⟩ := V7.dv_no hd
        rw [d1, d2, d3, d4] at HD
        clear d1 d2 d3 d4 hd HK2
        go_enter Tryz.func5, Tryz.ntmps5
        go_wp2_with fail
        generalize w.alloc (.cells #[.int .i64 k, .int .i64 n, .string (bs s)] 24) = w0 at *
        refine (HW.out _ iw).mono ?_
        rintro e w1 ⟨rfl, e1⟩
        have i1 := HK.out _ _ iw e1
        have b1 := bw.trans (e1.mono bw.size)
        obtain ⟨z0, z1, z2⟩ := hv.below e1
        clear e1
        go_wp2_with fail
        refine (HE.out _ i1).mono ?_
        rintro e w2 ⟨rfl, e2⟩
        have i2 := HK.out _ _ i1 e2
        have b2 := b1.trans (e2.mono b1.size)
        obtain ⟨y0, y1, y2⟩ := Vr.below ⟨z0, z1, z2⟩ e2
        clear e2 z0 z1 z2 b1 i1
        go_wp2_with fail
        refine (HC.out _ i2).mono ?_
        rintro e w5 ⟨rfl, e3⟩
        have i5 := HK.out _ _ i2 e3
        have b5 := b2.trans (e3.mono b2.size)
        clear e3 y0 y1 y2 b2 i2
        go_wp2_with fail
        refine (HD.out _ i5).mono ?_
        rintro e w6 ⟨rfl, e6⟩
        obtain ⟨x0, x1, x2⟩ := Vr.new w6 0 0 []
        have b6 := b5.trans (e6.mono b5.size)
        go_wp2
        go_ret
        exact ⟨rfl, b6.alloc b6.size _⟩
      · obtain ⟨N, S, E2, d1, d2, d3, d4, d5, d6, d7, d8, d9, d10, d11, d12, d13⟩ := bk_told (by omega) hd
        rw [d1, d2, d3, d4] at HD
        have hE2 := fun w1 (h : I w1) => HK2.out.encode t N S w1 d11 d12 d13 h
        rw [d5, d6] at hE2
        have HE2 := Lib.hid hE2
        have HN2 := Lib.hid (fun w1 (h : I w1) => next_as HK2.out.toValOk2 (by omega) d7 d8 d9 w1 h)
        clear d1 d2 d3 d4 d5 d6 d7 d8 d9 d10 d11 d12 d13 hd HK2 hE2
        go_enter Tryz.func5, Tryz.ntmps5
        go_wp2_with fail
        generalize w.alloc (.cells #[.int .i64 k, .int .i64 n, .string (bs s)] 24) = w0 at *
        refine (HW.out _ iw).mono ?_
        rintro e w1 ⟨rfl, e1⟩
        have i1 := HK.out _ _ iw e1
        have b1 := bw.trans (e1.mono bw.size)
        obtain ⟨z0, z1, z2⟩ := hv.below e1
        clear e1
        go_wp2_with fail
        refine (HE.out _ i1).mono ?_
        rintro e w2 ⟨rfl, e2⟩
        have i2 := HK.out _ _ i1 e2
        have b2 := b1.trans (e2.mono b1.size)
        obtain ⟨y0, y1, y2⟩ := Vr.below ⟨z0, z1, z2⟩ e2
        clear e2 z0 z1 z2 b1 i1
        go_wp2_with fail
        refine (HC.out _ i2).mono ?_
        rintro e w5 ⟨rfl, e3⟩
        have i5 := HK.out _ _ i2 e3
        have b5 := b2.trans (e3.mono b2.size)
        clear e3 y0 y1 y2 b2 i2
        go_wp2_with fail
        refine (HD.out _ i5).mono ?_
        rintro e w6 ⟨rfl, e6⟩
        have i6 := HK.out _ _ (HK.out _ _ i5 e6) (alloc_in w6 (.cells #[.int .i64 t, .int .i64 N, .string (bs S)] 24))
        have b6 := b5.trans (e6.mono b5.size)
        have b6 := b6.alloc b6.size (.cells #[.int .i64 t, .int .i64 N, .string (bs S)] 24)
        obtain ⟨x0, x1, x2⟩ := Vr.new w6 t N S
        clear e6 b5 i5
        go_wp2_with fail
        generalize w6.alloc (.cells #[.int .i64 t, .int .i64 N, .string (bs S)] 24) = w7 at *
        clear x0 x1 x2
        refine (HE2.out _ i6).mono ?_
        rintro e w8 ⟨rfl, e8⟩
        have i8 := HK.out _ _ i6 e8
        have b8 := b6.trans (e8.mono b6.size)
        clear e8 b6 i6
        go_wp2_with fail
        refine (HN2.out _ i8).mono ?_
        rintro e w9 ⟨rfl, e9⟩
        have b9 := b8.trans (e9.mono b8.size)
        have r0 : (w9.alloc (.cells #[.int .i64 t, .string (bs b)] 29)).cell? ⟨w9.heap.size, 0, none⟩ = some (.int .i64 t) := cellRow (rowNew w9 _) 0
        have r1 : (w9.alloc (.cells #[.int .i64 t, .string (bs b)] 29)).cell? ⟨w9.heap.size, 1, none⟩ = some (.string (bs b)) := cellRow (rowNew w9 _) 1
        have sb : (b == b) = true := by simp
        go_wp2
        go_ret
        exact ⟨rfl, b9.alloc b9.size _⟩
    · obtain ⟨E, B, q1, q2, q3, q4, q5, q6, q7, q8, q9, q10, q11, q12, q13⟩ := bk_yes n0 n1 (by omega) hc
      rw [q1, q2] at HE
      have HN := Lib.hid (fun w1 (h : I w1) => next_as HK2.out.toValOk2 (by omega) q3 q4 q5 w1 h)
      have hDB := fun w1 (h : I w1) => HK2.out.decode k B w1 (by omega) h
      rw [q6, q7, q8, q9] at hDB
      have HDB := Lib.hid hDB
      have hCA := fun w1 (h : I w1) => HK2.out.canon E w1 (by omega) h
      rw [q10, q11] at hCA
      have HCA := Lib.hid hCA
      have sE : (E == E) = true := by simp
      have sS : (s == s) = true := by simp
      clear q1 q2 q3 q4 q5 q6 q7 q8 q9 q10 q11 q12 q13 hc HC hDB hCA
      cases hd : V7.deOk t b
      · obtain ⟨d1, d2, d3, d4⟩ := V7.dv_no hd
        rw [d1, d2, d3, d4] at HD
        clear d1 d2 d3 d4 hd HK2
        go_enter Tryz.func5, Tryz.ntmps5
        go_wp2_with fail
        generalize w.alloc (.cells #[.int .i64 k, .int .i64 n, .string (bs s)] 24) = w0 at *
        refine (HW.out _ iw).mono ?_
        rintro e w1 ⟨rfl, e1⟩
        have i1 := HK.out _ _ iw e1
        have b1 := bw.trans (e1.mono bw.size)
        obtain ⟨z0, z1, z2⟩ := hv.below e1
        clear e1
        go_wp2_with fail
        refine (HE.out _ i1).mono ?_
        rintro e w2 ⟨rfl, e2⟩
        have i2 := HK.out _ _ i1 e2
        have b2 := b1.trans (e2.mono b1.size)
        obtain ⟨y0, y1, y2⟩ := Vr.below ⟨z0, z1, z2⟩ e2
        clear e2 z0 z1 z2 b1 i1
        go_wp2_with fail
        refine (HN.out _ i2).mono ?_
        rintro e w3 ⟨rfl, e3⟩
        have i3 := HK.out _ _ i2 e3
        have b3 := b2.trans (e3.mono b2.size)
        have v3 := Vr.below ⟨y0, y1, y2⟩ e3
        have v3 := v3.below (alloc_in w3 (.cells #[.int .i64 k, .string (bs B)] 29))
        have i3 := HK.out _ _ i3 (alloc_in w3 (.cells #[.int .i64 k, .string (bs B)] 29))
        have b3 := b3.alloc b3.size (.cells #[.int .i64 k, .string (bs B)] 29)
        clear e3 y0 y1 y2 b2 i2
        go_wp2_with fail
        generalize w3.alloc (.cells #[.int .i64 k, .string (bs B)] 29) = w4 at *
        refine (HDB.out _ i3).mono ?_
        rintro e w5 ⟨rfl, e5⟩
        have i5 := HK.out _ _ i3 e5
        have b5 := b3.trans (e5.mono b3.size)
        have v5 := v3.below e5
        have u5 := Vr.new w5 k n s
        have v5 := v5.below (alloc_in w5 (.cells #[.int .i64 k, .int .i64 n, .string (bs s)] 24))
        have i5 := HK.out _ _ i5 (alloc_in w5 (.cells #[.int .i64 k, .int .i64 n, .string (bs s)] 24))
        have b5 := b5.alloc b5.size (.cells #[.int .i64 k, .int .i64 n, .string (bs s)] 24)
        clear e5 b3 i3 v3
        go_wp2_with fail
        generalize w5.alloc (.cells #[.int .i64 k, .int .i64 n, .string (bs s)] 24) = wb at *
        generalize w5.heap.size = ub at *
        refine (HCA.out _ i5).mono ?_
        rintro e wc ⟨rfl, ec⟩
        have ic := HK.out _ _ i5 ec
        have bc := b5.trans (ec.mono b5.size)
        obtain ⟨y0, y1, y2⟩ := v5.below ec
        obtain ⟨x0, x1, x2⟩ := u5.below ec
        clear ec b5 i5 v5 u5
        have b5 := bc
        have i5 := ic
        clear bc ic
        go_wp2_with fail
        refine (HD.out _ i5).mono ?_
        rintro e w6 ⟨rfl, e6⟩
        obtain ⟨x0, x1, x2⟩ := Vr.new w6 0 0 []
        have b6 := b5.trans (e6.mono b5.size)
        go_wp2
        go_ret
        exact ⟨rfl, b6.alloc b6.size _⟩
      · obtain ⟨N, S, E2, d1, d2, d3, d4, d5, d6, d7, d8, d9, d10, d11, d12, d13⟩ := bk_told (by omega) hd
        rw [d1, d2, d3, d4] at HD
        have hE2 := fun w1 (h : I w1) => HK2.out.encode t N S w1 d11 d12 d13 h
        rw [d5, d6] at hE2
        have HE2 := Lib.hid hE2
        have HN2 := Lib.hid (fun w1 (h : I w1) => next_as HK2.out.toValOk2 (by omega) d7 d8 d9 w1 h)
        clear d1 d2 d3 d4 d5 d6 d7 d8 d9 d10 d11 d12 d13 hd HK2 hE2
        go_enter Tryz.func5, Tryz.ntmps5
        go_wp2_with fail
        generalize w.alloc (.cells #[.int .i64 k, .int .i64 n, .string (bs s)] 24) = w0 at *
        refine (HW.out _ iw).mono ?_
        rintro e w1 ⟨rfl, e1⟩
        have i1 := HK.out _ _ iw e1
        have b1 := bw.trans (e1.mono bw.size)
        obtain ⟨z0, z1, z2⟩ := hv.below e1
        clear e1
        go_wp2_with fail
        refine (HE.out _ i1).mono ?_
        rintro e w2 ⟨rfl, e2⟩
        have i2 := HK.out _ _ i1 e2
        have b2 := b1.trans (e2.mono b1.size)
        obtain ⟨y0, y1, y2⟩ := Vr.below ⟨z0, z1, z2⟩ e2
        clear e2 z0 z1 z2 b1 i1
        go_wp2_with fail
        refine (HN.out _ i2).mono ?_
        rintro e w3 ⟨rfl, e3⟩
        have i3 := HK.out _ _ i2 e3
        have b3 := b2.trans (e3.mono b2.size)
        have v3 := Vr.below ⟨y0, y1, y2⟩ e3
        have v3 := v3.below (alloc_in w3 (.cells #[.int .i64 k, .string (bs B)] 29))
        have i3 := HK.out _ _ i3 (alloc_in w3 (.cells #[.int .i64 k, .string (bs B)] 29))
        have b3 := b3.alloc b3.size (.cells #[.int .i64 k, .string (bs B)] 29)
        clear e3 y0 y1 y2 b2 i2
        go_wp2_with fail
        generalize w3.alloc (.cells #[.int .i64 k, .string (bs B)] 29) = w4 at *
        refine (HDB.out _ i3).mono ?_
        rintro e w5 ⟨rfl, e5⟩
        have i5 := HK.out _ _ i3 e5
        have b5 := b3.trans (e5.mono b3.size)
        have v5 := v3.below e5
        have u5 := Vr.new w5 k n s
        have v5 := v5.below (alloc_in w5 (.cells #[.int .i64 k, .int .i64 n, .string (bs s)] 24))
        have i5 := HK.out _ _ i5 (alloc_in w5 (.cells #[.int .i64 k, .int .i64 n, .string (bs s)] 24))
        have b5 := b5.alloc b5.size (.cells #[.int .i64 k, .int .i64 n, .string (bs s)] 24)
        clear e5 b3 i3 v3
        go_wp2_with fail
        generalize w5.alloc (.cells #[.int .i64 k, .int .i64 n, .string (bs s)] 24) = wb at *
        generalize w5.heap.size = ub at *
        refine (HCA.out _ i5).mono ?_
        rintro e wc ⟨rfl, ec⟩
        have ic := HK.out _ _ i5 ec
        have bc := b5.trans (ec.mono b5.size)
        obtain ⟨y0, y1, y2⟩ := v5.below ec
        obtain ⟨x0, x1, x2⟩ := u5.below ec
        clear ec b5 i5 v5 u5
        have b5 := bc
        have i5 := ic
        clear bc ic
        go_wp2_with fail
        refine (HD.out _ i5).mono ?_
        rintro e w6 ⟨rfl, e6⟩
        have i6 := HK.out _ _ (HK.out _ _ i5 e6) (alloc_in w6 (.cells #[.int .i64 t, .int .i64 N, .string (bs S)] 24))
        have b6 := b5.trans (e6.mono b5.size)
        have b6 := b6.alloc b6.size (.cells #[.int .i64 t, .int .i64 N, .string (bs S)] 24)
        obtain ⟨x0, x1, x2⟩ := Vr.new w6 t N S
        clear e6 b5 i5
        go_wp2_with fail
        generalize w6.alloc (.cells #[.int .i64 t, .int .i64 N, .string (bs S)] 24) = w7 at *
        clear x0 x1 x2
        refine (HE2.out _ i6).mono ?_
        rintro e w8 ⟨rfl, e8⟩
        have i8 := HK.out _ _ i6 e8
        have b8 := b6.trans (e8.mono b6.size)
        clear e8 b6 i6
        go_wp2_with fail
        refine (HN2.out _ i8).mono ?_
        rintro e w9 ⟨rfl, e9⟩
        have b9 := b8.trans (e9.mono b8.size)
        have r0 : (w9.alloc (.cells #[.int .i64 t, .string (bs b)] 29)).cell? ⟨w9.heap.size, 0, none⟩ = some (.int .i64 t) := cellRow (rowNew w9 _) 0
        have r1 : (w9.alloc (.cells #[.int .i64 t, .string (bs b)] 29)).cell? ⟨w9.heap.size, 1, none⟩ = some (.string (bs b)) := cellRow (rowNew w9 _) 1
        have sb : (b == b) = true := by simp
        go_wp2
        go_ret
        exact ⟨rfl, b9.alloc b9.size _⟩
end Go.Proofs.YtkmfcnilbmckmaaGreatDoor
