/- Texts on the program and on the document, joined: PduBk. -/
import Derived.Test.YtlpknkfidcojeaaGreatDoorMa39
import Derived.Test.YtlpknkfidcojeaaGreatDoorMa28
import Derived.Test.YtlpknkfidcojeaaGreatDoorMa41
/- PduBack, walked. -/
namespace Go.Proofs.YtlpknkfidcojeaaGreatDoor
open Go.ChangeShapes Go.WideShapes Go.ChangeAt Go.RowKit K P1 B5
open D8 (Bd Un lst deB deL deU)
set_option linter.unusedVariables false

theorem el_whole {u : Un} (h : u.ok = true) (hf : ∀ x ∈ u.l, x.fits) (h5 : u.el.length ≤ 65536) : nxQ u.el = (u.t.toNat, u.body, []) ∧ nxE u.el = 0 ∧ whC u.el = u.el ∧ whE u.el = 0 ∧ duU u.t u.body = u ∧ duE u.t u.body = 0 ∧ ((u.t.toNat : Nat) : Int) = u.t ∧ u.body.length ≤ 65536 := by
  have hd := D8.unit_back h hf
  obtain ⟨h1, _⟩ := (D8.Un.ok_iff u).1 h
  have hT : isTag u.t.toNat = true ∧ u.t.toNat < 256 := by rcases h1 with h | h | h <;> (rw [h]; decide)
  have hbl : u.body.length ≤ 65536 := by
    have : u.body.length ≤ u.el.length := by unfold Un.el; rw [put_len]; omega
    omega
  obtain ⟨f, hw, he, _⟩ := D8.unit_whole (by omega) hd
  obtain ⟨x1, x2, x3, x4⟩ := nx_put u.t.toNat u.body [] hT.1 hT.2 (by omega)
  rw [List.append_nil] at x1 x2 x3 x4
  have hE : u.el = put u.t.toNat u.body := rfl
  rw [← hE] at x1 x2 x3 x4 hw
  obtain ⟨w1, w2, w3⟩ := wh_ok hw
  obtain ⟨d1, d2⟩ := du_some hd
  refine ⟨by unfold nxQ; rw [x1, x2, x3, x4]; rfl, by unfold nxE; rw [x1]; rfl, by rw [w3, he], w1, d1, d2, by omega, hbl⟩
theorem told_whole {t : Int} {b : List UInt8} {v : Un} (h : deU t b = some v) (hb : b.length ≤ 3000) : eS v = v.el ∧ eE v = 0 ∧ wrT t b = put t.toNat b ∧ wrE t b = 0 ∧ whC (put t.toNat b) = v.el ∧ whE (put t.toNat b) = 0 ∧ LimP v.l ∧ (put t.toNat b).length ≤ 4000 := by
  obtain ⟨hok, ht, _⟩ := D8.unit_told h
  obtain ⟨f, hw, he, hl⟩ := D8.unit_whole (by omega) h
  obtain ⟨w1, w2, w3⟩ := wh_ok hw
  have hs := D8.short_le8 b.length
  have hpl : (put t.toNat b).length ≤ 4000 := by rw [put_len]; omega
  have h5 : v.el.length ≤ 65536 := by omega
  obtain ⟨h1, _⟩ := (D8.Un.ok_iff v).1 hok
  rw [ht] at h1
  have hT : isTag t.toNat = true ∧ t.toNat < 256 := by rcases h1 with h | h | h <;> (rw [h]; decide)
  obtain ⟨k1, k2⟩ := wr_yes t.toNat b hT.2 hT.1 (by omega)
  have htt : ((t.toNat : Nat) : Int) = t := by omega
  rw [htt] at k1 k2
  obtain ⟨p1, p2, p3, p4, qs, _, _, _, hL, _⟩ := D8.deU_inv h
  exact ⟨by unfold eS; rw [hok, if_pos h5]; rfl, by unfold eE; rw [hok, if_pos h5]; rfl, k1, k2, by rw [w3, he], w1, deL_lim _ _ hL, hpl⟩
theorem eE_ways (u : Un) : (eE u = 0 ∧ u.ok = true ∧ u.el.length ≤ 65536 ∧ eS u = u.el) ∨ (((eE u : Nat) : Int) == 0) = false := by
  unfold eE eS
  cases h : u.ok
  · exact .inr rfl
  · by_cases h5 : u.el.length ≤ 65536
    · refine .inl ⟨?_, rfl, h5, ?_⟩
      · rw [if_pos h5]; rfl
      · rw [if_pos h5]; rfl
    · refine .inr ?_
      rw [if_neg h5]; rfl
set_option maxRecDepth 100000 in
set_option maxHeartbeats 1000000 in
theorem pduBack_out (u : Un) (ao : Option Addr) (ca : Nat) (t : Int) (b : List UInt8) (hb : b.length ≤ 140737488351232) (w : World) (T : Tp w) (hl : u.l.length ≤ 140737488351232) (hx : Lim u.l) (hr : RdB w ao u.l) (h : smB u.l = false ∨ 3000 < b.length) :
    Calls Tryz.prog 5 #[.agg #[.int .i64 u.t, .int .i64 u.r, .int .i64 u.a, .int .i64 u.i, .slice ao u.l.length ca], .int .i64 t, .string (bs b)] w fun e w' => e = .returned (.bool true) ∧ Below w.heap.size w w' := by
  have HW := Lib.hid (fun w1 (h : Tp w1) => works8_walk w1 h)
  have b0 := alloc_in w (.cells #[.int .i64 u.t, .int .i64 u.r, .int .i64 u.a, .int .i64 u.i, .slice ao u.l.length ca] 25)
  have hu0 := Uq.new 25 w u ao ca
  have HR0 := Lib.hid (hr.below b0)
  have HT0 := Lib.hid (T.below b0)
  have hSm := fun w1 (h : RdB w1 ao u.l) => small_walk u.l ao ca hl hx w1 h
  clear T hr
  cases hs : smB u.l
  · rw [hs] at hSm
    have HSm := Lib.hid hSm
    clear hSm hs h
    go_enter Tryz.func5, Tryz.ntmps5
    go_wp2_with fail
    refine (HW.out _ HT0.out).mono ?_
    rintro e w1 ⟨rfl, d1⟩
    have hu1 := hu0.below d1
    have HR1 := Lib.hid (HR0.out.below d1)
    have HT1 := Lib.hid (HT0.out.below d1)
    have b1 := b0.trans (d1.mono b0.size)
    obtain ⟨y0, y1, y2, y3, y4⟩ := hu1.cells
    clear d1 hu0 b0 HR0 HT0
    go_wp2_with fail
    refine (HSm.out _ HR1.out).mono ?_
    rintro e w2 ⟨rfl, d2⟩
    have hu2 := hu1.below d2
    have HR2 := Lib.hid (HR1.out.below d2)
    have HT2 := Lib.hid (HT1.out.below d2)
    have b2 := b1.trans (d2.mono b1.size)
    clear y0 y1 y2 y3 y4 d2 hu1 b1 HR1 HT1
    obtain ⟨y0, y1, y2, y3, y4⟩ := hu2.cells
    go_wp2
    go_ret
    exact ⟨rfl, b2⟩
  · rw [hs] at hSm h
    have HSm := Lib.hid hSm
    have h3 : (3000 : Int) < ((b.length : Nat) : Int) := by rcases h with h | h; cases h; omega
    clear hSm hs h
    go_enter Tryz.func5, Tryz.ntmps5
    go_wp2_with fail
    refine (HW.out _ HT0.out).mono ?_
    rintro e w1 ⟨rfl, d1⟩
    have hu1 := hu0.below d1
    have HR1 := Lib.hid (HR0.out.below d1)
    have HT1 := Lib.hid (HT0.out.below d1)
    have b1 := b0.trans (d1.mono b0.size)
    obtain ⟨y0, y1, y2, y3, y4⟩ := hu1.cells
    clear d1 hu0 b0 HR0 HT0
    go_wp2_with fail
    refine (HSm.out _ HR1.out).mono ?_
    rintro e w2 ⟨rfl, d2⟩
    have hu2 := hu1.below d2
    have HR2 := Lib.hid (HR1.out.below d2)
    have HT2 := Lib.hid (HT1.out.below d2)
    have b2 := b1.trans (d2.mono b1.size)
    clear y0 y1 y2 y3 y4 d2 hu1 b1 HR1 HT1
    obtain ⟨y0, y1, y2, y3, y4⟩ := hu2.cells
    go_wp2
    go_ret
    exact ⟨rfl, b2⟩
set_option maxRecDepth 100000 in
set_option maxHeartbeats 2000000 in
theorem pduBack_AN (u : Un) (ao : Option Addr) (ca : Nat) (t : Int) (b : List UInt8) (hb : b.length ≤ 140737488351232) (w : World) (T : Tp w) (hl : u.l.length ≤ 140737488351232) (hx : Lim u.l) (hr : RdB w ao u.l) (hs : smB u.l = true) (h3 : b.length ≤ 3000) (hk : u.ok = true) (h5 : u.el.length ≤ 65536) (he : eE u = 0) (heS : eS u = u.el) (hd : deU t b = none) :
    Calls Tryz.prog 5 #[.agg #[.int .i64 u.t, .int .i64 u.r, .int .i64 u.a, .int .i64 u.i, .slice ao u.l.length ca], .int .i64 t, .string (bs b)] w fun e w' => e = .returned (.bool true) ∧ Below w.heap.size w w' := by
  have HW := Lib.hid (fun w1 (h : Tp w1) => works8_walk w1 h)
  have b0 := alloc_in w (.cells #[.int .i64 u.t, .int .i64 u.r, .int .i64 u.a, .int .i64 u.i, .slice ao u.l.length ca] 25)
  have hu0 := Uq.new 25 w u ao ca
  have HR0 := Lib.hid (hr.below b0)
  have HT0 := Lib.hid (T.below b0)
  have hSm := fun w1 (h : RdB w1 ao u.l) => small_walk u.l ao ca hl hx w1 h
  clear T hr
  rw [hs] at hSm
  have HSm := Lib.hid hSm
  have h3' : ((b.length : Nat) : Int) ≤ 3000 := by omega
  have hsf := (sm_facts hs).2.2
  have hlp : LimP u.l := fun x hx' => ⟨by have := (hsf x hx').2; omega, by have := (hsf x hx').1; omega, (hx x hx').2.2⟩
  have hEn := fun w1 (h : Tp w1) (h2 : RdB w1 ao u.l) => encode8_walk u ao ca hl hlp w1 h h2
  have hDb := fun w1 (h : Tp w1) => decode8_walk t b (by omega) w1 h
  unfold DuPost at hDb
  rw [(du_none hd).1, (du_none hd).2] at hDb
  have hDb' : ∀ w1, Tp w1 → Calls Tryz.prog 7 #[.agg #[.int .i64 t, .string (bs b)]] w1 fun e w' => ∃ ao cap, e = .returned (.tuple #[.agg #[.int .i64 0, .int .i64 0, .int .i64 0, .int .i64 0, .slice ao 0 cap], .int .i64 80]) ∧ RdB w' ao [] ∧ Below w1.heap.size w1 w' := hDb
  have HDb := Lib.hid hDb'
  clear hDb'
  obtain ⟨e1, e2, e3, e4, e5, e6, e7, e8⟩ := el_whole hk (fun x hx' => (hx x hx').2.2) h5
  rw [he, heS] at hEn
  have HEn := Lib.hid hEn
  have hNx := fun w1 => next_walk u.el (by omega) w1
  rw [e1, e2] at hNx
  simp only [] at hNx
  rw [e7] at hNx
  have HNx := Lib.hid hNx
  have hDu := fun w1 (h : Tp w1) => decode8_walk u.t u.body (by omega) w1 h
  unfold DuPost at hDu
  rw [e5, e6] at hDu
  have HDu := Lib.hid hDu
  have hCn := fun w1 => canon_walk u.el (by omega) w1
  rw [e3, e4] at hCn
  have HCn := Lib.hid hCn
  have hSa := fun (bo : Option Addr) (cb : Nat) w1 (h1 : RdB w1 ao u.l) (h2 : RdB w1 bo u.l) => same8_walk u u ao bo ca cb hl hl w1 h1 h2
  rw [sameU_self] at hSa
  have HSa := Lib.hid hSa
  clear hNx hDu hCn hSa e1 e2 e3 e4 e5 e6 e7 e8 h5 hk he heS
  generalize u.el = EL at *
  clear hSm hs hsf hlp hEn hDb hd
  go_enter Tryz.func5, Tryz.ntmps5
  go_wp2_with fail
  refine (HW.out _ HT0.out).mono ?_
  rintro e w1 ⟨rfl, d1⟩
  have hu1 := hu0.below d1
  have HR1 := Lib.hid (HR0.out.below d1)
  have HT1 := Lib.hid (HT0.out.below d1)
  have b1 := b0.trans (d1.mono b0.size)
  obtain ⟨y0, y1, y2, y3, y4⟩ := hu1.cells
  clear d1 hu0 b0 HR0 HT0
  go_wp2_with fail
  refine (HSm.out _ HR1.out).mono ?_
  rintro e w2 ⟨rfl, d2⟩
  have hu2 := hu1.below d2
  have HR2 := Lib.hid (HR1.out.below d2)
  have HT2 := Lib.hid (HT1.out.below d2)
  have b2 := b1.trans (d2.mono b1.size)
  clear y0 y1 y2 y3 y4 d2 hu1 b1 HR1 HT1
  obtain ⟨y0, y1, y2, y3, y4⟩ := hu2.cells
  go_wp2_with fail
  refine (HEn.out _ HT2.out HR2.out).mono ?_
  rintro e w3 ⟨rfl, d3⟩
  have hu3 := hu2.below d3
  have HR3 := Lib.hid (HR2.out.below d3)
  have HT3 := Lib.hid (HT2.out.below d3)
  have b3 := b2.trans (d3.mono b2.size)
  clear y0 y1 y2 y3 y4 d3 hu2 b2 HR2 HT2
  obtain ⟨y0, y1, y2, y3, y4⟩ := hu3.cells
  go_wp2_with fail
  refine (HNx.out _).mono ?_
  rintro e w4 ⟨rfl, d4⟩
  have a4 := alloc_in w4 (.cells #[.int .i64 u.t, .string (bs u.body)] 30)
  have hp4 := Prt.new w4 30 u.t u.body
  have hu4 := (hu3.below d4).below a4
  have HR4 := Lib.hid ((HR3.out.below d4).below a4)
  have HT4 := Lib.hid ((HT3.out.below d4).below a4)
  have b4 := (b3.trans (d4.mono b3.size)).trans (a4.mono (b3.trans (d4.mono b3.size)).size)
  clear y0 y1 y2 y3 y4 d4 hu3 b3 HR3 HT3 a4
  go_wp2_with fail
  refine (HDu.out _ HT4.out).mono ?_
  rintro e w5 ⟨bo, cb, rfl, hs5, d5⟩
  have a5 := alloc_in w5 (.cells #[.int .i64 u.t, .int .i64 u.r, .int .i64 u.a, .int .i64 u.i, .slice bo u.l.length cb] 25)
  have hv5 := Uq.new 25 w5 u bo cb
  have hu5 := (hu4.below d5).below a5
  have HR5 := Lib.hid ((HR4.out.below d5).below a5)
  have HS5 := Lib.hid (hs5.below a5)
  have HT5 := Lib.hid ((HT4.out.below d5).below a5)
  have b5 := (b4.trans (d5.mono b4.size)).trans (a5.mono (b4.trans (d5.mono b4.size)).size)
  clear d5 hu4 b4 HR4 HT4 a5 hs5 hp4
  go_wp2_with fail
  refine (HCn.out _).mono ?_
  rintro e w6 ⟨rfl, d6⟩
  have hu6 := hu5.below d6
  have hv6 := hv5.below d6
  have HR6 := Lib.hid (HR5.out.below d6)
  have HS6 := Lib.hid (HS5.out.below d6)
  have HT6 := Lib.hid (HT5.out.below d6)
  have b6 := b5.trans (d6.mono b5.size)
  obtain ⟨y0, y1, y2, y3, y4⟩ := hu6.cells
  obtain ⟨z0, z1, z2, z3, z4⟩ := hv6.cells
  clear d6 hu5 hv5 b5 HR5 HS5 HT5
  go_wp2_with fail
  refine (HSa.out _ _ _ HR6.out HS6.out).mono ?_
  rintro e w7 ⟨rfl, d7⟩
  have HT7 := Lib.hid (HT6.out.below d7)
  have b7 := b6.trans (d7.mono b6.size)
  clear y0 y1 y2 y3 y4 z0 z1 z2 z3 z4 d7 hu6 hv6 b6 HR6 HS6 HT6
  go_wp2_with fail
  refine (HDb.out _ HT7.out).mono ?_
  rintro e w8 ⟨po, cp, rfl, hs8, d8⟩
  have a8 := alloc_in w8 (.cells #[.int .i64 0, .int .i64 0, .int .i64 0, .int .i64 0, .slice po 0 cp] 25)
  have hv8 := Uq.new 25 w8 nou po cp
  have HS8 := Lib.hid (hs8.below a8)
  have HT8 := Lib.hid ((HT7.out.below d8).below a8)
  have b8 := (b7.trans (d8.mono b7.size)).trans (a8.mono (b7.trans (d8.mono b7.size)).size)
  obtain ⟨y0, y1, y2, y3, y4⟩ := hv8.cells
  clear d8 a8 hs8
  go_wp2
  try go_ret
  exact ⟨rfl, b8⟩
set_option maxRecDepth 100000 in
set_option maxHeartbeats 2000000 in
theorem pduBack_AS (u : Un) (ao : Option Addr) (ca : Nat) (t : Int) (b : List UInt8) (hb : b.length ≤ 140737488351232) (w : World) (T : Tp w) (hl : u.l.length ≤ 140737488351232) (hx : Lim u.l) (hr : RdB w ao u.l) (hs : smB u.l = true) (h3 : b.length ≤ 3000) (hk : u.ok = true) (h5 : u.el.length ≤ 65536) (he : eE u = 0) (heS : eS u = u.el) (v : Un) (hd : deU t b = some v) :
    Calls Tryz.prog 5 #[.agg #[.int .i64 u.t, .int .i64 u.r, .int .i64 u.a, .int .i64 u.i, .slice ao u.l.length ca], .int .i64 t, .string (bs b)] w fun e w' => e = .returned (.bool true) ∧ Below w.heap.size w w' := by
  have HW := Lib.hid (fun w1 (h : Tp w1) => works8_walk w1 h)
  have b0 := alloc_in w (.cells #[.int .i64 u.t, .int .i64 u.r, .int .i64 u.a, .int .i64 u.i, .slice ao u.l.length ca] 25)
  have hu0 := Uq.new 25 w u ao ca
  have HR0 := Lib.hid (hr.below b0)
  have HT0 := Lib.hid (T.below b0)
  have hSm := fun w1 (h : RdB w1 ao u.l) => small_walk u.l ao ca hl hx w1 h
  clear T hr
  rw [hs] at hSm
  have HSm := Lib.hid hSm
  have h3' : ((b.length : Nat) : Int) ≤ 3000 := by omega
  have hsf := (sm_facts hs).2.2
  have hlp : LimP u.l := fun x hx' => ⟨by have := (hsf x hx').2; omega, by have := (hsf x hx').1; omega, (hx x hx').2.2⟩
  have hEn := fun w1 (h : Tp w1) (h2 : RdB w1 ao u.l) => encode8_walk u ao ca hl hlp w1 h h2
  have hDb := fun w1 (h : Tp w1) => decode8_walk t b (by omega) w1 h
  unfold DuPost at hDb
  rw [(du_some hd).1, (du_some hd).2] at hDb
  have HDb := Lib.hid hDb
  obtain ⟨q1, q2, q3, q4, q5, q6, q7, q8⟩ := told_whole hd h3
  have hvl := ((D8.Un.ok_iff v).1 (D8.unit_told hd).1).2.2.2.2.1
  have hEv := fun po cp w1 (h : Tp w1) (h2 : RdB w1 po v.l) => encode8_walk v po cp (by omega) q7 w1 h h2
  rw [q1, q2] at hEv
  have HEv := Lib.hid hEv
  have hWr := fun w1 => wrap_walk t b hb w1
  rw [q3, q4] at hWr
  have HWr := Lib.hid hWr
  have hCx := fun w1 => canon_walk (put t.toNat b) (by omega) w1
  rw [q5, q6] at hCx
  have HCx := Lib.hid hCx
  clear hEv hWr hCx q1 q2 q3 q4 q5 q6 q7 q8
  generalize put t.toNat b = PT at *
  generalize v.el = VE at *
  obtain ⟨e1, e2, e3, e4, e5, e6, e7, e8⟩ := el_whole hk (fun x hx' => (hx x hx').2.2) h5
  rw [he, heS] at hEn
  have HEn := Lib.hid hEn
  have hNx := fun w1 => next_walk u.el (by omega) w1
  rw [e1, e2] at hNx
  simp only [] at hNx
  rw [e7] at hNx
  have HNx := Lib.hid hNx
  have hDu := fun w1 (h : Tp w1) => decode8_walk u.t u.body (by omega) w1 h
  unfold DuPost at hDu
  rw [e5, e6] at hDu
  have HDu := Lib.hid hDu
  have hCn := fun w1 => canon_walk u.el (by omega) w1
  rw [e3, e4] at hCn
  have HCn := Lib.hid hCn
  have hSa := fun (bo : Option Addr) (cb : Nat) w1 (h1 : RdB w1 ao u.l) (h2 : RdB w1 bo u.l) => same8_walk u u ao bo ca cb hl hl w1 h1 h2
  rw [sameU_self] at hSa
  have HSa := Lib.hid hSa
  clear hNx hDu hCn hSa e1 e2 e3 e4 e5 e6 e7 e8 h5 hk he heS
  generalize u.el = EL at *
  clear hSm hs hsf hlp hEn hDb hd
  go_enter Tryz.func5, Tryz.ntmps5
  go_wp2_with fail
  refine (HW.out _ HT0.out).mono ?_
  rintro e w1 ⟨rfl, d1⟩
  have hu1 := hu0.below d1
  have HR1 := Lib.hid (HR0.out.below d1)
  have HT1 := Lib.hid (HT0.out.below d1)
  have b1 := b0.trans (d1.mono b0.size)
  obtain ⟨y0, y1, y2, y3, y4⟩ := hu1.cells
  clear d1 hu0 b0 HR0 HT0
  go_wp2_with fail
  refine (HSm.out _ HR1.out).mono ?_
  rintro e w2 ⟨rfl, d2⟩
  have hu2 := hu1.below d2
  have HR2 := Lib.hid (HR1.out.below d2)
  have HT2 := Lib.hid (HT1.out.below d2)
  have b2 := b1.trans (d2.mono b1.size)
  clear y0 y1 y2 y3 y4 d2 hu1 b1 HR1 HT1
  obtain ⟨y0, y1, y2, y3, y4⟩ := hu2.cells
  go_wp2_with fail
  refine (HEn.out _ HT2.out HR2.out).mono ?_
  rintro e w3 ⟨rfl, d3⟩
  have hu3 := hu2.below d3
  have HR3 := Lib.hid (HR2.out.below d3)
  have HT3 := Lib.hid (HT2.out.below d3)
  have b3 := b2.trans (d3.mono b2.size)
  clear y0 y1 y2 y3 y4 d3 hu2 b2 HR2 HT2
  obtain ⟨y0, y1, y2, y3, y4⟩ := hu3.cells
  go_wp2_with fail
  refine (HNx.out _).mono ?_
  rintro e w4 ⟨rfl, d4⟩
  have a4 := alloc_in w4 (.cells #[.int .i64 u.t, .string (bs u.body)] 30)
  have hp4 := Prt.new w4 30 u.t u.body
  have hu4 := (hu3.below d4).below a4
  have HR4 := Lib.hid ((HR3.out.below d4).below a4)
  have HT4 := Lib.hid ((HT3.out.below d4).below a4)
  have b4 := (b3.trans (d4.mono b3.size)).trans (a4.mono (b3.trans (d4.mono b3.size)).size)
  clear y0 y1 y2 y3 y4 d4 hu3 b3 HR3 HT3 a4
  go_wp2_with fail
  refine (HDu.out _ HT4.out).mono ?_
  rintro e w5 ⟨bo, cb, rfl, hs5, d5⟩
  have a5 := alloc_in w5 (.cells #[.int .i64 u.t, .int .i64 u.r, .int .i64 u.a, .int .i64 u.i, .slice bo u.l.length cb] 25)
  have hv5 := Uq.new 25 w5 u bo cb
  have hu5 := (hu4.below d5).below a5
  have HR5 := Lib.hid ((HR4.out.below d5).below a5)
  have HS5 := Lib.hid (hs5.below a5)
  have HT5 := Lib.hid ((HT4.out.below d5).below a5)
  have b5 := (b4.trans (d5.mono b4.size)).trans (a5.mono (b4.trans (d5.mono b4.size)).size)
  clear d5 hu4 b4 HR4 HT4 a5 hs5 hp4
  go_wp2_with fail
  refine (HCn.out _).mono ?_
  rintro e w6 ⟨rfl, d6⟩
  have hu6 := hu5.below d6
  have hv6 := hv5.below d6
  have HR6 := Lib.hid (HR5.out.below d6)
  have HS6 := Lib.hid (HS5.out.below d6)
  have HT6 := Lib.hid (HT5.out.below d6)
  have b6 := b5.trans (d6.mono b5.size)
  obtain ⟨y0, y1, y2, y3, y4⟩ := hu6.cells
  obtain ⟨z0, z1, z2, z3, z4⟩ := hv6.cells
  clear d6 hu5 hv5 b5 HR5 HS5 HT5
  go_wp2_with fail
  refine (HSa.out _ _ _ HR6.out HS6.out).mono ?_
  rintro e w7 ⟨rfl, d7⟩
  have HT7 := Lib.hid (HT6.out.below d7)
  have b7 := b6.trans (d7.mono b6.size)
  clear y0 y1 y2 y3 y4 z0 z1 z2 z3 z4 d7 hu6 hv6 b6 HR6 HS6 HT6
  go_wp2_with fail
  refine (HDb.out _ HT7.out).mono ?_
  rintro e w8 ⟨po, cp, rfl, hs8, d8⟩
  have a8 := alloc_in w8 (.cells #[.int .i64 v.t, .int .i64 v.r, .int .i64 v.a, .int .i64 v.i, .slice po v.l.length cp] 25)
  have hv8 := Uq.new 25 w8 v po cp
  have HS8 := Lib.hid (hs8.below a8)
  have HT8 := Lib.hid ((HT7.out.below d8).below a8)
  have b8 := (b7.trans (d8.mono b7.size)).trans (a8.mono (b7.trans (d8.mono b7.size)).size)
  obtain ⟨y0, y1, y2, y3, y4⟩ := hv8.cells
  clear d8 a8 hs8
  go_wp2_with fail
  refine (HEv.out _ _ _ HT8.out HS8.out).mono ?_
  rintro e w9 ⟨rfl, d9⟩
  have b9 := b8.trans (d9.mono b8.size)
  clear y0 y1 y2 y3 y4 d9
  go_wp2_with fail
  refine (HWr.out _).mono ?_
  rintro e w10 ⟨rfl, d10⟩
  have b10 := b9.trans (d10.mono b9.size)
  go_wp2_with fail
  refine (HCx.out _).mono ?_
  rintro e w11 ⟨rfl, d11⟩
  have b11 := b10.trans (d11.mono b10.size)
  go_wp2
  try go_ret
  exact ⟨rfl, b11⟩
set_option maxRecDepth 100000 in
set_option maxHeartbeats 2000000 in
theorem pduBack_BN (u : Un) (ao : Option Addr) (ca : Nat) (t : Int) (b : List UInt8) (hb : b.length ≤ 140737488351232) (w : World) (T : Tp w) (hl : u.l.length ≤ 140737488351232) (hx : Lim u.l) (hr : RdB w ao u.l) (hs : smB u.l = true) (h3 : b.length ≤ 3000) (he : (((eE u : Nat) : Int) == 0) = false) (hd : deU t b = none) :
    Calls Tryz.prog 5 #[.agg #[.int .i64 u.t, .int .i64 u.r, .int .i64 u.a, .int .i64 u.i, .slice ao u.l.length ca], .int .i64 t, .string (bs b)] w fun e w' => e = .returned (.bool true) ∧ Below w.heap.size w w' := by
  have HW := Lib.hid (fun w1 (h : Tp w1) => works8_walk w1 h)
  have b0 := alloc_in w (.cells #[.int .i64 u.t, .int .i64 u.r, .int .i64 u.a, .int .i64 u.i, .slice ao u.l.length ca] 25)
  have hu0 := Uq.new 25 w u ao ca
  have HR0 := Lib.hid (hr.below b0)
  have HT0 := Lib.hid (T.below b0)
  have hSm := fun w1 (h : RdB w1 ao u.l) => small_walk u.l ao ca hl hx w1 h
  clear T hr
  rw [hs] at hSm
  have HSm := Lib.hid hSm
  have h3' : ((b.length : Nat) : Int) ≤ 3000 := by omega
  have hsf := (sm_facts hs).2.2
  have hlp : LimP u.l := fun x hx' => ⟨by have := (hsf x hx').2; omega, by have := (hsf x hx').1; omega, (hx x hx').2.2⟩
  have hEn := fun w1 (h : Tp w1) (h2 : RdB w1 ao u.l) => encode8_walk u ao ca hl hlp w1 h h2
  have hDb := fun w1 (h : Tp w1) => decode8_walk t b (by omega) w1 h
  unfold DuPost at hDb
  rw [(du_none hd).1, (du_none hd).2] at hDb
  have hDb' : ∀ w1, Tp w1 → Calls Tryz.prog 7 #[.agg #[.int .i64 t, .string (bs b)]] w1 fun e w' => ∃ ao cap, e = .returned (.tuple #[.agg #[.int .i64 0, .int .i64 0, .int .i64 0, .int .i64 0, .slice ao 0 cap], .int .i64 80]) ∧ RdB w' ao [] ∧ Below w1.heap.size w1 w' := hDb
  have HDb := Lib.hid hDb'
  clear hDb'
  have HEn := Lib.hid hEn
  generalize eE u = EE at *
  generalize eS u = ES at *
  clear hSm hs hsf hlp hEn hDb hd
  go_enter Tryz.func5, Tryz.ntmps5
  go_wp2_with fail
  refine (HW.out _ HT0.out).mono ?_
  rintro e w1 ⟨rfl, d1⟩
  have hu1 := hu0.below d1
  have HR1 := Lib.hid (HR0.out.below d1)
  have HT1 := Lib.hid (HT0.out.below d1)
  have b1 := b0.trans (d1.mono b0.size)
  obtain ⟨y0, y1, y2, y3, y4⟩ := hu1.cells
  clear d1 hu0 b0 HR0 HT0
  go_wp2_with fail
  refine (HSm.out _ HR1.out).mono ?_
  rintro e w2 ⟨rfl, d2⟩
  have hu2 := hu1.below d2
  have HR2 := Lib.hid (HR1.out.below d2)
  have HT2 := Lib.hid (HT1.out.below d2)
  have b2 := b1.trans (d2.mono b1.size)
  clear y0 y1 y2 y3 y4 d2 hu1 b1 HR1 HT1
  obtain ⟨y0, y1, y2, y3, y4⟩ := hu2.cells
  go_wp2_with fail
  refine (HEn.out _ HT2.out HR2.out).mono ?_
  rintro e w3 ⟨rfl, d3⟩
  have hu3 := hu2.below d3
  have HR3 := Lib.hid (HR2.out.below d3)
  have HT3 := Lib.hid (HT2.out.below d3)
  have b3 := b2.trans (d3.mono b2.size)
  clear y0 y1 y2 y3 y4 d3 hu2 b2 HR2 HT2
  obtain ⟨y0, y1, y2, y3, y4⟩ := hu3.cells
  go_wp2_with fail
  refine (HDb.out _ HT3.out).mono ?_
  rintro e w8 ⟨po, cp, rfl, hs8, d8⟩
  have a8 := alloc_in w8 (.cells #[.int .i64 0, .int .i64 0, .int .i64 0, .int .i64 0, .slice po 0 cp] 25)
  have hv8 := Uq.new 25 w8 nou po cp
  have HS8 := Lib.hid (hs8.below a8)
  have HT8 := Lib.hid ((HT3.out.below d8).below a8)
  have b8 := (b3.trans (d8.mono b3.size)).trans (a8.mono (b3.trans (d8.mono b3.size)).size)
  obtain ⟨y0, y1, y2, y3, y4⟩ := hv8.cells
  clear d8 a8 hs8
  go_wp2
  try go_ret
  exact ⟨rfl, b8⟩
set_option maxRecDepth 100000 in
set_option maxHeartbeats 2000000 in
theorem pduBack_BS (u : Un) (ao : Option Addr) (ca : Nat) (t : Int) (b : List UInt8) (hb : b.length ≤ 140737488351232) (w : World) (T : Tp w) (hl : u.l.length ≤ 140737488351232) (hx : Lim u.l) (hr : RdB w ao u.l) (hs : smB u.l = true) (h3 : b.length ≤ 3000) (he : (((eE u : Nat) : Int) == 0) = false) (v : Un) (hd : deU t b = some v) :
    Calls Tryz.prog 5 #[.agg #[.int .i64 u.t, .int .i64 u.r, .int .i64 u.a, .int .i64 u.i, .slice ao u.l.length ca], .int .i64 t, .string (bs b)] w fun e w' => e = .returned (.bool true) ∧ Below w.heap.size w w' := by
  have HW := Lib.hid (fun w1 (h : Tp w1) => works8_walk w1 h)
  have b0 := alloc_in w (.cells #[.int .i64 u.t, .int .i64 u.r, .int .i64 u.a, .int .i64 u.i, .slice ao u.l.length ca] 25)
  have hu0 := Uq.new 25 w u ao ca
  have HR0 := Lib.hid (hr.below b0)
  have HT0 := Lib.hid (T.below b0)
  have hSm := fun w1 (h : RdB w1 ao u.l) => small_walk u.l ao ca hl hx w1 h
  clear T hr
  rw [hs] at hSm
  have HSm := Lib.hid hSm
  have h3' : ((b.length : Nat) : Int) ≤ 3000 := by omega
  have hsf := (sm_facts hs).2.2
  have hlp : LimP u.l := fun x hx' => ⟨by have := (hsf x hx').2; omega, by have := (hsf x hx').1; omega, (hx x hx').2.2⟩
  have hEn := fun w1 (h : Tp w1) (h2 : RdB w1 ao u.l) => encode8_walk u ao ca hl hlp w1 h h2
  have hDb := fun w1 (h : Tp w1) => decode8_walk t b (by omega) w1 h
  unfold DuPost at hDb
  rw [(du_some hd).1, (du_some hd).2] at hDb
  have HDb := Lib.hid hDb
  obtain ⟨q1, q2, q3, q4, q5, q6, q7, q8⟩ := told_whole hd h3
  have hvl := ((D8.Un.ok_iff v).1 (D8.unit_told hd).1).2.2.2.2.1
  have hEv := fun po cp w1 (h : Tp w1) (h2 : RdB w1 po v.l) => encode8_walk v po cp (by omega) q7 w1 h h2
  rw [q1, q2] at hEv
  have HEv := Lib.hid hEv
  have hWr := fun w1 => wrap_walk t b hb w1
  rw [q3, q4] at hWr
  have HWr := Lib.hid hWr
  have hCx := fun w1 => canon_walk (put t.toNat b) (by omega) w1
  rw [q5, q6] at hCx
  have HCx := Lib.hid hCx
  clear hEv hWr hCx q1 q2 q3 q4 q5 q6 q7 q8
  generalize put t.toNat b = PT at *
  generalize v.el = VE at *
  have HEn := Lib.hid hEn
  generalize eE u = EE at *
  generalize eS u = ES at *
  clear hSm hs hsf hlp hEn hDb hd
  go_enter Tryz.func5, Tryz.ntmps5
  go_wp2_with fail
  refine (HW.out _ HT0.out).mono ?_
  rintro e w1 ⟨rfl, d1⟩
  have hu1 := hu0.below d1
  have HR1 := Lib.hid (HR0.out.below d1)
  have HT1 := Lib.hid (HT0.out.below d1)
  have b1 := b0.trans (d1.mono b0.size)
  obtain ⟨y0, y1, y2, y3, y4⟩ := hu1.cells
  clear d1 hu0 b0 HR0 HT0
  go_wp2_with fail
  refine (HSm.out _ HR1.out).mono ?_
  rintro e w2 ⟨rfl, d2⟩
  have hu2 := hu1.below d2
  have HR2 := Lib.hid (HR1.out.below d2)
  have HT2 := Lib.hid (HT1.out.below d2)
  have b2 := b1.trans (d2.mono b1.size)
  clear y0 y1 y2 y3 y4 d2 hu1 b1 HR1 HT1
  obtain ⟨y0, y1, y2, y3, y4⟩ := hu2.cells
  go_wp2_with fail
  refine (HEn.out _ HT2.out HR2.out).mono ?_
  rintro e w3 ⟨rfl, d3⟩
  have hu3 := hu2.below d3
  have HR3 := Lib.hid (HR2.out.below d3)
  have HT3 := Lib.hid (HT2.out.below d3)
  have b3 := b2.trans (d3.mono b2.size)
  clear y0 y1 y2 y3 y4 d3 hu2 b2 HR2 HT2
  obtain ⟨y0, y1, y2, y3, y4⟩ := hu3.cells
  go_wp2_with fail
  refine (HDb.out _ HT3.out).mono ?_
  rintro e w8 ⟨po, cp, rfl, hs8, d8⟩
  have a8 := alloc_in w8 (.cells #[.int .i64 v.t, .int .i64 v.r, .int .i64 v.a, .int .i64 v.i, .slice po v.l.length cp] 25)
  have hv8 := Uq.new 25 w8 v po cp
  have HS8 := Lib.hid (hs8.below a8)
  have HT8 := Lib.hid ((HT3.out.below d8).below a8)
  have b8 := (b3.trans (d8.mono b3.size)).trans (a8.mono (b3.trans (d8.mono b3.size)).size)
  obtain ⟨y0, y1, y2, y3, y4⟩ := hv8.cells
  clear d8 a8 hs8
  go_wp2_with fail
  refine (HEv.out _ _ _ HT8.out HS8.out).mono ?_
  rintro e w9 ⟨rfl, d9⟩
  have b9 := b8.trans (d9.mono b8.size)
  clear y0 y1 y2 y3 y4 d9
  go_wp2_with fail
  refine (HWr.out _).mono ?_
  rintro e w10 ⟨rfl, d10⟩
  have b10 := b9.trans (d10.mono b9.size)
  go_wp2_with fail
  refine (HCx.out _).mono ?_
  rintro e w11 ⟨rfl, d11⟩
  have b11 := b10.trans (d11.mono b10.size)
  go_wp2
  try go_ret
  exact ⟨rfl, b11⟩
theorem pduBack_walk (u : Un) (ao : Option Addr) (ca : Nat) (t : Int) (b : List UInt8) (hb : b.length ≤ 140737488351232) (w : World) (T : Tp w) (hl : u.l.length ≤ 140737488351232) (hx : Lim u.l) (hr : RdB w ao u.l) :
    Calls Tryz.prog 5 #[.agg #[.int .i64 u.t, .int .i64 u.r, .int .i64 u.a, .int .i64 u.i, .slice ao u.l.length ca], .int .i64 t, .string (bs b)] w fun e w' => e = .returned (.bool true) ∧ Below w.heap.size w w' := by
  by_cases h : smB u.l = false ∨ 3000 < b.length
  · exact pduBack_out u ao ca t b hb w T hl hx hr h
  · have hs : smB u.l = true := by
      cases hs : smB u.l
      · exact absurd (.inl hs) h
      · rfl
    have h3 : b.length ≤ 3000 := by
      by_cases h3 : 3000 < b.length
      · exact absurd (.inr h3) h
      · omega
    cases hd : deU t b with
    | none =>
      rcases eE_ways u with ⟨he, hk, h5, heS⟩ | he
      · exact pduBack_AN u ao ca t b hb w T hl hx hr hs h3 hk h5 he heS hd
      · exact pduBack_BN u ao ca t b hb w T hl hx hr hs h3 he hd
    | some v =>
      rcases eE_ways u with ⟨he, hk, h5, heS⟩ | he
      · exact pduBack_AS u ao ca t b hb w T hl hx hr hs h3 hk h5 he heS v hd
      · exact pduBack_BS u ao ca t b hb w T hl hx hr hs h3 he v hd
end Go.Proofs.YtlpknkfidcojeaaGreatDoor
