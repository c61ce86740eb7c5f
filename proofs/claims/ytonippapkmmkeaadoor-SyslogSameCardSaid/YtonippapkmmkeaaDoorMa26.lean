/- Texts on the program and on the document, joined: SylT. -/
import Derived.Test.YtonippapkmmkeaaDoorMa23
/- SyslogSame, walked on calls that keep their word. gen_syl.py writes it. -/
namespace Go.Proofs.YtonippapkmmkeaaDoor
open Go.ChangeShapes Go.WideShapes Go.ChangeAt Go.RowKit K Q10 S11
set_option linter.unusedVariables false

theorem xor_ne (r : Int) (h0 : -9223372036854775808 ≤ r) (h1 : r ≤ 9223372036854775807) : bits .xor .i64 r 1 ≠ r := by
  intro h
  have h2 : bits .xor .i64 r 1 = wrap64 (((BitVec.ofInt 64 r ^^^ BitVec.ofInt 64 1).toNat : Nat) : Int) := by
    show IntKind.i64.wrap (((BitVec.ofInt 64 r ^^^ BitVec.ofInt 64 1).toNat : Nat) : Int) = _
    rw [IntKind.wrap_i64, wrap64_eq]
  rw [h2] at h
  rw [wrap64_eq] at h
  have hx : (BitVec.ofInt 64 r).toNat = (BitVec.ofInt 64 r ^^^ BitVec.ofInt 64 1).toNat := by
    have hl := (BitVec.ofInt 64 r ^^^ BitVec.ofInt 64 1).isLt
    rw [BitVec.toNat_ofInt]
    generalize (BitVec.ofInt 64 r ^^^ BitVec.ofInt 64 1).toNat = m at *
    omega
  have hb := BitVec.eq_of_toNat_eq hx
  have hz : (BitVec.ofInt 64 1 : BitVec 64) = 0#64 := by
    have := congrArg (fun z => BitVec.ofInt 64 r ^^^ z) hb
    simp only [BitVec.xor_self, ← BitVec.xor_assoc, BitVec.zero_xor] at this
    exact this.symm
  exact absurd hz (by decide)
/-- The tenth part of a number, from 0 on. -/
theorem ten_ways (x : Int) : belowN x 10 = 0 ∨ belowN x 10 = 1 ∨ belowN x 10 = 2 ∨ belowN x 10 = 3 ∨ belowN x 10 = 4 ∨ belowN x 10 = 5 ∨ belowN x 10 = 6 ∨ belowN x 10 = 7 ∨ belowN x 10 = 8 ∨ belowN x 10 = 9 := by
  have := belowN_bounds x 10 (by omega)
  omega
theorem twenty {x : World} {b1 b2 : Nat} {t u : Lg} {ao bo : Option Addr} {ca cb : Nat} (h1 : Lq x b1 t ao ca) (h2 : Lq x b2 u bo cb) : x.cell? ⟨b1, 0, none⟩ = some (.int .i64 t.f) ∧ x.cell? ⟨b1, 1, none⟩ = some (.int .i64 t.v) ∧ x.cell? ⟨b1, 2, none⟩ = some (.int .i64 t.t) ∧ x.cell? ⟨b1, 3, none⟩ = some (.string (bs t.h)) ∧ x.cell? ⟨b1, 4, none⟩ = some (.string (bs t.a)) ∧ x.cell? ⟨b1, 5, none⟩ = some (.string (bs t.p)) ∧ x.cell? ⟨b1, 6, none⟩ = some (.string (bs t.i)) ∧ x.cell? ⟨b1, 7, none⟩ = some (.slice ao t.d.length ca) ∧ x.cell? ⟨b1, 8, none⟩ = some (.bool t.b) ∧ x.cell? ⟨b1, 9, none⟩ = some (.string (bs t.x)) ∧ x.cell? ⟨b2, 0, none⟩ = some (.int .i64 u.f) ∧ x.cell? ⟨b2, 1, none⟩ = some (.int .i64 u.v) ∧ x.cell? ⟨b2, 2, none⟩ = some (.int .i64 u.t) ∧ x.cell? ⟨b2, 3, none⟩ = some (.string (bs u.h)) ∧ x.cell? ⟨b2, 4, none⟩ = some (.string (bs u.a)) ∧ x.cell? ⟨b2, 5, none⟩ = some (.string (bs u.p)) ∧ x.cell? ⟨b2, 6, none⟩ = some (.string (bs u.i)) ∧ x.cell? ⟨b2, 7, none⟩ = some (.slice bo u.d.length cb) ∧ x.cell? ⟨b2, 8, none⟩ = some (.bool u.b) ∧ x.cell? ⟨b2, 9, none⟩ = some (.string (bs u.x)) := by
  obtain ⟨y0, y1, y2, y3, y4, y5, y6, y7, y8, y9⟩ := h1.cells
  obtain ⟨z0, z1, z2, z3, z4, z5, z6, z7, z8, z9⟩ := h2.cells
  exact ⟨y0, y1, y2, y3, y4, y5, y6, y7, y8, y9, z0, z1, z2, z3, z4, z5, z6, z7, z8, z9⟩
/-- What a world holds while SyslogSame looks on. -/
def Hl (x : World) (b1 b2 : Nat) (t u : Lg) (ao bo : Option Addr) (ca cb : Nat) : Prop := Lq x b1 t ao ca ∧ Lq x b2 u bo cb ∧ RdE x ao t.d ∧ RdE x bo u.d
theorem Hl.below {x y : World} {b1 b2 : Nat} {t u : Lg} {ao bo : Option Addr} {ca cb : Nat} (h : Hl x b1 b2 t u ao bo ca cb) (k : Below x.heap.size x y) : Hl y b1 b2 t u ao bo ca cb := ⟨h.1.below k, h.2.1.below k, h.2.2.1.below k, h.2.2.2.below k⟩
set_option maxRecDepth 100000 in
set_option maxHeartbeats 8000000 in
theorem syslogSame_walk (I : World → Prop) (KK : Keeps I) (KS : HSame11 I) (KE : HEx11 I) (KP : HPri11 I) (t u : Lg) (ao bo : Option Addr) (ca cb : Nat) (which : Int) (hi0 : -9223372036854775808 ≤ which) (hi1 : which ≤ 9223372036854775807) (hl : LimG 140737488351232 t) (hl2 : LimG 140737488351232 u) (hr1 : RngG t)
    (hsh : ((ao = none ∧ t.d.length = 0 ∧ ca = 0) ∨ ∃ a, ao = some a)) (w : World) (hw : I w) (hr : RdE w ao t.d) (hr2 : RdE w bo u.d) :
    Calls Tryd.prog 3 #[.agg #[.int .i64 t.f, .int .i64 t.v, .int .i64 t.t, .string (bs t.h), .string (bs t.a), .string (bs t.p), .string (bs t.i), .slice ao t.d.length ca, .bool t.b, .string (bs t.x)], .agg #[.int .i64 u.f, .int .i64 u.v, .int .i64 u.t, .string (bs u.h), .string (bs u.a), .string (bs u.p), .string (bs u.i), .slice bo u.d.length cb, .bool u.b, .string (bs u.x)], .int .i64 which] w fun e w' => e = .returned (.bool true) ∧ Below w.heap.size w w' := by
  obtain ⟨w0, hw0, ht0, hu0, b0⟩ := two_logs w t u ao bo ca cb
  have H0 : Hl w0 w.heap.size (w.heap.size + 1) t u ao bo ca cb := ⟨ht0, hu0, hr.below b0, hr2.below b0⟩
  have HW0 := Lib.hid hw0
  have HW := Lib.hid (fun w1 (h : I w1) => works11_walk I KK KS KE KP w1 h)
  have HK := Lib.hid (fun w1 (b : Below w.heap.size w w1) => KK w w1 hw b)
  have hm := hl.mono (N := 140737488355327) (by omega)
  have hm2 := hl2.mono (N := 140737488355327) (by omega)
  have hS11 := fun w1 (h : I w1) (r : RdE w1 ao t.d) => KS t t ao ao ca ca w1 hm hm h r r
  have hS12 := fun w1 (h : I w1) (r : RdE w1 ao t.d) (r2 : RdE w1 bo u.d) => KS t u ao bo ca cb w1 hm hm2 h r r2
  have hS21 := fun w1 (h : I w1) (r2 : RdE w1 bo u.d) (r : RdE w1 ao t.d) => KS u t bo ao cb ca w1 hm2 hm h r2 r
  rw [saL_self] at hS11
  rw [saL_comm u t] at hS21
  generalize saL t u = SV at *
  have HS11 := Lib.hid hS11
  have HS12 := Lib.hid hS12
  have HS21 := Lib.hid hS21
  have HSv := Lib.hid (fun (v : Lg) (vo : Option Addr) (cv : Nat) (hne : ¬ t = v) (hvl : LimG 140737488355327 v) w1 (h : I w1) (r : RdE w1 ao t.d) (r2 : RdE w1 vo v.d) => (show Calls Tryd.prog 5 #[.agg #[.int .i64 t.f, .int .i64 t.v, .int .i64 t.t, .string (bs t.h), .string (bs t.a), .string (bs t.p), .string (bs t.i), .slice ao t.d.length ca, .bool t.b, .string (bs t.x)], .agg #[.int .i64 v.f, .int .i64 v.v, .int .i64 v.t, .string (bs v.h), .string (bs v.a), .string (bs v.p), .string (bs v.i), .slice vo v.d.length cv, .bool v.b, .string (bs v.x)]] w1 fun e w' => e = .returned (.bool false) ∧ Below w1.heap.size w1 w' from by
    have := KS t v ao vo ca cv w1 hm hvl h r r2
    rw [saL_not hne] at this; exact this))
  have HB := Lib.hid (fun w1 => below_walk which 10 hi0 hi1 (by omega) (by omega) w1)
  have s1 : (SV == SV) = true := by simp
  have s2 : (SV != SV) = false := by simp
  have HRD := Lib.hid (fun w1 (b : Below w.heap.size w w1) => hr.below b)
  have HRW := Lib.hid hr
  obtain ⟨g1, g2, g3, g4, g5, g6, g7⟩ := hl
  clear hw0 hr hr2 ht0 hu0 hS11 hS12 hS21 KS KE KP KK hm hm2 hl2
  have zS := twenty H0.1 H0.2.1
  have hways := ten_ways which
  generalize belowN which 10 = bw at *
  go_enter Tryd.func3, Tryd.ntmps3
  go_wp2_with fail
  rw [HW0.out]
  go_region_held3 (fun x => x.cell? ⟨w.heap.size, 0, none⟩ = some (.int .i64 t.f) ∧ x.cell? ⟨w.heap.size, 1, none⟩ = some (.int .i64 t.v) ∧ x.cell? ⟨w.heap.size, 2, none⟩ = some (.int .i64 t.t) ∧ x.cell? ⟨w.heap.size, 3, none⟩ = some (.string (bs t.h)) ∧ x.cell? ⟨w.heap.size, 4, none⟩ = some (.string (bs t.a)) ∧ x.cell? ⟨w.heap.size, 5, none⟩ = some (.string (bs t.p)) ∧ x.cell? ⟨w.heap.size, 6, none⟩ = some (.string (bs t.i)) ∧ x.cell? ⟨w.heap.size, 7, none⟩ = some (.slice ao t.d.length ca) ∧ x.cell? ⟨w.heap.size, 8, none⟩ = some (.bool t.b) ∧ x.cell? ⟨w.heap.size, 9, none⟩ = some (.string (bs t.x)) ∧ x.cell? ⟨w.heap.size + 1, 0, none⟩ = some (.int .i64 u.f) ∧ x.cell? ⟨w.heap.size + 1, 1, none⟩ = some (.int .i64 u.v) ∧ x.cell? ⟨w.heap.size + 1, 2, none⟩ = some (.int .i64 u.t) ∧ x.cell? ⟨w.heap.size + 1, 3, none⟩ = some (.string (bs u.h)) ∧ x.cell? ⟨w.heap.size + 1, 4, none⟩ = some (.string (bs u.a)) ∧ x.cell? ⟨w.heap.size + 1, 5, none⟩ = some (.string (bs u.p)) ∧ x.cell? ⟨w.heap.size + 1, 6, none⟩ = some (.string (bs u.i)) ∧ x.cell? ⟨w.heap.size + 1, 7, none⟩ = some (.slice bo u.d.length cb) ∧ x.cell? ⟨w.heap.size + 1, 8, none⟩ = some (.bool u.b) ∧ x.cell? ⟨w.heap.size + 1, 9, none⟩ = some (.string (bs u.x))) (first | exact zS4 | exact zS3 | exact zS2 | exact zS1 | exact zS)
    (first
      | (have _g := zS3; clear _g; go_at_call 5; refine (HS21.out _ (by exact HK.out _ bX3) (by exact HX3.2.2.2) (by exact HX3.2.2.1)).mono ?_; rintro e x4 ⟨rfl, j4⟩; have k4 : Below x3.heap.size x3 x4 := ⟨j4.os, j4.tape, j4.output, j4.size, j4.block⟩; have HX4 := HX3.below k4; have bX4 := bX3.trans (k4.mono bX3.size); have zS4 := twenty HX4.1 HX4.2.1)
      | (have _g := zS2; clear _g; go_at_call 5; refine (HS12.out _ (by exact HK.out _ bX2) (by exact HX2.2.2.1) (by exact HX2.2.2.2)).mono ?_; rintro e x3 ⟨rfl, j3⟩; have k3 : Below x2.heap.size x2 x3 := ⟨j3.os, j3.tape, j3.output, j3.size, j3.block⟩; have HX3 := HX2.below k3; have bX3 := bX2.trans (k3.mono bX2.size); have zS3 := twenty HX3.1 HX3.2.1)
      | (have _g := zS1; clear _g; go_at_call 5; refine (HS11.out _ (by exact HK.out _ bX1) (by exact HX1.2.2.1)).mono ?_; rintro e x2 ⟨rfl, j2⟩; have k2 : Below x1.heap.size x1 x2 := ⟨j2.os, j2.tape, j2.output, j2.size, j2.block⟩; have HX2 := HX1.below k2; have bX2 := bX1.trans (k2.mono bX1.size); have zS2 := twenty HX2.1 HX2.2.1)
      | (have _g := zS; clear _g; go_at_call 4; refine (HW.out _ (by exact HK.out _ ⟨b0.os, b0.tape, b0.output, b0.size, b0.block⟩)).mono ?_; rintro e x1 ⟨rfl, j1⟩; have k1 : Below w0.heap.size w0 x1 := ⟨j1.os, j1.tape, j1.output, j1.size, j1.block⟩; have HX1 := H0.below k1; have bX1 := b0.trans (k1.mono b0.size); have zS1 := twenty HX1.1 HX1.2.1))
  have ht4 := HX4.1
  have hr4 := HX4.2.2.1
  clear zS zS1 zS2 zS3 zS4 HX1 HX2 HX3 HX4 j1 k1 j2 k2 j3 k3 j4 k4 bX1 bX2 bX3 H0 b0 HS11 HS12 HS21 HW0 HW s1 s2
  have aV := alloc_in' x4 (.cells #[.int .i64 t.f, .int .i64 t.v, .int .i64 t.t, .string (bs t.h), .string (bs t.a), .string (bs t.p), .string (bs t.i), .slice ao t.d.length ca, .bool t.b, .string (bs t.x)] 24)
  have hv5 := Lq.new x4 t ao ca
  have ht5 := ht4.below aV
  have b5 := bX4.trans (aV.mono bX4.size)
  obtain ⟨y0, y1, y2, y3, y4, y5, y6, y7, y8, y9⟩ := ht4.cells
  go_wp2_with fail
  refine (HB.out _).mono ?_
  rintro e w5 ⟨rfl, rfl⟩
  obtain ⟨z0, z1, z2, z3, z4, z5, z6, z7, z8, z9⟩ := hv5.cells
  have hfz := hv5.free
  rcases hways with h | h | h | h | h | h | h | h | h | h <;> subst h
  · have hne : ¬ t = ⟨bits .xor .i64 t.f 1, t.v, t.t, t.h, t.a, t.p, t.i, t.d, t.b, t.x⟩ := by intro e; exact xor_ne t.f hr1.1.1 hr1.1.2 (congrArg Lg.f e).symm
    have hvl : LimG 140737488355327 ⟨bits .xor .i64 t.f 1, t.v, t.t, t.h, t.a, t.p, t.i, t.d, t.b, t.x⟩ := ⟨by show t.h.length ≤ _; omega, by show t.a.length ≤ _; omega, by show t.p.length ≤ _; omega, by show t.i.length ≤ _; omega, by show t.x.length ≤ _; omega, by show t.d.length * 40 ≤ _; omega, g7⟩
    have hC : ∀ w1, I w1 → RdE w1 ao t.d → Calls Tryd.prog 5 #[.agg #[.int .i64 t.f, .int .i64 t.v, .int .i64 t.t, .string (bs t.h), .string (bs t.a), .string (bs t.p), .string (bs t.i), .slice ao t.d.length ca, .bool t.b, .string (bs t.x)], .agg #[.int .i64 (bits .xor .i64 t.f 1), .int .i64 t.v, .int .i64 t.t, .string (bs t.h), .string (bs t.a), .string (bs t.p), .string (bs t.i), .slice ao t.d.length ca, .bool t.b, .string (bs t.x)]] w1 fun e w' => e = .returned (.bool false) ∧ Below w1.heap.size w1 w' := fun w1 h r => by
      exact HSv.out ⟨bits .xor .i64 t.f 1, t.v, t.t, t.h, t.a, t.p, t.i, t.d, t.b, t.x⟩ ao ca hne hvl w1 h r r
    have HC := Lib.hid hC
    have aN := alloc_in' x4 (.cells #[.int .i64 (bits .xor .i64 t.f 1), .int .i64 t.v, .int .i64 t.t, .string (bs t.h), .string (bs t.a), .string (bs t.p), .string (bs t.i), .slice ao t.d.length ca, .bool t.b, .string (bs t.x)] 24)
    have htN := ht4.below aN
    have hrN := hr4.below aN
    have bN := bX4.trans (aN.mono bX4.size)
    obtain ⟨m0, m1, m2, m3, m4, m5, m6, m7, m8, m9⟩ := htN.cells
    clear hC hne hvl g6 g7
    go_wp2_with fail
    refine (HC.out _ (HK.out _ bN) hrN).mono ?_
    rintro e w6 ⟨rfl, d6⟩
    go_wp2_with fail
    go_ret
    exact ⟨rfl, bN.trans (d6.mono bN.size)⟩
  · have hne : ¬ t = ⟨t.f, bits .xor .i64 t.v 1, t.t, t.h, t.a, t.p, t.i, t.d, t.b, t.x⟩ := by intro e; exact xor_ne t.v hr1.2.1.1 hr1.2.1.2 (congrArg Lg.v e).symm
    have hvl : LimG 140737488355327 ⟨t.f, bits .xor .i64 t.v 1, t.t, t.h, t.a, t.p, t.i, t.d, t.b, t.x⟩ := ⟨by show t.h.length ≤ _; omega, by show t.a.length ≤ _; omega, by show t.p.length ≤ _; omega, by show t.i.length ≤ _; omega, by show t.x.length ≤ _; omega, by show t.d.length * 40 ≤ _; omega, g7⟩
    have hC : ∀ w1, I w1 → RdE w1 ao t.d → Calls Tryd.prog 5 #[.agg #[.int .i64 t.f, .int .i64 t.v, .int .i64 t.t, .string (bs t.h), .string (bs t.a), .string (bs t.p), .string (bs t.i), .slice ao t.d.length ca, .bool t.b, .string (bs t.x)], .agg #[.int .i64 t.f, .int .i64 (bits .xor .i64 t.v 1), .int .i64 t.t, .string (bs t.h), .string (bs t.a), .string (bs t.p), .string (bs t.i), .slice ao t.d.length ca, .bool t.b, .string (bs t.x)]] w1 fun e w' => e = .returned (.bool false) ∧ Below w1.heap.size w1 w' := fun w1 h r => by
      exact HSv.out ⟨t.f, bits .xor .i64 t.v 1, t.t, t.h, t.a, t.p, t.i, t.d, t.b, t.x⟩ ao ca hne hvl w1 h r r
    have HC := Lib.hid hC
    have aN := alloc_in' x4 (.cells #[.int .i64 t.f, .int .i64 (bits .xor .i64 t.v 1), .int .i64 t.t, .string (bs t.h), .string (bs t.a), .string (bs t.p), .string (bs t.i), .slice ao t.d.length ca, .bool t.b, .string (bs t.x)] 24)
    have htN := ht4.below aN
    have hrN := hr4.below aN
    have bN := bX4.trans (aN.mono bX4.size)
    obtain ⟨m0, m1, m2, m3, m4, m5, m6, m7, m8, m9⟩ := htN.cells
    clear hC hne hvl g6 g7
    go_wp2_with fail
    refine (HC.out _ (HK.out _ bN) hrN).mono ?_
    rintro e w6 ⟨rfl, d6⟩
    go_wp2_with fail
    go_ret
    exact ⟨rfl, bN.trans (d6.mono bN.size)⟩
  · have hne : ¬ t = ⟨t.f, t.v, bits .xor .i64 t.t 1, t.h, t.a, t.p, t.i, t.d, t.b, t.x⟩ := by intro e; exact xor_ne t.t hr1.2.2.1 hr1.2.2.2 (congrArg Lg.t e).symm
    have hvl : LimG 140737488355327 ⟨t.f, t.v, bits .xor .i64 t.t 1, t.h, t.a, t.p, t.i, t.d, t.b, t.x⟩ := ⟨by show t.h.length ≤ _; omega, by show t.a.length ≤ _; omega, by show t.p.length ≤ _; omega, by show t.i.length ≤ _; omega, by show t.x.length ≤ _; omega, by show t.d.length * 40 ≤ _; omega, g7⟩
    have hC : ∀ w1, I w1 → RdE w1 ao t.d → Calls Tryd.prog 5 #[.agg #[.int .i64 t.f, .int .i64 t.v, .int .i64 t.t, .string (bs t.h), .string (bs t.a), .string (bs t.p), .string (bs t.i), .slice ao t.d.length ca, .bool t.b, .string (bs t.x)], .agg #[.int .i64 t.f, .int .i64 t.v, .int .i64 (bits .xor .i64 t.t 1), .string (bs t.h), .string (bs t.a), .string (bs t.p), .string (bs t.i), .slice ao t.d.length ca, .bool t.b, .string (bs t.x)]] w1 fun e w' => e = .returned (.bool false) ∧ Below w1.heap.size w1 w' := fun w1 h r => by
      exact HSv.out ⟨t.f, t.v, bits .xor .i64 t.t 1, t.h, t.a, t.p, t.i, t.d, t.b, t.x⟩ ao ca hne hvl w1 h r r
    have HC := Lib.hid hC
    have aN := alloc_in' x4 (.cells #[.int .i64 t.f, .int .i64 t.v, .int .i64 (bits .xor .i64 t.t 1), .string (bs t.h), .string (bs t.a), .string (bs t.p), .string (bs t.i), .slice ao t.d.length ca, .bool t.b, .string (bs t.x)] 24)
    have htN := ht4.below aN
    have hrN := hr4.below aN
    have bN := bX4.trans (aN.mono bX4.size)
    obtain ⟨m0, m1, m2, m3, m4, m5, m6, m7, m8, m9⟩ := htN.cells
    clear hC hne hvl g6 g7
    go_wp2_with fail
    refine (HC.out _ (HK.out _ bN) hrN).mono ?_
    rintro e w6 ⟨rfl, d6⟩
    go_wp2_with fail
    go_ret
    exact ⟨rfl, bN.trans (d6.mono bN.size)⟩
  · have hne : ¬ t = ⟨t.f, t.v, t.t, t.h ++ [120], t.a, t.p, t.i, t.d, t.b, t.x⟩ := by intro e; have := congrArg List.length (congrArg Lg.h e); simp at this
    have hvl : LimG 140737488355327 ⟨t.f, t.v, t.t, t.h ++ [120], t.a, t.p, t.i, t.d, t.b, t.x⟩ := ⟨by show (t.h ++ [120]).length ≤ _; rw [List.length_append]; show t.h.length + 1 ≤ _; omega, by show t.a.length ≤ _; omega, by show t.p.length ≤ _; omega, by show t.i.length ≤ _; omega, by show t.x.length ≤ _; omega, by show t.d.length * 40 ≤ _; omega, g7⟩
    have hC : ∀ w1, I w1 → RdE w1 ao t.d → Calls Tryd.prog 5 #[.agg #[.int .i64 t.f, .int .i64 t.v, .int .i64 t.t, .string (bs t.h), .string (bs t.a), .string (bs t.p), .string (bs t.i), .slice ao t.d.length ca, .bool t.b, .string (bs t.x)], .agg #[.int .i64 t.f, .int .i64 t.v, .int .i64 t.t, .string (bs t.h ++ { data := #[120] }), .string (bs t.a), .string (bs t.p), .string (bs t.i), .slice ao t.d.length ca, .bool t.b, .string (bs t.x)]] w1 fun e w' => e = .returned (.bool false) ∧ Below w1.heap.size w1 w' := fun w1 h r => by
      rw [show bs t.h ++ ({ data := #[120] } : ByteArray) = bs (t.h ++ [120]) from bs_append t.h [120]]; exact HSv.out ⟨t.f, t.v, t.t, t.h ++ [120], t.a, t.p, t.i, t.d, t.b, t.x⟩ ao ca hne hvl w1 h r r
    have HC := Lib.hid hC
    have aN := alloc_in' x4 (.cells #[.int .i64 t.f, .int .i64 t.v, .int .i64 t.t, .string (bs t.h ++ { data := #[120] }), .string (bs t.a), .string (bs t.p), .string (bs t.i), .slice ao t.d.length ca, .bool t.b, .string (bs t.x)] 24)
    have htN := ht4.below aN
    have hrN := hr4.below aN
    have bN := bX4.trans (aN.mono bX4.size)
    obtain ⟨m0, m1, m2, m3, m4, m5, m6, m7, m8, m9⟩ := htN.cells
    clear hC hne hvl g6 g7
    go_wp2_with fail
    refine (HC.out _ (HK.out _ bN) hrN).mono ?_
    rintro e w6 ⟨rfl, d6⟩
    go_wp2_with fail
    go_ret
    exact ⟨rfl, bN.trans (d6.mono bN.size)⟩
  · have hne : ¬ t = ⟨t.f, t.v, t.t, t.h, t.a ++ [120], t.p, t.i, t.d, t.b, t.x⟩ := by intro e; have := congrArg List.length (congrArg Lg.a e); simp at this
    have hvl : LimG 140737488355327 ⟨t.f, t.v, t.t, t.h, t.a ++ [120], t.p, t.i, t.d, t.b, t.x⟩ := ⟨by show t.h.length ≤ _; omega, by show (t.a ++ [120]).length ≤ _; rw [List.length_append]; show t.a.length + 1 ≤ _; omega, by show t.p.length ≤ _; omega, by show t.i.length ≤ _; omega, by show t.x.length ≤ _; omega, by show t.d.length * 40 ≤ _; omega, g7⟩
    have hC : ∀ w1, I w1 → RdE w1 ao t.d → Calls Tryd.prog 5 #[.agg #[.int .i64 t.f, .int .i64 t.v, .int .i64 t.t, .string (bs t.h), .string (bs t.a), .string (bs t.p), .string (bs t.i), .slice ao t.d.length ca, .bool t.b, .string (bs t.x)], .agg #[.int .i64 t.f, .int .i64 t.v, .int .i64 t.t, .string (bs t.h), .string (bs t.a ++ { data := #[120] }), .string (bs t.p), .string (bs t.i), .slice ao t.d.length ca, .bool t.b, .string (bs t.x)]] w1 fun e w' => e = .returned (.bool false) ∧ Below w1.heap.size w1 w' := fun w1 h r => by
      rw [show bs t.a ++ ({ data := #[120] } : ByteArray) = bs (t.a ++ [120]) from bs_append t.a [120]]; exact HSv.out ⟨t.f, t.v, t.t, t.h, t.a ++ [120], t.p, t.i, t.d, t.b, t.x⟩ ao ca hne hvl w1 h r r
    have HC := Lib.hid hC
    have aN := alloc_in' x4 (.cells #[.int .i64 t.f, .int .i64 t.v, .int .i64 t.t, .string (bs t.h), .string (bs t.a ++ { data := #[120] }), .string (bs t.p), .string (bs t.i), .slice ao t.d.length ca, .bool t.b, .string (bs t.x)] 24)
    have htN := ht4.below aN
    have hrN := hr4.below aN
    have bN := bX4.trans (aN.mono bX4.size)
    obtain ⟨m0, m1, m2, m3, m4, m5, m6, m7, m8, m9⟩ := htN.cells
    clear hC hne hvl g6 g7
    go_wp2_with fail
    refine (HC.out _ (HK.out _ bN) hrN).mono ?_
    rintro e w6 ⟨rfl, d6⟩
    go_wp2_with fail
    go_ret
    exact ⟨rfl, bN.trans (d6.mono bN.size)⟩
  · have hne : ¬ t = ⟨t.f, t.v, t.t, t.h, t.a, t.p ++ [120], t.i, t.d, t.b, t.x⟩ := by intro e; have := congrArg List.length (congrArg Lg.p e); simp at this
    have hvl : LimG 140737488355327 ⟨t.f, t.v, t.t, t.h, t.a, t.p ++ [120], t.i, t.d, t.b, t.x⟩ := ⟨by show t.h.length ≤ _; omega, by show t.a.length ≤ _; omega, by show (t.p ++ [120]).length ≤ _; rw [List.length_append]; show t.p.length + 1 ≤ _; omega, by show t.i.length ≤ _; omega, by show t.x.length ≤ _; omega, by show t.d.length * 40 ≤ _; omega, g7⟩
    have hC : ∀ w1, I w1 → RdE w1 ao t.d → Calls Tryd.prog 5 #[.agg #[.int .i64 t.f, .int .i64 t.v, .int .i64 t.t, .string (bs t.h), .string (bs t.a), .string (bs t.p), .string (bs t.i), .slice ao t.d.length ca, .bool t.b, .string (bs t.x)], .agg #[.int .i64 t.f, .int .i64 t.v, .int .i64 t.t, .string (bs t.h), .string (bs t.a), .string (bs t.p ++ { data := #[120] }), .string (bs t.i), .slice ao t.d.length ca, .bool t.b, .string (bs t.x)]] w1 fun e w' => e = .returned (.bool false) ∧ Below w1.heap.size w1 w' := fun w1 h r => by
      rw [show bs t.p ++ ({ data := #[120] } : ByteArray) = bs (t.p ++ [120]) from bs_append t.p [120]]; exact HSv.out ⟨t.f, t.v, t.t, t.h, t.a, t.p ++ [120], t.i, t.d, t.b, t.x⟩ ao ca hne hvl w1 h r r
    have HC := Lib.hid hC
    have aN := alloc_in' x4 (.cells #[.int .i64 t.f, .int .i64 t.v, .int .i64 t.t, .string (bs t.h), .string (bs t.a), .string (bs t.p ++ { data := #[120] }), .string (bs t.i), .slice ao t.d.length ca, .bool t.b, .string (bs t.x)] 24)
    have htN := ht4.below aN
    have hrN := hr4.below aN
    have bN := bX4.trans (aN.mono bX4.size)
    obtain ⟨m0, m1, m2, m3, m4, m5, m6, m7, m8, m9⟩ := htN.cells
    clear hC hne hvl g6 g7
    go_wp2_with fail
    refine (HC.out _ (HK.out _ bN) hrN).mono ?_
    rintro e w6 ⟨rfl, d6⟩
    go_wp2_with fail
    go_ret
    exact ⟨rfl, bN.trans (d6.mono bN.size)⟩
  · have hne : ¬ t = ⟨t.f, t.v, t.t, t.h, t.a, t.p, t.i ++ [120], t.d, t.b, t.x⟩ := by intro e; have := congrArg List.length (congrArg Lg.i e); simp at this
    have hvl : LimG 140737488355327 ⟨t.f, t.v, t.t, t.h, t.a, t.p, t.i ++ [120], t.d, t.b, t.x⟩ := ⟨by show t.h.length ≤ _; omega, by show t.a.length ≤ _; omega, by show t.p.length ≤ _; omega, by show (t.i ++ [120]).length ≤ _; rw [List.length_append]; show t.i.length + 1 ≤ _; omega, by show t.x.length ≤ _; omega, by show t.d.length * 40 ≤ _; omega, g7⟩
    have hC : ∀ w1, I w1 → RdE w1 ao t.d → Calls Tryd.prog 5 #[.agg #[.int .i64 t.f, .int .i64 t.v, .int .i64 t.t, .string (bs t.h), .string (bs t.a), .string (bs t.p), .string (bs t.i), .slice ao t.d.length ca, .bool t.b, .string (bs t.x)], .agg #[.int .i64 t.f, .int .i64 t.v, .int .i64 t.t, .string (bs t.h), .string (bs t.a), .string (bs t.p), .string (bs t.i ++ { data := #[120] }), .slice ao t.d.length ca, .bool t.b, .string (bs t.x)]] w1 fun e w' => e = .returned (.bool false) ∧ Below w1.heap.size w1 w' := fun w1 h r => by
      rw [show bs t.i ++ ({ data := #[120] } : ByteArray) = bs (t.i ++ [120]) from bs_append t.i [120]]; exact HSv.out ⟨t.f, t.v, t.t, t.h, t.a, t.p, t.i ++ [120], t.d, t.b, t.x⟩ ao ca hne hvl w1 h r r
    have HC := Lib.hid hC
    have aN := alloc_in' x4 (.cells #[.int .i64 t.f, .int .i64 t.v, .int .i64 t.t, .string (bs t.h), .string (bs t.a), .string (bs t.p), .string (bs t.i ++ { data := #[120] }), .slice ao t.d.length ca, .bool t.b, .string (bs t.x)] 24)
    have htN := ht4.below aN
    have hrN := hr4.below aN
    have bN := bX4.trans (aN.mono bX4.size)
    obtain ⟨m0, m1, m2, m3, m4, m5, m6, m7, m8, m9⟩ := htN.cells
    clear hC hne hvl g6 g7
    go_wp2_with fail
    refine (HC.out _ (HK.out _ bN) hrN).mono ?_
    rintro e w6 ⟨rfl, d6⟩
    go_wp2_with fail
    go_ret
    exact ⟨rfl, bN.trans (d6.mono bN.size)⟩
  · have hne : ¬ t = ⟨t.f, t.v, t.t, t.h, t.a, t.p, t.i, t.d, !t.b, t.x⟩ := by intro e; have e1 : t.b = !t.b := congrArg Lg.b e; revert e1; cases t.b <;> decide
    have hvl : LimG 140737488355327 ⟨t.f, t.v, t.t, t.h, t.a, t.p, t.i, t.d, !t.b, t.x⟩ := ⟨by show t.h.length ≤ _; omega, by show t.a.length ≤ _; omega, by show t.p.length ≤ _; omega, by show t.i.length ≤ _; omega, by show t.x.length ≤ _; omega, by show t.d.length * 40 ≤ _; omega, g7⟩
    have hC : ∀ w1, I w1 → RdE w1 ao t.d → Calls Tryd.prog 5 #[.agg #[.int .i64 t.f, .int .i64 t.v, .int .i64 t.t, .string (bs t.h), .string (bs t.a), .string (bs t.p), .string (bs t.i), .slice ao t.d.length ca, .bool t.b, .string (bs t.x)], .agg #[.int .i64 t.f, .int .i64 t.v, .int .i64 t.t, .string (bs t.h), .string (bs t.a), .string (bs t.p), .string (bs t.i), .slice ao t.d.length ca, .bool (!t.b), .string (bs t.x)]] w1 fun e w' => e = .returned (.bool false) ∧ Below w1.heap.size w1 w' := fun w1 h r => by
      exact HSv.out ⟨t.f, t.v, t.t, t.h, t.a, t.p, t.i, t.d, !t.b, t.x⟩ ao ca hne hvl w1 h r r
    have HC := Lib.hid hC
    have aN := alloc_in' x4 (.cells #[.int .i64 t.f, .int .i64 t.v, .int .i64 t.t, .string (bs t.h), .string (bs t.a), .string (bs t.p), .string (bs t.i), .slice ao t.d.length ca, .bool (!t.b), .string (bs t.x)] 24)
    have htN := ht4.below aN
    have hrN := hr4.below aN
    have bN := bX4.trans (aN.mono bX4.size)
    obtain ⟨m0, m1, m2, m3, m4, m5, m6, m7, m8, m9⟩ := htN.cells
    clear hC hne hvl g6 g7
    go_wp2_with fail
    refine (HC.out _ (HK.out _ bN) hrN).mono ?_
    rintro e w6 ⟨rfl, d6⟩
    go_wp2_with fail
    go_ret
    exact ⟨rfl, bN.trans (d6.mono bN.size)⟩
  · have hne : ¬ t = ⟨t.f, t.v, t.t, t.h, t.a, t.p, t.i, t.d, t.b, t.x ++ [120]⟩ := by intro e; have := congrArg List.length (congrArg Lg.x e); simp at this
    have hvl : LimG 140737488355327 ⟨t.f, t.v, t.t, t.h, t.a, t.p, t.i, t.d, t.b, t.x ++ [120]⟩ := ⟨by show t.h.length ≤ _; omega, by show t.a.length ≤ _; omega, by show t.p.length ≤ _; omega, by show t.i.length ≤ _; omega, by show (t.x ++ [120]).length ≤ _; rw [List.length_append]; show t.x.length + 1 ≤ _; omega, by show t.d.length * 40 ≤ _; omega, g7⟩
    have hC : ∀ w1, I w1 → RdE w1 ao t.d → Calls Tryd.prog 5 #[.agg #[.int .i64 t.f, .int .i64 t.v, .int .i64 t.t, .string (bs t.h), .string (bs t.a), .string (bs t.p), .string (bs t.i), .slice ao t.d.length ca, .bool t.b, .string (bs t.x)], .agg #[.int .i64 t.f, .int .i64 t.v, .int .i64 t.t, .string (bs t.h), .string (bs t.a), .string (bs t.p), .string (bs t.i), .slice ao t.d.length ca, .bool t.b, .string (bs t.x ++ { data := #[120] })]] w1 fun e w' => e = .returned (.bool false) ∧ Below w1.heap.size w1 w' := fun w1 h r => by
      rw [show bs t.x ++ ({ data := #[120] } : ByteArray) = bs (t.x ++ [120]) from bs_append t.x [120]]; exact HSv.out ⟨t.f, t.v, t.t, t.h, t.a, t.p, t.i, t.d, t.b, t.x ++ [120]⟩ ao ca hne hvl w1 h r r
    have HC := Lib.hid hC
    have aN := alloc_in' x4 (.cells #[.int .i64 t.f, .int .i64 t.v, .int .i64 t.t, .string (bs t.h), .string (bs t.a), .string (bs t.p), .string (bs t.i), .slice ao t.d.length ca, .bool t.b, .string (bs t.x ++ { data := #[120] })] 24)
    have htN := ht4.below aN
    have hrN := hr4.below aN
    have bN := bX4.trans (aN.mono bX4.size)
    obtain ⟨m0, m1, m2, m3, m4, m5, m6, m7, m8, m9⟩ := htN.cells
    clear hC hne hvl g6 g7
    go_wp2_with fail
    refine (HC.out _ (HK.out _ bN) hrN).mono ?_
    rintro e w6 ⟨rfl, d6⟩
    go_wp2_with fail
    go_ret
    exact ⟨rfl, bN.trans (d6.mono bN.size)⟩
  · have hne : ¬ t = ⟨t.f, t.v, t.t, t.h, t.a, t.p, t.i, t.d ++ [noe], t.b, t.x⟩ := by intro e; have := congrArg List.length (congrArg Lg.d e); simp at this
    have hvl : LimG 140737488355327 ⟨t.f, t.v, t.t, t.h, t.a, t.p, t.i, t.d ++ [noe], t.b, t.x⟩ := ⟨by show t.h.length ≤ _; omega, by show t.a.length ≤ _; omega, by show t.p.length ≤ _; omega, by show t.i.length ≤ _; omega, by show t.x.length ≤ _; omega, by show (t.d ++ [noe]).length * 40 ≤ _; rw [List.length_append]; show (t.d.length + 1) * 40 ≤ _; omega, fun x hx => by
        rcases List.mem_append.1 hx with h | h
        · exact g7 x h
        · simp at h; subst h; exact ⟨by decide, by decide, fun p hp => by cases hp⟩⟩
    have hlz : (t.d ++ [noe]).length = t.d.length + 1 := by simp
    have hC : ∀ g c w1, I w1 → RdE w1 ao t.d → RdE w1 (some ⟨g, 0, none⟩) (t.d ++ [noe]) → Calls Tryd.prog 5 #[.agg #[.int .i64 t.f, .int .i64 t.v, .int .i64 t.t, .string (bs t.h), .string (bs t.a), .string (bs t.p), .string (bs t.i), .slice ao t.d.length ca, .bool t.b, .string (bs t.x)], .agg #[.int .i64 t.f, .int .i64 t.v, .int .i64 t.t, .string (bs t.h), .string (bs t.a), .string (bs t.p), .string (bs t.i), .slice (some ⟨g, 0, none⟩) (t.d.length + 1) c, .bool t.b, .string (bs t.x)]] w1 fun e w' => e = .returned (.bool false) ∧ Below w1.heap.size w1 w' := fun g c w1 h r r2 => by
      have := HSv.out ⟨t.f, t.v, t.t, t.h, t.a, t.p, t.i, t.d ++ [noe], t.b, t.x⟩ (some ⟨g, 0, none⟩) c hne hvl w1 h r r2
      rw [hlz] at this; exact this
    have HC := Lib.hid hC
    have HSH := Lib.hid hsh
    have HL := Lib.hid g6
    have HV := Lib.hid ht4
    have hsz : (x4.alloc (.cells #[.int .i64 t.f, .int .i64 t.v, .int .i64 t.t, .string (bs t.h), .string (bs t.a), .string (bs t.p), .string (bs t.i), .slice ao t.d.length ca, .bool t.b, .string (bs t.x)] 24)).heap.size = x4.heap.size + 1 := by simp
    have ho6 := ownE_empty (x4.alloc (.cells #[.int .i64 t.f, .int .i64 t.v, .int .i64 t.t, .string (bs t.h), .string (bs t.a), .string (bs t.p), .string (bs t.i), .slice ao t.d.length ca, .bool t.b, .string (bs t.x)] 24)) w.heap.size b5.size
    rw [hsz] at ho6
    have a6 := alloc_in' (x4.alloc (.cells #[.int .i64 t.f, .int .i64 t.v, .int .i64 t.t, .string (bs t.h), .string (bs t.a), .string (bs t.p), .string (bs t.i), .slice ao t.d.length ca, .bool t.b, .string (bs t.x)] 24)) (.cells #[] 30)
    have ht6 := ht5.below a6
    have hv6 := hv5.below a6
    have b6 := b5.trans (a6.mono b5.size)
    have hs6 := b6.size
    obtain ⟨m0, m1, m2, m3, m4, m5, m6, m7, m8, m9⟩ := ht6.cells
    clear hC hne hvl hsh hlz hsz a6 hv5 ht5 b5 y0 y1 y2 y3 y4 y5 y6 y7 y8 y9 z0 z1 z2 z3 z4 z5 z6 z7 z8 z9 hfz aV ht4 hr4 g1 g2 g3 g4 g5 g6 g7
    go_wp2_with (at_builtin; go_loud (refine spreadF rfl rfl HRW.out b6 rfl ho6 rfl HSH.out ?e1 ?_))
    case e1 => have := HL.out; show t.d.length * 40 ≤ _; omega
    intro v7 w7 ho7 hg7
    have ht7 : Lq w7 w.heap.size t ao ca := owns_keep ho6 hg7 ht6 (by decide)
    have hv7 : Lq w7 x4.heap.size t ao ca := owns_keep ho6 hg7 hv6 (by decide)
    have b7 := b6.grown hg7 hs6 (fun k hk => (World.ownsRow.lt ho6 k hk).1)
    obtain ⟨a7, c7, hv7e, -⟩ := OwnE.form ho7
    subst hv7e
    have a8 := alloc_in' w7 (.cells #[.string { data := #[] }, .slice none 0 0] 30)
    have ht8 := ht7.below a8
    have hv8 := hv7.below a8
    have ho8 := ho7.below a8
    have b8 := b7.trans (a8.mono b7.size)
    have hs8 := b8.size
    have hs7 := b7.size
    clear hg7 ho6 ht6 hv6 b6 hs6 m0 m1 m2 m3 m4 m5 m6 m7 m8 m9 ht7 hv7 b7 a8
    go_wp2_with (at_builtin; go_loud (refine spreadG rfl rfl rfl ho7 hs7 rfl ?d1 ?_))
    case d1 => have := HL.out; show (t.d.length + 1) * 40 ≤ _; omega
    intro v9 w9 ho9 hg9
    have ht9 : Lq w9 w.heap.size t ao ca := ho8.keep hg9 ht8 (by decide)
    have hv9 : Lq w9 x4.heap.size t ao ca := ho8.keep hg9 hv8 (by decide)
    have b9 := ho8.grown_below b8 hg9 hs8
    obtain ⟨a9, c9, rfl, -, -, -, hsh9⟩ := OwnE.form ho9
    rw [show (t.d ++ [noe]).length = t.d.length + 1 by simp] at ho9 hsh9 ⊢
    obtain ⟨g9, rfl⟩ : ∃ g, a9 = some ⟨g, 0, none⟩ := by
      rcases hsh9 with ⟨_, h, _⟩ | ⟨g, h, _⟩
      · omega
      · exact ⟨g, h⟩
    have hwx : w.heap.size < x4.heap.size := lt_of_block HV.out
    have hv10 : (w9.setCell ⟨x4.heap.size, 7, none⟩ (.slice (some ⟨g9, 0, none⟩) (t.d.length + 1) c9)).heap[x4.heap.size]? = some (.cells #[.int .i64 t.f, .int .i64 t.v, .int .i64 t.t, .string (bs t.h), .string (bs t.a), .string (bs t.p), .string (bs t.i), (.slice (some ⟨g9, 0, none⟩) (t.d.length + 1) c9), .bool t.b, .string (bs t.x)] 24 (0, 0)) := by
      have := rowSet hv9 7 (.slice (some ⟨g9, 0, none⟩) (t.d.length + 1) c9)
      simpa using this
    have ho10 := ho9.set hv9 (by omega) (by decide) (by decide) 7 (.slice (some ⟨g9, 0, none⟩) (t.d.length + 1) c9)
    have ht10 : Lq (w9.setCell ⟨x4.heap.size, 7, none⟩ (.slice (some ⟨g9, 0, none⟩) (t.d.length + 1) c9)) w.heap.size t ao ca := (Below.heap_setCell _ _ _ _ (by show w.heap.size ≠ x4.heap.size; omega)).trans ht9
    have b10 := b9.setCell (p := ⟨x4.heap.size, 7, none⟩) (by show w.heap.size ≤ x4.heap.size; omega) (.slice (some ⟨g9, 0, none⟩) (t.d.length + 1) c9)
    obtain ⟨a10, c10, he10, hrd, -⟩ := OwnE.form ho10
    injection he10 with h1 h2 h3
    rw [← h1] at hrd
    have y7 : w9.cell? ⟨x4.heap.size, 7, none⟩ = some (.slice ao t.d.length ca) := cellRow hv9 7
    have f7 : w9.frozen? ⟨x4.heap.size, 7, none⟩ = false := freeRow hv9 7
    have hq10 : I (w9.setCell ⟨x4.heap.size, 7, none⟩ (.slice (some ⟨g9, 0, none⟩) (t.d.length + 1) c9)) := HK.out _ b10
    have hra := HRD.out _ b10
    have z0 := cellRow hv10 0
    have z1 := cellRow hv10 1
    have z2 := cellRow hv10 2
    have z3 := cellRow hv10 3
    have z4 := cellRow hv10 4
    have z5 := cellRow hv10 5
    have z6 := cellRow hv10 6
    have z7 := cellRow hv10 7
    have z8 := cellRow hv10 8
    have z9 := cellRow hv10 9
    obtain ⟨m0, m1, m2, m3, m4, m5, m6, m7, m8, m9⟩ := ht10.cells
    clear h1 h2 h3 hg9 ho8 ht8 hv8 b8 hs8 ho9 ht9 hv9 b9 hwx ho10 ho7 hs7 hsh9
    go_wp2_with fail
    refine (HC.out _ _ _ hq10 hra hrd).mono ?_
    rintro e w11 ⟨rfl, d11⟩
    clear z0 z1 z2 z3 z4 z5 z6 z7 z8 z9 m0 m1 m2 m3 m4 m5 m6 m7 m8 m9 y7 f7
    go_wp2_with fail
    go_ret
    exact ⟨rfl, b10.trans (d11.mono b10.size)⟩
end Go.Proofs.YtonippapkmmkeaaDoor
