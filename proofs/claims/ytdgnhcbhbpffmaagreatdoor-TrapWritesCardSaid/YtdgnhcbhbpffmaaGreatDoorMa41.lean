/- Texts on the program and on the document, joined: Stv, Stu, Stt, TrpX, TrpZ. -/
import Derived.Test.YtdgnhcbhbpffmaaGreatDoorMa40
import Derived.Test.YtdgnhcbhbpffmaaGreatDoorMa12
import Derived.Test.YtdgnhcbhbpffmaaGreatDoorMa14
import Derived.WideShapes
import Derived.Test.YtdgnhcbhbpffmaaGreatDoorMa28
import Derived.Test.YtdgnhcbhbpffmaaGreatDoorMa33
import Derived.Test.YtdgnhcbhbpffmaaGreatDoorMa37
/- A value among the arguments: what the reading gives. -/
namespace Go.Proofs.YtdgnhcbhbpffmaaGreatDoor
open Go.RowKit K P1
set_option linter.unusedVariables false
theorem wf_i7 {t : Int} (wt : (Lit.int .i64 t).wf = true) : -9223372036854775808 ≤ t ∧ t ≤ 9223372036854775807 := by
  simp [Lit.wf, IntKind.min, IntKind.max, IntKind.bits, IntKind.signed] at wt; omega
theorem wf_u64 {t : Int} (wt : (Lit.int .u64 t).wf = true) : ∃ n : Nat, t = (n : Nat) ∧ n < 18446744073709551616 := by
  have h : 0 ≤ t ∧ t ≤ 18446744073709551615 := by
    simp [Lit.wf, IntKind.min, IntKind.max, IntKind.bits, IntKind.signed] at wt; omega
  exact ⟨t.toNat, by omega, by omega⟩
theorem okWide_struct {P : Program} {w : World} {t : TypeId} {fs : Array Field} {r : Reach} {base : Nat} {v : Value} (ht : P.underlying t = some (.struct fs)) (h : Value.okWide P w r base t v) : ∃ xs : Array Value, v = .agg xs ∧ xs.size = P.cellsOf t := by
  unfold Value.okWide at h
  rw [ht] at h
  obtain ⟨xs, h1, h2, _⟩ := h
  exact ⟨xs, h1, h2⟩
set_option maxRecDepth 1000000 in
/-- A value of api: its kind, its number, its text. -/
theorem argV {w : World} {B : Nat} {v : Value} (g : Rdg Tryz.prog w 46 v.cells.toList) (ok : Value.okWide Tryz.prog w .any B 46 v) :
    ∃ (k n : Int) (s : List UInt8), v = .agg #[.int .i64 k, .int .i64 n, .string (bs s)] ∧ s.length ≤ reachBytes ∧ -9223372036854775808 ≤ n ∧ n ≤ 9223372036854775807 := by
  obtain ⟨xs, rfl, hsz⟩ := okWide_struct Tryz.underlying46 ok
  rw [show Tryz.prog.cellsOf 46 = 3 by kernel_rfl] at hsz
  obtain ⟨x, y, z, rfl⟩ : ∃ x y z, xs = #[x, y, z] := by
    obtain ⟨l⟩ := xs
    match l, hsz with
    | [x, y, z], _ => exact ⟨x, y, z, rfl⟩
  obtain ⟨_, hf⟩ := Rdg.fields (cs := [x, y, z]) g Tryz.underlying46 (by kernel_rfl)
  obtain ⟨u0, e0, r0⟩ := hf 0 3 (by kernel_rfl) (by simp)
  obtain ⟨u1, e1, r1⟩ := hf 1 3 (by kernel_rfl) (by simp)
  obtain ⟨u2, e2, r2⟩ := hf 2 9 (by kernel_rfl) (by simp)
  obtain ⟨k, ek, wk⟩ := r0.int Tryz.underlying3
  obtain ⟨n, en, wn⟩ := r1.int Tryz.underlying3
  obtain ⟨s, es, ls⟩ := r2.string Tryz.underlying9
  simp at e0 e1 e2 ek en es
  have hb := wf_i7 wn
  exact ⟨k, n, s, by rw [e0, e1, e2, ek, en, es], ls, hb.1, hb.2⟩
end Go.Proofs.YtdgnhcbhbpffmaaGreatDoor
/- A unit, and binds, among the arguments: what the reading gives. -/
namespace Go.Proofs.YtdgnhcbhbpffmaaGreatDoor
open Go.WideShapes Go.RowKit K P1
open D8 (Bd Un)
set_option linter.unusedVariables false
set_option maxRecDepth 1000000 in
theorem binds_of {w : World} {ao : Option Addr} {len cap : Nat} (h : Rdg Tryz.prog w 25 [.slice ao len cap]) :
    ∃ xs : List Bd, len = xs.length ∧ xs.length ≤ 140737488351232 ∧ RdB w ao xs ∧ Lim xs ∧ ((ao = none ∧ xs.length = 0 ∧ cap = 0) ∨ ∃ a, ao = some a) := by
  obtain ⟨xs, hl, hle, hr, hx⟩ := rdg_binds (ti := 3) (ts := 9) (tv := 46) h Tryz.underlying25 Tryz.underlying48 (by kernel_rfl) (by rw [show Tryz.prog.bytesOf 48 = 48 by kernel_rfl]; omega)
    rfl rfl rfl rfl rfl rfl (by kernel_rfl) (by kernel_rfl) Tryz.underlying46 (by kernel_rfl) (by kernel_rfl) (by kernel_rfl) (by kernel_rfl) Tryz.underlying3 Tryz.underlying9
  have hsh := Rdg.shape h Tryz.underlying25
  subst hl
  exact ⟨xs, rfl, hle, hr, fun x hx' => ⟨(hx x hx').1, (hx x hx').2.1, (hx x hx').2.2.1⟩, hsh⟩
set_option maxRecDepth 1000000 in
theorem argU {w : World} {B : Nat} {v : Value} (g : Rdg Tryz.prog w 41 v.cells.toList) (ok : Value.okWide Tryz.prog w .any B 41 v) :
    ∃ (u : Un) (ao : Option Addr) (cap : Nat), v = .agg #[.int .i64 u.t, .int .i64 u.r, .int .i64 u.a, .int .i64 u.i, .slice ao u.l.length cap] ∧ u.l.length ≤ 140737488351232 ∧ RdB w ao u.l ∧ Lim u.l ∧ ((ao = none ∧ u.l.length = 0 ∧ cap = 0) ∨ ∃ a, ao = some a) := by
  obtain ⟨xs, rfl, hsz⟩ := okWide_struct Tryz.underlying41 ok
  rw [show Tryz.prog.cellsOf 41 = 5 by kernel_rfl] at hsz
  obtain ⟨x0, x1, x2, x3, x4, rfl⟩ : ∃ x0 x1 x2 x3 x4, xs = #[x0, x1, x2, x3, x4] := by
    obtain ⟨l⟩ := xs
    match l, hsz with
    | [x0, x1, x2, x3, x4], _ => exact ⟨x0, x1, x2, x3, x4, rfl⟩
  obtain ⟨_, hf⟩ := Rdg.fields (cs := [x0, x1, x2, x3, x4]) g Tryz.underlying41 (by kernel_rfl)
  obtain ⟨u0, e0, r0⟩ := hf 0 3 (by kernel_rfl) (by simp)
  obtain ⟨u1, e1, r1⟩ := hf 1 3 (by kernel_rfl) (by simp)
  obtain ⟨u2, e2, r2⟩ := hf 2 3 (by kernel_rfl) (by simp)
  obtain ⟨u3, e3, r3⟩ := hf 3 3 (by kernel_rfl) (by simp)
  obtain ⟨u4, e4, r4⟩ := hf 4 25 (by kernel_rfl) (by simp)
  obtain ⟨n0, k0, _⟩ := r0.int Tryz.underlying3
  obtain ⟨n1, k1, _⟩ := r1.int Tryz.underlying3
  obtain ⟨n2, k2, _⟩ := r2.int Tryz.underlying3
  obtain ⟨n3, k3, _⟩ := r3.int Tryz.underlying3
  obtain ⟨ao, len, cap, k4, _⟩ := r4.slice (C := 4) Tryz.underlying25 (by kernel_rfl) (by omega)
  simp only [List.cons.injEq, and_true] at k0 k1 k2 k3 k4
  subst k4
  obtain ⟨ys, rfl, hle, hr, hx, hsh⟩ := binds_of r4
  simp at e0 e1 e2 e3 e4
  exact ⟨⟨n0, n1, n2, n3, ys⟩, ao, cap, by rw [e0, e1, e2, e3, e4, k0, k1, k2, k3], hle, hr, hx, hsh⟩
set_option maxRecDepth 1000000 in
theorem argL {w : World} {B : Nat} {v : Value} (g : Rdg Tryz.prog w 25 v.cells.toList) (ok : Value.okWide Tryz.prog w .any B 25 v) :
    ∃ (xs : List Bd) (ao : Option Addr) (cap : Nat), v = .slice ao xs.length cap ∧ xs.length ≤ 140737488351232 ∧ RdB w ao xs ∧ Lim xs ∧ ((ao = none ∧ xs.length = 0 ∧ cap = 0) ∨ ∃ a, ao = some a) := by
  obtain ⟨ao, len, cap, rfl⟩ := okWide_slice Tryz.underlying25 ok
  obtain ⟨ys, rfl, hle, hr, hx, hsh⟩ := binds_of g
  exact ⟨ys, ao, cap, rfl, hle, hr, hx, hsh⟩
end Go.Proofs.YtdgnhcbhbpffmaaGreatDoor
/- A trap among the arguments: what the reading gives. -/
namespace Go.Proofs.YtdgnhcbhbpffmaaGreatDoor
open Go.WideShapes Go.RowKit K P1
open D8 (Bd Un)
open T9 (Tr)
set_option linter.unusedVariables false
set_option maxRecDepth 1000000 in
theorem argT {w : World} {B : Nat} {v : Value} (g : Rdg Tryz.prog w 27 v.cells.toList) (ok : Value.okWide Tryz.prog w .any B 27 v) :
    ∃ (t : Tr) (ao : Option Addr) (cap : Nat), v = .agg #[.string (bs t.c), .bool t.f, .int .i64 t.r, .int .i64 t.n, .string (bs t.o), .slice ao t.l.length cap] ∧ t.c.length ≤ 140737488351232 ∧ t.o.length ≤ 140737488351232 ∧ t.l.length * 48 ≤ 140737488351232 ∧ t.fits ∧ (-9223372036854775808 ≤ t.r ∧ t.r ≤ 9223372036854775807) ∧ RdB w ao t.l ∧ Lim t.l ∧ ((ao = none ∧ t.l.length = 0 ∧ cap = 0) ∨ ∃ a, ao = some a) := by
  obtain ⟨xs, rfl, hsz⟩ := okWide_struct Tryz.underlying27 ok
  rw [show Tryz.prog.cellsOf 27 = 6 by kernel_rfl] at hsz
  obtain ⟨x0, x1, x2, x3, x4, x5, rfl⟩ : ∃ x0 x1 x2 x3 x4 x5, xs = #[x0, x1, x2, x3, x4, x5] := by
    obtain ⟨l⟩ := xs
    match l, hsz with
    | [x0, x1, x2, x3, x4, x5], _ => exact ⟨x0, x1, x2, x3, x4, x5, rfl⟩
  obtain ⟨_, hf⟩ := Rdg.fields (cs := [x0, x1, x2, x3, x4, x5]) g Tryz.underlying27 (by kernel_rfl)
  obtain ⟨u0, e0, r0⟩ := hf 0 9 (by kernel_rfl) (by simp)
  obtain ⟨u1, e1, r1⟩ := hf 1 4 (by kernel_rfl) (by simp)
  obtain ⟨u2, e2, r2⟩ := hf 2 3 (by kernel_rfl) (by simp)
  obtain ⟨u3, e3, r3⟩ := hf 3 3 (by kernel_rfl) (by simp)
  obtain ⟨u4, e4, r4⟩ := hf 4 9 (by kernel_rfl) (by simp)
  obtain ⟨u5, e5, r5⟩ := hf 5 25 (by kernel_rfl) (by simp)
  obtain ⟨s0, k0, l0⟩ := r0.string Tryz.underlying9
  obtain ⟨b1, k1⟩ := r1.bool Tryz.underlying4
  obtain ⟨n2, k2, w2⟩ := r2.int Tryz.underlying3
  obtain ⟨n3, k3, w3⟩ := r3.int Tryz.underlying3
  obtain ⟨s4, k4, l4⟩ := r4.string Tryz.underlying9
  obtain ⟨ao, len, cap, k5, hlc, hcb, _⟩ := r5.slice (C := 4) Tryz.underlying25 (by kernel_rfl) (by omega)
  simp only [List.cons.injEq, and_true] at k0 k1 k2 k3 k4 k5
  subst k5
  obtain ⟨ys, rfl, hle, hr, hx, hsh⟩ := binds_of r5
  rw [show Tryz.prog.bytesOf 48 = 48 by kernel_rfl] at hcb
  unfold reachBytes at l0 l4 hcb
  have q2 : -9223372036854775808 ≤ n2 ∧ n2 ≤ 9223372036854775807 := by
    simp [Lit.wf, IntKind.min, IntKind.max, IntKind.bits, IntKind.signed] at w2; omega
  have q3 : -9223372036854775808 ≤ n3 ∧ n3 ≤ 9223372036854775807 := by
    simp [Lit.wf, IntKind.min, IntKind.max, IntKind.bits, IntKind.signed] at w3; omega
  simp at e0 e1 e2 e3 e4 e5
  exact ⟨⟨s0, b1, n2, n3, s4, ys⟩, ao, cap, by rw [e0, e1, e2, e3, e4, e5, k0, k1, k2, k3, k4], l0, l4, (show ys.length * 48 ≤ 140737488351232 by omega), ⟨q3, fun x hx' => (hx x hx').2.2⟩, q2, hr, hx, hsh⟩
set_option maxRecDepth 1000000 in
theorem argS {w : World} {B : Nat} {v : Value} (g : Rdg Tryz.prog w 22 v.cells.toList) (ok : Value.okWide Tryz.prog w .any B 22 v) :
    ∃ (ls : List (List UInt8)) (ao : Option Addr) (cap : Nat), v = .slice ao ls.length cap ∧ ls.length ≤ 140737488351232 ∧ RdS w ao ls ∧ (∀ l ∈ ls, l.length ≤ 140737488351232) ∧ ((ao = none ∧ ls.length = 0 ∧ cap = 0) ∨ ∃ a, ao = some a) := by
  obtain ⟨ao, len, cap, rfl⟩ := okWide_slice Tryz.underlying22 ok
  have hsh := Rdg.shape g Tryz.underlying22
  obtain ⟨ss, hss⟩ := Rdg.strs (show Rdg Tryz.prog w 22 [.slice ao len cap] from g) Tryz.underlying22 Tryz.underlying9 (by kernel_rfl) (by rw [show Tryz.prog.bytesOf 9 = 16 by kernel_rfl]; omega)
  obtain ⟨ls, rfl, hl, hr, hm⟩ := strs_list hss
  exact ⟨ls, ao, cap, rfl, hl, hr, hm, hsh⟩
end Go.Proofs.YtdgnhcbhbpffmaaGreatDoor
/- TrapWrites, walked on calls that keep their word. -/
namespace Go.Proofs.YtdgnhcbhbpffmaaGreatDoor
open Go.ChangeShapes Go.WideShapes Go.ChangeAt Go.RowKit K P1 B5
open D8 (Bd Un lst deU)
open T9 (Tr bU bI msg msgB ofU m3 deM)
set_option linter.unusedVariables false

theorem twelve {x : World} {b1 b2 : Nat} {t u : Tr} {ao bo : Option Addr} {ca cb : Nat} (h1 : Tq x b1 t ao ca) (h2 : Tq x b2 u bo cb) : x.cell? ⟨b1, 0, none⟩ = some (.string (bs t.c)) ∧ x.cell? ⟨b1, 1, none⟩ = some (.bool t.f) ∧ x.cell? ⟨b1, 2, none⟩ = some (.int .i64 t.r) ∧ x.cell? ⟨b1, 3, none⟩ = some (.int .i64 t.n) ∧ x.cell? ⟨b1, 4, none⟩ = some (.string (bs t.o)) ∧ x.cell? ⟨b1, 5, none⟩ = some (.slice ao t.l.length ca) ∧ x.cell? ⟨b2, 0, none⟩ = some (.string (bs u.c)) ∧ x.cell? ⟨b2, 1, none⟩ = some (.bool u.f) ∧ x.cell? ⟨b2, 2, none⟩ = some (.int .i64 u.r) ∧ x.cell? ⟨b2, 3, none⟩ = some (.int .i64 u.n) ∧ x.cell? ⟨b2, 4, none⟩ = some (.string (bs u.o)) ∧ x.cell? ⟨b2, 5, none⟩ = some (.slice bo u.l.length cb) := by
  obtain ⟨y0, y1, y2, y3, y4, y5⟩ := h1.cells
  obtain ⟨z0, z1, z2, z3, z4, z5⟩ := h2.cells
  exact ⟨y0, y1, y2, y3, y4, y5, z0, z1, z2, z3, z4, z5⟩
/-- What a world holds while TrapWrites looks on. -/
def Ht (x : World) (b1 b2 : Nat) (t u : Tr) (ao bo : Option Addr) (ca cb : Nat) : Prop := Tq x b1 t ao ca ∧ Tq x b2 u bo cb ∧ RdB x ao t.l ∧ RdB x bo u.l
theorem Ht.below {x y : World} {b1 b2 : Nat} {t u : Tr} {ao bo : Option Addr} {ca cb : Nat} (h : Ht x b1 b2 t u ao bo ca cb) (k : Below x.heap.size x y) : Ht y b1 b2 t u ao bo ca cb := ⟨h.1.below k, h.2.1.below k, h.2.2.1.below k, h.2.2.2.below k⟩
set_option maxRecDepth 100000 in
set_option maxHeartbeats 4000000 in
theorem trapWrites_walk (I : World → Prop) (K : TrpOk I) (t u : Tr) (ao bo : Option Addr) (ca cb : Nat) (hc : t.c.length ≤ 140737488351232) (hc2 : u.c.length ≤ 140737488351232) (ho : t.o.length ≤ 140737488351232) (ho2 : u.o.length ≤ 140737488351232) (hl : t.l.length ≤ 140737488351232) (hl2 : u.l.length ≤ 140737488351232)
    (hf : t.fits) (hf2 : u.fits) (hx : Lim t.l) (hx2 : Lim u.l) (hsh : ((ao = none ∧ t.l.length = 0 ∧ ca = 0) ∨ ∃ a, ao = some a)) (hsh2 : ((bo = none ∧ u.l.length = 0 ∧ cb = 0) ∨ ∃ a, bo = some a)) (w : World) (hw : I w) (hr : RdB w ao t.l) (hr2 : RdB w bo u.l) :
    Calls Tryz.prog 4 #[.agg #[.string (bs t.c), .bool t.f, .int .i64 t.r, .int .i64 t.n, .string (bs t.o), .slice ao t.l.length ca], .agg #[.string (bs u.c), .bool u.f, .int .i64 u.r, .int .i64 u.n, .string (bs u.o), .slice bo u.l.length cb]] w fun e w' => e = .returned (.bool true) ∧ Below w.heap.size w w' := by
  obtain ⟨w0, hw0, ht0, hu0, b0⟩ := two_traps w t u ao bo ca cb
  have H0 : Ht w0 w.heap.size (w.heap.size + 1) t u ao bo ca cb := ⟨ht0, hu0, hr.below b0, hr2.below b0⟩
  have HW0 := Lib.hid hw0
  have HW := Lib.hid (fun w1 (h : I w1) => K.works w1 h)
  have HK := Lib.hid (fun w1 (b : Below w.heap.size w w1) => K.keep w w1 hw b)
  have hS1 := fun w1 (h : RdB w1 ao t.l) => small9_walk t ao ca hl ho hx w1 h
  have hS2 := fun w1 (h : RdB w1 bo u.l) => small9_walk u bo cb hl2 ho2 hx2 w1 h
  clear hw0 hr hr2 ht0 hu0
  cases hs1 : sm9 t
  · rw [hs1] at hS1
    have HS1 := Lib.hid hS1
    clear hS1 hS2 K hs1
    obtain ⟨y0, y1, y2, y3, y4, y5⟩ := H0.1.cells
    go_enter Tryz.func4, Tryz.ntmps4
    go_wp2_with fail
    rw [HW0.out]
    refine (HS1.out _ H0.2.2.1).mono ?_
    rintro e w1 ⟨rfl, d1⟩
    have b1 := b0.trans (d1.mono b0.size)
    clear y0 y1 y2 y3 y4 y5
    go_wp2_with fail
    refine (HW.out _ (HK.out _ b1)).mono ?_
    rintro e w2 ⟨rfl, d2⟩
    go_wp2
    go_ret
    exact ⟨rfl, b1.trans (d2.mono b1.size)⟩
  cases hs2 : sm9 u
  · rw [hs1] at hS1
    rw [hs2] at hS2
    have HS1 := Lib.hid hS1
    have HS2 := Lib.hid hS2
    clear hS1 hS2 K hs1 hs2
    obtain ⟨y0, y1, y2, y3, y4, y5⟩ := H0.1.cells
    go_enter Tryz.func4, Tryz.ntmps4
    go_wp2_with fail
    rw [HW0.out]
    refine (HS1.out _ H0.2.2.1).mono ?_
    rintro e w1 ⟨rfl, d1⟩
    have b1 := b0.trans (d1.mono b0.size)
    have H1 := H0.below d1
    clear y0 y1 y2 y3 y4 y5
    obtain ⟨z0, z1, z2, z3, z4, z5⟩ := H1.2.1.cells
    go_wp2_with fail
    refine (HS2.out _ H1.2.2.2).mono ?_
    rintro e w2 ⟨rfl, d2⟩
    have b2 := b1.trans (d2.mono b1.size)
    clear z0 z1 z2 z3 z4 z5
    go_wp2_with fail
    refine (HW.out _ (HK.out _ b2)).mono ?_
    rintro e w3 ⟨rfl, d3⟩
    go_wp2
    go_ret
    exact ⟨rfl, b2.trans (d3.mono b2.size)⟩
  have hq := sm9_lim hs1 hc hf hx
  have hq2 := sm9_lim hs2 hc2 hf2 hx2
  rw [hs1] at hS1
  rw [hs2] at hS2
  have HS1 := Lib.hid hS1
  have HS2 := Lib.hid hS2
  have HEp := Lib.hid (fun w1 (h : I w1) (r : RdB w1 ao t.l) => K.encode t ao ca w1 hq hsh h r)
  have HEq := Lib.hid (fun w1 (r : RdB w1 ao t.l) => qencode9_walk t ao ca hq.lim hsh w1 r)
  have HAp := Lib.hid (fun w1 (h : I w1) (r : RdB w1 ao t.l) => K.answer t ao ca w1 hq hsh h r)
  have HAq := Lib.hid (fun w1 (r : RdB w1 ao t.l) => qanswer9_walk t ao ca hq.lim hsh w1 r)
  have HCp := Lib.hid (fun w1 (h : I w1) (r : RdB w1 ao t.l) => K.check t ao ca w1 hq hsh h r)
  have HCq := Lib.hid (fun w1 (r : RdB w1 ao t.l) => qcheck9_walk t ao ca hq.lim hsh w1 r)
  have HSp := Lib.hid (fun w1 (h : I w1) (r : RdB w1 ao t.l) (r2 : RdB w1 bo u.l) => K.same t u ao bo ca cb w1 (by have := (sm9_facts hs1).1; omega) (by have := (sm9_facts hs2).1; omega) h r r2)
  have HSq := Lib.hid (fun w1 (r : RdB w1 ao t.l) (r2 : RdB w1 bo u.l) => qsame9_walk t u ao bo ca cb hl hl2 w1 r r2)
  clear hS1 hS2 K hs1 hs2 hq hq2 hsh hsh2 hc hc2 ho ho2 hl hl2 hf hf2 hx hx2
  generalize teS t = ES at *
  generalize teE t = EE at *
  generalize taS t = AS at *
  generalize taE t = AE at *
  generalize tcE t = CE at *
  generalize sameT t u = SV at *
  have s1 : (ES == ES) = true := by simp
  have s2 : (((EE : Nat) : Int) == ((EE : Nat) : Int)) = true := by simp
  have s3 : (AS == AS) = true := by simp
  have s4 : (((AE : Nat) : Int) == ((AE : Nat) : Int)) = true := by simp
  have s5 : (((CE : Nat) : Int) == ((CE : Nat) : Int)) = true := by simp
  have s6 : (SV == SV) = true := by simp
  obtain ⟨y0, y1, y2, y3, y4, y5⟩ := H0.1.cells
  go_enter Tryz.func4, Tryz.ntmps4
  go_wp2_with fail
  rw [HW0.out]
  refine (HS1.out _ H0.2.2.1).mono ?_
  rintro e w1 ⟨rfl, d1⟩
  have b1 := b0.trans (d1.mono b0.size)
  have H1 := H0.below d1
  clear y0 y1 y2 y3 y4 y5 d1 b0 H0 HW0
  obtain ⟨z0, z1, z2, z3, z4, z5⟩ := H1.2.1.cells
  go_wp2_with fail
  refine (HS2.out _ H1.2.2.2).mono ?_
  rintro e w2 ⟨rfl, d2⟩
  have b2 := b1.trans (d2.mono b1.size)
  have H2 := H1.below d2
  clear z0 z1 z2 z3 z4 z5 d2 b1 H1
  obtain ⟨y0, y1, y2, y3, y4, y5⟩ := H2.1.cells
  go_wp2_with fail
  refine (HEp.out _ (HK.out _ b2) H2.2.2.1).mono ?_
  rintro e w3 ⟨rfl, d3⟩
  have b3 := b2.trans (d3.mono b2.size)
  have H3 := H2.below d3
  clear y0 y1 y2 y3 y4 y5 d3 b2 H2
  obtain ⟨y0, y1, y2, y3, y4, y5⟩ := H3.1.cells
  go_wp2_with fail
  refine (HEq.out _ H3.2.2.1).mono ?_
  rintro e w4 ⟨rfl, d4⟩
  have b4 := b3.trans (d4.mono b3.size)
  have H4 := H3.below d4
  clear y0 y1 y2 y3 y4 y5 d4 b3 H3
  obtain ⟨y0, y1, y2, y3, y4, y5⟩ := H4.1.cells
  go_wp2_with fail
  refine (HAp.out _ (HK.out _ b4) H4.2.2.1).mono ?_
  rintro e w5 ⟨rfl, d5⟩
  have b5 := b4.trans (d5.mono b4.size)
  have H5 := H4.below d5
  clear y0 y1 y2 y3 y4 y5 d5 b4 H4
  obtain ⟨y0, y1, y2, y3, y4, y5⟩ := H5.1.cells
  go_wp2_with fail
  refine (HAq.out _ H5.2.2.1).mono ?_
  rintro e w6 ⟨rfl, d6⟩
  have b6 := b5.trans (d6.mono b5.size)
  have H6 := H5.below d6
  clear y0 y1 y2 y3 y4 y5 d6 b5 H5
  obtain ⟨y0, y1, y2, y3, y4, y5⟩ := H6.1.cells
  obtain ⟨z0, z1, z2, z3, z4, z5⟩ := H6.2.1.cells
  go_wp2_with fail
  have zS := twelve H6.1 H6.2.1
  clear y0 y1 y2 y3 y4 y5 z0 z1 z2 z3 z4 z5
  go_region_held3 (fun x => x.cell? ⟨w.heap.size, 0, none⟩ = some (.string (bs t.c)) ∧ x.cell? ⟨w.heap.size, 1, none⟩ = some (.bool t.f) ∧ x.cell? ⟨w.heap.size, 2, none⟩ = some (.int .i64 t.r) ∧ x.cell? ⟨w.heap.size, 3, none⟩ = some (.int .i64 t.n) ∧ x.cell? ⟨w.heap.size, 4, none⟩ = some (.string (bs t.o)) ∧ x.cell? ⟨w.heap.size, 5, none⟩ = some (.slice ao t.l.length ca) ∧ x.cell? ⟨w.heap.size + 1, 0, none⟩ = some (.string (bs u.c)) ∧ x.cell? ⟨w.heap.size + 1, 1, none⟩ = some (.bool u.f) ∧ x.cell? ⟨w.heap.size + 1, 2, none⟩ = some (.int .i64 u.r) ∧ x.cell? ⟨w.heap.size + 1, 3, none⟩ = some (.int .i64 u.n) ∧ x.cell? ⟨w.heap.size + 1, 4, none⟩ = some (.string (bs u.o)) ∧ x.cell? ⟨w.heap.size + 1, 5, none⟩ = some (.slice bo u.l.length cb)) (first | exact zS5 | exact zS4 | exact zS3 | exact zS2 | exact zS1 | exact zS)
    (first
      | (have _g := zS4; clear _g; go_at_call 8; refine (HW.out _ (by exact HK.out _ bX4)).mono ?_; rintro e x5 ⟨rfl, j5⟩; have k5 : Below x4.heap.size x4 x5 := ⟨j5.os, j5.tape, j5.output, j5.size, j5.block⟩; have HX5 := HX4.below k5; have bX5 := bX4.trans (k5.mono bX4.size); have zS5 := twelve HX5.1 HX5.2.1)
      | (have _g := zS3; clear _g; go_at_call 12; refine (HSq.out _ (by exact HX3.2.2.1) (by exact HX3.2.2.2)).mono ?_; rintro e x4 ⟨rfl, j4⟩; have k4 : Below x3.heap.size x3 x4 := ⟨j4.os, j4.tape, j4.output, j4.size, j4.block⟩; have HX4 := HX3.below k4; have bX4 := bX3.trans (k4.mono bX3.size); have zS4 := twelve HX4.1 HX4.2.1)
      | (have _g := zS2; clear _g; go_at_call 21; refine (HSp.out _ (by exact HK.out _ bX2) (by exact HX2.2.2.1) (by exact HX2.2.2.2)).mono ?_; rintro e x3 ⟨rfl, j3⟩; have k3 : Below x2.heap.size x2 x3 := ⟨j3.os, j3.tape, j3.output, j3.size, j3.block⟩; have HX3 := HX2.below k3; have bX3 := bX2.trans (k3.mono bX2.size); have zS3 := twelve HX3.1 HX3.2.1)
      | (have _g := zS1; clear _g; go_at_call 20; refine (HCq.out _ (by exact HX1.2.2.1)).mono ?_; rintro e x2 ⟨rfl, j2⟩; have k2 : Below x1.heap.size x1 x2 := ⟨j2.os, j2.tape, j2.output, j2.size, j2.block⟩; have HX2 := HX1.below k2; have bX2 := bX1.trans (k2.mono bX1.size); have zS2 := twelve HX2.1 HX2.2.1)
      | (have _g := zS; clear _g; go_at_call 19; refine (HCp.out _ (by exact HK.out _ ⟨b6.os, b6.tape, b6.output, b6.size, b6.block⟩) (by exact H6.2.2.1)).mono ?_; rintro e x1 ⟨rfl, j1⟩; have k1 : Below w6.heap.size w6 x1 := ⟨j1.os, j1.tape, j1.output, j1.size, j1.block⟩; have HX1 := H6.below k1; have bX1 := b6.trans (k1.mono b6.size); have zS1 := twelve HX1.1 HX1.2.1))
  go_wp2
  go_ret
  exact ⟨rfl, bX5⟩
end Go.Proofs.YtdgnhcbhbpffmaaGreatDoor
/- The law's unit of a message, walked. -/
namespace Go.Proofs.YtdgnhcbhbpffmaaGreatDoor
open Go.ChangeShapes Go.WideShapes Go.ChangeAt Go.RowKit K P1 B5
open D8 (Bd Un lst deU)
open T9 (Tr bU bI msg msgB ofU m3 deM)
set_option linter.unusedVariables false

/-- A list of binds does not lie in a unit's block. -/
theorem RdB.apart {w : World} {ao : Option Addr} {xs : List Bd} {T : TypeId} {R : Nat} {u : Un} {bo : Option Addr} {cb : Nat} (h : RdB w ao xs) (hq : Uq T w R u bo cb) : xs.length = 0 ∨ ∀ a, ao = some a → R ≠ a.block := by
  rcases h with h0 | ⟨b, off, ha, hb, hc⟩
  · exact .inl h0
  · rcases Nat.eq_zero_or_pos xs.length with h0 | h0
    · exact .inl h0
    · refine .inr fun a ha' hR => ?_
      rw [ha] at ha'
      injection ha' with ha'
      subst ha'
      have hR' : R = b := hR
      subst hR'
      have c0 := (hc 0 h0).1
      rw [cellRow hq] at c0
      have hlt : off + 0 * 4 < 5 := by
        rcases Nat.lt_or_ge (off + 0 * 4) 5 with h | h
        · exact h
        · rw [Array.getElem?_eq_none (by simpa using h)] at c0; cases c0
      have hoff : off = 0 ∨ off = 1 ∨ off = 2 ∨ off = 3 ∨ off = 4 := by omega
      rcases hoff with rfl | rfl | rfl | rfl | rfl <;> simp at c0
theorem RdB.set5 {w : World} {ao : Option Addr} {xs : List Bd} {T : TypeId} {R : Nat} {u : Un} {bo : Option Addr} {cb : Nat} (h : RdB w ao xs) (hq : Uq T w R u bo cb) (v0 v1 v2 v3 v4 : Value) :
    RdB (((((w.setCell ⟨R, 0, none⟩ v0).setCell ⟨R, 1, none⟩ v1).setCell ⟨R, 2, none⟩ v2).setCell ⟨R, 3, none⟩ v3).setCell ⟨R, 4, none⟩ v4) ao xs := by
  rcases h.apart hq with h0 | hne
  · exact .inl h0
  · exact ((((h.far hne 0 v0).far hne 1 v1).far hne 2 v2).far hne 3 v3).far hne 4 v4
theorem unit_block (w : World) : ∃ w2, w.alloc (.cells #[.int .i64 0, .int .i64 0, .int .i64 0, .int .i64 0, .slice none 0 0] 41) = w2 ∧ Uq 41 w2 w.heap.size nou none 0 ∧ Below w.heap.size w w2 :=
  ⟨_, rfl, Uq.new 41 w nou none 0, alloc_in w _⟩
set_option maxRecDepth 100000 in
set_option maxHeartbeats 2000000 in
theorem lawunit_walk (c : List UInt8) (hc : c.length ≤ 64) (u : Un) (hk : u.ok = true) (hf : ∀ x ∈ u.l, x.fits) (hl : (msg c u).length ≤ 65535) (w : World) (T : Tp w) :
    Calls Tryz.prog 23 #[.string (bs (msg c u))] w fun e w' => ∃ ao cap, e = .returned (.tuple #[.agg #[.int .i64 u.t, .int .i64 u.r, .int .i64 u.a, .int .i64 u.i, .slice ao u.l.length cap], .bool true]) ∧ RdB w' ao u.l ∧ Below w.heap.size w w' := by
  obtain ⟨x1, x2, x3, x4, x5⟩ := T9.msg_parts hc hk
  have hbl := (nx_of x1).2.2.2.2
  have hN := next_ok (msg c u) (by omega)
  have hul := (D8.un_parts hk).2.2
  have hN := fun w1 => next_ok (msg c u) (by omega) x1 w1
  rw [x2, x3, x4] at hN
  have hP := fun w1 => parts_list_walk (msgB c u) (by rw [x3] at hbl; omega) w1
  unfold PaPost at hP
  obtain ⟨ht, _⟩ := (D8.Un.ok_iff u).1 hk
  have htt : ((u.t.toNat : Nat) : Int) = u.t := by omega
  have hm := prt_mem _ _ (msgB c u) _ (Nat.le_refl _) x5
  have m3' := (hm (u.t.toNat, u.body) (by simp)).2
  have hD := fun w1 (h : Tp w1) => decode8_walk u.t u.body (by rw [x3] at hbl; simp only [] at m3'; omega) w1 h
  unfold DuPost at hD
  rw [(du_some (D8.unit_back hk hf)).1, (du_some (D8.unit_back hk hf)).2] at hD
  have HN := Lib.hid hN
  have HP := Lib.hid hP
  have HD := Lib.hid hD
  have HX := Lib.hid x5
  have HTT := Lib.hid htt
  obtain ⟨w2, hw2, hq, bw⟩ := unit_block w
  have HW := Lib.hid hw2
  have HT := Lib.hid (T.below bw)
  clear hw2 hN hP hD x1 x2 x3 x4 x5 hbl hul ht htt hm m3' hl hk hf T
  generalize msgB c u = MB at *
  generalize msg c u = M at *
  go_enter Tryz.func23, Tryz.ntmps23
  go_wp2_with fail
  rw [HW.out]
  refine (HN.out _).mono ?_
  rintro e w3 ⟨rfl, d3⟩
  have a3 := alloc_in w3 (.cells #[.int .i64 48, .string (bs MB)] 72)
  have b3 := (bw.trans (d3.mono bw.size)).trans (a3.mono (bw.trans (d3.mono bw.size)).size)
  have hq3 := (hq.below d3).below a3
  have HT3 := Lib.hid ((HT.out.below d3).below a3)
  clear d3 a3 hq bw
  go_wp2_with fail
  refine (HP.out _).mono ?_
  rintro e w4 (⟨c', h', rfl, d4⟩ | ⟨ps, v, h', rfl, ho, d4⟩)
  · have h := HX.out; rw [h'] at h; cases h
  have hh := HX.out
  rw [h'] at hh
  injection hh with hh
  subst hh
  obtain ⟨ao, cap, rfl, hf2⟩ := ho.form
  have b4 := b3.trans (d4.mono b3.size)
  have hq4 := hq3.below d4
  have HT4 := Lib.hid (HT3.out.below d4)
  rcases hf2 with h0 | ⟨g, rfl, _, _, hg⟩
  · simp at h0
  obtain ⟨g4, g5⟩ := hg 2 (by simp)
  simp only [List.getD_cons_zero, List.getD_cons_succ, Nat.reduceMul, Nat.reduceAdd] at g4 g5
  rw [HTT.out] at g4
  clear hg ho h' d4 b3 hq3 HX
  go_wp2_with fail
  refine (HD.out _ HT4.out).mono ?_
  rintro e w5 ⟨bo, cb, rfl, hr5, d5⟩
  have a5 := alloc_in w5 (.cells #[.int .i64 u.t, .int .i64 u.r, .int .i64 u.a, .int .i64 u.i, .slice bo u.l.length cb] 41)
  have hu6 := Uq.new 41 w5 u bo cb
  have b6 := (b4.trans (d5.mono b4.size)).trans (a5.mono (b4.trans (d5.mono b4.size)).size)
  have hq6 := (hq4.below d5).below a5
  have hr6 := hr5.below a5
  obtain ⟨z0, z1, z2, z3, z4⟩ := hu6.cells
  clear hr5 d5 a5 b4 hq4 g4 g5
  obtain ⟨c0, c1, c2, c3, c4⟩ := hq6.cells
  obtain ⟨f0, f1, f2, f3, f4⟩ := hq6.free
  have PX := hq6.set u bo cb
  have bb := below_set5 b6 (b := w.heap.size) (Nat.le_refl _) (.int .i64 u.t) (.int .i64 u.r) (.int .i64 u.a) (.int .i64 u.i) (.slice bo u.l.length cb)
  have HR := Lib.hid (hr6.set5 hq6 (.int .i64 u.t) (.int .i64 u.r) (.int .i64 u.a) (.int .i64 u.i) (.slice bo u.l.length cb))
  clear hq6 hr6 b6
  go_wp2
  refine bodyPost_ret (results_cell_row2 rfl _ _ w.heap.size _ _ _ _ rfl PX Tryz.underlying41 rfl (by kernel_rfl)) rfl ?_
  exact ⟨bo, cb, rfl, HR.out, bb⟩
end Go.Proofs.YtdgnhcbhbpffmaaGreatDoor
