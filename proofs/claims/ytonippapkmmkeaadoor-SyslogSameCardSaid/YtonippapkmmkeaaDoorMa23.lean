/- Texts on the program and on the document, joined: SylA, Book, SylS. -/
import Derived.Test.YtonippapkmmkeaaDoorMa22
import Derived.Test.YtonippapkmmkeaaDoorRows
import Derived.Test.YtonippapkmmkeaaDoorMa01
import Derived.ProofKit
import Derived.Deep.DeepCutAuto
import Derived.Deep.RegionHeld3
import Derived.Deep.RegionWith
/- Messages: as they lie, and as arguments. gen_syl.py writes it. -/
namespace Go.Proofs.YtonippapkmmkeaaDoor
open Go.ChangeShapes Go.WideShapes Go.ChangeAt Go.RowKit K Q10
set_option linter.unusedVariables false

namespace S11
/-- A message. -/
structure Lg where
  f : Int
  v : Int
  t : Int
  h : List UInt8
  a : List UInt8
  p : List UInt8
  i : List UInt8
  d : List El
  b : Bool
  x : List UInt8
deriving DecidableEq
end S11
open S11
def saL (t u : Lg) : Bool := decide (t = u)
theorem saL_self (t : Lg) : saL t t = true := decide_eq_true rfl
theorem saL_not {t u : Lg} (h : ¬ t = u) : saL t u = false := decide_eq_false h
theorem saL_comm (t u : Lg) : saL t u = saL u t := by
  unfold saL
  by_cases h : t = u
  · rw [decide_eq_true h, decide_eq_true h.symm]
  · rw [decide_eq_false h, decide_eq_false (fun e => h e.symm)]
/-- Bounds that any message keeps. -/
def LimG (M : Nat) (t : Lg) : Prop := t.h.length ≤ M ∧ t.a.length ≤ M ∧ t.p.length ≤ M ∧ t.i.length ≤ M ∧ t.x.length ≤ M ∧ t.d.length * 40 ≤ M ∧ ∀ x ∈ t.d, x.id.length ≤ 140737488355327 ∧ x.ps.length * 32 ≤ 140737488351232 ∧ ∀ p ∈ x.ps, p.n.length ≤ 140737488351232 ∧ p.v.length ≤ 140737488351232
def RngG (t : Lg) : Prop := (-9223372036854775808 ≤ t.f ∧ t.f ≤ 9223372036854775807) ∧ (-9223372036854775808 ≤ t.v ∧ t.v ≤ 9223372036854775807) ∧ (-9223372036854775808 ≤ t.t ∧ t.t ≤ 9223372036854775807)
theorem LimG.mono {M N : Nat} {t : Lg} (h : LimG M t) (hm : M ≤ N) : LimG N t := by
  obtain ⟨a, b, c, d, e, f, g⟩ := h
  exact ⟨by omega, by omega, by omega, by omega, by omega, by omega, g⟩
/-- A message in a block. -/
def Lq (w : World) (b : Nat) (t : Lg) (ao : Option Addr) (ca : Nat) : Prop := w.heap[b]? = some (.cells #[.int .i64 t.f, .int .i64 t.v, .int .i64 t.t, .string (bs t.h), .string (bs t.a), .string (bs t.p), .string (bs t.i), .slice ao t.d.length ca, .bool t.b, .string (bs t.x)] 24 (0, 0))
theorem Lq.new (w : World) (t : Lg) (ao : Option Addr) (ca : Nat) : Lq (w.alloc (.cells #[.int .i64 t.f, .int .i64 t.v, .int .i64 t.t, .string (bs t.h), .string (bs t.a), .string (bs t.p), .string (bs t.i), .slice ao t.d.length ca, .bool t.b, .string (bs t.x)] 24)) w.heap.size t ao ca := rowNew w _
theorem Lq.below {w w' : World} {b : Nat} {t : Lg} {ao : Option Addr} {ca : Nat} (h : Lq w b t ao ca) (k : Below w.heap.size w w') : Lq w' b t ao ca := (k.block b (lt_of_block h)).trans h
theorem Lq.cells {w : World} {b : Nat} {t : Lg} {ao : Option Addr} {ca : Nat} (h : Lq w b t ao ca) : w.cell? ⟨b, 0, none⟩ = some (.int .i64 t.f) ∧ w.cell? ⟨b, 1, none⟩ = some (.int .i64 t.v) ∧ w.cell? ⟨b, 2, none⟩ = some (.int .i64 t.t) ∧ w.cell? ⟨b, 3, none⟩ = some (.string (bs t.h)) ∧ w.cell? ⟨b, 4, none⟩ = some (.string (bs t.a)) ∧ w.cell? ⟨b, 5, none⟩ = some (.string (bs t.p)) ∧ w.cell? ⟨b, 6, none⟩ = some (.string (bs t.i)) ∧ w.cell? ⟨b, 7, none⟩ = some (.slice ao t.d.length ca) ∧ w.cell? ⟨b, 8, none⟩ = some (.bool t.b) ∧ w.cell? ⟨b, 9, none⟩ = some (.string (bs t.x)) :=
  ⟨cellRow h 0, cellRow h 1, cellRow h 2, cellRow h 3, cellRow h 4, cellRow h 5, cellRow h 6, cellRow h 7, cellRow h 8, cellRow h 9⟩
theorem Lq.free {w : World} {b : Nat} {t : Lg} {ao : Option Addr} {ca : Nat} (h : Lq w b t ao ca) (i : Nat) : w.frozen? ⟨b, i, none⟩ = false := freeRow h i
theorem two_logs (w : World) (t u : Lg) (ao bo : Option Addr) (ca cb : Nat) : ∃ w2, ((w.alloc (.cells #[.int .i64 t.f, .int .i64 t.v, .int .i64 t.t, .string (bs t.h), .string (bs t.a), .string (bs t.p), .string (bs t.i), .slice ao t.d.length ca, .bool t.b, .string (bs t.x)] 24))).alloc (.cells #[.int .i64 u.f, .int .i64 u.v, .int .i64 u.t, .string (bs u.h), .string (bs u.a), .string (bs u.p), .string (bs u.i), .slice bo u.d.length cb, .bool u.b, .string (bs u.x)] 24) = w2 ∧
    Lq w2 w.heap.size t ao ca ∧ Lq w2 (w.heap.size + 1) u bo cb ∧ Below w.heap.size w w2 := by
  have h1 := (Lq.new w t ao ca).below (alloc_in' _ (.cells #[.int .i64 u.f, .int .i64 u.v, .int .i64 u.t, .string (bs u.h), .string (bs u.a), .string (bs u.p), .string (bs u.i), .slice bo u.d.length cb, .bool u.b, .string (bs u.x)] 24))
  have h2 := Lq.new (w.alloc (.cells #[.int .i64 t.f, .int .i64 t.v, .int .i64 t.t, .string (bs t.h), .string (bs t.a), .string (bs t.p), .string (bs t.i), .slice ao t.d.length ca, .bool t.b, .string (bs t.x)] 24)) u bo cb
  rw [show (w.alloc (.cells #[.int .i64 t.f, .int .i64 t.v, .int .i64 t.t, .string (bs t.h), .string (bs t.a), .string (bs t.p), .string (bs t.i), .slice ao t.d.length ca, .bool t.b, .string (bs t.x)] 24)).heap.size = w.heap.size + 1 by simp] at h2
  exact ⟨_, rfl, h1, h2, ((Below.refl _ _).alloc (Nat.le_refl _) _).alloc (by simp) _⟩
set_option maxRecDepth 1000000 in
/-- Elements by their reading alone. -/
theorem elems_of {w : World} {v : Value} (g : Rdg Tryd.prog w 22 [v]) :
    ∃ (es : List El) (ao : Option Addr) (cap : Nat), v = .slice ao es.length cap ∧ RdE w ao es ∧ Bnds es ∧ ((ao = none ∧ es.length = 0 ∧ cap = 0) ∨ ∃ a, ao = some a) := by
  obtain ⟨ao, len, cap, hv, hlc, hcb, _, hr⟩ := g.slice (C := 2) Tryd.underlying22 (by kernel_rfl) (by omega)
  simp only [List.cons.injEq, and_true] at hv
  subst hv
  have hsh := Rdg.shape g Tryd.underlying22
  rw [show Tryd.prog.bytesOf 30 = 40 by kernel_rfl] at hcb
  unfold reachBytes at hcb
  have hl : len * 40 ≤ 140737488351232 := by omega
  rcases hr with h0 | ⟨b, off, f, ha, hrow, hel⟩
  · subst h0
    exact ⟨[], ao, cap, rfl, ⟨[], rfl, .inl rfl, fun z hz => by cases hz⟩, ⟨by simp, fun x hx => by cases hx⟩, hsh⟩
  · have hty : ∀ i, i < len → ∃ z : El × Pl, (f (i * 2) = .string (bs z.1.id) ∧ f (i * 2 + 1) = .slice z.2.o z.1.ps.length z.2.c ∧ RdP w z.2.o z.1.ps) ∧ z.1.id.length ≤ 140737488355327 ∧ z.1.ps.length * 32 ≤ 140737488351232 ∧ ∀ p ∈ z.1.ps, p.n.length ≤ 140737488351232 ∧ p.v.length ≤ 140737488351232 := by
      intro i hi
      have hE : Rdg Tryd.prog w 30 [f (i * 2 + 0), f (i * 2 + 1)] := hel i hi
      obtain ⟨_, hf⟩ := hE.fields Tryd.underlying30 (by kernel_rfl)
      obtain ⟨u0, e0, r0⟩ := hf 0 9 (by kernel_rfl) (by simp)
      obtain ⟨u1, e1, r1⟩ := hf 1 28 (by kernel_rfl) (by simp)
      obtain ⟨s0, k0, l0⟩ := r0.string Tryd.underlying9
      obtain ⟨ps, po, pc, k1, hrp, l1, l2⟩ := params_of r1
      simp at e0 e1 k0
      unfold reachBytes at l0
      exact ⟨(⟨s0, ps⟩, ⟨po, pc⟩), ⟨by rw [e0, k0], by rw [e1, k1], hrp⟩, by show s0.length ≤ _; omega, l1, l2⟩
    obtain ⟨zs, hzl, hzs⟩ := choose_list (noe, noq) hty
    refine ⟨zs.map Prod.fst, ao, cap, by rw [List.length_map, hzl], ⟨zs, rfl, .inr ⟨b, off, ha, hrow.1, fun i hi => ?_⟩, fun z hz => ?_⟩, ⟨by rw [List.length_map, hzl]; exact hl, fun x hx => ?_⟩, by rw [List.length_map, hzl]; exact hsh⟩
    · rw [hzl] at hi
      obtain ⟨⟨a1, a2, _⟩, _⟩ := hzs i hi
      refine ⟨(hrow.2 (i * 2) (by omega)).trans (by rw [a1]), ?_⟩
      rw [Nat.add_assoc]
      exact (hrow.2 (i * 2 + 1) (by omega)).trans (by rw [a2])
    · obtain ⟨i, hi, rfl⟩ := mem_getD (noe, noq) hz
      rw [hzl] at hi
      exact (hzs i hi).1.2.2
    · obtain ⟨z, hz, rfl⟩ := List.mem_map.1 hx
      obtain ⟨i, hi, rfl⟩ := mem_getD (noe, noq) hz
      rw [hzl] at hi
      exact (hzs i hi).2
set_option maxRecDepth 1000000 in
theorem argL {w : World} {B : Nat} {v : Value} (g : Rdg Tryd.prog w 24 v.cells.toList) (ok : Value.okWide Tryd.prog w .any B 24 v) :
    ∃ (t : Lg) (ao : Option Addr) (ca : Nat), v = .agg #[.int .i64 t.f, .int .i64 t.v, .int .i64 t.t, .string (bs t.h), .string (bs t.a), .string (bs t.p), .string (bs t.i), .slice ao t.d.length ca, .bool t.b, .string (bs t.x)] ∧ LimG 140737488351232 t ∧ RngG t ∧ RdE w ao t.d ∧ ((ao = none ∧ t.d.length = 0 ∧ ca = 0) ∨ ∃ a, ao = some a) := by
  obtain ⟨xs, rfl, hsz⟩ := okWide_struct Tryd.underlying24 ok
  rw [show Tryd.prog.cellsOf 24 = 10 by kernel_rfl] at hsz
  obtain ⟨x0, x1, x2, x3, x4, x5, x6, x7, x8, x9, rfl⟩ : ∃ x0 x1 x2 x3 x4 x5 x6 x7 x8 x9, xs = #[x0, x1, x2, x3, x4, x5, x6, x7, x8, x9] := by
    obtain ⟨l⟩ := xs
    match l, hsz with
    | [x0, x1, x2, x3, x4, x5, x6, x7, x8, x9], _ => exact ⟨x0, x1, x2, x3, x4, x5, x6, x7, x8, x9, rfl⟩
  obtain ⟨_, hf⟩ := Rdg.fields (cs := [x0, x1, x2, x3, x4, x5, x6, x7, x8, x9]) g Tryd.underlying24 (by kernel_rfl)
  obtain ⟨u0, e0, r0⟩ := hf 0 3 (by kernel_rfl) (by simp)
  obtain ⟨u1, e1, r1⟩ := hf 1 3 (by kernel_rfl) (by simp)
  obtain ⟨u2, e2, r2⟩ := hf 2 3 (by kernel_rfl) (by simp)
  obtain ⟨u3, e3, r3⟩ := hf 3 9 (by kernel_rfl) (by simp)
  obtain ⟨u4, e4, r4⟩ := hf 4 9 (by kernel_rfl) (by simp)
  obtain ⟨u5, e5, r5⟩ := hf 5 9 (by kernel_rfl) (by simp)
  obtain ⟨u6, e6, r6⟩ := hf 6 9 (by kernel_rfl) (by simp)
  obtain ⟨u7, e7, r7⟩ := hf 7 22 (by kernel_rfl) (by simp)
  obtain ⟨u8, e8, r8⟩ := hf 8 4 (by kernel_rfl) (by simp)
  obtain ⟨u9, e9, r9⟩ := hf 9 9 (by kernel_rfl) (by simp)
  obtain ⟨n0, k0, w0⟩ := r0.int Tryd.underlying3
  obtain ⟨n1, k1, w1⟩ := r1.int Tryd.underlying3
  obtain ⟨n2, k2, w2⟩ := r2.int Tryd.underlying3
  obtain ⟨s3, k3, l3⟩ := r3.string Tryd.underlying9
  obtain ⟨s4, k4, l4⟩ := r4.string Tryd.underlying9
  obtain ⟨s5, k5, l5⟩ := r5.string Tryd.underlying9
  obtain ⟨s6, k6, l6⟩ := r6.string Tryd.underlying9
  obtain ⟨es, ao, ca, k7, hr, hB, hsh⟩ := elems_of r7
  obtain ⟨b8, k8⟩ := r8.bool Tryd.underlying4
  obtain ⟨s9, k9, l9⟩ := r9.string Tryd.underlying9
  simp only [List.cons.injEq, and_true] at k0 k1 k2 k3 k4 k5 k6 k8 k9
  have q0 : -9223372036854775808 ≤ n0 ∧ n0 ≤ 9223372036854775807 := by
    simp [Lit.wf, IntKind.min, IntKind.max, IntKind.bits, IntKind.signed] at w0; omega
  have q1 : -9223372036854775808 ≤ n1 ∧ n1 ≤ 9223372036854775807 := by
    simp [Lit.wf, IntKind.min, IntKind.max, IntKind.bits, IntKind.signed] at w1; omega
  have q2 : -9223372036854775808 ≤ n2 ∧ n2 ≤ 9223372036854775807 := by
    simp [Lit.wf, IntKind.min, IntKind.max, IntKind.bits, IntKind.signed] at w2; omega
  unfold reachBytes at l3 l4 l5 l6 l9
  simp at e0 e1 e2 e3 e4 e5 e6 e7 e8 e9
  exact ⟨⟨n0, n1, n2, s3, s4, s5, s6, es, b8, s9⟩, ao, ca, by rw [e0, e1, e2, e3, e4, e5, e6, e7, e8, e9, k0, k1, k2, k3, k4, k5, k6, k7, k8, k9], ⟨l3, l4, l5, l6, l9, hB.1, hB.2⟩, ⟨q0, q1, q2⟩, hr, hsh⟩
end Go.Proofs.YtonippapkmmkeaaDoor
/- gongbook: Below, Cut. -/
namespace Go.Proofs.YtonippapkmmkeaaDoor
open Go.ChangeShapes Go.WideShapes Go.ChangeAt Go.RowKit K
set_option linter.unusedVariables false

/-- What Below answers. -/
def belowN (x n : Int) : Int := (x.tmod n + n) % n
theorem tmod_bounds (x n : Int) (hn : 0 < n) : -n < x.tmod n ∧ x.tmod n < n := by
  have h1 := Int.lt_tmod_of_pos x hn
  have h2 := Int.tmod_lt_of_pos x hn
  exact ⟨h1, h2⟩
theorem belowN_bounds (x n : Int) (hn : 0 < n) : 0 ≤ belowN x n ∧ belowN x n < n := by
  unfold belowN
  exact ⟨Int.emod_nonneg _ (by omega), Int.emod_lt_of_pos _ hn⟩
theorem below_walk (x n : Int) (h0 : -9223372036854775808 ≤ x) (h1 : x ≤ 9223372036854775807) (hn : 0 < n) (hn2 : n ≤ 4611686018427387904) (w : World) :
    Calls Tryd.prog 6 #[.int .i64 x, .int .i64 n] w fun e w' => e = .returned (.int .i64 (belowN x n)) ∧ w = w' := by
  have hb := tmod_bounds x n hn
  have hnz : (n == 0) = false := by rw [beq_eq_false_iff_ne]; omega
  obtain ⟨hb1, hb2⟩ := hb
  go_enter Tryd.func6, Tryd.ntmps6
  go_wp2
  go_ret
  exact ⟨rfl, rfl⟩

end Go.Proofs.YtonippapkmmkeaaDoor
/- SyslogSame, walked on calls that keep their word. gen_syl.py writes it. -/
namespace Go.Proofs.YtonippapkmmkeaaDoor
open Go.ChangeShapes Go.WideShapes Go.ChangeAt Go.RowKit K Q10 S11
set_option linter.unusedVariables false

/-- The chapter's example, and what it tells. -/
def EXL : List UInt8 := [60, 51, 52, 62, 49, 32, 50, 48, 48, 51, 45, 49, 48, 45, 49, 49, 84, 50, 50, 58, 49, 52, 58, 49, 53, 46, 48, 48, 51, 90, 32, 109, 121, 109, 97, 99, 104, 105, 110, 101, 46, 101, 120, 97, 109, 112, 108, 101, 46, 99, 111, 109, 32, 115, 117, 32, 45, 32, 73, 68, 52, 55, 32, 45, 32, 39, 115, 117, 32, 114, 111, 111, 116, 39, 32, 102, 97, 105, 108, 101, 100]
def WNT : Lg := ⟨4, 2, 1065910455003000000, [109, 121, 109, 97, 99, 104, 105, 110, 101, 46, 101, 120, 97, 109, 112, 108, 101, 46, 99, 111, 109], [115, 117], [], [73, 68, 52, 55], [], false, [39, 115, 117, 32, 114, 111, 111, 116, 39, 32, 102, 97, 105, 108, 101, 100]⟩
theorem wnt_lim : LimG 140737488355327 WNT := ⟨by decide, by decide, by decide, by decide, by decide, by decide, fun x hx => by cases hx⟩
def HSame11 (I : World → Prop) : Prop := ∀ (t u : Lg) (ao bo : Option Addr) (ca cb : Nat) (w : World), LimG 140737488355327 t → LimG 140737488355327 u → I w → RdE w ao t.d → RdE w bo u.d → Calls Tryd.prog 5 #[.agg #[.int .i64 t.f, .int .i64 t.v, .int .i64 t.t, .string (bs t.h), .string (bs t.a), .string (bs t.p), .string (bs t.i), .slice ao t.d.length ca, .bool t.b, .string (bs t.x)], .agg #[.int .i64 u.f, .int .i64 u.v, .int .i64 u.t, .string (bs u.h), .string (bs u.a), .string (bs u.p), .string (bs u.i), .slice bo u.d.length cb, .bool u.b, .string (bs u.x)]] w fun e w' => e = .returned (.bool (saL t u)) ∧ Below w.heap.size w w'
def HEx11 (I : World → Prop) : Prop := ∀ w, I w → Calls Tryd.prog 7 #[.string (bs EXL)] w fun e w' => ∃ ao ca, e = .returned (.tuple #[.agg #[.int .i64 WNT.f, .int .i64 WNT.v, .int .i64 WNT.t, .string (bs WNT.h), .string (bs WNT.a), .string (bs WNT.p), .string (bs WNT.i), .slice ao WNT.d.length ca, .bool WNT.b, .string (bs WNT.x)], .int .i64 0]) ∧ Below w.heap.size w w'
def HPri11 (I : World → Prop) : Prop := ∀ ao ca w, I w → Calls Tryd.prog 8 #[.agg #[.int .i64 WNT.f, .int .i64 WNT.v, .int .i64 WNT.t, .string (bs WNT.h), .string (bs WNT.a), .string (bs WNT.p), .string (bs WNT.i), .slice ao WNT.d.length ca, .bool WNT.b, .string (bs WNT.x)]] w fun e w' => e = .returned (.int .i64 34) ∧ Below w.heap.size w w'
theorem rdE_nil (w : World) (ao : Option Addr) : RdE w ao [] := ⟨[], rfl, .inl rfl, fun z hz => by cases hz⟩
set_option maxRecDepth 100000 in
set_option maxHeartbeats 2000000 in
theorem works11_walk (I : World → Prop) (KK : Keeps I) (KS : HSame11 I) (KE : HEx11 I) (KP : HPri11 I) (w : World) (hw : I w) : Calls Tryd.prog 4 #[] w fun e w' => e = .returned (.bool true) ∧ Below w.heap.size w w' := by
  have hS := fun ao ca w1 (h : I w1) => KS WNT WNT ao none ca 0 w1 wnt_lim wnt_lim h (rdE_nil _ _) (rdE_nil _ _)
  rw [saL_self] at hS
  have HS := Lib.hid hS
  have HE := Lib.hid (KE w hw)
  have HP := Lib.hid KP
  have HK := Lib.hid (fun w1 (b : Below w.heap.size w w1) => KK w w1 hw b)
  clear hS KS KE KP KK
  go_enter Tryd.func4, Tryd.ntmps4
  go_wp2_with fail
  refine (HE.out).mono ?_
  rintro e w1 ⟨ao, ca, rfl, b1⟩
  have a2 := alloc_in' w1 (.cells #[.int .i64 WNT.f, .int .i64 WNT.v, .int .i64 WNT.t, .string (bs WNT.h), .string (bs WNT.a), .string (bs WNT.p), .string (bs WNT.i), .slice ao WNT.d.length ca, .bool WNT.b, .string (bs WNT.x)] 24)
  have h2 := Lq.new w1 WNT ao ca
  have b2 := b1.trans (a2.mono b1.size)
  have a3 := alloc_in' (w1.alloc (.cells #[.int .i64 WNT.f, .int .i64 WNT.v, .int .i64 WNT.t, .string (bs WNT.h), .string (bs WNT.a), .string (bs WNT.p), .string (bs WNT.i), .slice ao WNT.d.length ca, .bool WNT.b, .string (bs WNT.x)] 24)) (.cells #[.int .i64 4, .int .i64 2, .int .i64 1065910455003000000, .string { data := #[109, 121, 109, 97, 99, 104, 105, 110, 101, 46, 101, 120, 97, 109, 112, 108, 101, 46, 99, 111, 109] }, .string { data := #[115, 117] }, .string { data := #[] }, .string { data := #[73, 68, 52, 55] }, .slice none 0 0, .bool false, .string { data := #[39, 115, 117, 32, 114, 111, 111, 116, 39, 32, 102, 97, 105, 108, 101, 100] }] 24)
  have h3 := h2.below a3
  have b3 := b2.trans (a3.mono b2.size)
  obtain ⟨y0, y1, y2, y3, y4, y5, y6, y7, y8, y9⟩ := h2.cells
  clear b1 a2 b2 a3
  go_wp2_with fail
  refine (HS.out _ _ _ (HK.out _ b3)).mono ?_
  rintro e w4 ⟨rfl, d4⟩
  have h4 := h3.below d4
  have b4 := b3.trans (d4.mono b3.size)
  clear y0 y1 y2 y3 y4 y5 y6 y7 y8 y9 h2 h3 b3 d4
  obtain ⟨y0, y1, y2, y3, y4, y5, y6, y7, y8, y9⟩ := h4.cells
  go_wp2_with fail
  refine (HP.out _ _ _ (HK.out _ b4)).mono ?_
  rintro e w5 ⟨rfl, d5⟩
  go_wp2
  go_ret
  exact ⟨rfl, b4.trans (d5.mono b4.size)⟩
/-- The one behind a list: an element of nothing. -/
theorem ownE_empty (w : World) (B : Nat) (hb : B ≤ w.heap.size) : (w.alloc (.cells #[] 30)).ownsRow B 30 2 (.slice (some ⟨w.heap.size, 0, none⟩) 0 0) ([] : List (El × Pl)).length (elms []) :=
  ⟨by simp [elms], .inr ⟨w.heap.size, 0, #[], rfl, hb, rowNew w _, Nat.le_refl _, by unfold maxLen; omega, by simp, by simp [elms]⟩⟩
/-- 'append(append([]T{}, l...), T{})', its first half: what was read when the call began. -/
theorem spreadF {ops : Array Oper} {rest : List Oper} {o : Oper} {a : Act} {Q : Exit → Act → World → Prop} {W : World} (hgd : o.guard = none) {s x : Operand} (ho : o.op = .call { callee := .builtin .append, args := #[s, x], argTypes := #[22, 22] }) {w : World} {es : List El} {ao : Option Addr} {ca e : Nat} (hrw : RdE w ao es) (bW : Below w.heap.size w W) (hs : a.eval s = .slice (some ⟨e, 0, none⟩) 0 0)
    (hown : W.ownsRow w.heap.size 30 2 (.slice (some ⟨e, 0, none⟩) 0 0) ([] : List (El × Pl)).length (elms [])) (hx : a.eval x = .slice ao es.length ca) (hsh : (ao = none ∧ es.length = 0 ∧ ca = 0) ∨ ∃ a, ao = some a) (hn : es.length * 40 ≤ 140737488355328)
    (h : ∀ v' w', OwnE w' w.heap.size 30 56 v' es → W.grownBy w' (some e) → wpList Tryd.prog ops Q rest (a.put o.dst v') w') : wpList Tryd.prog ops Q (o :: rest) a W := by
  obtain ⟨zs, rfl, hz⟩ := hrw
  rw [List.length_map] at hx hsh hn
  refine spreadEL (zs := []) hgd ho _ hs hown bW.size hx (hz.below bW) hsh (by simpa using hn) ?_
  intro v' w' h1 h2
  have hO := OwnE.grown (Tp := 56) (zs := []) hown (fun z hzm => by cases hzm) (fun z hzm => ⟨(hz.2 z hzm).below bW, Prw.arg (hz.2 z hzm) (Nat.le_refl _) W⟩) (by decide) h2 h1
  exact h v' w' hO h2
/-- Its second half. -/
theorem spreadG {ops : Array Oper} {rest : List Oper} {o : Oper} {a : Act} {Q : Exit → Act → World → Prop} {W : World} (hgd : o.guard = none) {s x : Operand} (ho : o.op = .call { callee := .builtin .append, args := #[s, x], argTypes := #[22, 22] }) {B : Nat} {es : List El} {v : Value} (hs : a.eval s = v)
    (hO : OwnE W B 30 56 v es) (hB : B ≤ W.heap.size) (hx : a.eval x = .slice (some ⟨W.heap.size, 0, none⟩) 1 1) (hn : (es.length + 1) * 40 ≤ 140737488355328)
    (h : ∀ v' w', OwnE w' B 30 56 v' (es ++ [noe]) → (W.alloc (.cells #[.string { data := #[] }, .slice none 0 0] 30)).grownBy w' v.ownBlock → wpList Tryd.prog ops Q rest (a.put o.dst v') w') : wpList Tryd.prog ops Q (o :: rest) a (W.alloc (.cells #[.string { data := #[] }, .slice none 0 0] 30)) := by
  have aM := alloc_in' W (.cells #[.string { data := #[] }, .slice none 0 0] 30)
  obtain ⟨zs, hz1, hownM, hzpM⟩ := hO.below aM
  have hzl : zs.length = es.length := by rw [← hz1, List.length_map]
  have hCM := rowNew W (.cells #[.string { data := #[] }, .slice none 0 0] 30)
  have hRM : RdEz (W.alloc (.cells #[.string { data := #[] }, .slice none 0 0] 30)) (some ⟨W.heap.size, 0, none⟩) [(noe, noq)] := ⟨.inr ⟨W.heap.size, 0, rfl, lt_of_block hCM, fun j hj => by
    obtain rfl : j = 0 := by simpa using hj
    exact ⟨cellRow hCM 0, cellRow hCM 1⟩⟩, fun q hq => by simp at hq; subst hq; exact .inl rfl⟩
  refine spreadEL (zs := zs) (ys := [(noe, noq)]) hgd ho v hs hownM (Nat.le_trans hB aM.size) hx hRM (.inr ⟨_, rfl⟩) (by rw [hzl]; simp; omega) ?_
  intro v2 x2 hown2 hg2
  have o2 := OwnE.grown hownM hzpM (fun q hq => by simp at hq; subst hq; exact ⟨.inl rfl, .inl rfl⟩) (by decide) hg2 hown2
  rw [hz1] at o2
  exact h v2 x2 o2 hg2
/-- Blocks of other types stay when elements are appended, and elements stay when these are written. -/
theorem OwnE.keep {w w' : World} {B : Nat} {T Tp : TypeId} {v : Value} {es : List El} (hO : OwnE w B T Tp v es) (hg : w.grownBy w' v.ownBlock) {k : Nat} {cs : Array Value} {T' : TypeId} {fr : Nat × Nat} (hk : w.heap[k]? = some (.cells cs T' fr)) (hT : T' ≠ T) : w'.heap[k]? = some (.cells cs T' fr) := by
  obtain ⟨zs, _, h2, _⟩ := hO
  exact owns_keep h2 hg hk hT
theorem OwnE.set {w : World} {B : Nat} {T Tp : TypeId} {v : Value} {es : List El} (hO : OwnE w B T Tp v es) {k : Nat} {cs : Array Value} {T' : TypeId} {fr : Nat × Nat} (hk : w.heap[k]? = some (.cells cs T' fr)) (hB : B ≤ k) (hT : T' ≠ T) (hT2 : T' ≠ Tp) (i : Nat) (u : Value) : OwnE (w.setCell ⟨k, i, none⟩ u) B T Tp v es := by
  obtain ⟨zs, h1, h2, h3⟩ := hO
  refine ⟨zs, h1, owns_set h2 hk hT i u, fun z hz => ?_⟩
  obtain ⟨hp, hw⟩ := h3 z hz
  rcases hw with h0 | hv
  · exact ⟨.inl h0, .inl h0⟩
  have hne : ∀ a : Addr, z.2.o = some a → a.block ≠ k := by
    intro a ha e
    rcases hv a ha with h | ⟨cs', fr', h⟩
    · omega
    · rw [e, hk] at h
      injection h with h
      injection h with _ h
      exact hT2 h
  refine ⟨hp.kept (by simp) (fun a ha hb => Below.heap_setCell _ _ _ _ (fun e => hne a ha e)), .inr fun a ha => ?_⟩
  rcases hv a ha with h | ⟨cs', fr', h⟩
  · exact .inl h
  · exact .inr ⟨cs', fr', (Below.heap_setCell _ _ _ _ (fun e => hne a ha e)).trans h⟩
theorem OwnE.grown_below {B : Nat} {x w w' : World} {T Tp : TypeId} {v : Value} {es : List El} (hO : OwnE w B T Tp v es) (b : Below B x w) (hg : w.grownBy w' v.ownBlock) (hs : B ≤ w.heap.size) : Below B x w' := by
  obtain ⟨zs, _, h2, _⟩ := hO
  exact b.grown hg hs (fun k hk => (World.ownsRow.lt h2 k hk).1)
end Go.Proofs.YtonippapkmmkeaaDoor
