/- Texts on the program and on the document, joined: Arr, Stv, Stu. -/
import Derived.Test.YtgjmnlgjdgjdbaaDoorMa14
import Derived.OpenShut
import Derived.Test.YtgjmnlgjdgjdbaaDoorMa13
import Derived.Test.YtgjmnlgjdgjdbaaDoorMa15
import Derived.WideShapes
/- An array among the arguments, and a slice that is nil or not: what the reading gives. Of no program. -/
namespace Go.Proofs.YtgjmnlgjdgjdbaaDoor
open Go.RowKit
namespace K
set_option linter.unusedVariables false
section
variable {P : Program} {w : World} {t e : TypeId} {cs : List Value}
theorem okWide_agg {n : Nat} {r : Reach} {base : Nat} {v : Value} (ht : P.underlying t = some (.array n e)) (h : Value.okWide P w r base t v) : ∃ xs : Array Value, v = .agg xs ∧ xs.size = P.cellsOf t := by
  unfold Value.okWide at h
  rw [ht] at h
  obtain ⟨xs, h1, h2, _⟩ := h
  exact ⟨xs, h1, h2⟩
theorem Rdg.array {n : Nat} (h : Rdg P w t cs) (ht : P.underlying t = some (.array n e)) :
    cs.length = P.cellsOf t ∧ ∀ i, i < n → Rdg P w e ((cs.drop (i * P.cellsOf e)).take (P.cellsOf e)) := by
  obtain ⟨H, enc, fuel, x, hx, hw⟩ := h
  obtain ⟨xs, m, _, hxx, hl, hn, hf⟩ := DataW.trod_array ht hx
  refine ⟨hl, fun i hi => ?_⟩
  have h1 := hf i hi
  have hil : i < xs.length := by omega
  rw [List.getElem?_eq_getElem hil] at h1
  refine ⟨H, enc, m, _, h1, fun q hq => hw q ?_⟩
  subst hxx
  simp only [DataW.weights, ht]
  have hrep : ∀ (ds : List (DataW H)) (i : Nat) (d : DataW H), ds[i]? = some d → ∀ q ∈ d.weights P e, q ∈ DataW.weightsAll P e ds := by
    intro ds
    induction ds with
    | nil => intro i d h; simp at h
    | cons a ds ih =>
      intro i d h q hq
      cases i with
      | zero => simp at h; subst h; simp [DataW.weightsAll, hq]
      | succ i => simp at h; simp [DataW.weightsAll, ih i d h q hq]
  exact hrep _ i _ (by simp [List.getElem?_eq_getElem hil]) q hq
/-- Two texts. -/
theorem Rdg.strs2 {x y : Value} (h : Rdg P w t [x, y]) (ht : P.underlying t = some (.array 2 e)) (he : P.underlying e = some .string) (hC : P.cellsOf e = 1) :
    ∃ a b : List UInt8, x = .string (bs a) ∧ y = .string (bs b) ∧ a.length ≤ reachBytes ∧ b.length ≤ reachBytes := by
  obtain ⟨_, hf⟩ := h.array ht
  rw [hC] at hf
  obtain ⟨a, ea, la⟩ := (show Rdg P w e [x] from hf 0 (by omega)).string he
  obtain ⟨b, eb, lb⟩ := (show Rdg P w e [y] from hf 1 (by omega)).string he
  simp at ea eb
  exact ⟨a, b, ea, eb, la, lb⟩
/-- A slice is nil, or has a place. -/
theorem Rdg.shape {ao : Option Addr} {len cap : Nat} (h : Rdg P w t [.slice ao len cap]) (ht : P.underlying t = some (.slice e)) : (ao = none ∧ len = 0 ∧ cap = 0) ∨ ∃ a, ao = some a := by
  obtain ⟨H, enc, fuel, x, hx, hw⟩ := h
  rcases Deep.open_slice ht hx with ⟨h1, _⟩ | ⟨a, len', cap', m, n, D, Pl, hcs, _⟩
  · simp at h1; exact .inl h1
  · simp at hcs; exact .inr ⟨a, hcs.1⟩
end
end K
end Go.Proofs.YtgjmnlgjdgjdbaaDoor
/- A value among the arguments: what the reading gives. -/
namespace Go.Proofs.YtgjmnlgjdgjdbaaDoor
open Go.RowKit K P1
set_option linter.unusedVariables false
theorem wf_i7 {t : Int} (wt : (Lit.int .i64 t).wf = true) : -9223372036854775808 ≤ t ∧ t ≤ 9223372036854775807 := by
  simp [Lit.wf, IntKind.min, IntKind.max, IntKind.bits, IntKind.signed] at wt; omega
theorem wf_u64 {t : Int} (wt : (Lit.int .u64 t).wf = true) : ∃ n : Nat, t = (n : Nat) ∧ n < 18446744073709551616 := by
  have h : 0 ≤ t ∧ t ≤ 18446744073709551615 := by
    simp [Lit.wf, IntKind.min, IntKind.max, IntKind.bits, IntKind.signed] at wt; omega
  exact ⟨t.toNat, by omega, by omega⟩
theorem okWide_struct {P : Program} {w : World} {t : TypeId} {fs : Array Field} {r : Reach} {base : Nat} {v : Value} (ht : P.underlying t = some (.struct fs)) (h : Value.okWide P w r base t v) : ∃ xs : Array Value, v = .agg xs ∧ xs.size = P.cellsOf t := by
  unfold Value.okWide at h
  rw [ht] at h
  obtain ⟨xs, h1, h2, _⟩ := h
  exact ⟨xs, h1, h2⟩
set_option maxRecDepth 1000000 in
/-- A value of api: its kind, its number, its text. -/
theorem argV {w : World} {B : Nat} {v : Value} (g : Rdg Tryd.prog w 27 v.cells.toList) (ok : Value.okWide Tryd.prog w .any B 27 v) :
    ∃ (k n : Int) (s : List UInt8), v = .agg #[.int .i64 k, .int .i64 n, .string (bs s)] ∧ s.length ≤ reachBytes ∧ -9223372036854775808 ≤ n ∧ n ≤ 9223372036854775807 := by
  obtain ⟨xs, rfl, hsz⟩ := okWide_struct Tryd.underlying27 ok
  rw [show Tryd.prog.cellsOf 27 = 3 by kernel_rfl] at hsz
  obtain ⟨x, y, z, rfl⟩ : ∃ x y z, xs = #[x, y, z] := by
    obtain ⟨l⟩ := xs
    match l, hsz with
    | [x, y, z], _ => exact ⟨x, y, z, rfl⟩
  obtain ⟨_, hf⟩ := Rdg.fields (cs := [x, y, z]) g Tryd.underlying27 (by kernel_rfl)
  obtain ⟨u0, e0, r0⟩ := hf 0 3 (by kernel_rfl) (by simp)
  obtain ⟨u1, e1, r1⟩ := hf 1 3 (by kernel_rfl) (by simp)
  obtain ⟨u2, e2, r2⟩ := hf 2 9 (by kernel_rfl) (by simp)
  obtain ⟨k, ek, wk⟩ := r0.int Tryd.underlying3
  obtain ⟨n, en, wn⟩ := r1.int Tryd.underlying3
  obtain ⟨s, es, ls⟩ := r2.string Tryd.underlying9
  simp at e0 e1 e2 ek en es
  have hb := wf_i7 wn
  exact ⟨k, n, s, by rw [e0, e1, e2, ek, en, es], ls, hb.1, hb.2⟩
end Go.Proofs.YtgjmnlgjdgjdbaaDoor
/- A unit, and binds, among the arguments: what the reading gives. -/
namespace Go.Proofs.YtgjmnlgjdgjdbaaDoor
open Go.WideShapes Go.RowKit K P1
open D8 (Bd Un)
set_option linter.unusedVariables false
set_option maxRecDepth 1000000 in
theorem binds_of {w : World} {ao : Option Addr} {len cap : Nat} (h : Rdg Tryd.prog w 22 [.slice ao len cap]) :
    ∃ xs : List Bd, len = xs.length ∧ xs.length ≤ 140737488351232 ∧ RdB w ao xs ∧ Lim xs ∧ ((ao = none ∧ xs.length = 0 ∧ cap = 0) ∨ ∃ a, ao = some a) := by
  obtain ⟨xs, hl, hle, hr, hx⟩ := rdg_binds (ti := 3) (ts := 9) (tv := 27) h Tryd.underlying22 Tryd.underlying29 (by kernel_rfl) (by rw [show Tryd.prog.bytesOf 29 = 48 by kernel_rfl]; omega)
    rfl rfl rfl rfl rfl rfl (by kernel_rfl) (by kernel_rfl) Tryd.underlying27 (by kernel_rfl) (by kernel_rfl) (by kernel_rfl) (by kernel_rfl) Tryd.underlying3 Tryd.underlying9
  have hsh := Rdg.shape h Tryd.underlying22
  subst hl
  exact ⟨xs, rfl, hle, hr, fun x hx' => ⟨(hx x hx').1, (hx x hx').2.1, (hx x hx').2.2.1⟩, hsh⟩
set_option maxRecDepth 1000000 in
theorem argU {w : World} {B : Nat} {v : Value} (g : Rdg Tryd.prog w 37 v.cells.toList) (ok : Value.okWide Tryd.prog w .any B 37 v) :
    ∃ (u : Un) (ao : Option Addr) (cap : Nat), v = .agg #[.int .i64 u.t, .int .i64 u.r, .int .i64 u.a, .int .i64 u.i, .slice ao u.l.length cap] ∧ u.l.length ≤ 140737488351232 ∧ RdB w ao u.l ∧ Lim u.l ∧ ((ao = none ∧ u.l.length = 0 ∧ cap = 0) ∨ ∃ a, ao = some a) := by
  obtain ⟨xs, rfl, hsz⟩ := okWide_struct Tryd.underlying37 ok
  rw [show Tryd.prog.cellsOf 37 = 5 by kernel_rfl] at hsz
  obtain ⟨x0, x1, x2, x3, x4, rfl⟩ : ∃ x0 x1 x2 x3 x4, xs = #[x0, x1, x2, x3, x4] := by
    obtain ⟨l⟩ := xs
    match l, hsz with
    | [x0, x1, x2, x3, x4], _ => exact ⟨x0, x1, x2, x3, x4, rfl⟩
  obtain ⟨_, hf⟩ := Rdg.fields (cs := [x0, x1, x2, x3, x4]) g Tryd.underlying37 (by kernel_rfl)
  obtain ⟨u0, e0, r0⟩ := hf 0 3 (by kernel_rfl) (by simp)
  obtain ⟨u1, e1, r1⟩ := hf 1 3 (by kernel_rfl) (by simp)
  obtain ⟨u2, e2, r2⟩ := hf 2 3 (by kernel_rfl) (by simp)
  obtain ⟨u3, e3, r3⟩ := hf 3 3 (by kernel_rfl) (by simp)
  obtain ⟨u4, e4, r4⟩ := hf 4 22 (by kernel_rfl) (by simp)
  obtain ⟨n0, k0, _⟩ := r0.int Tryd.underlying3
  obtain ⟨n1, k1, _⟩ := r1.int Tryd.underlying3
  obtain ⟨n2, k2, _⟩ := r2.int Tryd.underlying3
  obtain ⟨n3, k3, _⟩ := r3.int Tryd.underlying3
  obtain ⟨ao, len, cap, k4, _⟩ := r4.slice (C := 4) Tryd.underlying22 (by kernel_rfl) (by omega)
  simp only [List.cons.injEq, and_true] at k0 k1 k2 k3 k4
  subst k4
  obtain ⟨ys, rfl, hle, hr, hx, hsh⟩ := binds_of r4
  simp at e0 e1 e2 e3 e4
  exact ⟨⟨n0, n1, n2, n3, ys⟩, ao, cap, by rw [e0, e1, e2, e3, e4, k0, k1, k2, k3], hle, hr, hx, hsh⟩
set_option maxRecDepth 1000000 in
theorem argL {w : World} {B : Nat} {v : Value} (g : Rdg Tryd.prog w 22 v.cells.toList) (ok : Value.okWide Tryd.prog w .any B 22 v) :
    ∃ (xs : List Bd) (ao : Option Addr) (cap : Nat), v = .slice ao xs.length cap ∧ xs.length ≤ 140737488351232 ∧ RdB w ao xs ∧ Lim xs ∧ ((ao = none ∧ xs.length = 0 ∧ cap = 0) ∨ ∃ a, ao = some a) := by
  obtain ⟨ao, len, cap, rfl⟩ := okWide_slice Tryd.underlying22 ok
  obtain ⟨ys, rfl, hle, hr, hx, hsh⟩ := binds_of g
  exact ⟨ys, ao, cap, rfl, hle, hr, hx, hsh⟩
end Go.Proofs.YtgjmnlgjdgjdbaaDoor
