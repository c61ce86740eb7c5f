/- Texts on the program and on the document, joined: Sbk, Book. -/
import Derived.Test.YtaeglmgpoboihaaGreatDoorMa19
import Derived.Test.YtaeglmgpoboihaaGreatDoorMa36
import Derived.WideShapes
import Derived.ChangeArms
import Derived.Test.YtaeglmgpoboihaaGreatDoorRows
import Derived.Test.YtaeglmgpoboihaaGreatDoorMa01
import Derived.ProofKit
/- A book among the arguments: what the reading gives. gen_sbk.py writes it. -/
namespace Go.Proofs.YtaeglmgpoboihaaGreatDoor
open Go.WideShapes Go.RowKit K L15
set_option linter.unusedVariables false
theorem rl_map {α β : Type} {R : List Value → α → Prop} {g : β → List Value} {k : β → α} : ∀ {l : List β}, (∀ i ∈ l, R (g i) (k i)) → RlR R (l.map g) (l.map k)
  | [], _ => trivial
  | x :: r, h => ⟨h x (by simp), rl_map fun i hi => h i (by simp [hi])⟩
theorem rl_all {α : Type} {R : List Value → α → Prop} {Q : α → Prop} (h : ∀ r s, R r s → Q s) : ∀ {rs : List (List Value)} {ss : List α}, RlR R rs ss → ∀ s ∈ ss, Q s
  | [], [], _ => fun s hs => by simp at hs
  | [], _ :: _, k => k.elim
  | _ :: _, [], k => k.elim
  | r :: rs, s :: ss, ⟨h1, h3⟩ => fun x hx => by
    rcases List.mem_cons.1 hx with rfl | hx
    · exact h _ _ h1
    · exact rl_all h h3 x hx
theorem rl_eq {α : Type} {R : List Value → α → Prop} {f : α → List Value} (h : ∀ r s, R r s → r = f s) : ∀ {rs : List (List Value)} {ss : List α}, RlR R rs ss → rs = ss.map f
  | [], [], _ => rfl
  | [], _ :: _, k => k.elim
  | _ :: _, [], k => k.elim
  | r :: rs, s :: ss, ⟨h1, h3⟩ => by rw [List.map_cons, h _ _ h1, rl_eq h h3]
theorem rdg_rows {P : Program} {w : World} {t e : TypeId} {α : Type} {R : List Value → α → Prop} {C : Nat} (x0 : α) {v : Value} (h : Rdg P w t [v]) (ht : P.underlying t = some (.slice e)) (hC : P.cellsOf e = C) (hpos : 0 < C) (hB : 0 < P.bytesOf e)
    (hel : ∀ cs : List Value, cs.length = C → Rdg P w e cs → ∃ x, R cs x) :
    ∃ (rows : List (List Value)) (xs : List α) (ao : Option Addr) (cap : Nat), v = .slice ao xs.length cap ∧ xs.length ≤ 140737488351232 ∧ RdR0 w C ao rows ∧ RlR R rows xs := by
  obtain ⟨ao, len, cap, hv, hlc, hcb, _, hr⟩ := h.slice ht hC hpos
  simp only [List.cons.injEq, and_true] at hv
  subst hv
  have hle : len ≤ 140737488351232 := by
    unfold reachBytes at hcb
    have := Nat.le_mul_of_pos_right cap hB
    omega
  rcases hr with h0 | ⟨b, off, f, rfl, hrow, hi⟩
  · subst h0
    exact ⟨[], [], ao, cap, rfl, by simp, .inl rfl, trivial⟩
  · have hty : ∀ i, i < len → ∃ x, R ((List.range C).map fun j => f (i * C + j)) x := fun i hl => hel _ (by simp) (hi i hl)
    refine ⟨(List.range len).map fun i => (List.range C).map fun j => f (i * C + j), (List.range len).map fun i => if hl : i < len then (hty i hl).choose else x0, _, cap, by simp, by simpa using hle, .inr ⟨b, off, rfl, hrow.1, fun i hl j hj => ?_⟩, rl_map fun i hm => ?_⟩
    · simp only [List.length_map, List.length_range] at hl
      have hlt : i * C + j < len * C := by
        have : (i + 1) * C ≤ len * C := Nat.mul_le_mul_right C hl
        rw [Nat.add_mul] at this
        omega
      rw [Nat.add_assoc, hrow.2 _ hlt]
      simp [List.getD, hl, hj]
    · have hl : i < len := List.mem_range.1 hm
      rw [dif_pos hl]
      exact (hty i hl).choose_spec
theorem pr_el {w : World} {cs : List Value} (hl : cs.length = 2) (g : Rdg Tryz.prog w 68 cs) : ∃ x : Pr, cs = prRow x ∧ x.n.length ≤ 140737488351232 ∧ x.v.length ≤ 140737488351232 := by
  obtain ⟨_, hf⟩ := g.fields Tryz.underlying68 (by kernel_rfl)
  obtain ⟨u0, e0, r0⟩ := hf 0 9 (by kernel_rfl) (by omega)
  obtain ⟨s0, k0, l0⟩ := r0.string Tryz.underlying9
  obtain ⟨u1, e1, r1⟩ := hf 1 9 (by kernel_rfl) (by omega)
  obtain ⟨s1, k1, l1⟩ := r1.string Tryz.underlying9
  simp only [List.cons.injEq, and_true] at k0 k1
  subst k0 k1
  unfold reachBytes at l0 l1
  refine ⟨⟨s0, s1⟩, ?_, l0, l1⟩
  refine List.ext_getElem? fun i => ?_
  match i with
  | 0 => rw [e0]; rfl
  | 1 => rw [e1]; rfl
  | i + 2 => rw [List.getElem?_eq_none (by omega)]; rfl
theorem ts_el {w : World} {cs : List Value} (hl : cs.length = 3) (g : Rdg Tryz.prog w 83 cs) : ∃ x : Ts, cs = tsRow x := by
  obtain ⟨_, hf⟩ := g.fields Tryz.underlying83 (by kernel_rfl)
  obtain ⟨u0, e0, r0⟩ := hf 0 9 (by kernel_rfl) (by omega)
  obtain ⟨s0, k0, l0⟩ := r0.string Tryz.underlying9
  obtain ⟨u1, e1, r1⟩ := hf 1 9 (by kernel_rfl) (by omega)
  obtain ⟨s1, k1, l1⟩ := r1.string Tryz.underlying9
  obtain ⟨u2, e2, r2⟩ := hf 2 4 (by kernel_rfl) (by omega)
  obtain ⟨s2, k2⟩ := r2.bool Tryz.underlying4
  simp only [List.cons.injEq, and_true] at k0 k1 k2
  subst k0 k1 k2
  refine ⟨⟨s0, s1, s2⟩, ?_⟩
  refine List.ext_getElem? fun i => ?_
  match i with
  | 0 => rw [e0]; rfl
  | 1 => rw [e1]; rfl
  | 2 => rw [e2]; rfl
  | i + 3 => rw [List.getElem?_eq_none (by omega)]; rfl
theorem pc_el {w : World} {cs : List Value} (hl : cs.length = 3) (g : Rdg Tryz.prog w 50 cs) : ∃ x : Pc, cs = pcRow x := by
  obtain ⟨_, hf⟩ := g.fields Tryz.underlying50 (by kernel_rfl)
  obtain ⟨u0, e0, r0⟩ := hf 0 3 (by kernel_rfl) (by omega)
  obtain ⟨s0, k0, l0⟩ := r0.int Tryz.underlying3
  obtain ⟨u1, e1, r1⟩ := hf 1 9 (by kernel_rfl) (by omega)
  obtain ⟨s1, k1, l1⟩ := r1.string Tryz.underlying9
  obtain ⟨u2, e2, r2⟩ := hf 2 9 (by kernel_rfl) (by omega)
  obtain ⟨s2, k2, l2⟩ := r2.string Tryz.underlying9
  simp only [List.cons.injEq, and_true] at k0 k1 k2
  subst k0 k1 k2
  refine ⟨⟨s0, s1, s2⟩, ?_⟩
  refine List.ext_getElem? fun i => ?_
  match i with
  | 0 => rw [e0]; rfl
  | 1 => rw [e1]; rfl
  | 2 => rw [e2]; rfl
  | i + 3 => rw [List.getElem?_eq_none (by omega)]; rfl
theorem wt_el {w : World} {cs : List Value} (hl : cs.length = 10) (g : Rdg Tryz.prog w 40 cs) : ∃ x : Wt, cs = wtRow x := by
  obtain ⟨_, hf⟩ := g.fields Tryz.underlying40 (by kernel_rfl)
  obtain ⟨u0, e0, r0⟩ := hf 0 9 (by kernel_rfl) (by omega)
  obtain ⟨s0, k0, l0⟩ := r0.string Tryz.underlying9
  obtain ⟨u1, e1, r1⟩ := hf 1 3 (by kernel_rfl) (by omega)
  obtain ⟨s1, k1, l1⟩ := r1.int Tryz.underlying3
  obtain ⟨u2, e2, r2⟩ := hf 2 3 (by kernel_rfl) (by omega)
  obtain ⟨s2, k2, l2⟩ := r2.int Tryz.underlying3
  obtain ⟨u3, e3, r3⟩ := hf 3 9 (by kernel_rfl) (by omega)
  obtain ⟨s3, k3, l3⟩ := r3.string Tryz.underlying9
  obtain ⟨u4, e4, r4⟩ := hf 4 9 (by kernel_rfl) (by omega)
  obtain ⟨s4, k4, l4⟩ := r4.string Tryz.underlying9
  obtain ⟨u5, e5, r5⟩ := hf 5 3 (by kernel_rfl) (by omega)
  obtain ⟨s5, k5, l5⟩ := r5.int Tryz.underlying3
  obtain ⟨u6, e6, r6⟩ := hf 6 3 (by kernel_rfl) (by omega)
  obtain ⟨s6, k6, l6⟩ := r6.int Tryz.underlying3
  obtain ⟨u7, e7, r7⟩ := hf 7 9 (by kernel_rfl) (by omega)
  obtain ⟨s7, k7, l7⟩ := r7.string Tryz.underlying9
  obtain ⟨u8, e8, r8⟩ := hf 8 3 (by kernel_rfl) (by omega)
  obtain ⟨s8, k8, l8⟩ := r8.int Tryz.underlying3
  obtain ⟨u9, e9, r9⟩ := hf 9 9 (by kernel_rfl) (by omega)
  obtain ⟨s9, k9, l9⟩ := r9.string Tryz.underlying9
  simp only [List.cons.injEq, and_true] at k0 k1 k2 k3 k4 k5 k6 k7 k8 k9
  subst k0 k1 k2 k3 k4 k5 k6 k7 k8 k9
  refine ⟨⟨s0, s1, s2, s3, s4, s5, s6, s7, s8, s9⟩, ?_⟩
  refine List.ext_getElem? fun i => ?_
  match i with
  | 0 => rw [e0]; rfl
  | 1 => rw [e1]; rfl
  | 2 => rw [e2]; rfl
  | 3 => rw [e3]; rfl
  | 4 => rw [e4]; rfl
  | 5 => rw [e5]; rfl
  | 6 => rw [e6]; rfl
  | 7 => rw [e7]; rfl
  | 8 => rw [e8]; rfl
  | 9 => rw [e9]; rfl
  | i + 10 => rw [List.getElem?_eq_none (by omega)]; rfl
def St0 : St := ⟨[], []⟩
theorem st_el {w : World} {cs : List Value} (hl : cs.length = 2) (g : Rdg Tryz.prog w 53 cs) : ∃ x : St, StR0 w cs x ∧ x.ps.length ≤ 140737488351232 := by
  obtain ⟨_, hf⟩ := g.fields Tryz.underlying53 (by kernel_rfl)
  obtain ⟨u0, e0, r0⟩ := hf 0 9 (by kernel_rfl) (by omega)
  obtain ⟨s0, k0, l0⟩ := r0.string Tryz.underlying9
  obtain ⟨u1, e1, r1⟩ := hf 1 51 (by kernel_rfl) (by omega)
  obtain ⟨rows, xs, ao, cap, rfl, hle, hr, hx⟩ := rdg_rows (R := fun cs x => cs = pcRow x) (⟨0, [], []⟩ : Pc) r1 Tryz.underlying51 (C := 3) (by kernel_rfl) (by omega) (by rw [show Tryz.prog.bytesOf 50 = 40 by kernel_rfl]; omega) (fun cs h g => pc_el h g)
  simp only [List.cons.injEq, and_true] at k0
  subst k0
  rw [rl_eq (fun r s h => h) hx] at hr
  refine ⟨⟨s0, xs⟩, ⟨ao, cap, ?_, hr⟩, hle⟩
  refine List.ext_getElem? fun i => ?_
  match i with
  | 0 => rw [e0]; rfl
  | 1 => rw [e1]; rfl
  | i + 2 => rw [List.getElem?_eq_none (by omega)]; rfl
theorem tb_el {w : World} {cs : List Value} (hl : cs.length = 4) (g : Rdg Tryz.prog w 34 cs) : ∃ x : Tb, (TbR0 w cs x ∧ x.n.length ≤ 140737488351232 ∧ x.e.length ≤ 140737488351232) ∧ x.ks.length ≤ 140737488351232 ∧ ∀ k ∈ x.ks, k.n.length ≤ 140737488351232 ∧ k.v.length ≤ 140737488351232 := by
  obtain ⟨_, hf⟩ := g.fields Tryz.underlying34 (by kernel_rfl)
  obtain ⟨u0, e0, r0⟩ := hf 0 9 (by kernel_rfl) (by omega)
  obtain ⟨s0, k0, l0⟩ := r0.string Tryz.underlying9
  obtain ⟨u1, e1, r1⟩ := hf 1 3 (by kernel_rfl) (by omega)
  obtain ⟨s1, k1, l1⟩ := r1.int Tryz.underlying3
  obtain ⟨u2, e2, r2⟩ := hf 2 32 (by kernel_rfl) (by omega)
  obtain ⟨rows, xs, ao, cap, rfl, hle, hr, hx⟩ := rdg_rows (R := fun cs x => cs = prRow x ∧ x.n.length ≤ 140737488351232 ∧ x.v.length ≤ 140737488351232) (⟨[], []⟩ : Pr) r2 Tryz.underlying32 (C := 2) (by kernel_rfl) (by omega) (by rw [show Tryz.prog.bytesOf 68 = 32 by kernel_rfl]; omega) (fun cs h g => pr_el h g)
  obtain ⟨u3, e3, r3⟩ := hf 3 9 (by kernel_rfl) (by omega)
  obtain ⟨s3, k3, l3⟩ := r3.string Tryz.underlying9
  simp only [List.cons.injEq, and_true] at k0 k1 k3
  subst k0 k1 k3
  rw [rl_eq (fun r s h => h.1) hx] at hr
  unfold reachBytes at l0 l3
  refine ⟨⟨s0, s1, xs, s3⟩, ⟨⟨ao, cap, ?_, hr⟩, l0, l3⟩, hle, rl_all (fun r s h => h.2) hx⟩
  refine List.ext_getElem? fun i => ?_
  match i with
  | 0 => rw [e0]; rfl
  | 1 => rw [e1]; rfl
  | 2 => rw [e2]; rfl
  | 3 => rw [e3]; rfl
  | i + 4 => rw [List.getElem?_eq_none (by omega)]; rfl
theorem ru_el {w : World} {cs : List Value} (hl : cs.length = 8) (g : Rdg Tryz.prog w 38 cs) : ∃ x : Ru, RuR0 w cs x ∧ x.ts.length ≤ 140737488351232 ∧ x.ss.length ≤ 140737488351232 ∧ ∀ s ∈ x.ss, s.ps.length ≤ 140737488351232 := by
  obtain ⟨_, hf⟩ := g.fields Tryz.underlying38 (by kernel_rfl)
  obtain ⟨u0, e0, r0⟩ := hf 0 9 (by kernel_rfl) (by omega)
  obtain ⟨s0, k0, l0⟩ := r0.string Tryz.underlying9
  obtain ⟨u1, e1, r1⟩ := hf 1 3 (by kernel_rfl) (by omega)
  obtain ⟨s1, k1, l1⟩ := r1.int Tryz.underlying3
  obtain ⟨u2, e2, r2⟩ := hf 2 3 (by kernel_rfl) (by omega)
  obtain ⟨s2, k2, l2⟩ := r2.int Tryz.underlying3
  obtain ⟨u3, e3, r3⟩ := hf 3 9 (by kernel_rfl) (by omega)
  obtain ⟨s3, k3, l3⟩ := r3.string Tryz.underlying9
  obtain ⟨u4, e4, r4⟩ := hf 4 4 (by kernel_rfl) (by omega)
  obtain ⟨s4, k4⟩ := r4.bool Tryz.underlying4
  obtain ⟨u5, e5, r5⟩ := hf 5 35 (by kernel_rfl) (by omega)
  obtain ⟨rt, ts, po, pc, rfl, hlt, hrt, hxt⟩ := rdg_rows (R := fun cs x => cs = tsRow x) (⟨[], [], false⟩ : Ts) r5 Tryz.underlying35 (C := 3) (by kernel_rfl) (by omega) (by rw [show Tryz.prog.bytesOf 83 = 40 by kernel_rfl]; omega) (fun cs h g => ts_el h g)
  obtain ⟨u6, e6, r6⟩ := hf 6 36 (by kernel_rfl) (by omega)
  obtain ⟨rs, ss, qo, qc, rfl, hls, hrs, hxs⟩ := rdg_rows (R := fun cs x => StR0 w cs x ∧ x.ps.length ≤ 140737488351232) St0 r6 Tryz.underlying36 (C := 2) (by kernel_rfl) (by omega) (by rw [show Tryz.prog.bytesOf 53 = 40 by kernel_rfl]; omega) (fun cs h g => st_el h g)
  obtain ⟨u7, e7, r7⟩ := hf 7 4 (by kernel_rfl) (by omega)
  obtain ⟨s7, k7⟩ := r7.bool Tryz.underlying4
  simp only [List.cons.injEq, and_true] at k0 k1 k2 k3 k4 k7
  subst k0 k1 k2 k3 k4 k7
  rw [rl_eq (fun r s h => h) hxt] at hrt
  refine ⟨⟨s0, s1, s2, s3, s4, ts, ss, s7⟩, ⟨po, pc, qo, qc, rs, ?_, hrt, hrs, RlR.imp (fun r s h => h.1) hxs⟩, hlt, hls, rl_all (fun r s h => h.2) hxs⟩
  refine List.ext_getElem? fun i => ?_
  match i with
  | 0 => rw [e0]; rfl
  | 1 => rw [e1]; rfl
  | 2 => rw [e2]; rfl
  | 3 => rw [e3]; rfl
  | 4 => rw [e4]; rfl
  | 5 => rw [e5]; rfl
  | 6 => rw [e6]; rfl
  | 7 => rw [e7]; rfl
  | i + 8 => rw [List.getElem?_eq_none (by omega)]; rfl
set_option maxRecDepth 1000000 in
/-- A book among the arguments. -/
theorem argB {w : World} {B : Nat} {v : Value} (g : Rdg Tryz.prog w 27 v.cells.toList) (ok : Value.okWide Tryz.prog w .any B 27 v) : ∃ (b : Bk) (ta ra wa : Option Addr) (tc rc wc : Nat) (rt rr : List (List Value)), v = .agg #[.slice ta b.tb.length tc, .slice ra b.ru.length rc, .slice wa b.wt.length wc] ∧ BkM b ∧ (∀ t ∈ b.tb, t.n.length ≤ 140737488351232 ∧ t.e.length ≤ 140737488351232) ∧ RdR0 w 4 ta rt ∧ RlR (TbR0 w) rt b.tb ∧ RdR0 w 8 ra rr ∧ RlR (RuR0 w) rr b.ru ∧ RdR0 w 10 wa (b.wt.map wtRow) ∧
    ((ta = none ∧ b.tb.length = 0 ∧ tc = 0) ∨ ∃ a, ta = some a) ∧ ((ra = none ∧ b.ru.length = 0 ∧ rc = 0) ∨ ∃ a, ra = some a) ∧ ((wa = none ∧ b.wt.length = 0 ∧ wc = 0) ∨ ∃ a, wa = some a) := by
  have hfs := Tryz.underlying27
  obtain ⟨hl, hf⟩ := g.fields hfs (by kernel_rfl)
  rw [show Tryz.prog.cellsOf 27 = 3 by kernel_rfl] at hl
  obtain ⟨u0, e0, r0⟩ := hf 0 23 (by kernel_rfl) (by omega)
  obtain ⟨u1, e1, r1⟩ := hf 1 24 (by kernel_rfl) (by omega)
  obtain ⟨u2, e2, r2⟩ := hf 2 25 (by kernel_rfl) (by omega)
  obtain ⟨rt, tb, ta, tc, rfl, l0, m0, x0⟩ := rdg_rows (R := fun cs x => (TbR0 w cs x ∧ x.n.length ≤ 140737488351232 ∧ x.e.length ≤ 140737488351232) ∧ x.ks.length ≤ 140737488351232 ∧ ∀ k ∈ x.ks, k.n.length ≤ 140737488351232 ∧ k.v.length ≤ 140737488351232) (⟨[], 0, [], []⟩ : Tb) r0 Tryz.underlying23 (C := 4) (by kernel_rfl) (by omega) (by rw [show Tryz.prog.bytesOf 34 = 64 by kernel_rfl]; omega) (fun cs h g => tb_el h g)
  obtain ⟨rr, ru, ra, rc, rfl, l1, m1, x1⟩ := rdg_rows (R := fun cs x => RuR0 w cs x ∧ x.ts.length ≤ 140737488351232 ∧ x.ss.length ≤ 140737488351232 ∧ ∀ s ∈ x.ss, s.ps.length ≤ 140737488351232) (⟨[], 0, 0, [], false, [], [], false⟩ : Ru) r1 Tryz.underlying24 (C := 8) (by kernel_rfl) (by omega) (by rw [show Tryz.prog.bytesOf 38 = 112 by kernel_rfl]; omega) (fun cs h g => ru_el h g)
  obtain ⟨rw', wt, wa, wc, rfl, l2, m2, x2⟩ := rdg_rows (R := fun cs x => cs = wtRow x) (⟨[], 0, 0, [], [], 0, 0, [], 0, []⟩ : Wt) r2 Tryz.underlying25 (C := 10) (by kernel_rfl) (by omega) (by rw [show Tryz.prog.bytesOf 40 = 120 by kernel_rfl]; omega) (fun cs h g => wt_el h g)
  rw [rl_eq (fun r s h => h) x2] at m2
  have hv : v = .agg #[.slice ta tb.length tc, .slice ra ru.length rc, .slice wa wt.length wc] := by
    obtain ⟨xs, rfl, hsz⟩ : ∃ xs : Array Value, v = .agg xs ∧ xs.size = Tryz.prog.cellsOf 27 := okWide_struct hfs ok
    have hx : xs.toList = [.slice ta tb.length tc, .slice ra ru.length rc, .slice wa wt.length wc] := by
      have hc : (Value.agg xs).cells.toList = xs.toList := rfl
      rw [hc] at hl e0 e1 e2
      refine List.ext_getElem? fun i => ?_
      match i with
      | 0 => rw [e0]; rfl
      | 1 => rw [e1]; rfl
      | 2 => rw [e2]; rfl
      | i + 3 => rw [List.getElem?_eq_none (by omega)]; rfl
    rw [← Array.toList_inj.1 (show xs.toList = (#[_, _, _] : Array Value).toList from hx)]
  exact ⟨⟨tb, ru, wt⟩, ta, ra, wa, tc, rc, wc, rt, rr, hv, ⟨⟨l0, l1, l2⟩, rl_all (fun r s h => h.2) x0, rl_all (fun r s h => h.2) x1⟩, rl_all (fun r s h => h.1.2) x0, m0, RlR.imp (fun r s h => h.1.1) x0, m1, RlR.imp (fun r s h => h.1) x1, m2, Rdg.shape r0 Tryz.underlying23, Rdg.shape r1 Tryz.underlying24, Rdg.shape r2 Tryz.underlying25⟩
end Go.Proofs.YtaeglmgpoboihaaGreatDoor
/- gongbook: Below, Cut. -/
namespace Go.Proofs.YtaeglmgpoboihaaGreatDoor
open Go.ChangeShapes Go.WideShapes Go.ChangeAt Go.RowKit K
set_option linter.unusedVariables false

/-- What Below answers. -/
def belowN (x n : Int) : Int := (x.tmod n + n) % n
theorem tmod_bounds (x n : Int) (hn : 0 < n) : -n < x.tmod n ∧ x.tmod n < n := by
  have h1 := Int.lt_tmod_of_pos x hn
  have h2 := Int.tmod_lt_of_pos x hn
  exact ⟨h1, h2⟩
theorem belowN_bounds (x n : Int) (hn : 0 < n) : 0 ≤ belowN x n ∧ belowN x n < n := by
  unfold belowN
  exact ⟨Int.emod_nonneg _ (by omega), Int.emod_lt_of_pos _ hn⟩
theorem below_walk (x n : Int) (h0 : -9223372036854775808 ≤ x) (h1 : x ≤ 9223372036854775807) (hn : 0 < n) (hn2 : n ≤ 4611686018427387904) (w : World) :
    Calls Tryz.prog 10 #[.int .i64 x, .int .i64 n] w fun e w' => e = .returned (.int .i64 (belowN x n)) ∧ w = w' := by
  have hb := tmod_bounds x n hn
  have hnz : (n == 0) = false := by rw [beq_eq_false_iff_ne]; omega
  obtain ⟨hb1, hb2⟩ := hb
  go_enter Tryz.func10, Tryz.ntmps10
  go_wp2
  go_ret
  exact ⟨rfl, rfl⟩

end Go.Proofs.YtaeglmgpoboihaaGreatDoor
