/- Texts on the program and on the document, joined: TrqG, TrqH, TrqZ, Arr, Stv, Stu, Stt. -/
import Derived.Test.YtmdibafofdghgaaGreatDoorMa38
import Derived.Test.YtmdibafofdghgaaGreatDoorMa41
import Derived.Test.YtmdibafofdghgaaGreatDoorMa33
import Derived.Test.YtmdibafofdghgaaGreatDoorMa35
import Derived.Test.YtmdibafofdghgaaGreatDoorMa13
import Derived.OpenShut
import Derived.Test.YtmdibafofdghgaaGreatDoorMa12
import Derived.Test.YtmdibafofdghgaaGreatDoorMa14
import Derived.WideShapes
import Derived.Test.YtmdibafofdghgaaGreatDoorMa27
import Derived.Test.YtmdibafofdghgaaGreatDoorMa31
/- The program's Decode of traps, walked. -/
namespace Go.Proofs.YtmdibafofdghgaaGreatDoor
open Go.ChangeShapes Go.WideShapes Go.ChangeAt Go.RowKit K P1 B5
open D8 (Bd Un lst deU)
open T9 (Tr bU bI msg msgB ofU m3 deM)
set_option linter.unusedVariables false

set_option maxRecDepth 100000 in
set_option maxHeartbeats 4000000 in
theorem decode9_walk (s : List UInt8) (hs : s.length ≤ 1000000) (known : List (List UInt8)) (ko : Option Addr) (kc : Nat) (hk : known.length ≤ 1000000) (w : World) (T : Tw w) (hko : RdS w ko known) :
    Calls Tryz.prog 10 #[.string (bs s), .slice ko known.length kc] w (DtPost s known w) := by
  have HNo := Lib.hid (fun (h : s.length ≤ 65535 → deM s = none) (w' : World) (k : Below w.heap.size w w') => DtPost.no (known := known) h k)
  obtain ⟨w2, hw2, ht, hb⟩ := trap_block w
  have HW := Lib.hid hw2
  have HR := Lib.hid (fun w1 (T1 : Tw w1) => read9_walk s (by omega) w1 T1)
  unfold RePost at HR
  have HT := Lib.hid (T.below hb)
  have hko2 := hko.below hb
  clear hw2 T hko
  go_enter Tryz.func10, Tryz.ntmps10
  go_wp2_with fail
  rw [HW.out]
  refine (HR.out _ HT.out).mono ?_
  rintro e w3 ⟨t, ao, cap, ok, rfl, hr, d3, hyes, hno⟩
  have a3 := alloc_in w3 (.cells #[.string (bs t.c), .bool t.f, .int .i64 t.r, .int .i64 t.n, .string (bs t.o), .slice ao t.l.length cap] 27)
  have hu := Tq.new w3 t ao cap
  replace ht := (ht.below d3).below a3
  replace hb := (hb.trans (d3.mono hb.size)).trans (a3.mono (hb.trans (d3.mono hb.size)).size)
  replace hr := hr.below a3
  replace hko2 := (hko2.below d3).below a3
  clear d3 a3 HR HT HW
  cases ok
  · have HE := Lib.hid (hno rfl)
    clear hyes hno hu hr hko2
    have PX := ht.set not9 none 0
    have bb := below_set6 hb (b := w.heap.size) (Nat.le_refl _) (.string (bs [])) (.bool false) (.int .i64 0) (.int .i64 0) (.string (bs [])) (.slice none 0 0)
    obtain ⟨c0, c1, c2, c3, c4, c5⟩ := ht.cells
    have f0 := ht.free 0
    have f1 := ht.free 1
    have f2 := ht.free 2
    have f3 := ht.free 3
    have f4 := ht.free 4
    have f5 := ht.free 5
    clear ht hb
    go_wp2
    refine bodyPost_ret (results_cell_row2 rfl _ _ w.heap.size _ _ _ _ rfl PX Tryz.underlying27 rfl (by kernel_rfl)) rfl ?_
    exact HNo.out HE.out _ bb
  · obtain ⟨h65, hdm⟩ := hyes rfl
    obtain ⟨y0, y1, y2, y3, y4, y5⟩ := hu.cells
    have hC := fun w1 (h : RdS w1 ko known) => contains_walk t.c known ko kc (by omega) w1 h
    have hD := dt_yes h65 hdm known
    cases hkn : knows known t.c
    · rw [hkn] at hC hD
      have HC := Lib.hid hC
      have HD := Lib.hid hD
      clear hC hD hkn hdm h65 hyes hno
      go_wp2_with fail
      refine (HC.out _ hko2).mono ?_
      rintro e w4 ⟨rfl, rfl⟩
      clear y0 y1 y2 y3 y4 y5 hko2 hr HC
      have PX := ht.set not9 none 0
      have bb := below_set6 hb (b := w.heap.size) (Nat.le_refl _) (.string (bs [])) (.bool false) (.int .i64 0) (.int .i64 0) (.string (bs [])) (.slice none 0 0)
      obtain ⟨c0, c1, c2, c3, c4, c5⟩ := ht.cells
      have f0 := ht.free 0
      have f1 := ht.free 1
      have f2 := ht.free 2
      have f3 := ht.free 3
      have f4 := ht.free 4
      have f5 := ht.free 5
      clear ht hb
      go_wp2
      refine bodyPost_ret (results_cell_row2 rfl _ _ w.heap.size _ _ _ _ rfl PX Tryz.underlying27 rfl (by kernel_rfl)) rfl ?_
      refine ⟨none, 0, ?_, ?_, bb⟩
      · rw [HD.out.1, HD.out.2]; rfl
      · rw [HD.out.1]; exact .inl rfl
    · rw [hkn] at hC hD
      have HC := Lib.hid hC
      have HD := Lib.hid hD
      clear hC hD hkn hdm h65 hyes hno
      go_wp2_with fail
      refine (HC.out _ hko2).mono ?_
      rintro e w4 ⟨rfl, rfl⟩
      have PX := ht.set t ao cap
      have bb := below_set6 hb (b := w.heap.size) (Nat.le_refl _) (.string (bs t.c)) (.bool t.f) (.int .i64 t.r) (.int .i64 t.n) (.string (bs t.o)) (.slice ao t.l.length cap)
      obtain ⟨c0, c1, c2, c3, c4, c5⟩ := ht.cells
      have f0 := ht.free 0
      have f1 := ht.free 1
      have f2 := ht.free 2
      have f3 := ht.free 3
      have f4 := ht.free 4
      have f5 := ht.free 5
      have HRR := Lib.hid (And.intro hr ht)
      clear hb hko2 HC hr ht
      go_wp2
      refine bodyPost_ret (results_cell_row2 rfl _ _ w.heap.size _ _ _ _ rfl PX Tryz.underlying27 rfl (by kernel_rfl)) rfl ?_
      refine ⟨ao, cap, ?_, ?_, bb⟩
      · rw [HD.out.1, HD.out.2]; rfl
      · rw [HD.out.1]
        exact HRR.out.1.set6 HRR.out.2 _ _ _ _ _ _
end Go.Proofs.YtmdibafofdghgaaGreatDoor
/- The program's Same of traps, walked. -/
namespace Go.Proofs.YtmdibafofdghgaaGreatDoor
open Go.ChangeShapes Go.WideShapes Go.ChangeAt Go.RowKit K P1 B5
open D8 (Bd Un lst deU)
open T9 (Tr bU bI msg msgB ofU m3 deM)
set_option linter.unusedVariables false

theorem sameT_un (t u : Tr) : sameT t u = ((t.c == u.c) && sameU t.un u.un) := by
  rw [Bool.eq_iff_iff, sameT_iff, Bool.and_eq_true, beq_iff_eq]
  constructor
  · rintro rfl
    exact ⟨rfl, sameU_self _⟩
  · rintro ⟨h1, h2⟩
    unfold sameU at h2
    simp only [Bool.and_eq_true, beq_iff_eq, sameL_iff] at h2
    obtain ⟨c, f, r, n, o, l⟩ := t
    obtain ⟨c', f', r', n', o', l'⟩ := u
    obtain ⟨h2, h3, _, _, h6⟩ := h2
    have hf : f = f' := by
      cases f <;> cases f' <;> first | rfl | (simp [Tr.un, Tr.as, Tr.tag] at h2)
    simp only [Tr.un, Tr.as, List.cons.injEq, bU, bI, D8.Bd.mk.injEq, true_and, and_true] at h1 h3 h6
    obtain ⟨h7, h8, h9⟩ := h6
    rw [h1, hf, h3, h7, h8, h9]
theorem twelveP {w x : World} {t u : Tr} {ao bo : Option Addr} {ca cb : Nat} (ht : Tq x w.heap.size t ao ca) (hu : Tq x (w.heap.size + 1) u bo cb) : x.cell? ⟨w.heap.size, 0, none⟩ = some (.string (bs t.c)) ∧ x.cell? ⟨w.heap.size, 1, none⟩ = some (.bool t.f) ∧ x.cell? ⟨w.heap.size, 2, none⟩ = some (.int .i64 t.r) ∧ x.cell? ⟨w.heap.size, 3, none⟩ = some (.int .i64 t.n) ∧ x.cell? ⟨w.heap.size, 4, none⟩ = some (.string (bs t.o)) ∧ x.cell? ⟨w.heap.size, 5, none⟩ = some (.slice ao t.l.length ca) ∧ x.cell? ⟨w.heap.size + 1, 0, none⟩ = some (.string (bs u.c)) ∧ x.cell? ⟨w.heap.size + 1, 1, none⟩ = some (.bool u.f) ∧ x.cell? ⟨w.heap.size + 1, 2, none⟩ = some (.int .i64 u.r) ∧ x.cell? ⟨w.heap.size + 1, 3, none⟩ = some (.int .i64 u.n) ∧ x.cell? ⟨w.heap.size + 1, 4, none⟩ = some (.string (bs u.o)) ∧ x.cell? ⟨w.heap.size + 1, 5, none⟩ = some (.slice bo u.l.length cb) := by
  obtain ⟨a0, a1, a2, a3, a4, a5⟩ := ht.cells
  obtain ⟨b0, b1, b2, b3, b4, b5⟩ := hu.cells
  exact ⟨a0, a1, a2, a3, a4, a5, b0, b1, b2, b3, b4, b5⟩
set_option maxRecDepth 100000 in
set_option maxHeartbeats 4000000 in
theorem same9_walk (t u : Tr) (ao bo : Option Addr) (ca cb : Nat) (hl : t.l.length * 48 ≤ 140737488351280) (hl2 : u.l.length * 48 ≤ 140737488351280) (w : World) (hr : RdB w ao t.l) (hs : RdB w bo u.l) :
    Calls Tryz.prog 21 #[.agg #[.string (bs t.c), .bool t.f, .int .i64 t.r, .int .i64 t.n, .string (bs t.o), .slice ao t.l.length ca], .agg #[.string (bs u.c), .bool u.f, .int .i64 u.r, .int .i64 u.n, .string (bs u.o), .slice bo u.l.length cb]] w fun e w' => e = .returned (.bool (sameT t u)) ∧ Below w.heap.size w w' := by
  obtain ⟨w2, hw2, ht, hu, bw⟩ := two_traps w t u ao bo ca cb
  have HW := Lib.hid hw2
  have hr2 := hr.below bw
  have hs2 := hs.below bw
  have HU := Lib.hid (fun w1 (h : RdB w1 ao t.l) => unit9_walk t ao ca hl w1 h)
  have HV := Lib.hid (fun w1 (h : RdB w1 bo u.l) => unit9_walk u bo cb hl2 w1 h)
  have hS : ∀ p cp q cq w1, RdB w1 p (t.as 0).l → RdB w1 q (u.as 0).l → Calls Tryz.prog 24 #[.agg #[.int .i64 t.tag, .int .i64 t.r, .int .i64 0, .int .i64 0, .slice p (t.l.length + 2) cp], .agg #[.int .i64 u.tag, .int .i64 u.r, .int .i64 0, .int .i64 0, .slice q (u.l.length + 2) cq]] w1 fun e w' => e = .returned (.bool (sameU t.un u.un)) ∧ Below w1.heap.size w1 w' :=
    fun p cp q cq w1 h1 h2 => same8_walk t.un u.un p q cp cq (show t.l.length + 2 ≤ _ by omega) (show u.l.length + 2 ≤ _ by omega) w1 h1 h2
  have HS := Lib.hid hS
  rw [sameT_un]
  clear hw2 hr hs hS
  by_cases h0 : t.c = u.c
  rotate_left
  · rw [show (t.c == u.c) = false from beq_eq_false_iff_ne.2 h0, Bool.false_and]
    have et : decide (bs t.c = bs u.c) = false := decide_eq_false (fun k => h0 (bs_inj k))
    have h0' : (t.c == u.c) = false := beq_eq_false_iff_ne.2 h0
    obtain ⟨z0, z1, z2, z3, z4, z5⟩ := ht.cells
    obtain ⟨y0, y1, y2, y3, y4, y5⟩ := hu.cells
    clear h0 HU HV HS
    go_enter Tryz.func21, Tryz.ntmps21
    go_wp2_with fail
    rw [HW.out]
    first
      | (go_region_with (fail))
      | fail
    all_goals
      go_wp2
      go_ret
      exact ⟨rfl, ⟨bw.os, bw.tape, bw.output, bw.size, bw.block⟩⟩
  · rw [show (t.c == u.c) = true from beq_iff_eq.2 h0, Bool.true_and]
    have h0' : (t.c == u.c) = true := beq_iff_eq.2 h0
    have et : decide (bs t.c = bs u.c) = true := decide_eq_true (by rw [h0])
    clear h0
    generalize sameU t.un u.un = SU at *
    have zS := twelveP (w := w) ht hu
    have HR := Lib.hid hr2
    have HR2 := Lib.hid hs2
    clear hr2 hs2
    go_enter Tryz.func21, Tryz.ntmps21
    go_wp2_with fail
    rw [HW.out]
    go_region_held3 (fun x => x.cell? ⟨w.heap.size, 0, none⟩ = some (.string (bs t.c)) ∧ x.cell? ⟨w.heap.size, 1, none⟩ = some (.bool t.f) ∧ x.cell? ⟨w.heap.size, 2, none⟩ = some (.int .i64 t.r) ∧ x.cell? ⟨w.heap.size, 3, none⟩ = some (.int .i64 t.n) ∧ x.cell? ⟨w.heap.size, 4, none⟩ = some (.string (bs t.o)) ∧ x.cell? ⟨w.heap.size, 5, none⟩ = some (.slice ao t.l.length ca) ∧ x.cell? ⟨w.heap.size + 1, 0, none⟩ = some (.string (bs u.c)) ∧ x.cell? ⟨w.heap.size + 1, 1, none⟩ = some (.bool u.f) ∧ x.cell? ⟨w.heap.size + 1, 2, none⟩ = some (.int .i64 u.r) ∧ x.cell? ⟨w.heap.size + 1, 3, none⟩ = some (.int .i64 u.n) ∧ x.cell? ⟨w.heap.size + 1, 4, none⟩ = some (.string (bs u.o)) ∧ x.cell? ⟨w.heap.size + 1, 5, none⟩ = some (.slice bo u.l.length cb)) (first | exact zS | exact zS1 | exact zS2 | exact zS3)
      (first
        | (go_at_call 34; (with_reducible refine Calls.mono (HU.out _ ?_) ?_); exact HR.out; rintro e x1 ⟨pa, ca1, rfl, r1, j1⟩; have k1 : Below w2.heap.size w2 x1 := ⟨j1.os, j1.tape, j1.output, j1.size, j1.block⟩; have ht1 := ht.below k1; have hu1 := hu.below k1; have b1 := bw.trans (k1.mono bw.size); have zS1 := twelveP (w := w) ht1 hu1; have HR3 := Lib.hid (HR2.out.below k1))
        | (go_at_call 34; (with_reducible refine Calls.mono (HV.out _ ?_) ?_); exact HR3.out; rintro e x2 ⟨pb, cb1, rfl, r2, j2⟩; have k2 : Below x1.heap.size x1 x2 := ⟨j2.os, j2.tape, j2.output, j2.size, j2.block⟩; have ht2 := ht1.below k2; have hu2 := hu1.below k2; have b2 := b1.trans (k2.mono b1.size); have zS2 := twelveP (w := w) ht2 hu2; have HR4 := Lib.hid (r1.below k2))
        | (go_at_call 24; (with_reducible refine Calls.mono (HS.out _ _ _ _ _ ?_ ?_) ?_); exact HR4.out; exact r2; rintro e x3 ⟨rfl, j3⟩; have k3 : Below x2.heap.size x2 x3 := ⟨j3.os, j3.tape, j3.output, j3.size, j3.block⟩; have b3 := b2.trans (k3.mono b2.size); have zS3 := twelveP (w := w) (ht2.below k3) (hu2.below k3)))
    all_goals
      go_wp2
      go_ret
      exact ⟨rfl, b3⟩
end Go.Proofs.YtmdibafofdghgaaGreatDoor
/- What the program's trap calls are known to answer: all that the laws ask of them. -/
namespace Go.Proofs.YtmdibafofdghgaaGreatDoor
open Go.ChangeShapes Go.WideShapes Go.ChangeAt Go.RowKit K P1 B5
set_option linter.unusedVariables false
theorem trp_ok : TrpOk Tw where
  keep := fun a b h k => h.below k
  tp := fun w h => h.1
  check := fun t ao cap w hx _ T hr => check9_walk t ao cap hx w T hr
  encode := fun t ao cap w hx _ T hr => encode9_walk t ao cap hx w T hr
  answer := fun t ao cap w hx _ T hr => answer9_walk t ao cap hx w T hr
  decode := fun s known ko kc w hs hk T hr => decode9_walk s hs known ko kc hk w T hr
  same := fun t u ao bo cap cb w hl hl2 T hr hs => same9_walk t u ao bo cap cb hl hl2 w hr hs
end Go.Proofs.YtmdibafofdghgaaGreatDoor
/- An array among the arguments, and a slice that is nil or not: what the reading gives. Of no program. -/
namespace Go.Proofs.YtmdibafofdghgaaGreatDoor
open Go.RowKit
namespace K
set_option linter.unusedVariables false
section
variable {P : Program} {w : World} {t e : TypeId} {cs : List Value}
theorem okWide_agg {n : Nat} {r : Reach} {base : Nat} {v : Value} (ht : P.underlying t = some (.array n e)) (h : Value.okWide P w r base t v) : ∃ xs : Array Value, v = .agg xs ∧ xs.size = P.cellsOf t := by
  unfold Value.okWide at h
  rw [ht] at h
  obtain ⟨xs, h1, h2, _⟩ := h
  exact ⟨xs, h1, h2⟩
theorem Rdg.array {n : Nat} (h : Rdg P w t cs) (ht : P.underlying t = some (.array n e)) :
    cs.length = P.cellsOf t ∧ ∀ i, i < n → Rdg P w e ((cs.drop (i * P.cellsOf e)).take (P.cellsOf e)) := by
  obtain ⟨H, enc, fuel, x, hx, hw⟩ := h
  obtain ⟨xs, m, _, hxx, hl, hn, hf⟩ := DataW.trod_array ht hx
  refine ⟨hl, fun i hi => ?_⟩
  have h1 := hf i hi
  have hil : i < xs.length := by omega
  rw [List.getElem?_eq_getElem hil] at h1
  refine ⟨H, enc, m, _, h1, fun q hq => hw q ?_⟩
  subst hxx
  simp only [DataW.weights, ht]
  have hrep : ∀ (ds : List (DataW H)) (i : Nat) (d : DataW H), ds[i]? = some d → ∀ q ∈ d.weights P e, q ∈ DataW.weightsAll P e ds := by
    intro ds
    induction ds with
    | nil => intro i d h; simp at h
    | cons a ds ih =>
      intro i d h q hq
      cases i with
      | zero => simp at h; subst h; simp [DataW.weightsAll, hq]
      | succ i => simp at h; simp [DataW.weightsAll, ih i d h q hq]
  exact hrep _ i _ (by simp [List.getElem?_eq_getElem hil]) q hq
/-- Two texts. -/
theorem Rdg.strs2 {x y : Value} (h : Rdg P w t [x, y]) (ht : P.underlying t = some (.array 2 e)) (he : P.underlying e = some .string) (hC : P.cellsOf e = 1) :
    ∃ a b : List UInt8, x = .string (bs a) ∧ y = .string (bs b) ∧ a.length ≤ reachBytes ∧ b.length ≤ reachBytes := by
  obtain ⟨_, hf⟩ := h.array ht
  rw [hC] at hf
  obtain ⟨a, ea, la⟩ := (show Rdg P w e [x] from hf 0 (by omega)).string he
  obtain ⟨b, eb, lb⟩ := (show Rdg P w e [y] from hf 1 (by omega)).string he
  simp at ea eb
  exact ⟨a, b, ea, eb, la, lb⟩
/-- A slice is nil, or has a place. -/
theorem Rdg.shape {ao : Option Addr} {len cap : Nat} (h : Rdg P w t [.slice ao len cap]) (ht : P.underlying t = some (.slice e)) : (ao = none ∧ len = 0 ∧ cap = 0) ∨ ∃ a, ao = some a := by
  obtain ⟨H, enc, fuel, x, hx, hw⟩ := h
  rcases Deep.open_slice ht hx with ⟨h1, _⟩ | ⟨a, len', cap', m, n, D, Pl, hcs, _⟩
  · simp at h1; exact .inl h1
  · simp at hcs; exact .inr ⟨a, hcs.1⟩
end
end K
end Go.Proofs.YtmdibafofdghgaaGreatDoor
/- A value among the arguments: what the reading gives. -/
namespace Go.Proofs.YtmdibafofdghgaaGreatDoor
open Go.RowKit K P1
set_option linter.unusedVariables false
theorem wf_i7 {t : Int} (wt : (Lit.int .i64 t).wf = true) : -9223372036854775808 ≤ t ∧ t ≤ 9223372036854775807 := by
  simp [Lit.wf, IntKind.min, IntKind.max, IntKind.bits, IntKind.signed] at wt; omega
theorem wf_u64 {t : Int} (wt : (Lit.int .u64 t).wf = true) : ∃ n : Nat, t = (n : Nat) ∧ n < 18446744073709551616 := by
  have h : 0 ≤ t ∧ t ≤ 18446744073709551615 := by
    simp [Lit.wf, IntKind.min, IntKind.max, IntKind.bits, IntKind.signed] at wt; omega
  exact ⟨t.toNat, by omega, by omega⟩
theorem okWide_struct {P : Program} {w : World} {t : TypeId} {fs : Array Field} {r : Reach} {base : Nat} {v : Value} (ht : P.underlying t = some (.struct fs)) (h : Value.okWide P w r base t v) : ∃ xs : Array Value, v = .agg xs ∧ xs.size = P.cellsOf t := by
  unfold Value.okWide at h
  rw [ht] at h
  obtain ⟨xs, h1, h2, _⟩ := h
  exact ⟨xs, h1, h2⟩
set_option maxRecDepth 1000000 in
/-- A value of api: its kind, its number, its text. -/
theorem argV {w : World} {B : Nat} {v : Value} (g : Rdg Tryz.prog w 46 v.cells.toList) (ok : Value.okWide Tryz.prog w .any B 46 v) :
    ∃ (k n : Int) (s : List UInt8), v = .agg #[.int .i64 k, .int .i64 n, .string (bs s)] ∧ s.length ≤ reachBytes ∧ -9223372036854775808 ≤ n ∧ n ≤ 9223372036854775807 := by
  obtain ⟨xs, rfl, hsz⟩ := okWide_struct Tryz.underlying46 ok
  rw [show Tryz.prog.cellsOf 46 = 3 by kernel_rfl] at hsz
  obtain ⟨x, y, z, rfl⟩ : ∃ x y z, xs = #[x, y, z] := by
    obtain ⟨l⟩ := xs
    match l, hsz with
    | [x, y, z], _ => exact ⟨x, y, z, rfl⟩
  obtain ⟨_, hf⟩ := Rdg.fields (cs := [x, y, z]) g Tryz.underlying46 (by kernel_rfl)
  obtain ⟨u0, e0, r0⟩ := hf 0 3 (by kernel_rfl) (by simp)
  obtain ⟨u1, e1, r1⟩ := hf 1 3 (by kernel_rfl) (by simp)
  obtain ⟨u2, e2, r2⟩ := hf 2 9 (by kernel_rfl) (by simp)
  obtain ⟨k, ek, wk⟩ := r0.int Tryz.underlying3
  obtain ⟨n, en, wn⟩ := r1.int Tryz.underlying3
  obtain ⟨s, es, ls⟩ := r2.string Tryz.underlying9
  simp at e0 e1 e2 ek en es
  have hb := wf_i7 wn
  exact ⟨k, n, s, by rw [e0, e1, e2, ek, en, es], ls, hb.1, hb.2⟩
end Go.Proofs.YtmdibafofdghgaaGreatDoor
/- A unit, and binds, among the arguments: what the reading gives. -/
namespace Go.Proofs.YtmdibafofdghgaaGreatDoor
open Go.WideShapes Go.RowKit K P1
open D8 (Bd Un)
set_option linter.unusedVariables false
set_option maxRecDepth 1000000 in
theorem binds_of {w : World} {ao : Option Addr} {len cap : Nat} (h : Rdg Tryz.prog w 25 [.slice ao len cap]) :
    ∃ xs : List Bd, len = xs.length ∧ xs.length ≤ 140737488351232 ∧ RdB w ao xs ∧ Lim xs ∧ ((ao = none ∧ xs.length = 0 ∧ cap = 0) ∨ ∃ a, ao = some a) := by
  obtain ⟨xs, hl, hle, hr, hx⟩ := rdg_binds (ti := 3) (ts := 9) (tv := 46) h Tryz.underlying25 Tryz.underlying48 (by kernel_rfl) (by rw [show Tryz.prog.bytesOf 48 = 48 by kernel_rfl]; omega)
    rfl rfl rfl rfl rfl rfl (by kernel_rfl) (by kernel_rfl) Tryz.underlying46 (by kernel_rfl) (by kernel_rfl) (by kernel_rfl) (by kernel_rfl) Tryz.underlying3 Tryz.underlying9
  have hsh := Rdg.shape h Tryz.underlying25
  subst hl
  exact ⟨xs, rfl, hle, hr, fun x hx' => ⟨(hx x hx').1, (hx x hx').2.1, (hx x hx').2.2.1⟩, hsh⟩
set_option maxRecDepth 1000000 in
theorem argU {w : World} {B : Nat} {v : Value} (g : Rdg Tryz.prog w 41 v.cells.toList) (ok : Value.okWide Tryz.prog w .any B 41 v) :
    ∃ (u : Un) (ao : Option Addr) (cap : Nat), v = .agg #[.int .i64 u.t, .int .i64 u.r, .int .i64 u.a, .int .i64 u.i, .slice ao u.l.length cap] ∧ u.l.length ≤ 140737488351232 ∧ RdB w ao u.l ∧ Lim u.l ∧ ((ao = none ∧ u.l.length = 0 ∧ cap = 0) ∨ ∃ a, ao = some a) := by
  obtain ⟨xs, rfl, hsz⟩ := okWide_struct Tryz.underlying41 ok
  rw [show Tryz.prog.cellsOf 41 = 5 by kernel_rfl] at hsz
  obtain ⟨x0, x1, x2, x3, x4, rfl⟩ : ∃ x0 x1 x2 x3 x4, xs = #[x0, x1, x2, x3, x4] := by
    obtain ⟨l⟩ := xs
    match l, hsz with
    | [x0, x1, x2, x3, x4], _ => exact ⟨x0, x1, x2, x3, x4, rfl⟩
  obtain ⟨_, hf⟩ := Rdg.fields (cs := [x0, x1, x2, x3, x4]) g Tryz.underlying41 (by kernel_rfl)
  obtain ⟨u0, e0, r0⟩ := hf 0 3 (by kernel_rfl) (by simp)
  obtain ⟨u1, e1, r1⟩ := hf 1 3 (by kernel_rfl) (by simp)
  obtain ⟨u2, e2, r2⟩ := hf 2 3 (by kernel_rfl) (by simp)
  obtain ⟨u3, e3, r3⟩ := hf 3 3 (by kernel_rfl) (by simp)
  obtain ⟨u4, e4, r4⟩ := hf 4 25 (by kernel_rfl) (by simp)
  obtain ⟨n0, k0, _⟩ := r0.int Tryz.underlying3
  obtain ⟨n1, k1, _⟩ := r1.int Tryz.underlying3
  obtain ⟨n2, k2, _⟩ := r2.int Tryz.underlying3
  obtain ⟨n3, k3, _⟩ := r3.int Tryz.underlying3
  obtain ⟨ao, len, cap, k4, _⟩ := r4.slice (C := 4) Tryz.underlying25 (by kernel_rfl) (by omega)
  simp only [List.cons.injEq, and_true] at k0 k1 k2 k3 k4
  subst k4
  obtain ⟨ys, rfl, hle, hr, hx, hsh⟩ := binds_of r4
  simp at e0 e1 e2 e3 e4
  exact ⟨⟨n0, n1, n2, n3, ys⟩, ao, cap, by rw [e0, e1, e2, e3, e4, k0, k1, k2, k3], hle, hr, hx, hsh⟩
set_option maxRecDepth 1000000 in
theorem argL {w : World} {B : Nat} {v : Value} (g : Rdg Tryz.prog w 25 v.cells.toList) (ok : Value.okWide Tryz.prog w .any B 25 v) :
    ∃ (xs : List Bd) (ao : Option Addr) (cap : Nat), v = .slice ao xs.length cap ∧ xs.length ≤ 140737488351232 ∧ RdB w ao xs ∧ Lim xs ∧ ((ao = none ∧ xs.length = 0 ∧ cap = 0) ∨ ∃ a, ao = some a) := by
  obtain ⟨ao, len, cap, rfl⟩ := okWide_slice Tryz.underlying25 ok
  obtain ⟨ys, rfl, hle, hr, hx, hsh⟩ := binds_of g
  exact ⟨ys, ao, cap, rfl, hle, hr, hx, hsh⟩
end Go.Proofs.YtmdibafofdghgaaGreatDoor
/- A trap among the arguments: what the reading gives. -/
namespace Go.Proofs.YtmdibafofdghgaaGreatDoor
open Go.WideShapes Go.RowKit K P1
open D8 (Bd Un)
open T9 (Tr)
set_option linter.unusedVariables false
set_option maxRecDepth 1000000 in
theorem argT {w : World} {B : Nat} {v : Value} (g : Rdg Tryz.prog w 27 v.cells.toList) (ok : Value.okWide Tryz.prog w .any B 27 v) :
    ∃ (t : Tr) (ao : Option Addr) (cap : Nat), v = .agg #[.string (bs t.c), .bool t.f, .int .i64 t.r, .int .i64 t.n, .string (bs t.o), .slice ao t.l.length cap] ∧ t.c.length ≤ 140737488351232 ∧ t.o.length ≤ 140737488351232 ∧ t.l.length * 48 ≤ 140737488351232 ∧ t.fits ∧ (-9223372036854775808 ≤ t.r ∧ t.r ≤ 9223372036854775807) ∧ RdB w ao t.l ∧ Lim t.l ∧ ((ao = none ∧ t.l.length = 0 ∧ cap = 0) ∨ ∃ a, ao = some a) := by
  obtain ⟨xs, rfl, hsz⟩ := okWide_struct Tryz.underlying27 ok
  rw [show Tryz.prog.cellsOf 27 = 6 by kernel_rfl] at hsz
  obtain ⟨x0, x1, x2, x3, x4, x5, rfl⟩ : ∃ x0 x1 x2 x3 x4 x5, xs = #[x0, x1, x2, x3, x4, x5] := by
    obtain ⟨l⟩ := xs
    match l, hsz with
    | [x0, x1, x2, x3, x4, x5], _ => exact ⟨x0, x1, x2, x3, x4, x5, rfl⟩
  obtain ⟨_, hf⟩ := Rdg.fields (cs := [x0, x1, x2, x3, x4, x5]) g Tryz.underlying27 (by kernel_rfl)
  obtain ⟨u0, e0, r0⟩ := hf 0 9 (by kernel_rfl) (by simp)
  obtain ⟨u1, e1, r1⟩ := hf 1 4 (by kernel_rfl) (by simp)
  obtain ⟨u2, e2, r2⟩ := hf 2 3 (by kernel_rfl) (by simp)
  obtain ⟨u3, e3, r3⟩ := hf 3 3 (by kernel_rfl) (by simp)
  obtain ⟨u4, e4, r4⟩ := hf 4 9 (by kernel_rfl) (by simp)
  obtain ⟨u5, e5, r5⟩ := hf 5 25 (by kernel_rfl) (by simp)
  obtain ⟨s0, k0, l0⟩ := r0.string Tryz.underlying9
  obtain ⟨b1, k1⟩ := r1.bool Tryz.underlying4
  obtain ⟨n2, k2, w2⟩ := r2.int Tryz.underlying3
  obtain ⟨n3, k3, w3⟩ := r3.int Tryz.underlying3
  obtain ⟨s4, k4, l4⟩ := r4.string Tryz.underlying9
  obtain ⟨ao, len, cap, k5, hlc, hcb, _⟩ := r5.slice (C := 4) Tryz.underlying25 (by kernel_rfl) (by omega)
  simp only [List.cons.injEq, and_true] at k0 k1 k2 k3 k4 k5
  subst k5
  obtain ⟨ys, rfl, hle, hr, hx, hsh⟩ := binds_of r5
  rw [show Tryz.prog.bytesOf 48 = 48 by kernel_rfl] at hcb
  unfold reachBytes at l0 l4 hcb
  have q2 : -9223372036854775808 ≤ n2 ∧ n2 ≤ 9223372036854775807 := by
    simp [Lit.wf, IntKind.min, IntKind.max, IntKind.bits, IntKind.signed] at w2; omega
  have q3 : -9223372036854775808 ≤ n3 ∧ n3 ≤ 9223372036854775807 := by
    simp [Lit.wf, IntKind.min, IntKind.max, IntKind.bits, IntKind.signed] at w3; omega
  simp at e0 e1 e2 e3 e4 e5
  exact ⟨⟨s0, b1, n2, n3, s4, ys⟩, ao, cap, by rw [e0, e1, e2, e3, e4, e5, k0, k1, k2, k3, k4], l0, l4, (show ys.length * 48 ≤ 140737488351232 by omega), ⟨q3, fun x hx' => (hx x hx').2.2⟩, q2, hr, hx, hsh⟩
set_option maxRecDepth 1000000 in
theorem argS {w : World} {B : Nat} {v : Value} (g : Rdg Tryz.prog w 22 v.cells.toList) (ok : Value.okWide Tryz.prog w .any B 22 v) :
    ∃ (ls : List (List UInt8)) (ao : Option Addr) (cap : Nat), v = .slice ao ls.length cap ∧ ls.length ≤ 140737488351232 ∧ RdS w ao ls ∧ (∀ l ∈ ls, l.length ≤ 140737488351232) ∧ ((ao = none ∧ ls.length = 0 ∧ cap = 0) ∨ ∃ a, ao = some a) := by
  obtain ⟨ao, len, cap, rfl⟩ := okWide_slice Tryz.underlying22 ok
  have hsh := Rdg.shape g Tryz.underlying22
  obtain ⟨ss, hss⟩ := Rdg.strs (show Rdg Tryz.prog w 22 [.slice ao len cap] from g) Tryz.underlying22 Tryz.underlying9 (by kernel_rfl) (by rw [show Tryz.prog.bytesOf 9 = 16 by kernel_rfl]; omega)
  obtain ⟨ls, rfl, hl, hr, hm⟩ := strs_list hss
  exact ⟨ls, ao, cap, rfl, hl, hr, hm, hsh⟩
end Go.Proofs.YtmdibafofdghgaaGreatDoor
