/- Texts on the program and on the document, joined: PduY, PduZ, Arr, Stv, Stu. -/
import Derived.Test.YtlpknkfidcojeaaGreatDoorMa37
import Derived.Test.YtlpknkfidcojeaaGreatDoorMa38
import Derived.Test.YtlpknkfidcojeaaGreatDoorMa16
import Derived.OpenShut
import Derived.Test.YtlpknkfidcojeaaGreatDoorMa14
import Derived.Test.YtlpknkfidcojeaaGreatDoorMa17
import Derived.WideShapes
/- The laws of units: works, of, small, walked. -/
namespace Go.Proofs.YtlpknkfidcojeaaGreatDoor
open Go.ChangeShapes Go.WideShapes Go.ChangeAt Go.RowKit K P1 B5
open D8 (Bd Un lst deB deL deU)
set_option linter.unusedVariables false

theorem works_vals8 : eS ⟨167, 1, 0, 0, []⟩ = [167, 11, 2, 1, 1, 2, 1, 0, 2, 1, 0, 48, 0] ∧ eE ⟨167, 1, 0, 0, []⟩ = 0 := by decide +kernel
set_option maxRecDepth 100000 in
theorem works8_walk (w : World) (T : Tp w) : Calls Tryz.prog 6 #[] w fun e w' => e = .returned (.bool true) ∧ Below w.heap.size w w' := by
  obtain ⟨v1, v2⟩ := works_vals8
  have hE := fun w1 (h : Tp w1) => encode8_walk ⟨167, 1, 0, 0, []⟩ none 0 (by simp) (fun x hx => by cases hx) w1 h (.inl rfl)
  rw [v1, v2] at hE
  simp only [List.length_nil] at hE
  have HE := Lib.hid hE
  have HT := Lib.hid T
  clear hE v1 v2 T
  go_enter Tryz.func6, Tryz.ntmps6
  go_wp2_with fail
  refine (HE.out _ HT.out).mono ?_
  rintro e w1 ⟨rfl, b1⟩
  go_wp2
  go_ret
  exact ⟨rfl, b1⟩
set_option maxRecDepth 100000 in
theorem of_walk (t r a i : Int) (ao : Option Addr) (len cap : Nat) (w : World) :
    Calls Tryz.prog 10 #[.agg #[.int .i64 t, .int .i64 r, .int .i64 a, .int .i64 i, .slice ao len cap]] w fun e w' => e = .returned (.agg #[.int .i64 t, .int .i64 r, .int .i64 a, .int .i64 i, .slice ao len cap]) ∧ Below w.heap.size w w' := by
  go_enter Tryz.func10, Tryz.ntmps10
  go_wp2
  have PX := rowNew (w.alloc (.cells #[.int .i64 t, .int .i64 r, .int .i64 a, .int .i64 i, .slice ao len cap] 25)) (.cells #[.int .i64 t, .int .i64 r, .int .i64 a, .int .i64 i, .slice ao len cap] 31)
  rw [show (w.alloc (.cells #[.int .i64 t, .int .i64 r, .int .i64 a, .int .i64 i, .slice ao len cap] 25)).heap.size = w.heap.size + 1 by simp] at PX
  refine bodyPost_ret (results_cell_row rfl _ _ (w.heap.size + 1) _ _ _ _ rfl PX Tryz.underlying31 rfl (by kernel_rfl)) rfl ?_
  exact ⟨rfl, ((Below.refl _ _).alloc (Nat.le_refl _) _).alloc (by simp) _⟩
def smX (x : Bd) : Bool := decide (x.s.length ≤ 3000) && decide (x.o.length ≤ 2000)
def smB (xs : List Bd) : Bool := ((decide (xs.length ≤ 40) || decide (4096 < xs.length)) && decide (xs.length ≤ 8192)) && xs.all smX
theorem sm_take {xs : List Bd} {i : Nat} (hi : i < xs.length) : (xs.take (i + 1)).all smX = ((xs.take i).all smX && smX (xs.getD i nob)) := by
  rw [List.take_succ_eq_append_getElem hi, List.all_append, List.getD_eq_getElem?_getD, List.getElem?_eq_getElem hi]
  simp
theorem sm_not {xs : List Bd} {i : Nat} (hi : i < xs.length) (h : smX (xs.getD i nob) = false) : xs.all smX = false := by
  rw [List.getD_eq_getElem?_getD, List.getElem?_eq_getElem hi] at h
  rw [List.all_eq_false]
  exact ⟨_, List.getElem_mem hi, by simpa using h⟩
theorem sm_facts {xs : List Bd} (h : smB xs = true) : (xs.length ≤ 40 ∨ 4096 < xs.length) ∧ xs.length ≤ 8192 ∧ ∀ x ∈ xs, x.s.length ≤ 3000 ∧ x.o.length ≤ 2000 := by
  unfold smB smX at h
  simp only [Bool.and_eq_true, Bool.or_eq_true, decide_eq_true_eq, List.all_eq_true] at h
  exact ⟨h.1.1, h.1.2, h.2⟩
def SmlRel (xs : List Bd) (w : World) (g : Nat) (v : Value) (wr : World) : Prop :=
  ∃ i : Nat, i + g = xs.length ∧ v = .int .i64 (i : Nat) ∧ (xs.take i).all smX = true ∧ Below w.heap.size w wr
set_option maxRecDepth 100000 in
set_option maxHeartbeats 1000000 in
theorem small_walk (xs : List Bd) (ao : Option Addr) (cap : Nat) (hl : xs.length ≤ 140737488351232) (hx : Lim xs) (w : World) (hr : RdB w ao xs) :
    Calls Tryz.prog 11 #[.slice ao xs.length cap] w fun e w' => e = .returned (.bool (smB xs)) ∧ Below w.heap.size w w' := by
  have hways : (((40 : Int) < ((xs.length : Nat) : Int) ∧ ((xs.length : Nat) : Int) ≤ 4096) ∨ (((40 : Int) < ((xs.length : Nat) : Int) ∧ (4096 : Int) < ((xs.length : Nat) : Int)) ∧ (8192 : Int) < ((xs.length : Nat) : Int))) ∨ ((((xs.length : Nat) : Int) ≤ 40 ∧ ((xs.length : Nat) : Int) ≤ 8192) ∨ (((40 : Int) < ((xs.length : Nat) : Int) ∧ (4096 : Int) < ((xs.length : Nat) : Int)) ∧ ((xs.length : Nat) : Int) ≤ 8192)) := by omega
  rcases hways with hbad | hgood
  · have e : smB xs = false := by
      have : ((decide (xs.length ≤ 40) || decide (4096 < xs.length)) && decide (xs.length ≤ 8192)) = false := by
        rw [Bool.and_eq_false_iff, Bool.or_eq_false_iff, decide_eq_false_iff_not, decide_eq_false_iff_not, decide_eq_false_iff_not]
        omega
      unfold smB; rw [this]; rfl
    rw [e]
    clear e hr hx
    rcases hbad with ⟨h1, h2⟩ | ⟨⟨h1, h2⟩, h3⟩
    all_goals
      go_enter Tryz.func11, Tryz.ntmps11
      go_wp2
      go_ret
      exact ⟨rfl, Below.refl _ _⟩
  · have e : smB xs = xs.all smX := by
      have : ((decide (xs.length ≤ 40) || decide (4096 < xs.length)) && decide (xs.length ≤ 8192)) = true := by
        rw [Bool.and_eq_true, Bool.or_eq_true, decide_eq_true_eq, decide_eq_true_eq, decide_eq_true_eq]
        omega
      unfold smB; rw [this]; rfl
    rw [e]
    clear e
    have hfin : Calls Tryz.prog 11 #[.slice ao xs.length cap] w fun e w' => e = .returned (.bool (xs.all smX)) ∧ Below w.heap.size w w' := by
      rcases hgood with ⟨h1, h2⟩ | ⟨⟨h1, h2⟩, h3⟩
      all_goals
        go_enter Tryz.func11, Tryz.ntmps11
        go_wp2_with fail
        go_loopg [3] xs.length (fun g v wr => SmlRel xs w g v wr)
        case atStart => exact ⟨0, by omega, rfl, rfl, Below.refl _ _⟩
        case round =>
          obtain ⟨i, hi, rfl, hall, hb⟩ := hrel
          cases gk with
          | zero =>
            obtain rfl : i = xs.length := by omega
            rw [List.take_length] at hall
            have HALL := Lib.hid hall
            clear hall
            go_wp2
            go_ret
            exact ⟨by rw [HALL.out]; rfl, hb⟩
          | succ g =>
            have hlt : i < xs.length := by omega
            have HTK := Lib.hid (sm_take hlt)
            have HNO := Lib.hid (fun h => sm_not (xs := xs) hlt h)
            obtain ⟨x, hxe⟩ : ∃ x, xs.getD i nob = x := ⟨_, rfl⟩
            obtain ⟨b, off, rfl, hbl, c0, c1, c2, c3⟩ := (hr.below hb).at hlt hxe
            rw [hxe] at HTK HNO
            rw [hall] at HTK
            clear hxe hall
            by_cases s1 : x.s.length ≤ 3000
            · have s1' : ((x.s.length : Nat) : Int) ≤ 3000 := by omega
              by_cases s2 : x.o.length ≤ 2000
              · have s2' : ((x.o.length : Nat) : Int) ≤ 2000 := by omega
                have HS := Lib.hid (show smX x = true by unfold smX; rw [decide_eq_true s1, decide_eq_true s2]; rfl)
                clear s1 s2
                go_wp2
                go_roundg g
                case measure => omega
                case rel => exact ⟨i + 1, by omega, by simp, by rw [HTK.out, HS.out]; rfl, hb⟩
              · have s2' : (2000 : Int) < ((x.o.length : Nat) : Int) := by omega
                have HS := Lib.hid (HNO.out (show smX x = false by unfold smX; rw [decide_eq_false s2, Bool.and_false]))
                clear s1 s2
                go_wp2
                go_ret
                exact ⟨by rw [HS.out]; rfl, hb⟩
            · have s1' : (3000 : Int) < ((x.s.length : Nat) : Int) := by omega
              have HS := Lib.hid (HNO.out (show smX x = false by unfold smX; rw [decide_eq_false s1, Bool.false_and]))
              clear s1
              go_wp2
              go_ret
              exact ⟨by rw [HS.out]; rfl, hb⟩
    exact hfin
end Go.Proofs.YtlpknkfidcojeaaGreatDoor
/- PduReads, walked. -/
namespace Go.Proofs.YtlpknkfidcojeaaGreatDoor
open Go.ChangeShapes Go.WideShapes Go.ChangeAt Go.RowKit K P1 B5
open D8 (Bd Un lst deB deL deU)
set_option linter.unusedVariables false

theorem duU_len (t : Int) (b : List UInt8) : (duU t b).l.length ≤ 4096 := by
  unfold duU
  cases h : deU t b with
  | none => simp [nou]
  | some u => exact ((D8.Un.ok_iff u).1 (D8.unit_told h).1).2.2.2.2.1
theorem ten_cells2 {T1 T2 : TypeId} {x : World} {u v : Un} {ao bo : Option Addr} {ca cb : Nat} {b1 b2 : Nat} (h1 : Uq T1 x b1 u ao ca) (h2 : Uq T2 x b2 v bo cb) :
    x.cell? ⟨b1, 0, none⟩ = some (.int .i64 u.t) ∧ x.cell? ⟨b1, 1, none⟩ = some (.int .i64 u.r) ∧ x.cell? ⟨b1, 2, none⟩ = some (.int .i64 u.a) ∧ x.cell? ⟨b1, 3, none⟩ = some (.int .i64 u.i) ∧ x.cell? ⟨b1, 4, none⟩ = some (.slice ao u.l.length ca) ∧ x.cell? ⟨b2, 0, none⟩ = some (.int .i64 v.t) ∧ x.cell? ⟨b2, 1, none⟩ = some (.int .i64 v.r) ∧ x.cell? ⟨b2, 2, none⟩ = some (.int .i64 v.a) ∧ x.cell? ⟨b2, 3, none⟩ = some (.int .i64 v.i) ∧ x.cell? ⟨b2, 4, none⟩ = some (.slice bo v.l.length cb) := by
  obtain ⟨y0, y1, y2, y3, y4⟩ := h1.cells
  obtain ⟨z0, z1, z2, z3, z4⟩ := h2.cells
  exact ⟨y0, y1, y2, y3, y4, z0, z1, z2, z3, z4⟩
set_option maxRecDepth 100000 in
set_option maxHeartbeats 1000000 in
theorem pduReads_walk (t : Int) (b : List UInt8) (hb : b.length ≤ 140737488351232) (w : World) (T : Tp w) :
    Calls Tryz.prog 3 #[.int .i64 t, .string (bs b)] w fun e w' => e = .returned (.bool true) ∧ Below w.heap.size w w' := by
  have HW := Lib.hid (fun w1 (h : Tp w1) => works8_walk w1 h)
  have HT := Lib.hid T
  clear T
  by_cases h : 3000 < b.length
  · have h1 : (3000 : Int) < ((b.length : Nat) : Int) := by omega
    clear h
    go_enter Tryz.func3, Tryz.ntmps3
    go_wp2_with fail
    refine (HW.out w HT.out).mono ?_
    rintro e w1 ⟨rfl, b1⟩
    go_wp2
    go_ret
    exact ⟨rfl, b1⟩
  · have h1 : ((b.length : Nat) : Int) ≤ 3000 := by omega
    have HD := Lib.hid (fun w1 (h : Tp w1) => decode8_walk t b (by omega) w1 h)
    have HQ := Lib.hid (fun w1 => qdecode8_walk t b hb w1)
    unfold DuPost at HD HQ
    have hlen := duU_len t b
    have hself := sameU_self (duU t b)
    have hE1 : (((duE t b : Nat) : Int) == ((duE t b : Nat) : Int)) = true := by simp
    generalize duU t b = u at *
    generalize duE t b = E at *
    clear h
    go_enter Tryz.func3, Tryz.ntmps3
    go_wp2_with fail
    refine (HD.out w HT.out).mono ?_
    rintro e w1 ⟨ao, ca, rfl, hr1, b1⟩
    have a1 := alloc_in w1 (.cells #[.int .i64 u.t, .int .i64 u.r, .int .i64 u.a, .int .i64 u.i, .slice ao u.l.length ca] 25)
    have hu1 := Uq.new 25 w1 u ao ca
    have hr2 := hr1.below a1
    have b2 := b1.trans (a1.mono b1.size)
    clear hr1 a1 b1 HD
    go_wp2_with fail
    refine (HQ.out _).mono ?_
    rintro e w2 ⟨bo, cb, rfl, hs1, d2⟩
    have hu2 := hu1.below d2
    have hr3 := hr2.below d2
    have b3 := b2.trans (d2.mono b2.size)
    have a2 := alloc_in w2 (.cells #[.int .i64 u.t, .int .i64 u.r, .int .i64 u.a, .int .i64 u.i, .slice bo u.l.length cb] 31)
    have hu3 := hu2.below a2
    have hr4 := hr3.below a2
    have hs2 := hs1.below a2
    have b4 := b3.trans (a2.mono b3.size)
    have hv3 := Uq.new 31 w2 u bo cb
    have zS := ten_cells2 hu3 hv3
    have HOf := Lib.hid (fun w1 => of_walk u.t u.r u.a u.i ao u.l.length ca w1)
    have HSm := Lib.hid (fun w1 (h1 : RdB w1 ao u.l) (h2 : RdB w1 bo u.l) => qsame_walk u u ao bo ca cb (by omega) (by omega) w1 h1 h2)
    rw [hself] at HSm
    clear hu1 hu2 hr2 hr3 hs1 d2 b2 b3 a2 HQ hself
    go_wp2_with fail
    generalize w2.alloc (.cells #[.int .i64 u.t, .int .i64 u.r, .int .i64 u.a, .int .i64 u.i, .slice bo u.l.length cb] 31) = w3 at *
    go_region_held3 (fun x => x.cell? ⟨w1.heap.size, 0, none⟩ = some (.int .i64 u.t) ∧ x.cell? ⟨w1.heap.size, 1, none⟩ = some (.int .i64 u.r) ∧ x.cell? ⟨w1.heap.size, 2, none⟩ = some (.int .i64 u.a) ∧ x.cell? ⟨w1.heap.size, 3, none⟩ = some (.int .i64 u.i) ∧ x.cell? ⟨w1.heap.size, 4, none⟩ = some (.slice ao u.l.length ca) ∧ x.cell? ⟨w2.heap.size, 0, none⟩ = some (.int .i64 u.t) ∧ x.cell? ⟨w2.heap.size, 1, none⟩ = some (.int .i64 u.r) ∧ x.cell? ⟨w2.heap.size, 2, none⟩ = some (.int .i64 u.a) ∧ x.cell? ⟨w2.heap.size, 3, none⟩ = some (.int .i64 u.i) ∧ x.cell? ⟨w2.heap.size, 4, none⟩ = some (.slice bo u.l.length cb)) (first | exact zS | exact zS1 | exact zS2 | exact zS3)
      (first
        | (go_at_call 10; (with_reducible refine (HOf.out _).mono ?_); rintro e x1 ⟨rfl, j1⟩; have k1 : Below w3.heap.size w3 x1 := ⟨j1.os, j1.tape, j1.output, j1.size, j1.block⟩; have hu4 := hu3.below k1; have hv4 := hv3.below k1; have hr5 := hr4.below k1; have hs3 := hs2.below k1; have b5 := b4.trans (k1.mono b4.size); have zS1 := ten_cells2 hu4 hv4)
        | (go_at_call 9; refine (HSm.out _ (by exact hr5) (by exact hs3)).mono ?_; rintro e x2 ⟨rfl, j2⟩; have k2 : Below x1.heap.size x1 x2 := ⟨j2.os, j2.tape, j2.output, j2.size, j2.block⟩; have hu5 := hu4.below k2; have hv5 := hv4.below k2; have b6 := b5.trans (k2.mono b5.size); have zS2 := ten_cells2 hu5 hv5)
        | (go_at_call 6; refine (HW.out _ (by exact HT.out.below b6)).mono ?_; rintro e x3 ⟨rfl, j3⟩; have k3 : Below x2.heap.size x2 x3 := ⟨j3.os, j3.tape, j3.output, j3.size, j3.block⟩; have hu6 := hu5.below k3; have hv6 := hv5.below k3; have b7 := b6.trans (k3.mono b6.size); have zS3 := ten_cells2 hu6 hv6))
    go_wp2
    go_ret
    exact ⟨rfl, b7⟩
end Go.Proofs.YtlpknkfidcojeaaGreatDoor
/- An array among the arguments, and a slice that is nil or not: what the reading gives. Of no program. -/
namespace Go.Proofs.YtlpknkfidcojeaaGreatDoor
open Go.RowKit
namespace K
set_option linter.unusedVariables false
section
variable {P : Program} {w : World} {t e : TypeId} {cs : List Value}
theorem okWide_agg {n : Nat} {r : Reach} {base : Nat} {v : Value} (ht : P.underlying t = some (.array n e)) (h : Value.okWide P w r base t v) : ∃ xs : Array Value, v = .agg xs ∧ xs.size = P.cellsOf t := by
  unfold Value.okWide at h
  rw [ht] at h
  obtain ⟨xs, h1, h2, _⟩ := h
  exact ⟨xs, h1, h2⟩
theorem Rdg.array {n : Nat} (h : Rdg P w t cs) (ht : P.underlying t = some (.array n e)) :
    cs.length = P.cellsOf t ∧ ∀ i, i < n → Rdg P w e ((cs.drop (i * P.cellsOf e)).take (P.cellsOf e)) := by
  obtain ⟨H, enc, fuel, x, hx, hw⟩ := h
  obtain ⟨xs, m, _, hxx, hl, hn, hf⟩ := DataW.trod_array ht hx
  refine ⟨hl, fun i hi => ?_⟩
  have h1 := hf i hi
  have hil : i < xs.length := by omega
  rw [List.getElem?_eq_getElem hil] at h1
  refine ⟨H, enc, m, _, h1, fun q hq => hw q ?_⟩
  subst hxx
  simp only [DataW.weights, ht]
  have hrep : ∀ (ds : List (DataW H)) (i : Nat) (d : DataW H), ds[i]? = some d → ∀ q ∈ d.weights P e, q ∈ DataW.weightsAll P e ds := by
    intro ds
    induction ds with
    | nil => intro i d h; simp at h
    | cons a ds ih =>
      intro i d h q hq
      cases i with
      | zero => simp at h; subst h; simp [DataW.weightsAll, hq]
      | succ i => simp at h; simp [DataW.weightsAll, ih i d h q hq]
  exact hrep _ i _ (by simp [List.getElem?_eq_getElem hil]) q hq
/-- Two texts. -/
theorem Rdg.strs2 {x y : Value} (h : Rdg P w t [x, y]) (ht : P.underlying t = some (.array 2 e)) (he : P.underlying e = some .string) (hC : P.cellsOf e = 1) :
    ∃ a b : List UInt8, x = .string (bs a) ∧ y = .string (bs b) ∧ a.length ≤ reachBytes ∧ b.length ≤ reachBytes := by
  obtain ⟨_, hf⟩ := h.array ht
  rw [hC] at hf
  obtain ⟨a, ea, la⟩ := (show Rdg P w e [x] from hf 0 (by omega)).string he
  obtain ⟨b, eb, lb⟩ := (show Rdg P w e [y] from hf 1 (by omega)).string he
  simp at ea eb
  exact ⟨a, b, ea, eb, la, lb⟩
/-- A slice is nil, or has a place. -/
theorem Rdg.shape {ao : Option Addr} {len cap : Nat} (h : Rdg P w t [.slice ao len cap]) (ht : P.underlying t = some (.slice e)) : (ao = none ∧ len = 0 ∧ cap = 0) ∨ ∃ a, ao = some a := by
  obtain ⟨H, enc, fuel, x, hx, hw⟩ := h
  rcases Deep.open_slice ht hx with ⟨h1, _⟩ | ⟨a, len', cap', m, n, D, Pl, hcs, _⟩
  · simp at h1; exact .inl h1
  · simp at hcs; exact .inr ⟨a, hcs.1⟩
end
end K
end Go.Proofs.YtlpknkfidcojeaaGreatDoor
/- A value among the arguments: what the reading gives. -/
namespace Go.Proofs.YtlpknkfidcojeaaGreatDoor
open Go.RowKit K P1
set_option linter.unusedVariables false
theorem wf_i7 {t : Int} (wt : (Lit.int .i64 t).wf = true) : -9223372036854775808 ≤ t ∧ t ≤ 9223372036854775807 := by
  simp [Lit.wf, IntKind.min, IntKind.max, IntKind.bits, IntKind.signed] at wt; omega
theorem wf_u64 {t : Int} (wt : (Lit.int .u64 t).wf = true) : ∃ n : Nat, t = (n : Nat) ∧ n < 18446744073709551616 := by
  have h : 0 ≤ t ∧ t ≤ 18446744073709551615 := by
    simp [Lit.wf, IntKind.min, IntKind.max, IntKind.bits, IntKind.signed] at wt; omega
  exact ⟨t.toNat, by omega, by omega⟩
theorem okWide_struct {P : Program} {w : World} {t : TypeId} {fs : Array Field} {r : Reach} {base : Nat} {v : Value} (ht : P.underlying t = some (.struct fs)) (h : Value.okWide P w r base t v) : ∃ xs : Array Value, v = .agg xs ∧ xs.size = P.cellsOf t := by
  unfold Value.okWide at h
  rw [ht] at h
  obtain ⟨xs, h1, h2, _⟩ := h
  exact ⟨xs, h1, h2⟩
set_option maxRecDepth 1000000 in
/-- A value of api: its kind, its number, its text. -/
theorem argV {w : World} {B : Nat} {v : Value} (g : Rdg Tryz.prog w 40 v.cells.toList) (ok : Value.okWide Tryz.prog w .any B 40 v) :
    ∃ (k n : Int) (s : List UInt8), v = .agg #[.int .i64 k, .int .i64 n, .string (bs s)] ∧ s.length ≤ reachBytes ∧ -9223372036854775808 ≤ n ∧ n ≤ 9223372036854775807 := by
  obtain ⟨xs, rfl, hsz⟩ := okWide_struct Tryz.underlying40 ok
  rw [show Tryz.prog.cellsOf 40 = 3 by kernel_rfl] at hsz
  obtain ⟨x, y, z, rfl⟩ : ∃ x y z, xs = #[x, y, z] := by
    obtain ⟨l⟩ := xs
    match l, hsz with
    | [x, y, z], _ => exact ⟨x, y, z, rfl⟩
  obtain ⟨_, hf⟩ := Rdg.fields (cs := [x, y, z]) g Tryz.underlying40 (by kernel_rfl)
  obtain ⟨u0, e0, r0⟩ := hf 0 3 (by kernel_rfl) (by simp)
  obtain ⟨u1, e1, r1⟩ := hf 1 3 (by kernel_rfl) (by simp)
  obtain ⟨u2, e2, r2⟩ := hf 2 9 (by kernel_rfl) (by simp)
  obtain ⟨k, ek, wk⟩ := r0.int Tryz.underlying3
  obtain ⟨n, en, wn⟩ := r1.int Tryz.underlying3
  obtain ⟨s, es, ls⟩ := r2.string Tryz.underlying9
  simp at e0 e1 e2 ek en es
  have hb := wf_i7 wn
  exact ⟨k, n, s, by rw [e0, e1, e2, ek, en, es], ls, hb.1, hb.2⟩
end Go.Proofs.YtlpknkfidcojeaaGreatDoor
/- A unit, and binds, among the arguments: what the reading gives. -/
namespace Go.Proofs.YtlpknkfidcojeaaGreatDoor
open Go.WideShapes Go.RowKit K P1
open D8 (Bd Un)
set_option linter.unusedVariables false
set_option maxRecDepth 1000000 in
theorem binds_of {w : World} {ao : Option Addr} {len cap : Nat} (h : Rdg Tryz.prog w 23 [.slice ao len cap]) :
    ∃ xs : List Bd, len = xs.length ∧ xs.length ≤ 140737488351232 ∧ RdB w ao xs ∧ Lim xs ∧ ((ao = none ∧ xs.length = 0 ∧ cap = 0) ∨ ∃ a, ao = some a) := by
  obtain ⟨xs, hl, hle, hr, hx⟩ := rdg_binds (ti := 3) (ts := 9) (tv := 40) h Tryz.underlying23 Tryz.underlying42 (by kernel_rfl) (by rw [show Tryz.prog.bytesOf 42 = 48 by kernel_rfl]; omega)
    rfl rfl rfl rfl rfl rfl (by kernel_rfl) (by kernel_rfl) Tryz.underlying40 (by kernel_rfl) (by kernel_rfl) (by kernel_rfl) (by kernel_rfl) Tryz.underlying3 Tryz.underlying9
  have hsh := Rdg.shape h Tryz.underlying23
  subst hl
  exact ⟨xs, rfl, hle, hr, fun x hx' => ⟨(hx x hx').1, (hx x hx').2.1, (hx x hx').2.2.1⟩, hsh⟩
set_option maxRecDepth 1000000 in
theorem argU {w : World} {B : Nat} {v : Value} (g : Rdg Tryz.prog w 25 v.cells.toList) (ok : Value.okWide Tryz.prog w .any B 25 v) :
    ∃ (u : Un) (ao : Option Addr) (cap : Nat), v = .agg #[.int .i64 u.t, .int .i64 u.r, .int .i64 u.a, .int .i64 u.i, .slice ao u.l.length cap] ∧ u.l.length ≤ 140737488351232 ∧ RdB w ao u.l ∧ Lim u.l ∧ ((ao = none ∧ u.l.length = 0 ∧ cap = 0) ∨ ∃ a, ao = some a) := by
  obtain ⟨xs, rfl, hsz⟩ := okWide_struct Tryz.underlying25 ok
  rw [show Tryz.prog.cellsOf 25 = 5 by kernel_rfl] at hsz
  obtain ⟨x0, x1, x2, x3, x4, rfl⟩ : ∃ x0 x1 x2 x3 x4, xs = #[x0, x1, x2, x3, x4] := by
    obtain ⟨l⟩ := xs
    match l, hsz with
    | [x0, x1, x2, x3, x4], _ => exact ⟨x0, x1, x2, x3, x4, rfl⟩
  obtain ⟨_, hf⟩ := Rdg.fields (cs := [x0, x1, x2, x3, x4]) g Tryz.underlying25 (by kernel_rfl)
  obtain ⟨u0, e0, r0⟩ := hf 0 3 (by kernel_rfl) (by simp)
  obtain ⟨u1, e1, r1⟩ := hf 1 3 (by kernel_rfl) (by simp)
  obtain ⟨u2, e2, r2⟩ := hf 2 3 (by kernel_rfl) (by simp)
  obtain ⟨u3, e3, r3⟩ := hf 3 3 (by kernel_rfl) (by simp)
  obtain ⟨u4, e4, r4⟩ := hf 4 23 (by kernel_rfl) (by simp)
  obtain ⟨n0, k0, _⟩ := r0.int Tryz.underlying3
  obtain ⟨n1, k1, _⟩ := r1.int Tryz.underlying3
  obtain ⟨n2, k2, _⟩ := r2.int Tryz.underlying3
  obtain ⟨n3, k3, _⟩ := r3.int Tryz.underlying3
  obtain ⟨ao, len, cap, k4, _⟩ := r4.slice (C := 4) Tryz.underlying23 (by kernel_rfl) (by omega)
  simp only [List.cons.injEq, and_true] at k0 k1 k2 k3 k4
  subst k4
  obtain ⟨ys, rfl, hle, hr, hx, hsh⟩ := binds_of r4
  simp at e0 e1 e2 e3 e4
  exact ⟨⟨n0, n1, n2, n3, ys⟩, ao, cap, by rw [e0, e1, e2, e3, e4, k0, k1, k2, k3], hle, hr, hx, hsh⟩
set_option maxRecDepth 1000000 in
theorem argL {w : World} {B : Nat} {v : Value} (g : Rdg Tryz.prog w 23 v.cells.toList) (ok : Value.okWide Tryz.prog w .any B 23 v) :
    ∃ (xs : List Bd) (ao : Option Addr) (cap : Nat), v = .slice ao xs.length cap ∧ xs.length ≤ 140737488351232 ∧ RdB w ao xs ∧ Lim xs ∧ ((ao = none ∧ xs.length = 0 ∧ cap = 0) ∨ ∃ a, ao = some a) := by
  obtain ⟨ao, len, cap, rfl⟩ := okWide_slice Tryz.underlying23 ok
  obtain ⟨ys, rfl, hle, hr, hx, hsh⟩ := binds_of g
  exact ⟨ys, ao, cap, rfl, hle, hr, hx, hsh⟩
end Go.Proofs.YtlpknkfidcojeaaGreatDoor
