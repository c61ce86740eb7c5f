/- Texts on the program and on the document, joined: PduG, PduS, TrpT, PduE. -/
import Derived.Test.YtmdibafofdghgaaGreatDoorMa14
import Derived.Test.YtmdibafofdghgaaGreatDoorMa18
import Derived.Laws.StructEq
import Derived.ChangeKeysEq
import Derived.Test.YtmdibafofdghgaaGreatDoorMa17
import Derived.Test.YtmdibafofdghgaaGreatDoorMa32
import Derived.Test.YtmdibafofdghgaaGreatDoorMa20
/- The document's SameBinds, Same, Find; slices.Equal of binds, the program's Same, walked. -/
namespace Go.Proofs.YtmdibafofdghgaaGreatDoor
open Go.ChangeShapes Go.WideShapes Go.ChangeAt Go.RowKit K P1 B5
open D8 (Bd Un lst)
set_option linter.unusedVariables false

def eqB (x y : Bd) : Bool := (x.o == y.o) && ((x.k == y.k) && ((x.n == y.n) && (x.s == y.s)))
theorem eqB_iff (x y : Bd) : eqB x y = true ↔ x = y := by
  obtain ⟨a, b, c, d⟩ := x
  obtain ⟨a', b', c', d'⟩ := y
  simp [eqB]
theorem eqB_self (x : Bd) : eqB x x = true := (eqB_iff x x).2 rfl
theorem run_equal_bind (x y : Bd) (w : World) : (Op.equalIn 10000 48 (.agg #[.string (bs x.o), .int .i64 x.k, .int .i64 x.n, .string (bs x.s)]) (.agg #[.string (bs y.o), .int .i64 y.k, .int .i64 y.n, .string (bs y.s)])).run Tryz.prog w = .ok (eqB x y) w := by
  obtain ⟨a, b, c, d⟩ := x
  obtain ⟨a', b', c', d'⟩ := y
  simp only [eqB]
  simp [go_sem, Tryz.underlying48, Tryz.underlying46]
  by_cases h1 : a = a'
  · by_cases h2 : b = b'
    · by_cases h3 : c = c'
      · by_cases h4 : d = d'
        · simp [h1, h2, h3, h4]
        · simp [h1, h2, h3, h4]
      · simp [h1, h2, h3]
    · simp [h1, h2]
  · simp [h1]
def sameL : List Bd → List Bd → Bool
  | [], [] => true
  | x :: xs, y :: ys => eqB x y && sameL xs ys
  | _, _ => false
theorem sameL_iff : ∀ xs ys : List Bd, sameL xs ys = true ↔ xs = ys
  | [], [] => by simp [sameL]
  | [], y :: ys => by simp [sameL]
  | x :: xs, [] => by simp [sameL]
  | x :: xs, y :: ys => by
    show (eqB x y && sameL xs ys) = true ↔ _
    rw [Bool.and_eq_true, eqB_iff, sameL_iff xs ys, List.cons.injEq]
theorem sameL_not {xs ys : List Bd} (h : ¬ xs = ys) : sameL xs ys = false := by
  cases hx : sameL xs ys
  · rfl
  · exact absurd ((sameL_iff _ _).1 hx) h
theorem binds_ext {xs ys : List Bd} (hl : xs.length = ys.length) (h : ∀ j, j < xs.length → xs.getD j nob = ys.getD j nob) : xs = ys := by
  refine List.ext_getElem hl fun i h1 h2 => ?_
  have := h i h1
  rw [List.getD_eq_getElem?_getD, List.getD_eq_getElem?_getD, List.getElem?_eq_getElem h1, List.getElem?_eq_getElem h2] at this
  exact this
theorem binds_ne {xs ys : List Bd} {j : Nat} (h : ¬ xs.getD j nob = ys.getD j nob) : ¬ xs = ys := fun e => h (by rw [e])
def SbRel (xs ys : List Bd) (w : World) (g : Nat) (v : Value) (wr : World) : Prop :=
  ∃ i : Nat, i + g = xs.length ∧ v = .int .i64 (i : Nat) ∧ (∀ j, j < i → xs.getD j nob = ys.getD j nob) ∧ Below w.heap.size w wr
set_option maxRecDepth 100000 in
set_option maxHeartbeats 1000000 in
theorem qsamebinds_walk (xs ys : List Bd) (ao bo : Option Addr) (ca cb : Nat) (hl : xs.length ≤ 140737488351232) (hl2 : ys.length ≤ 140737488351232) (w : World) (hr : RdB w ao xs) (hs : RdB w bo ys) :
    Calls Tryz.prog 31 #[.slice ao xs.length ca, .slice bo ys.length cb] w fun e w' => e = .returned (.bool (sameL xs ys)) ∧ Below w.heap.size w w' := by
  by_cases hne : xs.length = ys.length
  · have hb : (((xs.length : Nat) : Int) != ((ys.length : Nat) : Int)) = false := by rw [hne]; simp
    have HNE := Lib.hid hne
    clear hne
    go_enter Tryz.func31, Tryz.ntmps31
    go_wp2_with fail
    go_loopg [5] xs.length (fun g v wr => SbRel xs ys w g v wr)
    case atStart => exact ⟨0, by omega, rfl, by omega, Below.refl _ _⟩
    case round =>
      obtain ⟨i, hi, rfl, hall, hb2⟩ := hrel
      have HALL := Lib.hid hall
      clear hall
      cases gk with
      | zero =>
        obtain rfl : i = xs.length := by omega
        go_wp2
        go_ret
        exact ⟨by rw [(sameL_iff _ _).2 (binds_ext HNE.out HALL.out)]; rfl, hb2⟩
      | succ g =>
        have hlt : i < xs.length := by omega
        have hlt2 : i < ys.length := by have := HNE.out; omega
        have HX := Lib.hid (fun h : ¬ xs.getD i nob = ys.getD i nob => sameL_not (binds_ne h))
        have HY := Lib.hid (fun (h : xs.getD i nob = ys.getD i nob) (j : Nat) (hj : j < i + 1) => (show xs.getD j nob = ys.getD j nob by
          by_cases hji : j = i
          · rw [hji]; exact h
          · exact HALL.out j (by omega)))
        obtain ⟨x, hxe⟩ : ∃ x, xs.getD i nob = x := ⟨_, rfl⟩
        obtain ⟨y, hye⟩ : ∃ y, ys.getD i nob = y := ⟨_, rfl⟩
        obtain ⟨b, off, rfl, hbl, c0, c1, c2, c3⟩ := (hr.below hb2).at hlt hxe
        obtain ⟨b', off', rfl, hbl', d0, d1, d2, d3⟩ := (hs.below hb2).at hlt2 hye
        rw [hxe, hye] at HX HY
        have hq := run_equal_bind x y
        clear hxe hye
        cases hxy : eqB x y
        · rw [hxy] at hq
          have HN := Lib.hid (HX.out (fun e => by rw [e, eqB_self] at hxy; cases hxy))
          clear HX HY hxy
          go_wp2_with fail
          go_quiet (fail)
          go_wp2
          go_ret
          exact ⟨by rw [HN.out]; rfl, Below_drewNa hb2 nq⟩
        · rw [hxy] at hq
          have HN := Lib.hid (HY.out ((eqB_iff x y).1 hxy))
          clear HX HY hxy
          go_wp2_with fail
          go_quiet (fail)
          go_wp2
          go_roundg g
          case measure => omega
          case rel => exact ⟨i + 1, by omega, by simp, HN.out, Below_drewNa hb2 nq⟩
  · have hb : (((xs.length : Nat) : Int) != ((ys.length : Nat) : Int)) = true := by rw [bne_iff_ne]; omega
    rw [sameL_not (fun e => hne (by rw [e]))]
    clear hne
    go_enter Tryz.func31, Tryz.ntmps31
    go_wp2
    go_ret
    exact ⟨rfl, Below.refl _ _⟩
end Go.Proofs.YtmdibafofdghgaaGreatDoor
/- Same, the document's and the program's, walked. -/
namespace Go.Proofs.YtmdibafofdghgaaGreatDoor
open Go.ChangeShapes Go.WideShapes Go.ChangeAt Go.RowKit K P1 B5
open D8 (Bd Un lst)
set_option linter.unusedVariables false

def sameU (u v : Un) : Bool := (u.t == v.t) && ((u.r == v.r) && ((u.a == v.a) && ((u.i == v.i) && sameL u.l v.l)))
theorem sameU_self (u : Un) : sameU u u = true := by
  unfold sameU
  rw [(sameL_iff u.l u.l).2 rfl]
  simp
/-- The two blocks of Same. -/
theorem two_units (T : TypeId) (w : World) (u v : Un) (ao bo : Option Addr) (ca cb : Nat) : ∃ w2, (w.alloc (.cells #[.int .i64 u.t, .int .i64 u.r, .int .i64 u.a, .int .i64 u.i, .slice ao u.l.length ca] T)).alloc (.cells #[.int .i64 v.t, .int .i64 v.r, .int .i64 v.a, .int .i64 v.i, .slice bo v.l.length cb] T) = w2 ∧
    Uq T w2 w.heap.size u ao ca ∧ Uq T w2 (w.heap.size + 1) v bo cb ∧ Below w.heap.size w w2 := by
  have h1 := (Uq.new T w u ao ca).below (alloc_in _ (.cells #[.int .i64 v.t, .int .i64 v.r, .int .i64 v.a, .int .i64 v.i, .slice bo v.l.length cb] T))
  have h2 := Uq.new T (w.alloc (.cells #[.int .i64 u.t, .int .i64 u.r, .int .i64 u.a, .int .i64 u.i, .slice ao u.l.length ca] T)) v bo cb
  rw [show (w.alloc (.cells #[.int .i64 u.t, .int .i64 u.r, .int .i64 u.a, .int .i64 u.i, .slice ao u.l.length ca] T)).heap.size = w.heap.size + 1 by simp] at h2
  exact ⟨_, rfl, h1, h2, ((Below.refl _ _).alloc (Nat.le_refl _) _).alloc (by simp) _⟩
theorem run_equal_numbers (r a i r' a' i' : Int) (w : World) : (Op.equalIn 10000 81 (.agg #[.int .i64 r, .int .i64 a, .int .i64 i]) (.agg #[.int .i64 r', .int .i64 a', .int .i64 i'])).run Tryz.prog w = .ok ((r == r') && ((a == a') && (i == i'))) w := by
  obtain ⟨j, hj, hj1⟩ := (show ∃ j, Tryz.prog.info? 3 = some j ∧ j.size = 1 by
    obtain ⟨j, h1, h2⟩ := Option.map_eq_some_iff.1 (show (Tryz.prog.info? 3).map (·.size) = some 1 by kernel_rfl)
    exact ⟨j, h1, h2⟩)
  rw [run_equalIn_array w 9999 _ _ Tryz.underlying81 hj]
  have hc : Tryz.prog.cellsOf 3 = 1 := by kernel_rfl
  rw [hc]
  simp [go_sem, Op.eqItems, List.range, List.range.loop, Tryz.underlying3]
  by_cases h1 : r = r'
  · by_cases h2 : a = a'
    · by_cases h3 : i = i'
      · simp [h1, h2, h3]
      · simp [h1, h2, h3]
    · simp [h1, h2]
  · simp [h1]
set_option maxRecDepth 100000 in
set_option maxHeartbeats 1000000 in
theorem equal8_walk (xs ys : List Bd) (ao bo : Option Addr) (ca cb : Nat) (hl : xs.length ≤ 140737488351232) (hl2 : ys.length ≤ 140737488351232) (w : World) (hr : RdB w ao xs) (hs : RdB w bo ys) :
    Calls Tryz.prog 44 #[.slice ao xs.length ca, .slice bo ys.length cb] w fun e w' => e = .returned (.bool (sameL xs ys)) ∧ Below w.heap.size w w' := by
  by_cases hne : xs.length = ys.length
  · have hb : (((xs.length : Nat) : Int) != ((ys.length : Nat) : Int)) = false := by rw [hne]; simp
    have HNE := Lib.hid hne
    clear hne
    go_enter Tryz.func44, Tryz.ntmps44
    go_wp2_with fail
    go_loopg [13] xs.length (fun g v wr => SbRel xs ys w g v wr)
    case atStart => exact ⟨0, by omega, rfl, by omega, Below.refl _ _⟩
    case round =>
      obtain ⟨i, hi, rfl, hall, hb2⟩ := hrel
      have HALL := Lib.hid hall
      clear hall
      cases gk with
      | zero =>
        obtain rfl : i = xs.length := by omega
        go_wp2
        go_ret
        exact ⟨by rw [(sameL_iff _ _).2 (binds_ext HNE.out HALL.out)]; rfl, hb2⟩
      | succ g =>
        have hlt : i < xs.length := by omega
        have hlt2 : i < ys.length := by have := HNE.out; omega
        have HX := Lib.hid (fun h : ¬ xs.getD i nob = ys.getD i nob => sameL_not (binds_ne h))
        have HY := Lib.hid (fun (h : xs.getD i nob = ys.getD i nob) (j : Nat) (hj : j < i + 1) => (show xs.getD j nob = ys.getD j nob by
          by_cases hji : j = i
          · rw [hji]; exact h
          · exact HALL.out j (by omega)))
        obtain ⟨x, hxe⟩ : ∃ x, xs.getD i nob = x := ⟨_, rfl⟩
        obtain ⟨y, hye⟩ : ∃ y, ys.getD i nob = y := ⟨_, rfl⟩
        obtain ⟨b, off, rfl, hbl, c0, c1, c2, c3⟩ := (hr.below hb2).at hlt hxe
        obtain ⟨b', off', rfl, hbl', d0, d1, d2, d3⟩ := (hs.below hb2).at hlt2 hye
        rw [hxe, hye] at HX HY
        have hq := run_equal_bind x y
        clear hxe hye
        cases hxy : eqB x y
        · rw [hxy] at hq
          have HN := Lib.hid (HX.out (fun e => by rw [e, eqB_self] at hxy; cases hxy))
          clear HX HY hxy
          go_wp2_with fail
          go_quiet (fail)
          go_wp2
          go_ret
          exact ⟨by rw [HN.out]; rfl, Below_drewNa hb2 nq⟩
        · rw [hxy] at hq
          have HN := Lib.hid (HY.out ((eqB_iff x y).1 hxy))
          clear HX HY hxy
          go_wp2_with fail
          go_quiet (fail)
          go_wp2
          go_roundg g
          case measure => omega
          case rel => exact ⟨i + 1, by omega, by simp, HN.out, Below_drewNa hb2 nq⟩
  · have hb : (((xs.length : Nat) : Int) != ((ys.length : Nat) : Int)) = true := by rw [bne_iff_ne]; omega
    rw [sameL_not (fun e => hne (by rw [e]))]
    clear hne
    go_enter Tryz.func44, Tryz.ntmps44
    go_wp2
    go_ret
    exact ⟨rfl, Below.refl _ _⟩
theorem ten_cells {T : TypeId} {w x : World} {u v : Un} {ao bo : Option Addr} {ca cb : Nat} {b1 b2 : Nat} (h1 : Uq T x b1 u ao ca) (h2 : Uq T x b2 v bo cb) :
    x.cell? ⟨b1, 0, none⟩ = some (.int .i64 u.t) ∧ x.cell? ⟨b1, 1, none⟩ = some (.int .i64 u.r) ∧ x.cell? ⟨b1, 2, none⟩ = some (.int .i64 u.a) ∧ x.cell? ⟨b1, 3, none⟩ = some (.int .i64 u.i) ∧ x.cell? ⟨b1, 4, none⟩ = some (.slice ao u.l.length ca) ∧ x.cell? ⟨b2, 0, none⟩ = some (.int .i64 v.t) ∧ x.cell? ⟨b2, 1, none⟩ = some (.int .i64 v.r) ∧ x.cell? ⟨b2, 2, none⟩ = some (.int .i64 v.a) ∧ x.cell? ⟨b2, 3, none⟩ = some (.int .i64 v.i) ∧ x.cell? ⟨b2, 4, none⟩ = some (.slice bo v.l.length cb) := by
  obtain ⟨y0, y1, y2, y3, y4⟩ := h1.cells
  obtain ⟨z0, z1, z2, z3, z4⟩ := h2.cells
  exact ⟨y0, y1, y2, y3, y4, z0, z1, z2, z3, z4⟩
set_option maxRecDepth 100000 in
set_option maxHeartbeats 2000000 in
theorem same8_walk (u v : Un) (ao bo : Option Addr) (ca cb : Nat) (hl : u.l.length ≤ 140737488351232) (hl2 : v.l.length ≤ 140737488351232) (w : World) (hr : RdB w ao u.l) (hs : RdB w bo v.l) :
    Calls Tryz.prog 24 #[.agg #[.int .i64 u.t, .int .i64 u.r, .int .i64 u.a, .int .i64 u.i, .slice ao u.l.length ca], .agg #[.int .i64 v.t, .int .i64 v.r, .int .i64 v.a, .int .i64 v.i, .slice bo v.l.length cb]] w fun e w' => e = .returned (.bool (sameU u v)) ∧ Below w.heap.size w w' := by
  obtain ⟨w2, hw2, hu, hv, bw⟩ := two_units 41 w u v ao bo ca cb
  have HS := Lib.hid (fun w1 (h1 : RdB w1 ao u.l) (h2 : RdB w1 bo v.l) => equal8_walk u.l v.l ao bo ca cb hl hl2 w1 h1 h2)
  have HR1 := Lib.hid (hr.below bw)
  have HR2 := Lib.hid (hs.below bw)
  have HN1 := Lib.hid (fun w1 => numbersof_walk u.t u.r u.a u.i ao u.l.length ca w1)
  have HN2 := Lib.hid (fun w1 => numbersof_walk v.t v.r v.a v.i bo v.l.length cb w1)
  have HW := Lib.hid hw2
  clear hr hs hw2 hl hl2
  obtain ⟨S, hSu⟩ : ∃ S, sameU u v = S := ⟨_, rfl⟩
  rw [hSu]
  unfold sameU at hSu
  by_cases h1 : u.t = v.t
  · have e1 : (u.t == v.t) = true := by rw [h1]; simp
    rw [e1, Bool.true_and] at hSu
    have hq := fun w1 => run_equal_numbers u.r u.a u.i v.r v.a v.i w1
    cases hn : ((u.r == v.r) && ((u.a == v.a) && (u.i == v.i)))
    · have hS2 : S = false := by
        rw [← hSu, ← Bool.and_assoc (u.a == v.a), ← Bool.and_assoc, hn, Bool.false_and]
      rw [hn] at hq
      subst hS2
      have zS := ten_cells (w := w) hu hv
      clear hSu hn h1 HS HR1 HR2
      go_enter Tryz.func24, Tryz.ntmps24
      go_wp2_with fail
      rw [HW.out]
      obtain ⟨y0, y1, y2, y3, y4⟩ := hu.cells
      obtain ⟨z0, z1, z2, z3, z4⟩ := hv.cells
      clear zS
      first
        | (go_region_with (first
          | (go_at_call 43; (with_reducible refine (HN1.out _).mono ?_); rintro e x1 ⟨rfl, j1⟩; have k1 : Below w2.heap.size w2 x1 := ⟨j1.os, j1.tape, j1.output, j1.size, j1.block⟩; have hu1 := hu.below k1; have hv1 := hv.below k1; have b1 := bw.trans (k1.mono bw.size); obtain ⟨p0, p1, p2, p3, p4⟩ := hu1.cells; obtain ⟨q0, q1, q2, q3, q4⟩ := hv1.cells)
          | (go_at_call 43; (with_reducible refine (HN2.out _).mono ?_); rintro e x2 ⟨rfl, j2⟩; have k2 : Below x1.heap.size x1 x2 := ⟨j2.os, j2.tape, j2.output, j2.size, j2.block⟩; have b2 := b1.trans (k2.mono b1.size))))
        | fail
      all_goals
        go_wp2
        go_ret
        exact ⟨rfl, b2⟩
    · have hS2 : S = sameL u.l v.l := by
        rw [← hSu, ← Bool.and_assoc (u.a == v.a), ← Bool.and_assoc, hn, Bool.true_and]
      rw [hn] at hq
      subst hS2
      have zS := ten_cells (w := w) hu hv
      clear hSu hn h1
      generalize sameL u.l v.l = s5 at *
      go_enter Tryz.func24, Tryz.ntmps24
      go_wp2_with fail
      rw [HW.out]
      go_region_held3 (fun x => x.cell? ⟨w.heap.size, 0, none⟩ = some (.int .i64 u.t) ∧ x.cell? ⟨w.heap.size, 1, none⟩ = some (.int .i64 u.r) ∧ x.cell? ⟨w.heap.size, 2, none⟩ = some (.int .i64 u.a) ∧ x.cell? ⟨w.heap.size, 3, none⟩ = some (.int .i64 u.i) ∧ x.cell? ⟨w.heap.size, 4, none⟩ = some (.slice ao u.l.length ca) ∧ x.cell? ⟨w.heap.size + 1, 0, none⟩ = some (.int .i64 v.t) ∧ x.cell? ⟨w.heap.size + 1, 1, none⟩ = some (.int .i64 v.r) ∧ x.cell? ⟨w.heap.size + 1, 2, none⟩ = some (.int .i64 v.a) ∧ x.cell? ⟨w.heap.size + 1, 3, none⟩ = some (.int .i64 v.i) ∧ x.cell? ⟨w.heap.size + 1, 4, none⟩ = some (.slice bo v.l.length cb)) (first | exact zS | exact zS1 | exact zS2 | exact zS3)
        (first
          | (go_at_call 43; (with_reducible refine (HN1.out _).mono ?_); rintro e x1 ⟨rfl, j1⟩; have k1 : Below w2.heap.size w2 x1 := ⟨j1.os, j1.tape, j1.output, j1.size, j1.block⟩; have hu1 := hu.below k1; have hv1 := hv.below k1; have b1 := bw.trans (k1.mono bw.size); have zS1 := ten_cells (w := w) hu1 hv1)
          | (go_at_call 43; (with_reducible refine (HN2.out _).mono ?_); rintro e x2 ⟨rfl, j2⟩; have k2 : Below x1.heap.size x1 x2 := ⟨j2.os, j2.tape, j2.output, j2.size, j2.block⟩; have hu2 := hu1.below k2; have hv2 := hv1.below k2; have b2 := b1.trans (k2.mono b1.size); have zS2 := ten_cells (w := w) hu2 hv2)
          | (go_at_call 44; refine (HS.out _ (by exact (HR1.out.below k1).below k2) (by exact (HR2.out.below k1).below k2)).mono ?_; rintro e x3 ⟨rfl, j3⟩; have k3 : Below x2.heap.size x2 x3 := ⟨j3.os, j3.tape, j3.output, j3.size, j3.block⟩; have hu3 := hu2.below k3; have hv3 := hv2.below k3; have b3 := b2.trans (k3.mono b2.size); have zS3 := ten_cells (w := w) hu3 hv3))
      go_wp2
      go_ret
      exact ⟨rfl, b3⟩
  · have e1 : (u.t == v.t) = false := beq_eq_false_iff_ne.2 h1
    rw [e1, Bool.false_and] at hSu
    subst hSu
    clear HS HR1 HR2 HN1 HN2 h1
    obtain ⟨y0, y1, y2, y3, y4⟩ := hu.cells
    obtain ⟨z0, z1, z2, z3, z4⟩ := hv.cells
    go_enter Tryz.func24, Tryz.ntmps24
    go_wp2_with fail
    rw [HW.out]
    first
      | (go_region_with (fail))
      | fail
    all_goals
      go_wp2
      go_ret
      exact ⟨rfl, ⟨bw.os, bw.tape, bw.output, bw.size, bw.block⟩⟩
end Go.Proofs.YtmdibafofdghgaaGreatDoor
/- Which units are a trap's, as the program tells them: plain mathematics. -/
namespace Go.Proofs.YtmdibafofdghgaaGreatDoor
open Go.RowKit K P1 B5
open D8 (Bd Un lst deU)
open T9 (Tr bU bI msg msgB ofU m3 deM)
set_option linter.unusedVariables false

theorem one_is {l : List UInt8} (h1 : nOk l = true) (h2 : nv l = 1) : l = [1] := V7.nv_inj h1 (by decide) (by rw [h2]; decide)
theorem bd_U {x : Bd} (h : x.ok = true) (ho : x.o = T9.UPT) (hk : x.k = 67) : x = bU x.n := by
  obtain ⟨o, k, n, s⟩ := x
  simp only at ho hk
  subst ho hk
  unfold D8.Bd.ok at h
  rw [Bool.and_eq_true] at h
  have h2 : V7.ckV 67 n s = true := h.2
  have hs : s = [] := by
    simp [V7.ckV] at h2
    exact h2.1
  rw [hs]; rfl
theorem bd_I {x : Bd} (h : x.ok = true) (ho : x.o = T9.IDO) (hk : x.k = 6) : x = bI x.s := by
  obtain ⟨o, k, n, s⟩ := x
  simp only at ho hk
  subst ho hk
  unfold D8.Bd.ok at h
  rw [Bool.and_eq_true] at h
  have h2 : V7.ckV 6 n s = true := h.2
  have hn : n = 0 := by
    simp [V7.ckV] at h2
    exact h2.1
  rw [hn]; rfl
/-- Whether a unit is a trap's. -/
def isTr (u : Un) : Bool := ((u.t == 167 || u.t == 166) && decide (2 ≤ u.l.length)) && (eqB (u.l.getD 0 nob) (bU (u.l.getD 0 nob).n) && eqB (u.l.getD 1 nob) (bI (u.l.getD 1 nob).s))
/-- The trap of such a unit. -/
def trOf (c : List UInt8) (u : Un) : Tr := ⟨c, u.t == 166, u.r, (u.l.getD 0 nob).n, (u.l.getD 1 nob).s, u.l.drop 2⟩
theorem ofU_yes {c : List UInt8} {u : Un} (hu : u.ok = true) (hc : 1 ≤ c.length ∧ c.length ≤ 64) (h : isTr u = true) : ofU c u = some (trOf c u) := by
  unfold isTr at h
  simp only [Bool.and_eq_true, Bool.or_eq_true, beq_iff_eq, decide_eq_true_eq, eqB_iff] at h
  obtain ⟨⟨ht, hl⟩, ha, hb⟩ := h
  obtain ⟨t, r, a, i, l⟩ := u
  match l, hl with
  | x :: y :: l, _ =>
    simp only [List.getD_cons_zero, List.getD_cons_succ] at ha hb
    obtain ⟨_, h2, h3, h4, h5, h6⟩ := (D8.Un.ok_iff _).1 hu
    have hok : Tr.ok ⟨c, t == 166, r, x.n, y.s, l⟩ = true := by
      rw [T9.Tr.ok_iff]
      refine ⟨hc, (D8.Un.ok_iff _).2 ⟨?_, h2, ?_, ?_, ?_, ?_⟩⟩
      · rcases T9.tag_of ⟨c, t == 166, r, x.n, y.s, l⟩ with h | h
        · exact .inr (.inl h)
        · exact .inr (.inr h)
      · exact ⟨(show (0 : Int) ≤ 0 by omega), (show (0 : Int) ≤ 2147483647 by omega)⟩
      · exact ⟨(show (0 : Int) ≤ 0 by omega), (show (0 : Int) ≤ 2147483647 by omega)⟩
      · exact h5
      · intro z hz
        have hz' : z = bU x.n ∨ z = bI y.s ∨ z ∈ l := by simpa [Tr.un, Tr.as] using hz
        rw [← ha, ← hb] at hz'
        exact h6 z (by simpa using hz')
    have hne : t ≠ 162 := by
      simp only at ht
      omega
    show (if (t ≠ 162 ∧ x.o = T9.UPT ∧ x.k = 67 ∧ y.o = T9.IDO ∧ y.k = 6) ∧ Tr.ok ⟨c, t == 166, r, x.n, y.s, l⟩ = true then some (⟨c, t == 166, r, x.n, y.s, l⟩ : Tr) else none) = _
    rw [if_pos ⟨⟨hne, by rw [ha]; rfl, by rw [ha]; rfl, by rw [hb]; rfl, by rw [hb]; rfl⟩, hok⟩]
    rfl
theorem ofU_un {c : List UInt8} {u : Un} (hu : u.ok = true) (h : isTr u = false) : ofU c u = none := by
  unfold ofU
  split
  · next a b l hl =>
    refine if_neg fun e => ?_
    obtain ⟨⟨e1, e2, e3, e4, e5⟩, e6⟩ := e
    obtain ⟨ht, _, _, _, _, h6⟩ := (D8.Un.ok_iff _).1 hu
    have ha := bd_U (h6 a (by rw [hl]; simp)) e2 e3
    have hb := bd_I (h6 b (by rw [hl]; simp)) e4 e5
    have : isTr u = true := by
      unfold isTr
      simp only [Bool.and_eq_true, Bool.or_eq_true, beq_iff_eq, decide_eq_true_eq, eqB_iff]
      rw [hl]
      exact ⟨⟨by omega, by simp⟩, ha, hb⟩
    rw [this] at h; cases h
  · rfl
theorem ofU_com {c : List UInt8} {u : Un} (h : ¬ (1 ≤ c.length ∧ c.length ≤ 64)) : ofU c u = none := by
  cases hx : ofU c u with
  | none => rfl
  | some t =>
    obtain ⟨h1, h2⟩ := T9.ofU_ok hx
    have := ((T9.Tr.ok_iff t).1 h1).1
    rw [h2] at this
    exact absurd this h
/-- The community and the unit's part of a message, as the program asks for them. -/
theorem m3_is {s : List UInt8} {p1 p2 p3 : Nat × List UInt8} (h1 : nxOk s = true) (h2 : nxR s = []) (h4 : prt 0 (nxB s) = .ok [p1, p2, p3]) : m3 s = if nxT s = 48 ∧ p1 = (2, [1]) ∧ p2.1 = 4 then some (p2.2, p3) else none := by
  by_cases hc : nxT s = 48 ∧ p1 = (2, [1]) ∧ p2.1 = 4
  · obtain ⟨h3, rfl, h5⟩ := hc
    rw [m3_some h1 h2 h3 h4, if_pos ⟨rfl, h5, by decide, by decide⟩, if_pos ⟨h3, rfl, h5⟩]
  · rw [if_neg hc]
    by_cases h3 : nxT s = 48
    · rw [m3_some h1 h2 h3 h4]
      refine if_neg fun e => hc ⟨h3, ?_, e.2.1⟩
      obtain ⟨a, b⟩ := p1
      have := one_is e.2.2.1 e.2.2.2
      simp only at this e
      rw [this, e.1]
    · exact m3_not3 fun e => h3 e.2.2.1
end Go.Proofs.YtmdibafofdghgaaGreatDoor
/- The document's Encode of units, walked. -/
namespace Go.Proofs.YtmdibafofdghgaaGreatDoor
open Go.ChangeShapes Go.WideShapes Go.ChangeAt Go.RowKit K P1 B5
open D8 (Bd Un lst)
set_option linter.unusedVariables false

def eS (u : Un) : List UInt8 := if u.ok then (if u.el.length ≤ 65536 then u.el else []) else []
def eE (u : Un) : Nat := if u.ok then (if u.el.length ≤ 65536 then 0 else 2) else 80
theorem el_len {u : Un} (h : u.ok = true) : u.el.length ≤ 271700100 := by
  have h1 := (D8.un_parts h).2.2
  have h2 := D8.short_le8 u.body.length
  unfold Un.el
  rw [put_len]
  omega
end Go.Proofs.YtmdibafofdghgaaGreatDoor
