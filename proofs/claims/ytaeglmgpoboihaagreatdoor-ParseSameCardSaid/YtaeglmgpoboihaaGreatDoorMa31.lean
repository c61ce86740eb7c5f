/- Texts on the program and on the document, joined: PaqU. -/
import Derived.Test.YtaeglmgpoboihaaGreatDoorMa09
import Derived.Test.YtaeglmgpoboihaaGreatDoorMa19
import Derived.Laws.StructEq
import Derived.ChangeKeysEq
import Derived.Deep.QuietTactic
import Derived.Deep.LoopGhost
/- The program's slices.Equal of keys, tests, pieces, watches, walked. gen_paqu.py writes it. -/
namespace Go.Proofs.YtaeglmgpoboihaaGreatDoor
open Go.ChangeShapes Go.WideShapes Go.ChangeAt Go.RowKit K L15
set_option linter.unusedVariables false
set_option linter.unusedSimpArgs false
namespace PQ
/-- Only draws were made. -/
def Dw (w w' : World) : Prop := ∃ n, w' = w.drewN n
theorem Dw.refl (w : World) : Dw w w := ⟨0, rfl⟩
theorem Dw.trans {a b c : World} (h : Dw a b) (k : Dw b c) : Dw a c := by
  obtain ⟨n, rfl⟩ := h
  obtain ⟨m, rfl⟩ := k
  exact ⟨n + m, by rw [World.drewN_drewN]⟩
theorem Dw.below {w w' : World} (h : Dw w w') : Below w.heap.size w w' := by
  obtain ⟨n, rfl⟩ := h
  exact ⟨rfl, rfl, rfl, Nat.le_refl _, fun _ _ => rfl⟩
theorem rdr0_dw {w w' : World} {c : Nat} {ao : Option Addr} {rows : List (List Value)} (h : RdR0 w c ao rows) (k : Dw w w') : RdR0 w' c ao rows := h.below k.below
theorem getD_ext {α : Type} {d : α} {xs ys : List α} (hl : xs.length = ys.length) (h : ∀ j, j < xs.length → xs.getD j d = ys.getD j d) : xs = ys := by
  refine List.ext_getElem hl fun i h1 h2 => ?_
  have := h i h1
  rw [List.getD_eq_getElem?_getD, List.getD_eq_getElem?_getD, List.getElem?_eq_getElem h1, List.getElem?_eq_getElem h2] at this
  exact this
theorem map_getD {α : Type} {d : α} {f : α → List Value} {xs : List α} {i : Nat} (h : i < xs.length) : (xs.map f).getD i [] = f (xs.getD i d) := by
  rw [List.getD_eq_getElem?_getD, List.getElem?_map, List.getD_eq_getElem?_getD, List.getElem?_eq_getElem h]; rfl
theorem bsq (a b : List UInt8) : decide (bs a = bs b) = (a == b) := by
  rw [Bool.eq_iff_iff, decide_eq_true_iff, beq_iff_eq]
  exact ⟨fun h => bs_inj h, fun h => by rw [h]⟩
def nPr : Pr := ⟨[], []⟩
def nTs : Ts := ⟨[], [], false⟩
def nPc : Pc := ⟨0, [], []⟩
def nWt : Wt := ⟨[], 0, 0, [], [], 0, 0, [], 0, []⟩
def nSt : St := ⟨[], []⟩
def nTb : Tb := ⟨[], 0, [], []⟩
def nRu : Ru := ⟨[], 0, 0, [], false, [], [], false⟩
theorem run_eqPr (x y : Pr) (w : World) : (Op.equalIn 10000 68 (.agg #[.string (bs x.n), .string (bs x.v)]) (.agg #[.string (bs y.n), .string (bs y.v)])).run Tryz.prog w = .ok (decide (x = y)) w := by
  obtain ⟨a0, a1⟩ := x
  obtain ⟨b0, b1⟩ := y
  simp only [Pr.mk.injEq]
  simp [go_sem, Tryz.underlying68]
  by_cases h0 : a0 = b0
  · by_cases h1 : a1 = b1
    · simp [h0, h1]
    · simp [h0, h1]
  · simp [h0]
def EqPrRel (xs ys : List Pr) (w : World) (g : Nat) (v : Value) (wr : World) : Prop :=
  ∃ i : Nat, i + g = xs.length ∧ v = .int .i64 (i : Nat) ∧ (∀ j, j < i → xs.getD j nPr = ys.getD j nPr) ∧ Dw w wr
set_option maxRecDepth 100000 in
set_option maxHeartbeats 2000000 in
theorem eqPr_walk (xs ys : List Pr) (ao bo : Option Addr) (ca cb : Nat) (hl : xs.length ≤ 140737488351232) (hl2 : ys.length ≤ 140737488351232) (w : World) (hr : RdR0 w 2 ao (xs.map prRow)) (hs : RdR0 w 2 bo (ys.map prRow)) :
    Calls Tryz.prog 29 #[.slice ao xs.length ca, .slice bo ys.length cb] w fun e w' => e = .returned (.bool (decide (xs = ys))) ∧ Dw w w' := by
  by_cases hne : xs.length = ys.length
  rotate_left
  · have hb : (((xs.length : Nat) : Int) != ((ys.length : Nat) : Int)) = true := by rw [bne_iff_ne]; omega
    rw [show decide (xs = ys) = false from decide_eq_false (fun e => hne (by rw [e]))]
    clear hne hr hs
    go_enter Tryz.func29, Tryz.ntmps29
    go_wp2
    go_ret
    exact ⟨rfl, Dw.refl w⟩
  have hb : (((xs.length : Nat) : Int) != ((ys.length : Nat) : Int)) = false := by rw [hne]; simp
  have HNE := Lib.hid hne
  have HR := Lib.hid (fun w1 (d : Dw w w1) => rdr0_dw hr d)
  have HS := Lib.hid (fun w1 (d : Dw w w1) => rdr0_dw hs d)
  clear hne hr hs
  go_enter Tryz.func29, Tryz.ntmps29
  go_wp2_with fail
  go_loopg [13] xs.length (fun g v8 wr => EqPrRel xs ys w g v8 wr)
  case atStart => exact ⟨0, by omega, rfl, by omega, Dw.refl w⟩
  case round =>
    obtain ⟨i, hi, rfl, hall, hd⟩ := hrel
    have HALL := Lib.hid hall
    have HD := Lib.hid hd
    clear hall hd
    cases gk with
    | zero =>
      obtain rfl : i = xs.length := by omega
      have HE := Lib.hid (show decide (xs = ys) = true from decide_eq_true (getD_ext HNE.out HALL.out))
      go_wp2
      go_ret
      rw [HE.out]
      exact ⟨rfl, HD.out⟩
    | succ g =>
      have hlt : i < xs.length := by omega
      have hlt2 : i < ys.length := by have := HNE.out; omega
      have HX := Lib.hid (fun h : ¬ xs.getD i nPr = ys.getD i nPr => show decide (xs = ys) = false from decide_eq_false (fun e => h (by rw [e])))
      have HY := Lib.hid (fun (h : xs.getD i nPr = ys.getD i nPr) (j : Nat) (hj : j < i + 1) => (show xs.getD j nPr = ys.getD j nPr by
        by_cases hji : j = i
        · rw [hji]; exact h
        · exact HALL.out j (by omega)))
      obtain ⟨x, hxe⟩ : ∃ x, xs.getD i nPr = x := ⟨_, rfl⟩
      obtain ⟨y, hye⟩ : ∃ y, ys.getD i nPr = y := ⟨_, rfl⟩
      obtain ⟨b, off, rfl, hc⟩ := r0_at (HR.out _ HD.out) (i := i) (by rw [List.length_map]; exact hlt)
      obtain ⟨b', off', rfl, hc'⟩ := r0_at (HS.out _ HD.out) (i := i) (by rw [List.length_map]; exact hlt2)
      have c0 : wr.cell? ⟨b, off + i * 2, none⟩ = some (.string (bs x.n)) := by have := hc 0 (by decide); rw [map_getD (d := nPr) hlt, hxe] at this; exact this
      have c1 : wr.cell? ⟨b, off + i * 2 + 1, none⟩ = some (.string (bs x.v)) := by have := hc 1 (by decide); rw [map_getD (d := nPr) hlt, hxe] at this; exact this
      have d0 : wr.cell? ⟨b', off' + i * 2, none⟩ = some (.string (bs y.n)) := by have := hc' 0 (by decide); rw [map_getD (d := nPr) hlt2, hye] at this; exact this
      have d1 : wr.cell? ⟨b', off' + i * 2 + 1, none⟩ = some (.string (bs y.v)) := by have := hc' 1 (by decide); rw [map_getD (d := nPr) hlt2, hye] at this; exact this
      rw [hxe, hye] at HX HY
      have hq := run_eqPr x y
      clear hxe hye hc hc'
      cases hxy : decide (x = y)
      · rw [hxy] at hq
        have HN := Lib.hid (HX.out (of_decide_eq_false hxy))
        clear HX HY hxy
        go_wp2_with fail
        go_quiet (fail)
        go_wp2
        go_ret
        rw [HN.out]
        exact ⟨rfl, HD.out.trans ⟨nq, rfl⟩⟩
      · rw [hxy] at hq
        have HN := Lib.hid (HY.out (of_decide_eq_true hxy))
        clear HX HY hxy
        go_wp2_with fail
        go_quiet (fail)
        go_wp2
        go_roundg g
        case measure => omega
        case rel => exact ⟨i + 1, by omega, by simp, HN.out, HD.out.trans ⟨nq, rfl⟩⟩
theorem run_eqTs (x y : Ts) (w : World) : (Op.equalIn 10000 83 (.agg #[.string (bs x.f), .string (bs x.g), .bool x.n]) (.agg #[.string (bs y.f), .string (bs y.g), .bool y.n])).run Tryz.prog w = .ok (decide (x = y)) w := by
  obtain ⟨a0, a1, a2⟩ := x
  obtain ⟨b0, b1, b2⟩ := y
  simp only [Ts.mk.injEq]
  simp [go_sem, Tryz.underlying83]
  by_cases h0 : a0 = b0
  · by_cases h1 : a1 = b1
    · by_cases h2 : a2 = b2
      · simp [h0, h1, h2]
      · simp [h0, h1, h2]
    · simp [h0, h1]
  · simp [h0]
def EqTsRel (xs ys : List Ts) (w : World) (g : Nat) (v : Value) (wr : World) : Prop :=
  ∃ i : Nat, i + g = xs.length ∧ v = .int .i64 (i : Nat) ∧ (∀ j, j < i → xs.getD j nTs = ys.getD j nTs) ∧ Dw w wr
set_option maxRecDepth 100000 in
set_option maxHeartbeats 2000000 in
theorem eqTs_walk (xs ys : List Ts) (ao bo : Option Addr) (ca cb : Nat) (hl : xs.length ≤ 140737488351232) (hl2 : ys.length ≤ 140737488351232) (w : World) (hr : RdR0 w 3 ao (xs.map tsRow)) (hs : RdR0 w 3 bo (ys.map tsRow)) :
    Calls Tryz.prog 30 #[.slice ao xs.length ca, .slice bo ys.length cb] w fun e w' => e = .returned (.bool (decide (xs = ys))) ∧ Dw w w' := by
  by_cases hne : xs.length = ys.length
  rotate_left
  · have hb : (((xs.length : Nat) : Int) != ((ys.length : Nat) : Int)) = true := by rw [bne_iff_ne]; omega
    rw [show decide (xs = ys) = false from decide_eq_false (fun e => hne (by rw [e]))]
    clear hne hr hs
    go_enter Tryz.func30, Tryz.ntmps30
    go_wp2
    go_ret
    exact ⟨rfl, Dw.refl w⟩
  have hb : (((xs.length : Nat) : Int) != ((ys.length : Nat) : Int)) = false := by rw [hne]; simp
  have HNE := Lib.hid hne
  have HR := Lib.hid (fun w1 (d : Dw w w1) => rdr0_dw hr d)
  have HS := Lib.hid (fun w1 (d : Dw w w1) => rdr0_dw hs d)
  clear hne hr hs
  go_enter Tryz.func30, Tryz.ntmps30
  go_wp2_with fail
  go_loopg [13] xs.length (fun g v8 wr => EqTsRel xs ys w g v8 wr)
  case atStart => exact ⟨0, by omega, rfl, by omega, Dw.refl w⟩
  case round =>
    obtain ⟨i, hi, rfl, hall, hd⟩ := hrel
    have HALL := Lib.hid hall
    have HD := Lib.hid hd
    clear hall hd
    cases gk with
    | zero =>
      obtain rfl : i = xs.length := by omega
      have HE := Lib.hid (show decide (xs = ys) = true from decide_eq_true (getD_ext HNE.out HALL.out))
      go_wp2
      go_ret
      rw [HE.out]
      exact ⟨rfl, HD.out⟩
    | succ g =>
      have hlt : i < xs.length := by omega
      have hlt2 : i < ys.length := by have := HNE.out; omega
      have HX := Lib.hid (fun h : ¬ xs.getD i nTs = ys.getD i nTs => show decide (xs = ys) = false from decide_eq_false (fun e => h (by rw [e])))
      have HY := Lib.hid (fun (h : xs.getD i nTs = ys.getD i nTs) (j : Nat) (hj : j < i + 1) => (show xs.getD j nTs = ys.getD j nTs by
        by_cases hji : j = i
        · rw [hji]; exact h
        · exact HALL.out j (by omega)))
      obtain ⟨x, hxe⟩ : ∃ x, xs.getD i nTs = x := ⟨_, rfl⟩
      obtain ⟨y, hye⟩ : ∃ y, ys.getD i nTs = y := ⟨_, rfl⟩
      obtain ⟨b, off, rfl, hc⟩ := r0_at (HR.out _ HD.out) (i := i) (by rw [List.length_map]; exact hlt)
      obtain ⟨b', off', rfl, hc'⟩ := r0_at (HS.out _ HD.out) (i := i) (by rw [List.length_map]; exact hlt2)
      have c0 : wr.cell? ⟨b, off + i * 3, none⟩ = some (.string (bs x.f)) := by have := hc 0 (by decide); rw [map_getD (d := nTs) hlt, hxe] at this; exact this
      have c1 : wr.cell? ⟨b, off + i * 3 + 1, none⟩ = some (.string (bs x.g)) := by have := hc 1 (by decide); rw [map_getD (d := nTs) hlt, hxe] at this; exact this
      have c2 : wr.cell? ⟨b, off + i * 3 + 2, none⟩ = some (.bool x.n) := by have := hc 2 (by decide); rw [map_getD (d := nTs) hlt, hxe] at this; exact this
      have d0 : wr.cell? ⟨b', off' + i * 3, none⟩ = some (.string (bs y.f)) := by have := hc' 0 (by decide); rw [map_getD (d := nTs) hlt2, hye] at this; exact this
      have d1 : wr.cell? ⟨b', off' + i * 3 + 1, none⟩ = some (.string (bs y.g)) := by have := hc' 1 (by decide); rw [map_getD (d := nTs) hlt2, hye] at this; exact this
      have d2 : wr.cell? ⟨b', off' + i * 3 + 2, none⟩ = some (.bool y.n) := by have := hc' 2 (by decide); rw [map_getD (d := nTs) hlt2, hye] at this; exact this
      rw [hxe, hye] at HX HY
      have hq := run_eqTs x y
      clear hxe hye hc hc'
      cases hxy : decide (x = y)
      · rw [hxy] at hq
        have HN := Lib.hid (HX.out (of_decide_eq_false hxy))
        clear HX HY hxy
        go_wp2_with fail
        go_quiet (fail)
        go_wp2
        go_ret
        rw [HN.out]
        exact ⟨rfl, HD.out.trans ⟨nq, rfl⟩⟩
      · rw [hxy] at hq
        have HN := Lib.hid (HY.out (of_decide_eq_true hxy))
        clear HX HY hxy
        go_wp2_with fail
        go_quiet (fail)
        go_wp2
        go_roundg g
        case measure => omega
        case rel => exact ⟨i + 1, by omega, by simp, HN.out, HD.out.trans ⟨nq, rfl⟩⟩
theorem run_eqPc (x y : Pc) (w : World) : (Op.equalIn 10000 50 (.agg #[.int .i64 x.k, .string (bs x.t), .string (bs x.b)]) (.agg #[.int .i64 y.k, .string (bs y.t), .string (bs y.b)])).run Tryz.prog w = .ok (decide (x = y)) w := by
  obtain ⟨a0, a1, a2⟩ := x
  obtain ⟨b0, b1, b2⟩ := y
  simp only [Pc.mk.injEq]
  simp [go_sem, Tryz.underlying50]
  by_cases h0 : a0 = b0
  · by_cases h1 : a1 = b1
    · by_cases h2 : a2 = b2
      · simp [h0, h1, h2]
      · simp [h0, h1, h2]
    · simp [h0, h1]
  · simp [h0]
def EqPcRel (xs ys : List Pc) (w : World) (g : Nat) (v : Value) (wr : World) : Prop :=
  ∃ i : Nat, i + g = xs.length ∧ v = .int .i64 (i : Nat) ∧ (∀ j, j < i → xs.getD j nPc = ys.getD j nPc) ∧ Dw w wr
set_option maxRecDepth 100000 in
set_option maxHeartbeats 2000000 in
theorem eqPc_walk (xs ys : List Pc) (ao bo : Option Addr) (ca cb : Nat) (hl : xs.length ≤ 140737488351232) (hl2 : ys.length ≤ 140737488351232) (w : World) (hr : RdR0 w 3 ao (xs.map pcRow)) (hs : RdR0 w 3 bo (ys.map pcRow)) :
    Calls Tryz.prog 63 #[.slice ao xs.length ca, .slice bo ys.length cb] w fun e w' => e = .returned (.bool (decide (xs = ys))) ∧ Dw w w' := by
  by_cases hne : xs.length = ys.length
  rotate_left
  · have hb : (((xs.length : Nat) : Int) != ((ys.length : Nat) : Int)) = true := by rw [bne_iff_ne]; omega
    rw [show decide (xs = ys) = false from decide_eq_false (fun e => hne (by rw [e]))]
    clear hne hr hs
    go_enter Tryz.func63, Tryz.ntmps63
    go_wp2
    go_ret
    exact ⟨rfl, Dw.refl w⟩
  have hb : (((xs.length : Nat) : Int) != ((ys.length : Nat) : Int)) = false := by rw [hne]; simp
  have HNE := Lib.hid hne
  have HR := Lib.hid (fun w1 (d : Dw w w1) => rdr0_dw hr d)
  have HS := Lib.hid (fun w1 (d : Dw w w1) => rdr0_dw hs d)
  clear hne hr hs
  go_enter Tryz.func63, Tryz.ntmps63
  go_wp2_with fail
  go_loopg [13] xs.length (fun g v8 wr => EqPcRel xs ys w g v8 wr)
  case atStart => exact ⟨0, by omega, rfl, by omega, Dw.refl w⟩
  case round =>
    obtain ⟨i, hi, rfl, hall, hd⟩ := hrel
    have HALL := Lib.hid hall
    have HD := Lib.hid hd
    clear hall hd
    cases gk with
    | zero =>
      obtain rfl : i = xs.length := by omega
      have HE := Lib.hid (show decide (xs = ys) = true from decide_eq_true (getD_ext HNE.out HALL.out))
      go_wp2
      go_ret
      rw [HE.out]
      exact ⟨rfl, HD.out⟩
    | succ g =>
      have hlt : i < xs.length := by omega
      have hlt2 : i < ys.length := by have := HNE.out; omega
      have HX := Lib.hid (fun h : ¬ xs.getD i nPc = ys.getD i nPc => show decide (xs = ys) = false from decide_eq_false (fun e => h (by rw [e])))
      have HY := Lib.hid (fun (h : xs.getD i nPc = ys.getD i nPc) (j : Nat) (hj : j < i + 1) => (show xs.getD j nPc = ys.getD j nPc by
        by_cases hji : j = i
        · rw [hji]; exact h
        · exact HALL.out j (by omega)))
      obtain ⟨x, hxe⟩ : ∃ x, xs.getD i nPc = x := ⟨_, rfl⟩
      obtain ⟨y, hye⟩ : ∃ y, ys.getD i nPc = y := ⟨_, rfl⟩
      obtain ⟨b, off, rfl, hc⟩ := r0_at (HR.out _ HD.out) (i := i) (by rw [List.length_map]; exact hlt)
      obtain ⟨b', off', rfl, hc'⟩ := r0_at (HS.out _ HD.out) (i := i) (by rw [List.length_map]; exact hlt2)
      have c0 : wr.cell? ⟨b, off + i * 3, none⟩ = some (.int .i64 x.k) := by have := hc 0 (by decide); rw [map_getD (d := nPc) hlt, hxe] at this; exact this
      have c1 : wr.cell? ⟨b, off + i * 3 + 1, none⟩ = some (.string (bs x.t)) := by have := hc 1 (by decide); rw [map_getD (d := nPc) hlt, hxe] at this; exact this
      have c2 : wr.cell? ⟨b, off + i * 3 + 2, none⟩ = some (.string (bs x.b)) := by have := hc 2 (by decide); rw [map_getD (d := nPc) hlt, hxe] at this; exact this
      have d0 : wr.cell? ⟨b', off' + i * 3, none⟩ = some (.int .i64 y.k) := by have := hc' 0 (by decide); rw [map_getD (d := nPc) hlt2, hye] at this; exact this
      have d1 : wr.cell? ⟨b', off' + i * 3 + 1, none⟩ = some (.string (bs y.t)) := by have := hc' 1 (by decide); rw [map_getD (d := nPc) hlt2, hye] at this; exact this
      have d2 : wr.cell? ⟨b', off' + i * 3 + 2, none⟩ = some (.string (bs y.b)) := by have := hc' 2 (by decide); rw [map_getD (d := nPc) hlt2, hye] at this; exact this
      rw [hxe, hye] at HX HY
      have hq := run_eqPc x y
      clear hxe hye hc hc'
      cases hxy : decide (x = y)
      · rw [hxy] at hq
        have HN := Lib.hid (HX.out (of_decide_eq_false hxy))
        clear HX HY hxy
        go_wp2_with fail
        go_quiet (fail)
        go_wp2
        go_ret
        rw [HN.out]
        exact ⟨rfl, HD.out.trans ⟨nq, rfl⟩⟩
      · rw [hxy] at hq
        have HN := Lib.hid (HY.out (of_decide_eq_true hxy))
        clear HX HY hxy
        go_wp2_with fail
        go_quiet (fail)
        go_wp2
        go_roundg g
        case measure => omega
        case rel => exact ⟨i + 1, by omega, by simp, HN.out, HD.out.trans ⟨nq, rfl⟩⟩
theorem run_eqWt (x y : Wt) (w : World) : (Op.equalIn 10000 40 (.agg #[.string (bs x.n), .int .i64 x.l, .int .i64 x.k, .string (bs x.cl), .string (bs x.ot), .int .i64 x.ct, .int .i64 x.wn, .string (bs x.ra), .int .i64 x.lv, .string (bs x.tx)]) (.agg #[.string (bs y.n), .int .i64 y.l, .int .i64 y.k, .string (bs y.cl), .string (bs y.ot), .int .i64 y.ct, .int .i64 y.wn, .string (bs y.ra), .int .i64 y.lv, .string (bs y.tx)])).run Tryz.prog w = .ok (decide (x = y)) w := by
  obtain ⟨a0, a1, a2, a3, a4, a5, a6, a7, a8, a9⟩ := x
  obtain ⟨b0, b1, b2, b3, b4, b5, b6, b7, b8, b9⟩ := y
  simp only [Wt.mk.injEq]
  simp [go_sem, Tryz.underlying40]
  by_cases h0 : a0 = b0
  · by_cases h1 : a1 = b1
    · by_cases h2 : a2 = b2
      · by_cases h3 : a3 = b3
        · by_cases h4 : a4 = b4
          · by_cases h5 : a5 = b5
            · by_cases h6 : a6 = b6
              · by_cases h7 : a7 = b7
                · by_cases h8 : a8 = b8
                  · by_cases h9 : a9 = b9
                    · simp [h0, h1, h2, h3, h4, h5, h6, h7, h8, h9]
                    · simp [h0, h1, h2, h3, h4, h5, h6, h7, h8, h9]
                  · simp [h0, h1, h2, h3, h4, h5, h6, h7, h8]
                · simp [h0, h1, h2, h3, h4, h5, h6, h7]
              · simp [h0, h1, h2, h3, h4, h5, h6]
            · simp [h0, h1, h2, h3, h4, h5]
          · simp [h0, h1, h2, h3, h4]
        · simp [h0, h1, h2, h3]
      · simp [h0, h1, h2]
    · simp [h0, h1]
  · simp [h0]
def EqWtRel (xs ys : List Wt) (w : World) (g : Nat) (v : Value) (wr : World) : Prop :=
  ∃ i : Nat, i + g = xs.length ∧ v = .int .i64 (i : Nat) ∧ (∀ j, j < i → xs.getD j nWt = ys.getD j nWt) ∧ Dw w wr
set_option maxRecDepth 100000 in
set_option maxHeartbeats 2000000 in
theorem eqWt_walk (xs ys : List Wt) (ao bo : Option Addr) (ca cb : Nat) (hl : xs.length ≤ 140737488351232) (hl2 : ys.length ≤ 140737488351232) (w : World) (hr : RdR0 w 10 ao (xs.map wtRow)) (hs : RdR0 w 10 bo (ys.map wtRow)) :
    Calls Tryz.prog 20 #[.slice ao xs.length ca, .slice bo ys.length cb] w fun e w' => e = .returned (.bool (decide (xs = ys))) ∧ Dw w w' := by
  by_cases hne : xs.length = ys.length
  rotate_left
  · have hb : (((xs.length : Nat) : Int) != ((ys.length : Nat) : Int)) = true := by rw [bne_iff_ne]; omega
    rw [show decide (xs = ys) = false from decide_eq_false (fun e => hne (by rw [e]))]
    clear hne hr hs
    go_enter Tryz.func20, Tryz.ntmps20
    go_wp2
    go_ret
    exact ⟨rfl, Dw.refl w⟩
  have hb : (((xs.length : Nat) : Int) != ((ys.length : Nat) : Int)) = false := by rw [hne]; simp
  have HNE := Lib.hid hne
  have HR := Lib.hid (fun w1 (d : Dw w w1) => rdr0_dw hr d)
  have HS := Lib.hid (fun w1 (d : Dw w w1) => rdr0_dw hs d)
  clear hne hr hs
  go_enter Tryz.func20, Tryz.ntmps20
  go_wp2_with fail
  go_loopg [13] xs.length (fun g v8 wr => EqWtRel xs ys w g v8 wr)
  case atStart => exact ⟨0, by omega, rfl, by omega, Dw.refl w⟩
  case round =>
    obtain ⟨i, hi, rfl, hall, hd⟩ := hrel
    have HALL := Lib.hid hall
    have HD := Lib.hid hd
    clear hall hd
    cases gk with
    | zero =>
      obtain rfl : i = xs.length := by omega
      have HE := Lib.hid (show decide (xs = ys) = true from decide_eq_true (getD_ext HNE.out HALL.out))
      go_wp2
      go_ret
      rw [HE.out]
      exact ⟨rfl, HD.out⟩
    | succ g =>
      have hlt : i < xs.length := by omega
      have hlt2 : i < ys.length := by have := HNE.out; omega
      have HX := Lib.hid (fun h : ¬ xs.getD i nWt = ys.getD i nWt => show decide (xs = ys) = false from decide_eq_false (fun e => h (by rw [e])))
      have HY := Lib.hid (fun (h : xs.getD i nWt = ys.getD i nWt) (j : Nat) (hj : j < i + 1) => (show xs.getD j nWt = ys.getD j nWt by
        by_cases hji : j = i
        · rw [hji]; exact h
        · exact HALL.out j (by omega)))
      obtain ⟨x, hxe⟩ : ∃ x, xs.getD i nWt = x := ⟨_, rfl⟩
      obtain ⟨y, hye⟩ : ∃ y, ys.getD i nWt = y := ⟨_, rfl⟩
      obtain ⟨b, off, rfl, hc⟩ := r0_at (HR.out _ HD.out) (i := i) (by rw [List.length_map]; exact hlt)
      obtain ⟨b', off', rfl, hc'⟩ := r0_at (HS.out _ HD.out) (i := i) (by rw [List.length_map]; exact hlt2)
      have c0 : wr.cell? ⟨b, off + i * 10, none⟩ = some (.string (bs x.n)) := by have := hc 0 (by decide); rw [map_getD (d := nWt) hlt, hxe] at this; exact this
      have c1 : wr.cell? ⟨b, off + i * 10 + 1, none⟩ = some (.int .i64 x.l) := by have := hc 1 (by decide); rw [map_getD (d := nWt) hlt, hxe] at this; exact this
      have c2 : wr.cell? ⟨b, off + i * 10 + 2, none⟩ = some (.int .i64 x.k) := by have := hc 2 (by decide); rw [map_getD (d := nWt) hlt, hxe] at this; exact this
      have c3 : wr.cell? ⟨b, off + i * 10 + 3, none⟩ = some (.string (bs x.cl)) := by have := hc 3 (by decide); rw [map_getD (d := nWt) hlt, hxe] at this; exact this
      have c4 : wr.cell? ⟨b, off + i * 10 + 4, none⟩ = some (.string (bs x.ot)) := by have := hc 4 (by decide); rw [map_getD (d := nWt) hlt, hxe] at this; exact this
      have c5 : wr.cell? ⟨b, off + i * 10 + 5, none⟩ = some (.int .i64 x.ct) := by have := hc 5 (by decide); rw [map_getD (d := nWt) hlt, hxe] at this; exact this
      have c6 : wr.cell? ⟨b, off + i * 10 + 6, none⟩ = some (.int .i64 x.wn) := by have := hc 6 (by decide); rw [map_getD (d := nWt) hlt, hxe] at this; exact this
      have c7 : wr.cell? ⟨b, off + i * 10 + 7, none⟩ = some (.string (bs x.ra)) := by have := hc 7 (by decide); rw [map_getD (d := nWt) hlt, hxe] at this; exact this
      have c8 : wr.cell? ⟨b, off + i * 10 + 8, none⟩ = some (.int .i64 x.lv) := by have := hc 8 (by decide); rw [map_getD (d := nWt) hlt, hxe] at this; exact this
      have c9 : wr.cell? ⟨b, off + i * 10 + 9, none⟩ = some (.string (bs x.tx)) := by have := hc 9 (by decide); rw [map_getD (d := nWt) hlt, hxe] at this; exact this
      have d0 : wr.cell? ⟨b', off' + i * 10, none⟩ = some (.string (bs y.n)) := by have := hc' 0 (by decide); rw [map_getD (d := nWt) hlt2, hye] at this; exact this
      have d1 : wr.cell? ⟨b', off' + i * 10 + 1, none⟩ = some (.int .i64 y.l) := by have := hc' 1 (by decide); rw [map_getD (d := nWt) hlt2, hye] at this; exact this
      have d2 : wr.cell? ⟨b', off' + i * 10 + 2, none⟩ = some (.int .i64 y.k) := by have := hc' 2 (by decide); rw [map_getD (d := nWt) hlt2, hye] at this; exact this
      have d3 : wr.cell? ⟨b', off' + i * 10 + 3, none⟩ = some (.string (bs y.cl)) := by have := hc' 3 (by decide); rw [map_getD (d := nWt) hlt2, hye] at this; exact this
      have d4 : wr.cell? ⟨b', off' + i * 10 + 4, none⟩ = some (.string (bs y.ot)) := by have := hc' 4 (by decide); rw [map_getD (d := nWt) hlt2, hye] at this; exact this
      have d5 : wr.cell? ⟨b', off' + i * 10 + 5, none⟩ = some (.int .i64 y.ct) := by have := hc' 5 (by decide); rw [map_getD (d := nWt) hlt2, hye] at this; exact this
      have d6 : wr.cell? ⟨b', off' + i * 10 + 6, none⟩ = some (.int .i64 y.wn) := by have := hc' 6 (by decide); rw [map_getD (d := nWt) hlt2, hye] at this; exact this
      have d7 : wr.cell? ⟨b', off' + i * 10 + 7, none⟩ = some (.string (bs y.ra)) := by have := hc' 7 (by decide); rw [map_getD (d := nWt) hlt2, hye] at this; exact this
      have d8 : wr.cell? ⟨b', off' + i * 10 + 8, none⟩ = some (.int .i64 y.lv) := by have := hc' 8 (by decide); rw [map_getD (d := nWt) hlt2, hye] at this; exact this
      have d9 : wr.cell? ⟨b', off' + i * 10 + 9, none⟩ = some (.string (bs y.tx)) := by have := hc' 9 (by decide); rw [map_getD (d := nWt) hlt2, hye] at this; exact this
      rw [hxe, hye] at HX HY
      have hq := run_eqWt x y
      clear hxe hye hc hc'
      cases hxy : decide (x = y)
      · rw [hxy] at hq
        have HN := Lib.hid (HX.out (of_decide_eq_false hxy))
        clear HX HY hxy
        go_wp2_with fail
        go_quiet (fail)
        go_wp2
        go_ret
        rw [HN.out]
        exact ⟨rfl, HD.out.trans ⟨nq, rfl⟩⟩
      · rw [hxy] at hq
        have HN := Lib.hid (HY.out (of_decide_eq_true hxy))
        clear HX HY hxy
        go_wp2_with fail
        go_quiet (fail)
        go_wp2
        go_roundg g
        case measure => omega
        case rel => exact ⟨i + 1, by omega, by simp, HN.out, HD.out.trans ⟨nq, rfl⟩⟩
end PQ
end Go.Proofs.YtaeglmgpoboihaaGreatDoor
