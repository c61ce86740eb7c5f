/- Texts on the program and on the document, joined: SyqE. -/
import Derived.Test.YtonippapkmmkeaaDoorMa24
/- The program's Check and Parse at the chapter's example, Priority: walked. -/
namespace Go.Proofs.YtonippapkmmkeaaDoor
open Go.ChangeShapes Go.WideShapes Go.ChangeAt Go.RowKit K Q10 S3 U4 S11
set_option linter.unusedVariables false

set_option maxRecDepth 100000 in
theorem oneof_walk (n m : Int) (h : 0 ≤ n) (h2 : n < m) (w : World) : Calls Tryd.prog 34 #[.int .i64 n, .int .i64 m] w fun e w' => e = .returned (.bool true) ∧ w = w' := by
  go_enter Tryd.func34, Tryd.ntmps34
  go_wp2
  go_ret
  exact ⟨rfl, rfl⟩
set_option maxRecDepth 100000 in
theorem istime_walk11 (w : World) : Calls Tryd.prog 35 #[.int .i64 1065910455003000000] w fun e w' => e = .returned (.bool true) ∧ w = w' := by
  go_enter Tryd.func35, Tryd.ntmps35
  go_wp2
  go_ret
  exact ⟨rfl, rfl⟩
/-- A message's cells, as one value. -/
def LgV (t : Lg) (ao : Option Addr) (ca : Nat) : Value := .agg #[.int .i64 t.f, .int .i64 t.v, .int .i64 t.t, .string (bs t.h), .string (bs t.a), .string (bs t.p), .string (bs t.i), .slice ao t.d.length ca, .bool t.b, .string (bs t.x)]
set_option maxRecDepth 100000 in
theorem namesof_walk (t : Lg) (ao : Option Addr) (ca : Nat) (w : World) : Calls Tryd.prog 9 #[.agg #[.int .i64 t.f, .int .i64 t.v, .int .i64 t.t, .string (bs t.h), .string (bs t.a), .string (bs t.p), .string (bs t.i), .slice ao t.d.length ca, .bool t.b, .string (bs t.x)]] w fun e w' => e = .returned (.agg #[.string (bs t.h), .string (bs t.a), .string (bs t.p), .string (bs t.i)]) ∧ Below w.heap.size w w' := by
  have h1 := Lq.new w t ao ca
  obtain ⟨y0, y1, y2, y3, y4, y5, y6, y7, y8, y9⟩ := h1.cells
  have bw := alloc_in' w (.cells #[.int .i64 t.f, .int .i64 t.v, .int .i64 t.t, .string (bs t.h), .string (bs t.a), .string (bs t.p), .string (bs t.i), .slice ao t.d.length ca, .bool t.b, .string (bs t.x)] 24)
  go_enter Tryd.func9, Tryd.ntmps9
  go_wp2_with fail
  have PX := rowNew (w.alloc (.cells #[.int .i64 t.f, .int .i64 t.v, .int .i64 t.t, .string (bs t.h), .string (bs t.a), .string (bs t.p), .string (bs t.i), .slice ao t.d.length ca, .bool t.b, .string (bs t.x)] 24)) (.cells #[.string (bs t.h), .string (bs t.a), .string (bs t.p), .string (bs t.i)] 36)
  rw [show (w.alloc (.cells #[.int .i64 t.f, .int .i64 t.v, .int .i64 t.t, .string (bs t.h), .string (bs t.a), .string (bs t.p), .string (bs t.i), .slice ao t.d.length ca, .bool t.b, .string (bs t.x)] 24)).heap.size = w.heap.size + 1 by simp] at PX
  refine bodyPost_ret (results_cell_row rfl _ _ (w.heap.size + 1) _ _ _ _ rfl PX Tryd.underlying36 rfl (by kernel_rfl)) rfl ?_
  exact ⟨rfl, bw.trans ((alloc_in' _ _).mono bw.size)⟩
set_option maxRecDepth 100000 in
theorem isseen_walk (l : List UInt8) (h : ∀ i, i < l.length → 33 ≤ byt l i ∧ byt l i ≤ 126) (hl : l.length ≤ 100000) (w : World) : Calls Tryd.prog 36 #[.string (bs l)] w fun e w' => e = .returned (.bool true) ∧ w = w' := by
  have H := Lib.hid h
  clear h
  go_enter Tryd.func36, Tryd.ntmps36
  go_wp2
  go_loopg [6] l.length (fun g v6 wx => wx = w ∧ ∃ i : Nat, i + g = l.length ∧ v6 = .int .i64 i)
  case atStart => exact ⟨rfl, 0, by omega, rfl⟩
  case round =>
    obtain ⟨rfl, i, hig, rfl⟩ := hrel
    by_cases h4 : i < l.length
    · obtain ⟨gg, rfl⟩ : ∃ gg, gk = gg + 1 := ⟨gk - 1, by omega⟩
      obtain ⟨h5, h6⟩ := H.out i h4
      have h7 : ¬ ((byt l i : Nat) : Int) < 33 := by omega
      have h8 : ¬ (126 : Int) < ((byt l i : Nat) : Int) := by omega
      go_wp2
      go_roundg gg
      case measure => omega
      case rel => exact ⟨rfl, i + 1, by omega, rfl⟩
    · have h5 : ¬ ((i : Nat) : Int) < ((l.length : Nat) : Int) := by omega
      go_wp2
      go_ret
      exact ⟨rfl, rfl⟩
set_option maxRecDepth 100000 in
theorem mayend_walk11 (w : World) (ao : Option Addr) (ca : Nat) : Calls Tryd.prog 24 #[.agg #[.int .i64 WNT.f, .int .i64 WNT.v, .int .i64 WNT.t, .string (bs WNT.h), .string (bs WNT.a), .string (bs WNT.p), .string (bs WNT.i), .slice ao WNT.d.length ca, .bool WNT.b, .string (bs WNT.x)]] w fun e w' => e = .returned (.bool true) ∧ Below w.heap.size w w' := by
  have h1 := Lq.new w WNT ao ca
  obtain ⟨y0, y1, y2, y3, y4, y5, y6, y7, y8, y9⟩ := h1.cells
  have bw := alloc_in' w (.cells #[.int .i64 WNT.f, .int .i64 WNT.v, .int .i64 WNT.t, .string (bs WNT.h), .string (bs WNT.a), .string (bs WNT.p), .string (bs WNT.i), .slice ao WNT.d.length ca, .bool WNT.b, .string (bs WNT.x)] 24)
  have hmk := fun w1 => mark_walk WNT.x w1
  rw [show mkB WNT.x = false by decide +kernel] at hmk
  have HMK := Lib.hid hmk
  have hb : WNT.b = false := rfl
  rw [hb] at *
  clear h1 hmk y0 y1 y2 y3 y4 y5 y6 y7
  generalize WNT.x = X at *
  go_enter Tryd.func24, Tryd.ntmps24
  go_wp2_with fail
  refine (HMK.out _).mono ?_
  rintro e w1 ⟨rfl, rfl⟩
  go_wp2
  go_ret
  exact ⟨rfl, bw⟩
set_option maxRecDepth 100000 in
theorem maybegin_walk11 (w : World) (ao : Option Addr) (ca : Nat) : Calls Tryd.prog 21 #[.agg #[.int .i64 WNT.f, .int .i64 WNT.v, .int .i64 WNT.t, .string (bs WNT.h), .string (bs WNT.a), .string (bs WNT.p), .string (bs WNT.i), .slice ao WNT.d.length ca, .bool WNT.b, .string (bs WNT.x)]] w fun e w' => e = .returned (.bool true) ∧ Below w.heap.size w w' := by
  have h1 := Lq.new w WNT ao ca
  obtain ⟨y0, y1, y2, y3, y4, y5, y6, y7, y8, y9⟩ := h1.cells
  have bw := alloc_in' w (.cells #[.int .i64 WNT.f, .int .i64 WNT.v, .int .i64 WNT.t, .string (bs WNT.h), .string (bs WNT.a), .string (bs WNT.p), .string (bs WNT.i), .slice ao WNT.d.length ca, .bool WNT.b, .string (bs WNT.x)] 24)
  have e0 : WNT.f = 4 := rfl
  have e1 : WNT.v = 2 := rfl
  have e2 : WNT.t = 1065910455003000000 := rfl
  rw [e0, e1, e2] at *
  have H1 := Lib.hid (fun w1 => oneof_walk 4 24 (by decide) (by decide) w1)
  have H2 := Lib.hid (fun w1 => oneof_walk 2 8 (by decide) (by decide) w1)
  have H3 := Lib.hid istime_walk11
  clear h1 y3 y4 y5 y6 y7 y8 y9
  go_enter Tryd.func21, Tryd.ntmps21
  go_wp2_with fail
  refine (H1.out _).mono ?_
  rintro e w1 ⟨rfl, rfl⟩
  go_wp2_with fail
  refine (H2.out _).mono ?_
  rintro e w1 ⟨rfl, rfl⟩
  go_wp2_with fail
  refine (H3.out _).mono ?_
  rintro e w1 ⟨rfl, rfl⟩
  go_wp2
  go_ret
  exact ⟨rfl, bw⟩
set_option maxRecDepth 100000 in
theorem name_at (n : Nat → List UInt8) (k : Nat) (h : k < 4) : ∀ w, (Instr.index 36 (.agg #[.string (bs (n 0)), .string (bs (n 1)), .string (bs (n 2)), .string (bs (n 3))]) (.int .i64 (k : Nat))).run Tryd.prog w = .ok (.string (bs (n k))) w := by
  obtain rfl | rfl | rfl | rfl : k = 0 ∨ k = 1 ∨ k = 2 ∨ k = 3 := by omega
  all_goals exact fun w => by kernel_rfl
/-- A name that may be. -/
def nmGood (l : List UInt8) (m : Nat) : Prop := l ≠ [45] ∧ l.length ≤ m ∧ ∀ i, i < l.length → 33 ≤ byt l i ∧ byt l i ≤ 126
set_option maxRecDepth 100000 in
theorem maynames_walk (w : World) (n : Nat → List UInt8) (h : ∀ i, i < 4 → nmGood (n i) ([255, 48, 128, 32].getD i 0)) (hT : Ty w) : Calls Tryd.prog 22 #[.agg #[.string (bs (n 0)), .string (bs (n 1)), .string (bs (n 2)), .string (bs (n 3))]] w fun e w' => e = .returned (.bool true) ∧ Below w.heap.size w w' := by
  have bw := alloc_in' w (.cells #[.string (bs (n 0)), .string (bs (n 1)), .string (bs (n 2)), .string (bs (n 3))] 36)
  have HM := Lib.hid (fun k (hk : k < 4) => (bw.cell (World.block_lt_of_cell? w _ (hT.2.2.2 k hk))).trans (hT.2.2.2 k hk))
  have HI := Lib.hid (fun k (hk : k < 4) w1 => name_at n k hk w1)
  have H := Lib.hid h
  clear h hT
  go_enter Tryd.func22, Tryd.ntmps22
  go_wp2
  obtain ⟨W, hW⟩ : ∃ W, W = w.alloc (.cells #[.string (bs (n 0)), .string (bs (n 1)), .string (bs (n 2)), .string (bs (n 3))] 36) := ⟨_, rfl⟩
  rw [← hW] at bw HM ⊢
  have HW := Lib.hid hW
  clear hW
  go_loopg [6] 4 (fun g v6 wx => wx = W ∧ ∃ i : Nat, i + g = 4 ∧ v6 = .int .i64 i)
  case atStart => exact ⟨rfl, 0, by omega, rfl⟩
  case round =>
    obtain ⟨rfl, i, hig, rfl⟩ := hrel
    by_cases h4 : i < 4
    · obtain ⟨gg, rfl⟩ : ∃ gg, gk = gg + 1 := ⟨gk - 1, by omega⟩
      obtain ⟨h5, h6, h7⟩ := H.out i h4
      have hc := HM.out i h4
      have hx := HI.out i h4
      have hmx : ([255, 48, 128, 32] : List Int).getD i 0 = ((([255, 48, 128, 32] : List Nat).getD i 0 : Nat) : Int) ∧ ([255, 48, 128, 32] : List Nat).getD i 0 ≤ 255 := by
        obtain rfl | rfl | rfl | rfl : i = 0 ∨ i = 1 ∨ i = 2 ∨ i = 3 := by omega
        all_goals decide
      rw [hmx.1] at hc
      obtain ⟨_, hm2⟩ := hmx
      generalize ([255, 48, 128, 32] : List Nat).getD i 0 = mx at *
      have HS := Lib.hid (fun w1 => isseen_walk (n i) h7 (by omega) w1)
      have h8 : (n i == [45]) = false := beq_eq_false_iff_ne.2 h5
      have h9 : ¬ ((mx : Nat) : Int) < (((n i).length : Nat) : Int) := by omega
      clear h7 h6 hm2
      generalize n i = ni at *
      go_wp2_with fail
      refine (HS.out _).mono ?_
      rintro e w1 ⟨rfl, rfl⟩
      go_wp2
      go_roundg gg
      case measure => omega
      case rel => exact ⟨rfl, i + 1, by omega, rfl⟩
    · have h5 : ¬ ((i : Nat) : Int) < 4 := by omega
      go_wp2
      go_ret
      exact ⟨rfl, bw⟩
def WN (i : Nat) : List UInt8 := match i with | 0 => WNT.h | 1 => WNT.a | 2 => WNT.p | _ => WNT.i
theorem wn_good (i : Nat) (h : i < 4) : nmGood (WN i) ([255, 48, 128, 32].getD i 0) := by
  obtain rfl | rfl | rfl | rfl : i = 0 ∨ i = 1 ∨ i = 2 ∨ i = 3 := by omega
  all_goals exact ⟨by decide, by decide, by decide +kernel⟩
set_option maxRecDepth 100000 in
theorem check_walk11 (w : World) (hT : Ty w) (ao : Option Addr) (ca : Nat) : Calls Tryd.prog 12 #[.agg #[.int .i64 WNT.f, .int .i64 WNT.v, .int .i64 WNT.t, .string (bs WNT.h), .string (bs WNT.a), .string (bs WNT.p), .string (bs WNT.i), .slice ao WNT.d.length ca, .bool WNT.b, .string (bs WNT.x)]] w fun e w' => e = .returned (.int .i64 0) ∧ Below w.heap.size w w' := by
  have h1 := Lq.new w WNT ao ca
  obtain ⟨y0, y1, y2, y3, y4, y5, y6, y7, y8, y9⟩ := h1.cells
  have bw := alloc_in' w (.cells #[.int .i64 WNT.f, .int .i64 WNT.v, .int .i64 WNT.t, .string (bs WNT.h), .string (bs WNT.a), .string (bs WNT.p), .string (bs WNT.i), .slice ao WNT.d.length ca, .bool WNT.b, .string (bs WNT.x)] 24)
  have H1 := Lib.hid (fun w1 => maybegin_walk11 w1 ao ca)
  have H2 := Lib.hid (fun w1 => namesof_walk WNT ao ca w1)
  have H3 := Lib.hid (fun w1 (h : Ty w1) => show Calls Tryd.prog 22 #[.agg #[.string (bs WNT.h), .string (bs WNT.a), .string (bs WNT.p), .string (bs WNT.i)]] w1 _ from maynames_walk w1 WN wn_good h)
  have H4 := Lib.hid (fun w1 (h : Ty w1) => show Calls Tryd.prog 23 #[.slice ao WNT.d.length ca] w1 (fun e w' => e = .returned (.int .i64 0) ∧ Below w1.heap.size w1 w') from quo_check [] ao ca w1 ⟨by decide, fun x hx => by cases hx⟩ (fun _ x hx => by cases hx) h.1 (rdE_nil w1 ao))
  have H5 := Lib.hid (fun w1 => mayend_walk11 w1 ao ca)
  have HT := Lib.hid hT
  have H10h := Lib.hid h1; have HB10 := Lib.hid bw
  have HTB := Lib.hid (fun w1 (k : Below w.heap.size w w1) => hT.below k)
  clear hT h1 bw
  go_enter Tryd.func12, Tryd.ntmps12
  go_wp2_with fail
  refine (H1.out _).mono ?_
  rintro e w11 ⟨rfl, d⟩
  have h11 := H10h.out.below d
  have b11 := HB10.out.trans (d.mono HB10.out.size)
  clear y0 y1 y2 y3 y4 y5 y6 y7 y8 y9 d
  obtain ⟨y0, y1, y2, y3, y4, y5, y6, y7, y8, y9⟩ := h11.cells
  have H11h := Lib.hid h11; have HB11 := Lib.hid b11
  clear h11 b11
  go_wp2_with fail
  refine (H2.out _).mono ?_
  rintro e w12 ⟨rfl, d⟩
  have h12 := H11h.out.below d
  have b12 := HB11.out.trans (d.mono HB11.out.size)
  clear y0 y1 y2 y3 y4 y5 y6 y7 y8 y9 d
  obtain ⟨y0, y1, y2, y3, y4, y5, y6, y7, y8, y9⟩ := h12.cells
  have H12h := Lib.hid h12; have HB12 := Lib.hid b12
  clear h12 b12
  go_wp2_with fail
  refine (H3.out _ (HTB.out _ HB12.out)).mono ?_
  rintro e w13 ⟨rfl, d⟩
  have h13 := H12h.out.below d
  have b13 := HB12.out.trans (d.mono HB12.out.size)
  clear y0 y1 y2 y3 y4 y5 y6 y7 y8 y9 d
  obtain ⟨y0, y1, y2, y3, y4, y5, y6, y7, y8, y9⟩ := h13.cells
  have H13h := Lib.hid h13; have HB13 := Lib.hid b13
  clear h13 b13
  go_wp2_with fail
  refine (H4.out _ (HTB.out _ HB13.out)).mono ?_
  rintro e w14 ⟨rfl, d⟩
  have h14 := H13h.out.below d
  have b14 := HB13.out.trans (d.mono HB13.out.size)
  clear y0 y1 y2 y3 y4 y5 y6 y7 y8 y9 d
  obtain ⟨y0, y1, y2, y3, y4, y5, y6, y7, y8, y9⟩ := h14.cells
  have H14h := Lib.hid h14; have HB14 := Lib.hid b14
  clear h14 b14
  go_wp2_with fail
  refine (H5.out _).mono ?_
  rintro e w15 ⟨rfl, d⟩
  have h15 := H14h.out.below d
  have b15 := HB14.out.trans (d.mono HB14.out.size)
  clear y0 y1 y2 y3 y4 y5 y6 y7 y8 y9 d
  obtain ⟨y0, y1, y2, y3, y4, y5, y6, y7, y8, y9⟩ := h15.cells
  have H15h := Lib.hid h15; have HB15 := Lib.hid b15
  clear h15 b15
  go_wp2
  go_ret
  exact ⟨rfl, HB15.out⟩
set_option maxRecDepth 100000 in
theorem priority_walk11 (ao : Option Addr) (ca : Nat) (w : World) : Calls Tryd.prog 8 #[.agg #[.int .i64 WNT.f, .int .i64 WNT.v, .int .i64 WNT.t, .string (bs WNT.h), .string (bs WNT.a), .string (bs WNT.p), .string (bs WNT.i), .slice ao WNT.d.length ca, .bool WNT.b, .string (bs WNT.x)]] w fun e w' => e = .returned (.int .i64 34) ∧ Below w.heap.size w w' := by
  have h1 := Lq.new w WNT ao ca
  obtain ⟨y0, y1, y2, y3, y4, y5, y6, y7, y8, y9⟩ := h1.cells
  have bw := alloc_in' w (.cells #[.int .i64 WNT.f, .int .i64 WNT.v, .int .i64 WNT.t, .string (bs WNT.h), .string (bs WNT.a), .string (bs WNT.p), .string (bs WNT.i), .slice ao WNT.d.length ca, .bool WNT.b, .string (bs WNT.x)] 24)
  have e0 : WNT.f = 4 := rfl
  have e1 : WNT.v = 2 := rfl
  rw [e0, e1] at *
  go_enter Tryd.func8, Tryd.ntmps8
  go_wp2
  go_ret
  exact ⟨rfl, bw⟩
theorem results_cell_row2y {P : Program} {fn : Func} {p u : Tmp} {ty : TypeId} (h : fn.results = #[.cell p ty, .tmp u]) (tmps : Array Value) (w : World) (g : Nat) (t : TypeId) (cs : Array Value) (fr : Nat × Nat) (d : TypeDesc)
    (hp : tmps.getD p undef = .pointer (some ⟨g, 0, none⟩)) (hg : w.heap[g]? = some (.cells cs t fr))
    (hu : P.underlying ty = some d) (hd : (match d with | .struct _ | .array _ _ => true | _ => false) = true) (hi : (P.info? ty).map (·.size) = some cs.size) :
    (results fn tmps).run P w = .ok (.tuple #[.agg cs, tmps.getD u undef]) w := by
  have hp' : tmps[p]?.getD undef = .pointer (some ⟨g, 0, none⟩) := by simpa using hp
  simp [results, h, hp', asAddr, run_loadVar_row w g t ty cs fr d hg hu hd hi]
set_option maxRecDepth 100000 in
theorem parse_walk11 (w : World) (hT : Ty w) : Calls Tryd.prog 7 #[.string (bs EXL)] w fun e w' => ∃ ao ca, e = .returned (.tuple #[.agg #[.int .i64 WNT.f, .int .i64 WNT.v, .int .i64 WNT.t, .string (bs WNT.h), .string (bs WNT.a), .string (bs WNT.p), .string (bs WNT.i), .slice ao WNT.d.length ca, .bool WNT.b, .string (bs WNT.x)], .int .i64 0]) ∧ Below w.heap.size w w' := by
  have hln : EXL.length ≤ 65535 := by decide
  have hln2 : ¬ (65535 : Int) < ((EXL.length : Nat) : Int) := by omega
  obtain ⟨w0, hw0⟩ : ∃ w0, w0 = w.alloc (.cells ZLG 24) := ⟨_, rfl⟩
  have a0 : Below w.heap.size w w0 := by rw [hw0]; exact alloc_in' _ _
  have hQ : w0.heap[w.heap.size]? = some (.cells ZLG 24 (0, 0)) := by rw [hw0]; exact rowNew _ _
  have hsz : w0.heap.size = w.heap.size + 1 := by rw [hw0]; simp
  have hT0 : Ty w0 := hT.below a0
  have aR := alloc_in' w0 (.cells #[.string (bs EXL), .bool false] 40)
  have hR : RY (w0.alloc (.cells #[.string (bs EXL), .bool false] 40)) w0.heap.size EXL false := rowNew _ _
  have hM := message_walk w0.heap.size w0 _ hT0 ⟨hT0.below aR, aR, hR, Nat.le_refl _⟩
  rw [hsz] at hM
  have HM := Lib.hid hM
  have HQ := Lib.hid hQ
  have HA0 := Lib.hid a0
  have HW := Lib.hid hw0
  have HSZ := Lib.hid hsz
  have HCK := Lib.hid check_walk11
  clear hT hT0 aR hR hM hQ a0 hw0 hln
  go_enter Tryd.func7, Tryd.ntmps7
  go_wp2_with fail
  rw [show (#[.int .i64 0, .int .i64 0, .int .i64 0, .string { data := #[] }, .string { data := #[] }, .string { data := #[] }, .string { data := #[] }, .slice none 0 0, .bool false, .string { data := #[] }] : Array Value) = ZLG from rfl, ← HW.out]
  refine HM.out.mono ?_
  rintro e w1 ⟨ao, ca, rfl, m1⟩
  have hz1 := m1.B.block w.heap.size (by rw [HSZ.out]; omega)
  have hq1 := hz1.trans HQ.out
  obtain ⟨c0, c1, f0, f1⟩ := m1.R.cells
  have M1 := Lib.hid m1
  clear m1 hsz hz1 f0 f1
  have aM := alloc_in' w1 (.cells #[.int .i64 WNT.f, .int .i64 WNT.v, .int .i64 WNT.t, .string (bs WNT.h), .string (bs WNT.a), .string (bs WNT.p), .string (bs WNT.i), .slice ao WNT.d.length ca, .bool WNT.b, .string (bs WNT.x)] 24)
  have hLq := Lq.new w1 WNT ao ca
  have hq2 := (aM.block w.heap.size (lt_of_block hq1)).trans hq1
  have hT2 := M1.out.T.below aM
  have hB2 := M1.out.B.trans (aM.mono M1.out.B.size)
  have c2 := (aM.cell (World.block_lt_of_cell? w1 _ c1)).trans c1
  have HX := Lib.hid (And.intro hq2 (And.intro hT2 (And.intro hB2 hLq)))
  clear aM hLq hq2 hT2 hB2
  go_wp2_with fail
  refine (HCK.out _ HX.out.2.1 ao ca).mono ?_
  rintro e w3 ⟨rfl, d3⟩
  obtain ⟨hq2, hT2, hB2, hLq⟩ := HX.out
  have hq3 : w3.heap[w.heap.size]? = some (.cells #[.int .i64 0, .int .i64 0, .int .i64 0, .string { data := #[] }, .string { data := #[] }, .string { data := #[] }, .string { data := #[] }, .slice none 0 0, .bool false, .string { data := #[] }] 24 (0, 0)) := (d3.block w.heap.size (lt_of_block hq2)).trans hq2
  have hL3 := hLq.below d3
  have hB3 := hB2.trans (d3.mono hB2.size)
  obtain ⟨y0, y1, y2, y3, y4, y5, y6, y7, y8, y9⟩ := hL3.cells
  have z0 := cellRow hq3 0; have z1 := cellRow hq3 1; have z2 := cellRow hq3 2; have z3 := cellRow hq3 3; have z4 := cellRow hq3 4
  have z5 := cellRow hq3 5; have z6 := cellRow hq3 6; have z7 := cellRow hq3 7; have z8 := cellRow hq3 8; have z9 := cellRow hq3 9
  have g0 := freeRow hq3 0; have g1 := freeRow hq3 1; have g2 := freeRow hq3 2; have g3 := freeRow hq3 3; have g4 := freeRow hq3 4
  have g5 := freeRow hq3 5; have g6 := freeRow hq3 6; have g7 := freeRow hq3 7; have g8 := freeRow hq3 8; have g9 := freeRow hq3 9
  have HQ3 := Lib.hid hq3; have HB3 := Lib.hid hB3
  have hlt := lt_of_block hq1
  have hne1 : ¬ w.heap.size = w1.heap.size := by omega
  have hne2 : ¬ w1.heap.size = w.heap.size := by omega
  clear hq2 hT2 hB2 hLq hq3 hL3 hB3 hq1 d3 c0 c1 c2
  go_wp2_with fail
  have PX := ten_sets HQ3.out (.int .i64 WNT.f) (.int .i64 WNT.v) (.int .i64 WNT.t) (.string (bs WNT.h)) (.string (bs WNT.a)) (.string (bs WNT.p)) (.string (bs WNT.i)) (.slice ao WNT.d.length ca) (.bool WNT.b) (.string (bs WNT.x))
  refine bodyPost_ret (results_cell_row2y rfl _ _ w.heap.size _ _ _ _ rfl PX Tryd.underlying24 rfl (by kernel_rfl)) rfl ?_
  refine ⟨ao, ca, rfl, ?_⟩
  have b := HA0.out.trans (HB3.out.mono HA0.out.size)
  exact ((((((((((b.setCell (p := ⟨w.heap.size, 0, none⟩) (Nat.le_refl _) _).setCell (p := ⟨w.heap.size, 1, none⟩) (Nat.le_refl _) _).setCell (p := ⟨w.heap.size, 2, none⟩) (Nat.le_refl _) _).setCell (p := ⟨w.heap.size, 3, none⟩) (Nat.le_refl _) _).setCell (p := ⟨w.heap.size, 4, none⟩) (Nat.le_refl _) _).setCell (p := ⟨w.heap.size, 5, none⟩) (Nat.le_refl _) _).setCell (p := ⟨w.heap.size, 6, none⟩) (Nat.le_refl _) _).setCell (p := ⟨w.heap.size, 7, none⟩) (Nat.le_refl _) _).setCell (p := ⟨w.heap.size, 8, none⟩) (Nat.le_refl _) _).setCell (p := ⟨w.heap.size, 9, none⟩) (Nat.le_refl _) _)
end Go.Proofs.YtonippapkmmkeaaDoor
