/- Texts on the program and on the document, joined: SyqD. -/
import Derived.Test.YtonippapkmmkeaaDoorMa22
import Derived.Test.YtonippapkmmkeaaDoorMa23
/- The program's reader of messages, walked: the chapter's example. -/
namespace Go.Proofs.YtonippapkmmkeaaDoor
open Go.ChangeShapes Go.WideShapes Go.ChangeAt Go.RowKit K Q10 S3 U4 S11
set_option linter.unusedVariables false

/-- What is left behind each word. -/
def LF (k : Nat) : List UInt8 := EXL.drop k
def HST : List UInt8 := [109, 121, 109, 97, 99, 104, 105, 110, 101, 46, 101, 120, 97, 109, 112, 108, 101, 46, 99, 111, 109]
def WRD (i : Nat) : List UInt8 := match i with | 0 => HST | 1 => [115, 117] | 2 => [45] | _ => [73, 68, 52, 55]
def STT (i : Nat) : List UInt8 := match i with | 0 => LF 31 | 1 => LF 53 | 2 => LF 56 | 3 => LF 58 | _ => LF 63
theorem cut_0 : CutAt 32 EXL [60, 51, 52, 62, 49] (LF 6) := ⟨by decide +kernel, by decide +kernel⟩
theorem cut_1 : CutAt 32 (LF 6) STL (LF 31) := ⟨by decide +kernel, by decide +kernel⟩
theorem cut_n (i : Nat) (h : i < 4) : CutAt 32 (STT i) (WRD i) (STT (i + 1)) ∧ WRD i ≠ [] ∧ (STT i).length ≤ 100000 := by
  obtain rfl | rfl | rfl | rfl : i = 0 ∨ i = 1 ∨ i = 2 ∨ i = 3 := by omega
  all_goals exact ⟨⟨by decide +kernel, by decide +kernel⟩, by decide, by decide⟩
theorem dat_6 : paL (LF 63) = [] ∧ paR (LF 63) = 32 :: LF 65 ∧ paE (LF 63) = 0 := by decide +kernel
theorem mark_6 : mkT (LF 65) = LF 65 ∧ mkB (LF 65) = false := by decide +kernel
/-- The invariant of the row. -/
def Ty (w : World) : Prop := Leads w ∧ Months w ∧ MxL w ∧ ∀ k, k < 4 → w.cell? ⟨0, k, none⟩ = some (.int .i64 ([255, 48, 128, 32].getD k 0))
theorem Ty.below {w w' : World} (h : Ty w) (k : Below w.heap.size w w') : Ty w' :=
  ⟨h.1.below k, h.2.1.below k, h.2.2.1.below k, fun i hi => (k.cell (World.block_lt_of_cell? w _ (h.2.2.2 i hi))).trans (h.2.2.2 i hi)⟩
/-- What a walk knows while the reader goes on: the row's invariant, the reader's block, and that nothing of old has turned. -/
structure Mw (w0 w : World) (b : Nat) (l : List UInt8) : Prop where
  T : Ty w
  B : Below w0.heap.size w0 w
  R : RY w b l false
  hb : w0.heap.size ≤ b
theorem Mw.step {w0 w w' : World} {b : Nat} {l l' : List UInt8} (h : Mw w0 w b l) (hT : Ty w0) (k : Kp [b] w w') (r : RY w' b l' false) : Mw w0 w' b l' := by
  have hB := h.B.trans (k.below h.B.size (by intro x hx; simp at hx; rw [hx]; exact h.hb))
  exact ⟨hT.below hB, hB, r, h.hb⟩
theorem Mw.next {w0 w w' : World} {b : Nat} {l : List UInt8} (h : Mw w0 w b l) (hT : Ty w0) (k : Below w.heap.size w w') : Mw w0 w' b l :=
  ⟨h.T.below k, h.B.trans (k.mono h.B.size), h.R.below k, h.hb⟩
theorem Mw.off {w0 w : World} {b : Nat} {l : List UInt8} (h : Mw w0 w b l) (hT : Ty w0) : 2 ≠ b ∧ 3 ≠ b := by
  have h1 := World.block_lt_of_cell? w0 _ (hT.2.1 0 (by omega))
  obtain ⟨m, hm⟩ := hT.2.2.1
  have h2 := World.block_lt_of_cell? w0 _ hm
  have := h.hb
  have h1' : 2 < w0.heap.size := h1
  have h2' : 3 < w0.heap.size := h2
  exact ⟨by omega, by omega⟩
theorem Mw.set {w0 w : World} {b k : Nat} {l : List UInt8} (h : Mw w0 w b l) (hT : Ty w0) (hk : w0.heap.size ≤ k) (hkb : b ≠ k) (i : Nat) (v : Value) : Mw w0 (w.setCell ⟨k, i, none⟩ v) b l := by
  have k1 : Kp [k] w (w.setCell ⟨k, i, none⟩ v) := (Kp.refl _ _).set _ (by simp) _
  have hB := h.B.trans (k1.below h.B.size (by intro x hx; simp at hx; rw [hx]; exact hk))
  exact ⟨hT.below hB, hB, (Below.heap_setCell _ _ _ _ hkb).trans h.R, h.hb⟩
theorem drew_below (w : World) : Below w.heap.size w w.drew := ⟨rfl, rfl, rfl, Nat.le_refl _, fun _ _ => rfl⟩
/-- The names that stand so far. -/
def NMS (i : Nat) : Array Value := #[.string (bs (if 0 < i then nmO (WRD 0) else [])), .string (bs (if 1 < i then nmO (WRD 1) else [])), .string (bs (if 2 < i then nmO (WRD 2) else [])), .string (bs (if 3 < i then nmO (WRD 3) else []))]
def LOGA : Array Value := #[.int .i64 4, .int .i64 2, .int .i64 1065910455003000000, .string { data := #[] }, .string { data := #[] }, .string { data := #[] }, .string { data := #[] }, .slice none 0 0, .bool false, .string { data := #[] }]
theorem four_sets {w : World} {c : Nat} {T : TypeId} (h : w.heap[c]? = some (.cells LOGA T (0, 0))) (n0 n1 n2 n3 : ByteArray) :
    ((((w.setCell ⟨c, 3, none⟩ (.string n0)).setCell ⟨c, 4, none⟩ (.string n1)).setCell ⟨c, 5, none⟩ (.string n2)).setCell ⟨c, 6, none⟩ (.string n3)).drew.heap[c]? = some (.cells #[.int .i64 4, .int .i64 2, .int .i64 1065910455003000000, .string n0, .string n1, .string n2, .string n3, .slice none 0 0, .bool false, .string { data := #[] }] T (0, 0)) :=
  rowSet (rowSet (rowSet (rowSet h 3 (.string n0)) 4 (.string n1)) 5 (.string n2)) 6 (.string n3)
def ZLG : Array Value := #[.int .i64 0, .int .i64 0, .int .i64 0, .string { data := #[] }, .string { data := #[] }, .string { data := #[] }, .string { data := #[] }, .slice none 0 0, .bool false, .string { data := #[] }]
theorem ten_sets {w : World} {q : Nat} {T : TypeId} (h : w.heap[q]? = some (.cells ZLG T (0, 0))) (v0 v1 v2 v3 v4 v5 v6 v7 v8 v9 : Value) :
    (((((((((((w.setCell ⟨q, 0, none⟩ v0).setCell ⟨q, 1, none⟩ v1).setCell ⟨q, 2, none⟩ v2).setCell ⟨q, 3, none⟩ v3).setCell ⟨q, 4, none⟩ v4).setCell ⟨q, 5, none⟩ v5).setCell ⟨q, 6, none⟩ v6).setCell ⟨q, 7, none⟩ v7).setCell ⟨q, 8, none⟩ v8).setCell ⟨q, 9, none⟩ v9)).heap[q]? = some (.cells #[v0, v1, v2, v3, v4, v5, v6, v7, v8, v9] T (0, 0)) := by
  have h9 := rowSet (rowSet (rowSet (rowSet (rowSet (rowSet (rowSet (rowSet (rowSet (rowSet (h) 0 v0) 1 v1) 2 v2) 3 v3) 4 v4) 5 v5) 6 v6) 7 v7) 8 v8) 9 v9
  simpa [ZLG] using h9
theorem ten_mw {w0 w : World} {b q : Nat} {l : List UInt8} (h : Mw w0 w b l) (hT : Ty w0) (hk : w0.heap.size ≤ q) (hkb : b ≠ q) (v0 v1 v2 v3 v4 v5 v6 v7 v8 v9 : Value) : Mw w0 (((((((((((w.setCell ⟨q, 0, none⟩ v0).setCell ⟨q, 1, none⟩ v1).setCell ⟨q, 2, none⟩ v2).setCell ⟨q, 3, none⟩ v3).setCell ⟨q, 4, none⟩ v4).setCell ⟨q, 5, none⟩ v5).setCell ⟨q, 6, none⟩ v6).setCell ⟨q, 7, none⟩ v7).setCell ⟨q, 8, none⟩ v8).setCell ⟨q, 9, none⟩ v9)) b l :=
  ((((((((((h).set hT hk hkb 0 v0).set hT hk hkb 1 v1).set hT hk hkb 2 v2).set hT hk hkb 3 v3).set hT hk hkb 4 v4).set hT hk hkb 5 v5).set hT hk hkb 6 v6).set hT hk hkb 7 v7).set hT hk hkb 8 v8).set hT hk hkb 9 v9
set_option maxRecDepth 100000 in
set_option maxHeartbeats 1000000 in
theorem message_walk (b : Nat) (w0 w : World) (hT : Ty w0) (h : Mw w0 w b EXL) :
    Calls Tryd.prog 11 #[.pointer (some ⟨b, 0, none⟩)] w fun e w' => ∃ ao ca, e = .returned (.agg #[.int .i64 WNT.f, .int .i64 WNT.v, .int .i64 WNT.t, .string (bs WNT.h), .string (bs WNT.a), .string (bs WNT.p), .string (bs WNT.i), .slice ao WNT.d.length ca, .bool WNT.b, .string (bs WNT.x)]) ∧ Mw w0 w' b (32 :: LF 65) := by
  have HT := Lib.hid hT
  have hpr := fun w1 (m : Mw w0 w1 b EXL) => (priority_walk b EXL (LF 6) cut_0 (by decide) w1 m.T.2.2.1 m.R).mono fun e w' ⟨a, k, r⟩ => (⟨a, k, m.step hT k r⟩ : _ ∧ _ ∧ Mw w0 w' b (LF 6))
  have htm := fun w1 (m : Mw w0 w1 b (LF 6)) => (time_walk b (LF 6) (LF 31) cut_1 (by decide) w1 m.T.2.2.1 m.T.2.1 m.R (m.off hT).1 (m.off hT).2).mono fun e w' ⟨a, k, r⟩ => (⟨a, k, m.step hT k r⟩ : _ ∧ _ ∧ Mw w0 w' b (LF 31))
  have HP := Lib.hid hpr
  have HTM := Lib.hid htm
  have hbq : b < w.heap.size := lt_of_block h.R
  have hQ0 := rowNew w (.cells #[.int .i64 0, .int .i64 0, .int .i64 0, .string { data := #[] }, .string { data := #[] }, .string { data := #[] }, .string { data := #[] }, .slice none 0 0, .bool false, .string { data := #[] }] 24)
  have HQ0 := Lib.hid hQ0
  have h0 := h.next hT (alloc_in' w (.cells #[.int .i64 0, .int .i64 0, .int .i64 0, .string { data := #[] }, .string { data := #[] }, .string { data := #[] }, .string { data := #[] }, .slice none 0 0, .bool false, .string { data := #[] }] 24))
  have H0 := Lib.hid h0
  clear hpr htm h h0 hT hQ0
  go_enter Tryd.func11, Tryd.ntmps11
  go_wp2_with fail
  refine (HP.out _ H0.out).mono ?_
  rintro e w1 ⟨rfl, k1, m1⟩
  go_wp2_with fail
  refine (HTM.out _ m1).mono ?_
  rintro e w2 ⟨rfl, k2, m2⟩
  have hn := fun i (h : i < 4) w1 (m : Mw w0 w1 b (STT i)) => (name_walk b (STT i) (WRD i) (STT (i + 1)) (cut_n i h).1 (cut_n i h).2.2 (cut_n i h).2.1 w1 m.T.2.2.1 m.R).mono fun e w' ⟨a, k, r⟩ => (⟨a, k, m.step HT.out k r⟩ : _ ∧ _ ∧ Mw w0 w' b (STT (i + 1)))
  have HN := Lib.hid hn
  have hQ2 := (k1.trans k2).heap HQ0.out (by simp; omega)
  have hqc : w.heap.size < w2.heap.size := lt_of_block hQ2
  have hbc : b < w2.heap.size := lt_of_block m2.R
  have aL := alloc_in' w2 (.cells LOGA 24)
  have hL3 := rowNew w2 (.cells LOGA 24)
  have aA := alloc_in' (w2.alloc (.cells LOGA 24)) (.cells (NMS 0) 36)
  have hA3 := rowNew (w2.alloc (.cells LOGA 24)) (.cells (NMS 0) 36)
  rw [show (w2.alloc (.cells LOGA 24)).heap.size = w2.heap.size + 1 by simp] at hA3
  have hSt : Mw w0 ((w2.alloc (.cells LOGA 24)).alloc (.cells (NMS 0) 36)) b (STT 0) ∧ ((w2.alloc (.cells LOGA 24)).alloc (.cells (NMS 0) 36)).heap[w.heap.size]? = _ ∧ ((w2.alloc (.cells LOGA 24)).alloc (.cells (NMS 0) 36)).heap[w2.heap.size]? = _ ∧ _ :=
    ⟨(m2.next HT.out aL).next HT.out aA, (aA.block _ (by simp; omega)).trans ((aL.block _ hqc).trans hQ2), (aA.block _ (by simp)).trans hL3, hA3⟩
  have HSt := Lib.hid hSt
  clear hn m1 k1 k2 hQ2 aL aA hL3 hA3 hSt
  go_wp2_with fail
  go_loopg [16] 4 (fun g v16 wx => ∃ i : Nat, i + g = 4 ∧ v16 = .int .i64 i ∧ Mw w0 wx b (STT i) ∧ wx.heap[w.heap.size]? = some (.cells #[.int .i64 0, .int .i64 0, .int .i64 0, .string { data := #[] }, .string { data := #[] }, .string { data := #[] }, .string { data := #[] }, .slice none 0 0, .bool false, .string { data := #[] }] 24 (0, 0)) ∧ wx.heap[w2.heap.size]? = some (.cells LOGA 24 (0, 0)) ∧ wx.heap[w2.heap.size + 1]? = some (.cells (NMS i) 36 (0, 0)))
  case atStart => exact ⟨0, rfl, rfl, HSt.out.1, HSt.out.2.1, HSt.out.2.2.1, HSt.out.2.2.2⟩
  case round =>
    obtain ⟨i, hig, rfl, mx, hQ, hL, hA⟩ := hrel
    clear m2 HSt
    by_cases h4 : i < 4
    · obtain ⟨gg, rfl⟩ : ∃ gg, gk = gg + 1 := ⟨gk - 1, by omega⟩
      have HNi := Lib.hid (HN.out i h4)
      obtain ⟨nw, hnw⟩ : ∃ nw, nw = nmO (WRD i) := ⟨_, rfl⟩
      rw [← hnw] at HNi
      have HNW := Lib.hid hnw
      clear hnw
      go_wp2_with fail
      refine (HNi.out _ mx).mono ?_
      rintro e w3 ⟨rfl, k3, m3⟩
      have hQ3 := k3.heap hQ (by simp; omega)
      have hL3 := k3.heap hL (by simp; omega)
      have hA3 := k3.heap hA (by simp; omega)
      have fz := freeRow hA3 i
      clear k3 mx hQ hL hA
      obtain ⟨cv, hcv⟩ : ∃ cv, w3.cell? ⟨w2.heap.size + 1, i, none⟩ = some cv := by
        obtain rfl | rfl | rfl | rfl : i = 0 ∨ i = 1 ∨ i = 2 ∨ i = 3 := by omega
        all_goals exact ⟨_, cellRow hA3 _⟩
      have HA3 := Lib.hid hA3; have HL3 := Lib.hid hL3; have HQ3 := Lib.hid hQ3
      clear hA3 hL3 hQ3
      go_wp2
      go_roundg gg
      case measure => omega
      case rel =>
        have hset := rowSet HA3.out i (.string (bs nw))
        have hnm : (NMS i).setIfInBounds i (.string (bs nw)) = NMS (i + 1) := by
          rw [HNW.out]
          obtain rfl | rfl | rfl | rfl : i = 0 ∨ i = 1 ∨ i = 2 ∨ i = 3 := by omega
          all_goals rfl
        rw [hnm] at hset
        exact ⟨i + 1, by omega, rfl, m3.set HT.out (by have := m3.hb; omega) (by omega) _ _, (Below.heap_setCell _ _ _ _ (by show _ ≠ w2.heap.size + 1; omega)).trans HQ3.out, (Below.heap_setCell _ _ _ _ (by show _ ≠ w2.heap.size + 1; omega)).trans HL3.out, hset⟩
    · obtain rfl : i = 4 := by omega
      have hD : ∀ w1, Mw w0 w1 b (LF 63) → Calls Tryd.prog 18 #[.pointer (some ⟨b, 0, none⟩)] w1 fun e w' => ∃ ao cap, e = .returned (.slice ao 0 cap) ∧ Kp [b] w1 w' ∧ Mw w0 w' b (32 :: LF 65) := fun w1 m => (data_walk11 b (LF 63) (32 :: LF 65) dat_6 (by decide) w1 m.T.1 m.R).mono fun e w' ⟨ao, ca, a, k, r⟩ => ⟨ao, ca, a, k, m.step HT.out k r⟩
      have HD := Lib.hid hD
      have HE := Lib.hid (fun w1 (m : Mw w0 w1 b (32 :: LF 65)) => end_walk11 b (LF 65) w1 m.R)
      have hmk := fun w1 => mark_walk (LF 65) w1
      rw [mark_6.1, mark_6.2] at hmk
      have HMK := Lib.hid hmk
      obtain ⟨N0, hN0⟩ : ∃ x, x = nmO (WRD 0) := ⟨_, rfl⟩
      obtain ⟨N1, hN1⟩ : ∃ x, x = nmO (WRD 1) := ⟨_, rfl⟩
      obtain ⟨N2, hN2⟩ : ∃ x, x = nmO (WRD 2) := ⟨_, rfl⟩
      obtain ⟨N3, hN3⟩ : ∃ x, x = nmO (WRD 3) := ⟨_, rfl⟩
      have hNM : NMS 4 = #[.string (bs N0), .string (bs N1), .string (bs N2), .string (bs N3)] := by rw [hN0, hN1, hN2, hN3]; rfl
      rw [hNM] at hA
      have HN0 := Lib.hid hN0; have HN1 := Lib.hid hN1; have HN2 := Lib.hid hN2; have HN3 := Lib.hid hN3
      have d0 := cellRow hA 0; have d1 := cellRow hA 1; have d2 := cellRow hA 2; have d3 := cellRow hA 3
      have l3 := cellRow hL 3; have l4 := cellRow hL 4; have l5 := cellRow hL 5; have l6 := cellRow hL 6
      have f3 := freeRow hL 3; have f4 := freeRow hL 4; have f5 := freeRow hL 5; have f6 := freeRow hL 6
      have HA := Lib.hid hA; have HL := Lib.hid hL; have HQ := Lib.hid hQ
      have HX := Lib.hid mx
      clear hD hmk hNM hN0 hN1 hN2 hN3 hA hL hQ mx
      go_wp2_with fail
      have zS : wr.cell? ⟨w2.heap.size + 1, 0, none⟩ = some (.string (bs N0)) ∧ wr.cell? ⟨w2.heap.size + 1, 1, none⟩ = some (.string (bs N1)) ∧ wr.cell? ⟨w2.heap.size + 1, 2, none⟩ = some (.string (bs N2)) ∧ wr.cell? ⟨w2.heap.size + 1, 3, none⟩ = some (.string (bs N3)) := ⟨d0, d1, d2, d3⟩
      go_region_held3 (fun x => x.cell? ⟨w2.heap.size + 1, 0, none⟩ = some (.string (bs N0)) ∧ x.cell? ⟨w2.heap.size + 1, 1, none⟩ = some (.string (bs N1)) ∧ x.cell? ⟨w2.heap.size + 1, 2, none⟩ = some (.string (bs N2)) ∧ x.cell? ⟨w2.heap.size + 1, 3, none⟩ = some (.string (bs N3))) (first | exact zS | go_keep)
        (first | fail)
      have hL5 := four_sets HL.out (bs N0) (bs N1) (bs N2) (bs N3)
      have m5 := ((((HX.out.set HT.out (k := w2.heap.size) (by have := HX.out.hb; omega) (by omega) 3 (.string (bs N0))).set HT.out (k := w2.heap.size) (by have := HX.out.hb; omega) (by omega) 4 (.string (bs N1))).set HT.out (k := w2.heap.size) (by have := HX.out.hb; omega) (by omega) 5 (.string (bs N2))).set HT.out (k := w2.heap.size) (by have := HX.out.hb; omega) (by omega) 6 (.string (bs N3))).next HT.out (drew_below _)
      have hQ5 : ((((wr.setCell ⟨w2.heap.size, 3, none⟩ (.string (bs N0))).setCell ⟨w2.heap.size, 4, none⟩ (.string (bs N1))).setCell ⟨w2.heap.size, 5, none⟩ (.string (bs N2))).setCell ⟨w2.heap.size, 6, none⟩ (.string (bs N3))).drew.heap[w.heap.size]? = _ := (Below.heap_setCell _ _ _ _ (by show _ ≠ w2.heap.size; omega)).trans ((Below.heap_setCell _ _ _ _ (by show _ ≠ w2.heap.size; omega)).trans ((Below.heap_setCell _ _ _ _ (by show _ ≠ w2.heap.size; omega)).trans ((Below.heap_setCell _ _ _ _ (by show _ ≠ w2.heap.size; omega)).trans HQ.out)))
      generalize ((((wr.setCell ⟨w2.heap.size, 3, none⟩ (.string (bs N0))).setCell ⟨w2.heap.size, 4, none⟩ (.string (bs N1))).setCell ⟨w2.heap.size, 5, none⟩ (.string (bs N2))).setCell ⟨w2.heap.size, 6, none⟩ (.string (bs N3))).drew = w5 at hL5 m5 hQ5 ⊢
      clear HL HQ HX HA d0 d1 d2 d3 l3 l4 l5 l6 f3 f4 f5 f6 zS
      go_wp2_with fail
      refine (HD.out _ m5).mono ?_
      rintro e w6 ⟨ao, ca, rfl, k6, m6⟩
      have hL6 := k6.heap hL5 (by simp; omega)
      have hQ6 := k6.heap hQ5 (by simp; omega)
      have l7 := cellRow hL6 7
      have f7 := freeRow hL6 7
      have m7 := m6.set HT.out (k := w2.heap.size) (by have := m6.hb; omega) (by omega) 7 (.slice ao 0 ca)
      have hL7 := rowSet hL6 7 (.slice ao 0 ca)
      have hQ7 := (Below.heap_setCell w6 ⟨w2.heap.size, 7, none⟩ (.slice ao 0 ca) w.heap.size (by show _ ≠ w2.heap.size; omega)).trans hQ6
      have HM7 := Lib.hid m7; have HL7 := Lib.hid hL7; have HQ7 := Lib.hid hQ7
      clear m5 m6 k6 hL5 hQ5 hL6 hQ6 m7 hL7 hQ7
      go_wp2_with fail
      refine (HE.out _ HM7.out).mono ?_
      rintro e w7 ⟨rfl, hw7⟩
      have m8 := HM7.out; have hL8 := HL7.out; have hQ8 := HQ7.out
      rw [hw7] at m8 hL8 hQ8
      clear HM7 HL7 HQ7 hw7 l7 f7
      go_wp2_with fail
      refine (HMK.out _).mono ?_
      rintro e w8 ⟨rfl, rfl⟩
      have l0 := cellRow hL8 0; have l1 := cellRow hL8 1; have l2 := cellRow hL8 2; have l3 := cellRow hL8 3; have l4 := cellRow hL8 4
      have l5 := cellRow hL8 5; have l6 := cellRow hL8 6; have l7 := cellRow hL8 7; have l8 := cellRow hL8 8; have l9 := cellRow hL8 9
      have f8 := freeRow hL8 8; have f9 := freeRow hL8 9
      have z0 := cellRow hQ8 0; have z1 := cellRow hQ8 1; have z2 := cellRow hQ8 2; have z3 := cellRow hQ8 3; have z4 := cellRow hQ8 4
      have z5 := cellRow hQ8 5; have z6 := cellRow hQ8 6; have z7 := cellRow hQ8 7; have z8 := cellRow hQ8 8; have z9 := cellRow hQ8 9
      have g0 := freeRow hQ8 0; have g1 := freeRow hQ8 1; have g2 := freeRow hQ8 2; have g3 := freeRow hQ8 3; have g4 := freeRow hQ8 4
      have g5 := freeRow hQ8 5; have g6 := freeRow hQ8 6; have g7 := freeRow hQ8 7; have g8 := freeRow hQ8 8; have g9 := freeRow hQ8 9
      have hne1 : ¬ w.heap.size = w2.heap.size := by omega
      have hne2 : ¬ w2.heap.size = w.heap.size := by omega
      have hZ := rowSet (rowSet hL8 9 (.string (bs (LF 65)))) 8 (.bool false)
      have m9 := (m8.set HT.out (k := w2.heap.size) (by have := m8.hb; omega) (by omega) 9 (.string (bs (LF 65)))).set HT.out (k := w2.heap.size) (by have := m8.hb; omega) (by omega) 8 (.bool false)
      have hQ9 := (Below.heap_setCell (w7.setCell ⟨w2.heap.size, 9, none⟩ (.string (bs (LF 65)))) ⟨w2.heap.size, 8, none⟩ (.bool false) w.heap.size (by show _ ≠ w2.heap.size; omega)).trans ((Below.heap_setCell w7 ⟨w2.heap.size, 9, none⟩ (.string (bs (LF 65))) w.heap.size (by show _ ≠ w2.heap.size; omega)).trans hQ8)
      have HM9 := Lib.hid m9; have HL9 := Lib.hid hZ; have HQ9 := Lib.hid hQ9
      clear m8 hL8 hQ8 m9 hZ hQ9
      go_wp2_with fail
      have PX := ten_sets HQ9.out (.int .i64 4) (.int .i64 2) (.int .i64 1065910455003000000) (.string (bs N0)) (.string (bs N1)) (.string (bs N2)) (.string (bs N3)) (.slice ao 0 ca) (.bool false) (.string (bs (LF 65)))
      have MX := ten_mw HM9.out HT.out (q := w.heap.size) (Nat.le_trans (by have := HM9.out.hb; omega) (Nat.le_of_lt hbq)) (by omega) (.int .i64 4) (.int .i64 2) (.int .i64 1065910455003000000) (.string (bs N0)) (.string (bs N1)) (.string (bs N2)) (.string (bs N3)) (.slice ao 0 ca) (.bool false) (.string (bs (LF 65)))
      refine bodyPost_ret (results_cell_row rfl _ _ w.heap.size _ _ _ _ rfl PX Tryd.underlying24 rfl (by kernel_rfl)) rfl ?_
      refine ⟨ao, ca, ?_, MX⟩
      rw [HN0.out, HN1.out, HN2.out, HN3.out]
      rfl
end Go.Proofs.YtonippapkmmkeaaDoor
